/- A part of the proof: Rbz. -/
import Derived.Test.YtiigcjcolpmafaaRaz
import Derived.Test.YtiigcjcolpmafaaAtz
namespace Go.Proofs.Ytiigcjcolpmafaa
open Go.RowKit

theorem OwnLL.rebase {w : World} {base base' : Nat} {x : Value} {ls : List (List Int)} (h : OwnLL w base x ls) (hb : base' ≤ base) : OwnLL w base' x ls := by
  obtain ⟨vals, h1, h2, h3⟩ := h
  refine ⟨vals, h1, ⟨h2.1, ?_⟩, fun i y hy => (h3 i y hy).rebase hb⟩
  rcases h2.2 with hn | ⟨g, cap, cur, e, hg, r⟩
  · exact .inl hn
  · exact .inr ⟨g, cap, cur, e, by omega, r⟩
/-- append of a nil slice's elements leaves all as it was. -/
theorem run_append_nothing {P : Program} (w : World) (base t ty e : Nat) (i : TypeInfo) (size : Nat) (ht : P.underlying t = some (.slice e)) (hi : P.info? e = some i)
    (v : Value) (n : Nat) (xs : List Value) (hown : w.ownsRow base e size v n xs) (c : Nat) : (Builtin.append_ #[t, t] ty #[v, .slice none 0 c]).run P w = .ok v w := by
  rcases hown.2 with ⟨rfl, rfl⟩ | ⟨g, cap, cur, rfl, _, _, hnc, _⟩
  · simp [Builtin.append_, run_underlying ht, sizeOf, typeInfo, hi, Builtin.lenOf, Builtin.firstCells]
  · simp [Builtin.append_, run_underlying ht, sizeOf, typeInfo, hi, Builtin.lenOf, Builtin.firstCells, hnc, storeCells]
theorem OwnLL.app {w w' : World} {base : Nat} {x x' : Value} {ls ls2 : List (List Int)} {vals vals2 : List Value} (h1 : vals.length = ls.length) (h2 : w.ownsRow base 23 1 x ls.length vals)
    (h3 : ∀ i y, vals[i]? = some y → OwnL w base y (ls.getD i [])) (k1 : vals2.length = ls2.length) (k3 : ∀ i y, vals2[i]? = some y → OwnL w base y (ls2.getD i [])) (hg : w.grownBy w' x.ownBlock) (h : w'.ownsRow base 23 1 x' (ls.length + ls2.length) (vals ++ vals2)) : OwnLL w' base x' (ls ++ ls2) := by
  refine ⟨vals ++ vals2, by simp [h1, k1], by simpa using h, fun i z hz => ?_⟩
  rcases Nat.lt_or_ge i vals.length with hl | hl
  · rw [List.getElem?_append_left hl] at hz
    have e : (ls ++ ls2).getD i [] = ls.getD i [] := by
      simp [List.getD, List.getElem?_append_left (show i < ls.length by omega)]
    rw [e]
    exact World.ownsRow.kept (h3 i z hz) hg (own_other (h3 i z hz) h2 (by decide))
  · rw [List.getElem?_append_right hl] at hz
    have e : (ls ++ ls2).getD i [] = ls2.getD (i - vals.length) [] := by
      simp [List.getD, List.getElem?_append_right (show ls.length ≤ i by omega), h1]
    rw [e]
    exact World.ownsRow.kept (k3 _ z hz) hg (own_other (k3 _ z hz) h2 (by decide))

set_option maxRecDepth 1000000 in
/-- append(v, x...) of slices, as one step of a region that draws its order. -/
theorem step_append_lls {w : World} {ops : Array Oper} {o : Oper} {a : Act} {K : Act → World → Prop} {Q : Exit → Act → World → Prop} {E : Prop} (hgd : o.guard = none) (s x : Operand)
    (ho : o.op = .call { callee := .builtin .append, args := #[s, x], argTypes := #[22, 22] })
    (base base2 : Nat) (v vx : Value) (ls ls2 : List (List Int)) (hs : a.eval s = v) (hown : OwnLL w base v ls) (hx : a.eval x = vx) (hown2 : OwnLL w base2 vx ls2) (hb2 : base ≤ base2)
    (hsz : ls.length + ls2.length ≤ 100000) (hbase : base ≤ w.heap.size)
    (h : ∀ v' w', OwnLL w' base v' (ls ++ ls2) → w.grownBy w' v.ownBlock → K (a.put o.dst v') w') :
    if Region.wanted o (yielded ops a.tmps) = true then Oper.wp Try.prog o a w K Q else E := by
  have hw : Region.wanted o (yielded ops a.tmps) = true := by simp [Region.wanted, hgd]
  rw [if_pos hw]
  obtain ⟨i0, hi, hz0, hz1, hz2⟩ := info_parts infoInts
  have hown0 := hown
  obtain ⟨vals, h1, h2, h3⟩ := hown
  obtain ⟨vals2, k1, k2, k3⟩ := hown2
  rcases k2.2 with ⟨rfl, hn⟩ | ⟨g, cap, cur, rfl, -, -⟩
  · have e2 : ls2 = [] := List.eq_nil_of_length_eq_zero hn
    subst e2
    have hrun := run_append_nothing (P := Try.prog) w base 22 o.type 23 i0 1 Try.underlying22 hi v ls.length vals h2 0
    unfold Oper.wp execOp
    simp only [ho, resolve, invoke, builtin, Sem.run_bind, Sem.run_pure, Result.andThen_ok, List.map_toArray, List.map_cons, List.map_nil, hs, hx, hrun]
    exact h v w (by rw [List.append_nil]; exact hown0) (World.grownBy.refl w _)
  · have hnews : ∀ j u, vals2[j]? = some u → w.cell? ((⟨g, 0, none⟩ : Addr).add j) = some u := fun j u hu => by
      have hj : j < vals2.length := (List.getElem?_eq_some_iff.1 hu).1
      rw [Addr.add_lit, Nat.zero_add, World.ownsRow.cellAt k2 j (by omega)]
      exact hu
    have hone : ∀ u ∈ vals2, u.oneCell' = true := fun u hu => by
      obtain ⟨j, hj, e⟩ := List.getElem_of_mem hu
      exact (k3 j u (by rw [List.getElem?_eq_getElem hj, e])).one
    obtain ⟨v', w', hrun, r1, r2, -, -⟩ := run_append_own_at (P := Try.prog) w base 22 o.type 23 i0 (.slice none 0 0) 1 24 Try.underlying22 hi hz0 hz1 hz2 rfl (by decide) v ls.length vals h2 ⟨g, 0, none⟩ ls2.length cap vals2 (by omega) hnews hone (by unfold maxLen; omega) (by omega) hbase
    unfold Oper.wp execOp
    simp only [ho, resolve, invoke, builtin, Sem.run_bind, Sem.run_pure, Result.andThen_ok, List.map_toArray, List.map_cons, List.map_nil, hs, hx, hrun]
    exact h v' w' (OwnLL.app h1 h2 h3 k1 (fun i y hy => (k3 i y hy).rebase hb2) r2 r1) r2
end Go.Proofs.Ytiigcjcolpmafaa

