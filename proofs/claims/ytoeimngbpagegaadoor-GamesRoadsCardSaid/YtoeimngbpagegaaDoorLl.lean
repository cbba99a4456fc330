/- Slices of slices of the call's own (as in stage 2), and appends of integers in a region that draws. -/
import Derived.Test.YtoeimngbpagegaaDoorFw
import Derived.Test.YtoeimngbpagegaaDoorRowC
import Derived.Test.YtoeimngbpagegaaDoorExc
import Derived.Maps.AppendAt
import Derived.Deep.RegionHeld3
namespace Go.Proofs.YtoeimngbpagegaaDoor
open Go.RowKit

theorem own_exc {w w' : World} {base g size n : Nat} {e : TypeId} {x : Value} {xs : List Value} (h : w.ownsRow base e size x n xs) (he : Exc g w w') (hg : g < base) : w'.ownsRow base e size x n xs := by
  refine World.ownsRow.kept h he ?_
  cases hb : x.ownBlock with
  | none => exact .inl rfl
  | some k =>
    refine .inr (fun e => ?_)
    injection e with e
    have := (World.ownsRow.lt h k hb).1
    omega
/-- A slice of slices of the call's own. -/
def OwnLL (w : World) (base : Nat) (x : Value) (ls : List (List Int)) : Prop :=
  ∃ vals : List Value, vals.length = ls.length ∧ w.ownsRow base 22 1 x ls.length vals ∧ ∀ i y, vals[i]? = some y → OwnL w base y (ls.getD i [])
theorem OwnLL.nil_ (w : World) (base : Nat) : OwnLL w base (.slice none 0 0) [] := ⟨[], rfl, World.ownsRow_nil w base _ 1, fun i y h => by simp at h⟩
theorem OwnLL.below {w w' : World} {base : Nat} {x : Value} {ls : List (List Int)} (h : OwnLL w base x ls) (hb : Below w.heap.size w w') : OwnLL w' base x ls := by
  obtain ⟨vals, h1, h2, h3⟩ := h
  exact ⟨vals, h1, ownsRow_below h2 hb, fun i y hy => (h3 i y hy).below hb⟩
theorem OwnLL.exc {w w' : World} {base g : Nat} {x : Value} {ls : List (List Int)} (h : OwnLL w base x ls) (he : Exc g w w') (hg : g < base) : OwnLL w' base x ls := by
  obtain ⟨vals, h1, h2, h3⟩ := h
  exact ⟨vals, h1, own_exc h2 he hg, fun i y hy => own_exc (h3 i y hy) he hg⟩
theorem OwnLL.form {w : World} {base : Nat} {x : Value} {ls : List (List Int)} (h : OwnLL w base x ls) : ∃ A c, x = .slice A ls.length c := by
  obtain ⟨vals, h1, h2, -⟩ := h
  rcases h2.2 with ⟨rfl, hn⟩ | ⟨g, cap, cur, rfl, _⟩
  · exact ⟨none, 0, by rw [hn]⟩
  · exact ⟨_, _, rfl⟩
/-- What one slice more at the end leaves. -/
theorem OwnLL.snoc {w w' : World} {base : Nat} {x x' y : Value} {ls : List (List Int)} {l : List Int} {vals : List Value} (h1 : vals.length = ls.length) (h2 : w.ownsRow base 22 1 x ls.length vals)
    (h3 : ∀ i y, vals[i]? = some y → OwnL w base y (ls.getD i [])) (hy : OwnL w base y l) (hg : w.grownBy w' x.ownBlock) (h : w'.ownsRow base 22 1 x' (ls.length + 1) (vals ++ [y])) : OwnLL w' base x' (ls ++ [l]) := by
  refine ⟨vals ++ [y], by simp [h1], by simpa using h, fun i z hz => ?_⟩
  rcases Nat.lt_or_ge i vals.length with hl | hl
  · rw [List.getElem?_append_left hl] at hz
    have e : (ls ++ [l]).getD i [] = ls.getD i [] := by
      simp [List.getD, List.getElem?_append_left (show i < ls.length by omega)]
    rw [e]
    exact World.ownsRow.kept (h3 i z hz) hg (own_other (h3 i z hz) h2 (by decide))
  · rw [List.getElem?_append_right hl] at hz
    have hi : i - vals.length = 0 := by
      rcases Nat.eq_zero_or_pos (i - vals.length) with h | h
      · exact h
      · rw [List.getElem?_eq_none (by simp; omega)] at hz
        cases hz
    rw [hi] at hz
    simp at hz
    subst hz
    have e : (ls ++ [l]).getD i [] = l := by
      simp [List.getD, List.getElem?_append_right (show ls.length ≤ i by omega), show i - ls.length = 0 by omega]
    rw [e]
    exact World.ownsRow.kept hy hg (own_other hy h2 (by decide))

set_option maxRecDepth 1000000 in
/-- append(v, y) of a slice, as one step of a region that draws its order. -/
theorem step_append_ll {w : World} {ops : Array Oper} {o : Oper} {a : Act} {K : Act → World → Prop} {Q : Exit → Act → World → Prop} {E : Prop} (hgd : o.guard = none) (s x : Operand)
    (ho : o.op = .call { callee := .builtin .append, args := #[s, x], argTypes := #[63, 63] })
    (base : Nat) (v y : Value) (ls : List (List Int)) (l : List Int) (hs : a.eval s = v) (hown : OwnLL w base v ls)
    (ad : Addr) (c : Nat) (hx : a.eval x = .slice (some ad) 1 c) (hc : ∀ j u, [y][j]? = some u → w.cell? (ad.add j) = some u) (hy : OwnL w base y l)
    (hsz : ls.length ≤ 100000) (hbase : base ≤ w.heap.size)
    (h : ∀ v' w', OwnLL w' base v' (ls ++ [l]) → w.grownBy w' v.ownBlock → K (a.put o.dst v') w') :
    if Region.wanted o (yielded ops a.tmps) = true then Oper.wp Tryd.prog o a w K Q else E := by
  have hw : Region.wanted o (yielded ops a.tmps) = true := by simp [Region.wanted, hgd]
  rw [if_pos hw]
  obtain ⟨i0, hi, hz0, hz1, hz2⟩ := info_parts infoInts
  obtain ⟨vals, h1, h2, h3⟩ := hown
  obtain ⟨v', w', hrun, k1, k2, -, -⟩ := run_append_own_at (P := Tryd.prog) w base 63 o.type 22 i0 (.slice none 0 0) 1 24 Tryd.underlying63 hi hz0 hz1 hz2 rfl (by decide) v ls.length vals h2 ad 1 c [y] rfl hc (one1 hy.one) (by unfold maxLen; omega) (by omega) hbase
  unfold Oper.wp execOp
  simp only [ho, resolve, invoke, builtin, Sem.run_bind, Sem.run_pure, Result.andThen_ok, List.map_toArray, List.map_cons, List.map_nil, hs, hx, hrun]
  exact h v' w' (OwnLL.snoc h1 h2 h3 hy k2 k1) k2
theorem OwnLL.far {w : World} {F bf : Nat} {v : Value} {ls : List (List Int)} (h : OwnLL w F v ls) (hb : bf < F) : some bf ≠ v.ownBlock := by
  obtain ⟨vals, h1, h2, h3⟩ := h
  intro e
  have := (World.ownsRow.lt h2 bf e.symm).1
  omega
theorem OwnLL.form1 {w : World} {F : Nat} {v : Value} {ls : List (List Int)} {l : List Int} (h : OwnLL w F v (ls ++ [l])) : ∃ A c, v = .slice A (ls.length + 1) c := by
  obtain ⟨A, c, e⟩ := h.form
  exact ⟨A, c, by rw [e]; simp⟩
theorem OwnLL.rebase {w : World} {base base' : Nat} {x : Value} {ls : List (List Int)} (h : OwnLL w base x ls) (hb : base' ≤ base) : OwnLL w base' x ls := by
  obtain ⟨vals, h1, h2, h3⟩ := h
  refine ⟨vals, h1, ⟨h2.1, ?_⟩, fun i y hy => (h3 i y hy).rebase hb⟩
  rcases h2.2 with hn | ⟨g, cap, cur, e, hg, r⟩
  · exact .inl hn
  · exact .inr ⟨g, cap, cur, e, by omega, r⟩
theorem OwnLL.rows {w : World} {base : Nat} {x : Value} {ls : List (List Int)} (h : OwnLL w base x ls) : ∃ A c, x = .slice A ls.length c ∧ Rows2 w A ls.length (fun i => (ls.getD i []).length) (fun i k => (ls.getD i []).getD k 0) := by
  obtain ⟨vals, hl, ho, hv⟩ := h
  have hR : OwnR w base x ls.length (fun i => (ls.getD i []).length) (fun i k => (ls.getD i []).getD k 0) := ⟨vals, hl, ho, fun i y hy => by rw [lst_of]; exact hv i y hy⟩
  obtain ⟨A, c, e, hr, -⟩ := hR.rows
  exact ⟨A, c, e, hr⟩
theorem run_append_of_nil {P : Program} (w : World) (base t ty e : Nat) (i : TypeInfo) (size : Nat) (ht : P.underlying t = some (.slice e)) (hi : P.info? e = some i)
    (v : Value) (n : Nat) (xs : List Value) (hown : w.ownsRow base e size v n xs) (c : Nat) : (Builtin.append_ #[t, t] ty #[v, .slice none 0 c]).run P w = .ok v w := by
  rcases hown.2 with ⟨rfl, rfl⟩ | ⟨g, cap, cur, rfl, _, _, hnc, _⟩
  · simp [Builtin.append_, run_underlying ht, sizeOf, typeInfo, hi, Builtin.lenOf, Builtin.firstCells]
  · simp [Builtin.append_, run_underlying ht, sizeOf, typeInfo, hi, Builtin.lenOf, Builtin.firstCells, hnc, storeCells]

theorem row1 {w : World} {b : Nat} (h : w.heap.size = b) (x : Int) : RowI (w.alloc (.cells #[.int .i64 x] 3)) b 1 (fun _ => x) := by
  subst h
  exact World.rowIs_alloc w #[.int .i64 x] 3 _ (fun i hi => by
    have : i = 0 := by simp at hi; omega
    subst this
    rfl)
theorem OwnL.shape {w : World} {base : Nat} {v : Value} {xs : List Int} (h : OwnL w base v xs) : ∃ A N c, v = .slice A N c := by
  obtain ⟨A, c, e, -⟩ := h.form
  exact ⟨A, _, c, e⟩
theorem nil_in (w : World) (base B : Nat) (hb : base ≤ B) (hh : w.heap[B]? = some (.cells #[] 3 (0, 0))) : OwnL w base (.slice (some ⟨B, 0, none⟩) 0 0) [] :=
  ⟨rfl, .inr ⟨B, 0, _, rfl, hb, hh, Nat.le_refl _, by unfold maxLen; omega, rfl, rfl⟩⟩

set_option maxRecDepth 1000000 in
/-- append(v, xs...) of integers: what it leaves. -/
theorem run_append_ints (w : World) (T : TypeId) (base : Nat) (v : Value) (xs : List Int) (hown : OwnL w base v xs) (A : Option Addr) (m c : Nat) (f : Nat → Int) (hI : Ints w A m f) (hsz : xs.length + m ≤ 100000) (hbase : base ≤ w.heap.size) :
    ∃ v' w', (Builtin.append_ #[22, 22] T #[v, .slice A m c]).run Tryd.prog w = .ok v' w' ∧ OwnL w' base v' (xs ++ lst m f) ∧ w.grownBy w' v.ownBlock := by
  obtain ⟨i0, hi, hz0, hz1, hz2⟩ := info_parts infoInt
  rcases A with _ | ad
  · obtain rfl := hI.none_
    exact ⟨v, w, run_append_of_nil (P := Tryd.prog) w base 22 T 3 i0 1 Tryd.underlying22 hi v xs.length (xs.map (Value.int .i64)) hown c, by simpa [lst] using hown, World.grownBy.refl w _⟩
  · have hnews : ∀ j u, ((lst m f).map (Value.int .i64))[j]? = some u → w.cell? (ad.add j) = some u := by
      intro j u hu
      have hj : 0 < m := by
        have := (List.getElem?_eq_some_iff.1 hu).1
        simp [lst] at this
        omega
      obtain ⟨b, o, e, _⟩ := hI.at hj
      injection e with e
      subst e
      exact cells_of_ints hI j u hu
    obtain ⟨v', w', hrun, h1, h2, -, -⟩ := run_append_own_at (P := Tryd.prog) w base 22 T 3 i0 (.int .i64 0) 1 8 Tryd.underlying22 hi hz0 hz1 hz2 rfl (by decide) v xs.length (xs.map (Value.int .i64)) hown ad m c ((lst m f).map (Value.int .i64)) (by simp [lst_len]) hnews (one_of_ints _) (by unfold maxLen; omega) (by omega) hbase
    refine ⟨v', w', hrun, ?_, h2⟩
    unfold OwnL
    simpa [lst_len] using h1
/-- .. as one step of a region that draws its order. -/
theorem step_append_ints {w : World} {ops : Array Oper} {o : Oper} {a : Act} {K : Act → World → Prop} {Q : Exit → Act → World → Prop} {E : Prop} (hgd : o.guard = none) (s x : Operand)
    (ho : o.op = .call { callee := .builtin .append, args := #[s, x], argTypes := #[22, 22] })
    (base : Nat) (v : Value) (xs : List Int) (hs : a.eval s = v) (hown : OwnL w base v xs)
    (A : Option Addr) (m c : Nat) (f : Nat → Int) (hx : a.eval x = .slice A m c) (hI : Ints w A m f)
    (hsz : xs.length + m ≤ 100000) (hbase : base ≤ w.heap.size)
    (h : ∀ v' w', OwnL w' base v' (xs ++ lst m f) → Below base w w' → (∀ g n F, RowI w g n F → v.ownBlock ≠ some g → RowI w' g n F) → K (a.put o.dst v') w') :
    if Region.wanted o (yielded ops a.tmps) = true then Oper.wp Tryd.prog o a w K Q else E := by
  have hw : Region.wanted o (yielded ops a.tmps) = true := by simp [Region.wanted, hgd]
  rw [if_pos hw]
  obtain ⟨v', w', hrun, h1, h2⟩ := run_append_ints w o.type base v xs hown A m c f hI hsz hbase
  unfold Oper.wp execOp
  simp only [ho, resolve, invoke, builtin, Sem.run_bind, Sem.run_pure, Result.andThen_ok, List.map_toArray, List.map_cons, List.map_nil, hs, hx, hrun]
  refine h v' w' h1 ((Below.refl _ _).grown h2 hbase (fun k hk => (World.ownsRow.lt hown k hk).1)) (fun g n F hr hne => World.rowIs.of_block hr (h2.block g hr.lt (fun e => hne e.symm)))

set_option maxRecDepth 1000000 in
/-- The same for an integer slice that is read: nil, empty or not. -/
theorem wpList_append_ints {w : World} {ops : Array Oper} {rest : List Oper} {o : Oper} {a : Act} {Q : Exit → Act → World → Prop} (hgd : o.guard = none) (s x : Operand)
    (ho : o.op = .call { callee := .builtin .append, args := #[s, x], argTypes := #[22, 22] })
    (base : Nat) (v : Value) (xs : List Int) (hs : a.eval s = v) (hown : OwnL w base v xs)
    (A : Option Addr) (m c : Nat) (f : Nat → Int) (hx : a.eval x = .slice A m c) (hI : Ints w A m f)
    (hsz : xs.length + m ≤ 100000) (hbase : base ≤ w.heap.size)
    (h : ∀ v' w', OwnL w' base v' (xs ++ lst m f) → w.grownBy w' v.ownBlock → (v'.ownBlock = v.ownBlock ∨ v'.ownBlock = some w.heap.size) → wpList Tryd.prog ops Q rest (a.put o.dst v') w') : wpList Tryd.prog ops Q (o :: rest) a w := by
  obtain ⟨i0, hi, hz0, hz1, hz2⟩ := info_parts infoInt
  rcases A with _ | ad
  · obtain rfl := hI.none_
    refine wpList_plain hgd fun K hK => ?_
    have hrun := run_append_of_nil (P := Tryd.prog) w base 22 o.type 3 i0 1 Tryd.underlying22 hi v xs.length (xs.map (Value.int .i64)) hown c
    unfold Oper.wp execOp
    simp only [ho, resolve, invoke, builtin, Sem.run_bind, Sem.run_pure, Result.andThen_ok, List.map_toArray, List.map_cons, List.map_nil, hs, hx, hrun]
    exact hK _ _ (h v w (by simpa [lst] using hown) (World.grownBy.refl w _) (.inl rfl))
  · refine wpList_append_own_at w hgd s x 22 ho base 3 i0 (.int .i64 0) 1 8 Tryd.underlying22 hi hz0 hz1 hz2 rfl (by decide) v xs.length (xs.map (Value.int .i64)) hs hown ad m c ((lst m f).map (Value.int .i64)) hx (by simp [lst_len]) ?_ (one_of_ints _) (by unfold maxLen; omega) (by omega) hbase ?_
    · intro j u hu
      have hj : 0 < m := by
        have := (List.getElem?_eq_some_iff.1 hu).1
        simp [lst] at this
        omega
      obtain ⟨b, o, e, _⟩ := hI.at hj
      injection e with e
      subst e
      exact cells_of_ints hI j u hu
    · intro v' w' h1 h2 _ h4
      refine h v' w' ?_ h2 h4
      unfold OwnL
      simpa [lst_len] using h1
theorem nil_lst2 (w : World) (base : Nat) (hb : base ≤ w.heap.size) : OwnL (w.alloc (.cells #[] 3)) base (.slice (some ⟨w.heap.size, 0, none⟩) 0 0) [] :=
  ⟨rfl, .inr ⟨w.heap.size, 0, _, rfl, hb, heap_alloc_new w _, Nat.le_refl _, by unfold maxLen; omega, rfl, rfl⟩⟩
set_option maxRecDepth 1000000 in
/-- append(v, y) of a slice. -/
theorem wpList_append_ll {w : World} {ops : Array Oper} {rest : List Oper} {o : Oper} {a : Act} {Q : Exit → Act → World → Prop} (hgd : o.guard = none) (s x : Operand)
    (ho : o.op = .call { callee := .builtin .append, args := #[s, x], argTypes := #[63, 63] })
    (base : Nat) (v y : Value) (ls : List (List Int)) (l : List Int) (hs : a.eval s = v) (hown : OwnLL w base v ls)
    (ad : Addr) (c : Nat) (hx : a.eval x = .slice (some ad) 1 c) (hc : ∀ j u, [y][j]? = some u → w.cell? (ad.add j) = some u) (hy : OwnL w base y l)
    (hsz : ls.length ≤ 100000) (hbase : base ≤ w.heap.size)
    (h : ∀ v' w', OwnLL w' base v' (ls ++ [l]) → w.grownBy w' v.ownBlock → wpList Tryd.prog ops Q rest (a.put o.dst v') w') : wpList Tryd.prog ops Q (o :: rest) a w := by
  obtain ⟨i0, hi, hz0, hz1, hz2⟩ := info_parts infoInts
  obtain ⟨vals, h1, h2, h3⟩ := hown
  obtain ⟨v', w', hrun, k1, k2, -, -⟩ := run_append_own_at (P := Tryd.prog) w base 63 o.type 22 i0 (.slice none 0 0) 1 24 Tryd.underlying63 hi hz0 hz1 hz2 rfl (by decide) v ls.length vals h2 ad 1 c [y] rfl hc (one1 hy.one) (by unfold maxLen; omega) (by omega) hbase
  refine wpList_plain hgd fun K hK => ?_
  unfold Oper.wp execOp
  simp only [ho, resolve, invoke, builtin, Sem.run_bind, Sem.run_pure, Result.andThen_ok, List.map_toArray, List.map_cons, List.map_nil, hs, hx, hrun]
  exact hK _ _ (h v' w' (OwnLL.snoc h1 h2 h3 hy k2 k1) k2)
theorem OwnLL.at {w : World} {base : Nat} {x : Value} {ls : List (List Int)} (h : OwnLL w base x ls) {p : Nat} (hp : p < ls.length) : ∃ (G c cp : Nat) (Ap : Option Addr), x = .slice (some ⟨G, 0, none⟩) ls.length c ∧ w.cell? ⟨G, p, none⟩ = some (.slice Ap (ls.getD p []).length cp) ∧ ArgI w Ap (ls.getD p []).length cp (fun k => (ls.getD p []).getD k 0) := by
  obtain ⟨vals, hl, hown, hv⟩ := h
  obtain ⟨r, hr⟩ : ∃ r, vals[p]? = some r := ⟨_, List.getElem?_eq_getElem (by omega)⟩
  have hrow := hv p r hr
  have hown0 := hown
  rcases hown0.2 with ⟨-, h0⟩ | ⟨G, c, cur, rfl, -⟩
  · omega
  have hc := World.ownsRow.cellAt hown p (by omega)
  rw [hr] at hc
  generalize ls.getD p [] = l at *
  obtain ⟨A, cA, e1, -, hI, -, -⟩ := hrow.form
  rcases hrow.2 with ⟨rfl, h0⟩ | ⟨blk, cap, cur2, rfl, hbb, hh, hnc, hcm, -⟩
  · exact ⟨G, c, 0, none, rfl, by rw [hc, h0], by omega, by unfold maxLen; omega, fun _ => rfl, by rw [h0]; exact Ints.zero⟩
  · injection e1 with e1 e2 e3
    exact ⟨G, c, cap, _, rfl, hc, hnc, hcm, (fun e => by cases e), by rw [e1]; exact hI⟩
end Go.Proofs.YtoeimngbpagegaaDoor
