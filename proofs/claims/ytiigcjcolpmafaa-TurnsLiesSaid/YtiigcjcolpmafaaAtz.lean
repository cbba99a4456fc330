/- A part of the proof: Atz. -/
import Derived.Test.YtiigcjcolpmafaaAsz
namespace Go.Proofs.Ytiigcjcolpmafaa
open Go.RowKit

set_option maxRecDepth 1000000 in
/-- append(v, y) of a slice, as one step of a region that draws its order. -/
theorem step_append_ll {w : World} {ops : Array Oper} {o : Oper} {a : Act} {K : Act → World → Prop} {Q : Exit → Act → World → Prop} {E : Prop} (hgd : o.guard = none) (s x : Operand)
    (ho : o.op = .call { callee := .builtin .append, args := #[s, x], argTypes := #[22, 22] })
    (base : Nat) (v y : Value) (ls : List (List Int)) (l : List Int) (hs : a.eval s = v) (hown : OwnLL w base v ls)
    (ad : Addr) (c : Nat) (hx : a.eval x = .slice (some ad) 1 c) (hc : ∀ j u, [y][j]? = some u → w.cell? (ad.add j) = some u) (hy : OwnL w base y l)
    (hsz : ls.length ≤ 100000) (hbase : base ≤ w.heap.size)
    (h : ∀ v' w', OwnLL w' base v' (ls ++ [l]) → w.grownBy w' v.ownBlock → K (a.put o.dst v') w') :
    if Region.wanted o (yielded ops a.tmps) = true then Oper.wp Try.prog o a w K Q else E := by
  have hw : Region.wanted o (yielded ops a.tmps) = true := by simp [Region.wanted, hgd]
  rw [if_pos hw]
  obtain ⟨i0, hi, hz0, hz1, hz2⟩ := info_parts infoInts
  obtain ⟨vals, h1, h2, h3⟩ := hown
  obtain ⟨v', w', hrun, k1, k2, -, -⟩ := run_append_own_at (P := Try.prog) w base 22 o.type 23 i0 (.slice none 0 0) 1 24 Try.underlying22 hi hz0 hz1 hz2 rfl (by decide) v ls.length vals h2 ad 1 c [y] rfl hc (one1 hy.one) (by unfold maxLen; omega) (by omega) hbase
  unfold Oper.wp execOp
  simp only [ho, resolve, invoke, builtin, Sem.run_bind, Sem.run_pure, Result.andThen_ok, List.map_toArray, List.map_cons, List.map_nil, hs, hx, hrun]
  exact h v' w' (OwnLL.snoc h1 h2 h3 hy k2 k1) k2
theorem OwnLL.far {w : World} {F bf : Nat} {v : Value} {ls : List (List Int)} (h : OwnLL w F v ls) (hb : bf < F) : some bf ≠ v.ownBlock := by
  obtain ⟨vals, h1, h2, h3⟩ := h
  intro e
  have := (World.ownsRow.lt h2 bf e.symm).1
  omega
theorem OwnLL.form1 {w : World} {F : Nat} {v : Value} {ls : List (List Int)} {l : List Int} (h : OwnLL w F v (ls ++ [l])) : ∃ A c, v = .slice A (ls.length + 1) c := by
  obtain ⟨A, c, e⟩ := h.form
  exact ⟨A, c, by rw [e]; simp⟩
/-- What a matching more that was found leaves. -/
theorem AsI.found {w0 w w' : World} {F bm bp bf bg gm : Nat} {AH AS AP : Option Addr} {cH cS cP : Nat} {p : PlanD} {m : Nat → Int} {ls ls' : List (List Int)} {v v' : Value} (hL : LayG w0.heap.size F bm bp bf bg gm) (h : AsI w0 F bm bp bf bg gm AH AS AP cH cS cP p m ls w)
    (hv : Box w bf 22 v) (ho : OwnLL w F v ls) (hg : w.grownBy w' v.ownBlock) (hn : OwnLL w' F v' ls') : (Box w' bf 22 v ∧ Box w' bm 23 (.slice (some ⟨gm, 0, none⟩) p.nH p.nH)) ∧ AsI w0 F bm bp bf bg gm AH AS AP cH cS cP p m ls' (w'.setCell ⟨bf, 0, none⟩ v') := by
  obtain ⟨h1, h2, ⟨p0, p1, p2⟩, h4, h5, h6, -⟩ := h
  have hk : ∀ b, b < F → b < w.heap.size → w'.heap[b]? = w.heap[b]? := fun b hb hs => hg.block b hs (ho.far hb)
  have hcell : ∀ {i : Nat} {x : Value}, w.cell? ⟨bp, i, none⟩ = some x → w'.cell? ⟨bp, i, none⟩ = some x := fun {i x} hc => by
    have hlt := World.block_lt_of_cell? _ _ hc
    have := hk bp hL.b2.2 hlt
    simp only [World.cell?] at hc ⊢
    rw [this]
    exact hc
  have hbox : Box w' bf 22 v := World.rowIs.of_block hv (hk bf hL.b3.2 hv.lt)
  have he := set_exc w' bf 0 v'
  have hb' : Below w0.heap.size w0 w' := h1.grown hg h1.size (fun k hk2 => by
    have := ho.far (bf := k)
    rcases Nat.lt_or_ge k F with hl | hl
    · exact absurd hk2.symm (this hl)
    · have := hL.b1; omega)
  refine ⟨⟨hbox, World.rowIs.of_block h4 (hk bm hL.b1.2 h4.lt)⟩, hb'.setCell (p := ⟨bf, 0, none⟩) hL.b3.1 _, ?_, ⟨he.cell (hcell p0) hL.n3, he.cell (hcell p1) hL.n3, he.cell (hcell p2) hL.n3⟩, ?_, ?_, ?_, v', hbox.set v', hn.exc he hL.b3.2⟩
  · have := hg.size
    simp only [World.size_setCell]
    omega
  · exact Box.exc (World.rowIs.of_block h4 (hk bm hL.b1.2 h4.lt)) he hL.n1
  · exact Box.exc (World.rowIs.of_block h5 (hk bg hL.b4.2 h5.lt)) he hL.n5
  · exact he.row (World.rowIs.of_block h6 (hk gm hL.b5.2 h6.lt)) (fun e => hL.n7 e.symm)

set_option maxHeartbeats 2000000 in
set_option maxRecDepth 1000000 in
theorem give_leaf (w0 : World) (F bm bp bf bg gm : Nat) (hL : LayG w0.heap.size F bm bp bf bg gm) (AH AS AP : Option Addr) (cH cS cP : Nat) (p : PlanD) (hp : PlanIn w0 AH AS AP p) (hok : okPlan p = true)
    (m : Nat → Int) (ls : List (List Int)) (w : World) (hP : PreM p p.nH m) (hlen : ls.length ≤ 100000) (hI : AsI w0 F bm bp bf bg gm AH AS AP cH cS cP p m ls w) :
    Calls Try.prog 87 (#[.int .i64 p.nH] ++ gvCaps bm bp bf bg) w fun e w' => e = .returned (.tuple #[]) ∧ AsI w0 F bm bp bf bg gm AH AS AP cH cS cP p m (ls ++ gvL p 0 p.nH m) w' := by
  obtain ⟨i0, hi, hz0, hz1, hz2⟩ := info_parts infoInts
  have h6 := (okPlan_of hok).1.2.1
  have HL := Lib.hid hL
  have HI := Lib.hid hI
  have hl : Lstd p m := okMat_lstd (n := p.nH) (by
    unfold okMat
    rw [hok, decide_eq_true rfl, allB_iff.2 hP.2]
    rfl)
  have hst := stable_any AH AS AP (some ⟨gm, 0, none⟩) cH cS cP p.nH p.nH p m w (hp.keep hI.bel) hI.row.ints rfl hok hl
  have HSt := Lib.hid hst
  obtain ⟨hb1, hb2, ⟨p0, p1, p2⟩, hmb, hgb, hrow, v, hfb, hfo⟩ := hI
  have c1 := hmb.cell
  clear hb1 hb2 hgb hrow hfb hfo hst hl hP hp hok hL hmb
  have HGv : Hid (gvL p 0 p.nH m = if stabB p m then [lst p.nH m] else []) := Lib.hid rfl
  generalize hx : stabB p m = st at *
  have HX := Lib.hid hx
  clear hx
  simp only [gvCaps, List.append_toArray, List.cons_append, List.nil_append]
  generalize hN : p.nH = nH at *
  have HN := Lib.hid hN
  clear hN
  go_enter Try.func87, Try.ntmps87
  go_wp2_with fail
  refine Lr.use HSt.out ?_
  intro w1 hw1
  have HI1 := Lib.hid (HI.out.keep hw1)
  clear hw1 HSt c1 p0 p1 p2
  cases st with
  | false =>
    go_wp2
    go_returns
    refine ⟨rfl, ?_⟩
    rw [HGv.out, if_neg (by simp), List.append_nil]
    exact HI1.out
  | true =>
    go_wp2_with fail
    obtain ⟨-, hsz1, -, hmb1, -, hrow1, v, hfb1, hfo1⟩ := HI1.out
    obtain ⟨Av, cv, rfl⟩ := hfo1.form
    have k1 := hmb1.cell
    rw [HN.out] at k1 hrow1
    have k3 := hfb1.cell
    have Hfb := Lib.hid hfb1
    have Hfo := Lib.hid hfo1
    have Hrow := Lib.hid hrow1
    have Hsz := Lib.hid hsz1
    clear hfb1 hfo1 hmb1 hrow1 hsz1
    have k1' : w1.drew.cell? ⟨bm, 0, none⟩ = some (.slice (some ⟨gm, 0, none⟩) nH nH) := k1
    have k3' : w1.drew.cell? ⟨bf, 0, none⟩ = some (.slice Av ls.length cv) := k3
    have hF := HL.out.b3
    go_region_law
      (first
        | (go_simp; go_at_call 63; refine (clone_any _ nH nH m _ (Hrow.out.drew.ints) (by omega)).mono ?_; rintro e w2 ⟨y, rfl, hy, -, hb2⟩; obtain ⟨Ay, cy, rfl, -⟩ := hy.shp (lst_len _ _); have hy2 := hy.rebase (show F ≤ _ from Hsz.out); have k3b := old_cell k3' hb2; have k3c := old_cell k3b (below_box w2 (.cells #[.slice Ay nH cy] 23)))
        | (refine step_append_ll (by rfl) (.tmp 14) (.tmp 17) (by rfl) F (.slice Av ls.length cv) (.slice Ay nH cy) ls (lst nH m) ?hd ((OwnLL.below (w := w1.drew) Hfo.out hb2).below (below_box _ _)) ⟨w2.heap.size, 0, none⟩ 1 ?hs (news1 _ _ _) (hy2.below (below_box _ _)) hlen (by have := hb2.size; have := Hsz.out; simp at *; omega) ?_; (case hd => go_simp); (case hs => go_simp); intro v3 w3 hv3 hg3; obtain ⟨⟨hbf3, hbm3⟩, hAs⟩ := AsI.found HL.out (((HI1.out.keep ((Below.refl _ _).drew)).keep hb2).keep (below_box _ _)) (((Box.drew Hfb.out).keep hb2).keep (below_box _ _)) ((OwnLL.below (w := w1.drew) Hfo.out hb2).below (below_box _ _)) hg3 hv3; obtain ⟨A3, c3, rfl⟩ := hv3.form1; have kbf := hbf3.cell; have kff := hbf3.frozen)
        | fail)
    all_goals
      have HAs := Lib.hid hAs
      clear hAs hv3 hg3 hbf3 hbm3 kbf kff hy hy2 hb2 k3b k3c k1 k3 k1' k3'
      generalize w3.setCell ⟨bf, 0, none⟩ (.slice A3 (ls.length + 1) c3) = wf at *
      go_wp2
      go_returns
      refine ⟨rfl, ?_⟩
      rw [HGv.out, if_pos trivial]
      exact HAs.out
end Go.Proofs.Ytiigcjcolpmafaa

