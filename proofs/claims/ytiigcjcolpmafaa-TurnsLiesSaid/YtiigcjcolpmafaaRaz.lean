/- A part of the proof: Raz. -/
import Derived.Test.YtiigcjcolpmafaaAsz
namespace Go.Proofs.Ytiigcjcolpmafaa
open Go.RowKit

theorem one_ll {w : World} {base : Nat} {y : Value} {l : List Int} (hy : OwnL w base y l) (hb : base ≤ w.heap.size) : OwnLL (w.alloc (.cells #[y] 23)) base (.slice (some ⟨w.heap.size, 0, none⟩) 1 1) [l] := by
  refine ⟨[y], rfl, ⟨rfl, .inr ⟨w.heap.size, 1, _, rfl, hb, heap_alloc_new w _, Nat.le_refl _, by unfold maxLen; omega, rfl, rfl⟩⟩, fun i z hz => ?_⟩
  rcases i with _ | i
  · simp at hz
    subst hz
    exact World.ownsRow.alloc hy _
  · simp at hz

set_option maxHeartbeats 2000000 in
set_option maxRecDepth 1000000 in
theorem rstable_leaf (AH AS AP D : Option Addr) (cH cS cP n c : Nat) (p : PlanD) (m : Nat → Int) (w : World) (h : PlanArg w AH AS AP cH cS cP p) (hd : ArgI w D n c m) (hok : okPlan p = true) (hn : n = p.nH) :
    Calls Try.prog 75 #[.agg #[.slice AH p.nH cH, .slice AS p.nS cS, .slice AP p.nP cP], .slice D n c] w fun e w' => ∃ x, e = .returned x ∧ OwnLL w' w.heap.size x (if okMat p n m && stabB p m then [lst n m] else []) ∧ Below w.heap.size w w' := by
  obtain ⟨i0, hi, hz0, hz1, hz2⟩ := info_parts infoInt
  have Hb0 := Lib.hid (below_box w (.cells #[.slice AH p.nH cH, .slice AS p.nS cS, .slice AP p.nP cP] 25))
  have HB0 := Lib.hid (BoxP.newR w AH AS AP p.nH p.nS p.nP cH cS cP)
  have HM := Lib.hid (rMatching_any AH AS AP D cH cS cP n c p m _ (h.keep Hb0.out) (hd.below Hb0.out) hok)
  have HBk : Hid (okMat p n m = true → ∀ w' : World, Below w.heap.size w w' → Calls Try.prog 51 #[.agg #[.slice AH p.nH cH, .slice AS p.nS cS, .slice AP p.nP cP], .slice D n c] w' fun e w'' => ∃ A c, e = .returned (.slice A (prAll (blkB p m) p.nS p.nH).length c) ∧ Below w'.heap.size w' w'') := Lib.hid (fun hm w' hb => by
    have e := hm
    unfold okMat at e
    rw [Bool.and_eq_true, Bool.and_eq_true] at e
    refine (rBlocks_any AH AS AP D cH cS cP n c p m w' (h.keep hb) (hd.2.2.2.keep hb) (of_decide_eq_true e.1.2) hok (okMat_lstd hm) (okMat_has hm)).mono ?_
    rintro e w'' ⟨x, rfl, hx, hb2⟩
    obtain ⟨A, c, rfl⟩ := hx.form
    exact ⟨A, c, rfl, hb2⟩)
  have HSt := Lib.hid (stabB_nil (p := p) (m := m))
  obtain ⟨bD, oD, rfl, -⟩ := hd.2.2.2.at (show 0 < n by have := (okPlan_of hok).1; omega)
  have HD := Lib.hid (hd.2.2.2.keep Hb0.out)
  have hn6 : n ≤ 6 := by have := (okPlan_of hok).1; omega
  have hb2 : ((n : Int) == (p.nH : Int)) = true := beq_t (by omega)
  have HN := Lib.hid hn
  obtain ⟨z0, z1, z2⟩ := HB0.out
  clear h hd hok hn
  obtain ⟨R, hR⟩ : ∃ R : List (List Int), R = if okMat p n m && stabB p m then [lst n m] else [] := ⟨_, rfl⟩
  rw [← hR]
  have HR := Lib.hid hR
  clear hR
  cases hm : okMat p n m with
  | false =>
    rw [hm] at HM HR
    clear hm
    go_enter Try.func75, Try.ntmps75
    go_wp2_with fail
    refine Lr.use HM.out ?_
    intro w1 hb1
    have Hb1 := Lib.hid (Hb0.out.trans (hb1.mono Hb0.out.size))
    clear hb1 z0 z1 z2
    go_wp2
    go_ret
    refine ⟨_, rfl, ?_, Hb1.out⟩
    rw [HR.out]
    exact OwnLL.nil_ _ _
  | true =>
    have HB := Lib.hid (HBk.out hm)
    rw [hm] at HM HR
    clear hm HBk
    go_enter Try.func75, Try.ntmps75
    go_wp2_with fail
    refine Lr.use HM.out ?_
    intro w1 hb1
    have Hb1 := Lib.hid (Hb0.out.trans (hb1.mono Hb0.out.size))
    obtain ⟨q0, q1, q2⟩ := HB0.out.keep hb1
    have HD1 := Lib.hid (HD.out.keep hb1)
    clear hb1 z0 z1 z2
    go_wp2_with fail
    refine (HB.out w1 Hb1.out).mono ?_
    rintro e w2 ⟨A2, c2, rfl, hb2'⟩
    have Hb2 := Lib.hid (Hb1.out.trans (hb2'.mono Hb1.out.size))
    have HD2 := Lib.hid (HD1.out.keep hb2')
    clear hb2' q0 q1 q2 HB
    obtain ⟨L, hL⟩ : ∃ L, L = (prAll (blkB p m) p.nS p.nH).length := ⟨_, rfl⟩
    rw [← hL] at HSt ⊢
    clear hL
    by_cases hz : L = 0
    · have HS : Hid (stabB p m = true) := Lib.hid (HSt.out.trans (decide_eq_true hz))
      have hB := beq_t (a := (L : Int)) (b := 0) (by omega)
      clear hz
      go_wp2_with (at_builtin; go_loud (refine wpList_append_own _ rfl (.tmp 24) (.tmp 25) 23 rfl w.heap.size 3 i0 (.int .i64 0) 1 8 Try.underlying23 hi hz0 hz1 hz2 rfl (by decide) _ _ _ rfl (World.ownsRow_made w2 #[] 0 Hb2.out.size (Nat.zero_le _) rfl) ⟨bD, oD, none⟩ n c ((lst n m).map (Value.int .i64)) rfl (by simp [lst_len]) (fun j u hu => Lib.cell?_alloc_some _ (cells_of_ints HD2.out j u hu)) (one_of_ints _) (by unfold maxLen; omega) (by omega) (by have := Hb2.out.size; simp; omega) ?_))
      intro v' w3 hown hgrow _
      have hO : OwnL w3 w.heap.size v' (lst n m) := by unfold OwnL; rw [lst_len]; simpa using hown
      have hb3 : Below w.heap.size w w3 := (Hb2.out.alloc Hb2.out.size _).grown hgrow (by have := Hb2.out.size; simp; omega) (by intro k hk; have := Hb2.out.size; simp [Value.ownBlock] at hk; omega)
      obtain ⟨A3, c3, rfl, -⟩ := hO.shp (lst_len _ _)
      have HO := Lib.hid hO
      have Hb3 := Lib.hid hb3
      clear hown hgrow hO hb3
      go_wp2
      go_ret
      refine ⟨.slice (some ⟨w3.heap.size, 0, none⟩) 1 1, rfl, ?_, Hb3.out.alloc Hb3.out.size _⟩
      rw [HR.out, HS.out]
      exact one_ll HO.out Hb3.out.size
    · have HS : Hid (stabB p m = false) := Lib.hid (HSt.out.trans (decide_eq_false hz))
      have hB := beq_f (a := (L : Int)) (b := 0) (by omega)
      clear hz
      go_wp2
      go_ret
      refine ⟨.slice none 0 0, rfl, ?_, Hb2.out⟩
      rw [HR.out, HS.out]
      exact OwnLL.nil_ _ _
end Go.Proofs.Ytiigcjcolpmafaa

