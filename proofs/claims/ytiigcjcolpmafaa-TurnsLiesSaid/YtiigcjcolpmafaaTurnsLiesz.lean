/- TurnsLies, walked. -/
import Derived.Test.YtiigcjcolpmafaaYX
import Derived.Test.YtiigcjcolpmafaaAwz
namespace Go.Proofs.Ytiigcjcolpmafaa
open Go.RowKit

theorem goB_fn {p : PlanD} (hok : okPlan p = true) (a b : Nat → Int) : goB (fewP p) a b = goB p a b := few_goB hok a b
theorem frM_few {q : PlanD} (hok : okPlan q = true) : frM (fewP q) = frM q := by
  unfold frM
  have e : bsI (fewP q) = bsI q := by
    funext i
    unfold bsI
    rw [few_kP hok, few_mmP hok]
    exact allB_congr (fun j _ => few_goB hok _ _)
  rw [few_mmP hok, few_kP hok, e]
theorem few_setL {p : PlanD} {s : Nat} {l : List Int} (h9 : l.length ≤ 9) : setL (fewP p) s l = fewP (setL p s l) := by
  unfold setL setS fewP
  simp only [PlanD.mk.injEq, true_and, and_true]
  funext i
  by_cases e : i = s
  · rw [if_pos e, if_pos e]; omega
  · rw [if_neg e, if_neg e]
theorem few_Lst {p : PlanD} (hok : okPlan p = true) {s : Nat} (hs : s < p.nS) {l : List Int} : LstOk (fewP p) s l ↔ LstOk p s l := by
  have hrow := (okPlan_of hok).2.2.2 s hs
  have hn6 : p.nH ≤ 6 := (okPlan_of hok).1.2.1
  have e1 : (fewP p).nH = p.nH := (few_n hok).1
  have e2 : (fewP p).LS s = p.LS s := by show min (p.LS s) 9 = _; have := hrow.1; omega
  constructor
  · intro h
    have h1 := h.row
    have h2 := h.sub
    rw [e1] at h1
    rw [e2] at h2
    exact ⟨h1, h2⟩
  · intro h
    refine ⟨by rw [e1]; exact h.row, ?_⟩
    rw [e2]
    exact h.sub
theorem few_gnB {p : PlanD} (hok : okPlan p = true) {s : Nat} (hs : s < p.nS) (m m' : Nat → Int) : gnB (fewP p) s m m' = gnB p s m m' := by
  have hrow := (okPlan_of hok).2.2.2 s hs
  have hn6 : p.nH ≤ 6 := (okPlan_of hok).1.2.1
  have e2 : (fewP p).LS s = p.LS s := by show min (p.LS s) 9 = _; have := hrow.1; omega
  have e : ∀ m, tkL (fewP p) s m = tkL p s m := fun m => by
    unfold tkL
    rw [e2]
    rfl
  unfold gnB
  rw [e, e]
theorem lie_few {p : PlanD} (hok : okPlan p = true) {s : Nat} (hs : s < p.nS) : lieP (fewP p) s = lieP p s := by
  have hokf := few_okT hok
  have hsf : s < (fewP p).nS := by rw [(few_n hok).2.1]; exact hs
  have hg : ∀ l, LstOk p s l → gnL (fewP p) s (frM (fewP p)) l = gnL p s (frM p) l := fun l hl => by
    have h9 : l.length ≤ 9 := by have := hl.row.1; have : p.nH ≤ 6 := (okPlan_of hok).1.2.1; omega
    unfold gnL
    rw [few_gnB hok hs, few_setL h9, frM_few (hl.ok hok), frM_few hok]
  obtain ⟨h1, h2⟩ := lf_least (p := fewP p) (s := s) (m := frM (fewP p)) (fewP p).nH [] (by simp) (LstOk.nil _ _)
  obtain ⟨k1, k2⟩ := lf_least (p := p) (s := s) (m := frM p) p.nH [] (by simp) (LstOk.nil _ _)
  unfold lieP
  cases e1 : lfL (fewP p) s (frM (fewP p)) (fewP p).nH [] with
  | none =>
    cases e2 : lfL p s (frM p) p.nH [] with
    | none => rfl
    | some y =>
      obtain ⟨g1, g2⟩ := lfL_ok p.nH [] y (LstOk.nil _ _) e2
      have h3 : gnL (fewP p) s (frM (fewP p)) y = false := h1 e1 y ((few_Lst hok hs).2 g1)
      rw [hg y g1, g2] at h3
      cases h3
  | some x =>
    obtain ⟨f1, f2⟩ := lfL_ok (fewP p).nH [] x (LstOk.nil _ _) e1
    have f3 := (few_Lst hok hs).1 f1
    rw [hg x f3] at f2
    cases e2 : lfL p s (frM p) p.nH [] with
    | none =>
      have h3 : gnL p s (frM p) x = false := k1 e2 x f3
      rw [f2] at h3
      cases h3
    | some y =>
      obtain ⟨g1, g2⟩ := lfL_ok p.nH [] y (LstOk.nil _ _) e2
      have h3 : y = x ∨ bfL x y = true := (h2 x e1).2 y ((few_Lst hok hs).2 g1) (by rw [show ([] : List Int) ++ y = y from rfl, hg y g1]; exact g2)
      have h4 : x = y ∨ bfL y x = true := (k2 y e2).2 x f3 f2
      rcases h3 with h3 | h3
      · rw [h3]
      · rcases h4 with h4 | h4
        · rw [h4]
        · rw [bf_asym h3] at h4
          cases h4
set_option maxHeartbeats 4000000 in
set_option maxRecDepth 1000000 in
theorem turnsLies_walk (AH AS AP : Option Addr) (cH cS cP : Nat) (p : PlanD) (q : Int) (w : World) (hp : PlanArg w AH AS AP cH cS cP p) (_ : (Lit.int .i64 q).wf = true) :
    Calls Try.prog 11 #[.agg #[.slice AH p.nH cH, .slice AS p.nS cS, .slice AP p.nP cP], .int .i64 q] w fun e w' => e = .returned (.bool true) ∧ Below w.heap.size w w' := by
  have Hb0 := Lib.hid (below_box w (.cells #[.slice AH p.nH cH, .slice AS p.nS cS, .slice AP p.nP cP] 25))
  have HB0 := Lib.hid (BoxP.newR w AH AS AP p.nH p.nS p.nP cH cS cP)
  have HP := Lib.hid hp
  clear hp
  go_enter Try.func11, Try.ntmps11
  go_wp2_with fail
  refine (of_any AH AS AP cH cS cP p _ (HP.out.keep Hb0.out)).mono ?_
  rintro e w1 ⟨BH, BdH, BS, BdS, BP, BdP, rfl, hpl, hb1⟩
  have Hb1 := Lib.hid (Hb0.out.trans (hb1.mono Hb0.out.size))
  have HPl1 := Lib.hid hpl
  have HBx1 := Lib.hid (HB0.out.keep hb1)
  clear hpl hb1
  cases hok : okPlan p with
  | false =>
    have HOk := Lib.hid hok
    have HC2 := Lib.hid (Lie_bad BH BS BP BdH BdS BdP (fewP p) q w1 HPl1.out (fun h => by rw [okPlan_few, HOk.out] at h; cases h))
    clear hok
    go_wp2_with fail
    refine Lr.use HC2.out ?_
    intro w2 hb2
    have Hb2 := Lib.hid (Hb1.out.trans (hb2.mono Hb1.out.size))
    have HBx2 := Lib.hid (HBx1.out.keep hb2)
    clear hb2 HC2
    obtain ⟨q0, q1, q2⟩ := HBx2.out
    have HC3 := Lib.hid (rValid_any AH AS AP cH cS cP p w2 (HP.out.keep Hb2.out))
    rw [HOk.out] at HC3
    go_wp2_with fail
    refine Lr.use HC3.out ?_
    intro w3 hb3
    have Hb3 := Lib.hid (Hb2.out.trans (hb3.mono Hb2.out.size))
    have HBx3 := Lib.hid (HBx2.out.keep hb3)
    clear hb3 HC3 q0 q1 q2
    obtain ⟨q0, q1, q2⟩ := HBx3.out
    go_wp2_with fail
    refine (awake_any _).mono ?_
    rintro e w7 ⟨rfl, hb7⟩
    have Hb7 := Lib.hid (Hb3.out.trans (hb7.mono Hb3.out.size))
    clear hb7
    go_wp2
    go_ret
    exact ⟨rfl, Hb7.out⟩
  | true =>
    have HOk := Lib.hid hok
    have HOf := Lib.hid (few_okT hok)
    have HNS := Lib.hid (few_n hok).2.1
    obtain ⟨⟨-, -, hS1, hS4, -⟩, -⟩ := okPlan_of hok
    clear hok
    by_cases h0 : q < 0
    · have d0 : decide (q < 0) = true := decide_eq_true h0
      have HC2 := Lib.hid (Lie_bad BH BS BP BdH BdS BdP (fewP p) q w1 HPl1.out (fun _ => .inl h0))
      clear h0
      go_wp2_with fail
      refine Lr.use HC2.out ?_
      intro w2 hb2
      have Hb2 := Lib.hid (Hb1.out.trans (hb2.mono Hb1.out.size))
      have HBx2 := Lib.hid (HBx1.out.keep hb2)
      clear hb2 HC2
      obtain ⟨q0, q1, q2⟩ := HBx2.out
      have HC3 := Lib.hid (rValid_any AH AS AP cH cS cP p w2 (HP.out.keep Hb2.out))
      rw [HOk.out] at HC3
      go_wp2_with fail
      refine Lr.use HC3.out ?_
      intro w3 hb3
      have Hb3 := Lib.hid (Hb2.out.trans (hb3.mono Hb2.out.size))
      have HBx3 := Lib.hid (HBx2.out.keep hb3)
      clear hb3 HC3 q0 q1 q2
      obtain ⟨q0, q1, q2⟩ := HBx3.out
      go_wp2_with fail
      refine (awake_any _).mono ?_
      rintro e w7 ⟨rfl, hb7⟩
      have Hb7 := Lib.hid (Hb3.out.trans (hb7.mono Hb3.out.size))
      clear hb7
      go_wp2
      go_ret
      exact ⟨rfl, Hb7.out⟩
    · by_cases h1 : (p.nS : Int) ≤ q
      · have d0 : decide (q < 0) = false := decide_eq_false h0
        have d1 : decide ((p.nS : Int) ≤ q) = true := decide_eq_true h1
        have HC2 := Lib.hid (Lie_bad BH BS BP BdH BdS BdP (fewP p) q w1 HPl1.out (fun _ => .inr (by rw [HNS.out]; exact h1)))
        clear h0 h1
        go_wp2_with fail
        refine Lr.use HC2.out ?_
        intro w2 hb2
        have Hb2 := Lib.hid (Hb1.out.trans (hb2.mono Hb1.out.size))
        have HBx2 := Lib.hid (HBx1.out.keep hb2)
        clear hb2 HC2
        obtain ⟨q0, q1, q2⟩ := HBx2.out
        have HC3 := Lib.hid (rValid_any AH AS AP cH cS cP p w2 (HP.out.keep Hb2.out))
        rw [HOk.out] at HC3
        go_wp2_with fail
        refine Lr.use HC3.out ?_
        intro w3 hb3
        have Hb3 := Lib.hid (Hb2.out.trans (hb3.mono Hb2.out.size))
        have HBx3 := Lib.hid (HBx2.out.keep hb3)
        clear hb3 HC3 q0 q1 q2
        obtain ⟨q0, q1, q2⟩ := HBx3.out
        go_wp2_with fail
        refine (awake_any _).mono ?_
        rintro e w7 ⟨rfl, hb7⟩
        have Hb7 := Lib.hid (Hb3.out.trans (hb7.mono Hb3.out.size))
        clear hb7
        go_wp2
        go_ret
        exact ⟨rfl, Hb7.out⟩
      · obtain ⟨u, hq⟩ : ∃ u : Nat, q = (u : Int) := ⟨q.toNat, by omega⟩
        have hu : u < p.nS := by omega
        have HuS : Hid (u < (fewP p).nS) := Lib.hid (by rw [(few_n HOk.out).2.1]; exact hu)
        have HLf := Lib.hid (lie_few HOk.out hu)
        have d0 : decide (q < 0) = false := decide_eq_false (by omega)
        have d1 : decide ((p.nS : Int) ≤ q) = false := decide_eq_false (by omega)
        have HC2 := Lib.hid (Lie_ok BH BS BP BdH BdS BdP u (fewP p) w1 HPl1.out HOf.out HuS.out)
        have HR := Lib.hid (fun w' (h : PlanArg w' AH AS AP cH cS cP p) => lieR_any AH AS AP cH cS cP u p w' h HOk.out hu)
        rw [HLf.out] at HC2
        have HLl : Hid (∀ x, lieP p u = some x → x.length ≤ 6) := Lib.hid (fun x hx => by
          obtain ⟨h1, -⟩ := lfL_ok p.nH [] x (LstOk.nil _ _) hx
          have h2 := h1.row.1
          have h3 : p.nH ≤ 6 := (okPlan_of HOk.out).1.2.1
          omega)
        rw [← hq] at HC2 HR
        clear hq h0 h1
        go_wp2_with fail
        refine HC2.out.mono ?_
        rintro e w2 ⟨la, lb, rfl, hL, hb2⟩
        have Hb2 := Lib.hid (Hb1.out.trans (hb2.mono Hb1.out.size))
        have HBx2 := Lib.hid (HBx1.out.keep hb2)
        have HL2 := Lib.hid hL
        clear hb2 HC2 hL
        obtain ⟨q0, q1, q2⟩ := HBx2.out
        have HC3 := Lib.hid (rValid_any AH AS AP cH cS cP p w2 (HP.out.keep Hb2.out))
        rw [HOk.out] at HC3
        go_wp2_with fail
        refine Lr.use HC3.out ?_
        intro w3 hb3
        have Hb3 := Lib.hid (Hb2.out.trans (hb3.mono Hb2.out.size))
        have HBx3 := Lib.hid (HBx2.out.keep hb3)
        have Hb23 := Lib.hid hb3
        clear hb3 HC3 q0 q1 q2
        obtain ⟨q0, q1, q2⟩ := HBx3.out
        go_wp2_with fail
        refine (HR.out _ (HP.out.keep Hb3.out)).mono ?_
        rintro e w4 ⟨ra, rb, rfl, hL4, hb4⟩
        have Hb4 := Lib.hid (Hb3.out.trans (hb4.mono Hb3.out.size))
        cases hr : lieP p u with
        | none =>
          have hL2 := HL2.out
          rw [hr] at hL2 hL4
          obtain ⟨rfl, rfl⟩ := hL2
          obtain ⟨rfl, rfl⟩ := hL4
          have HE := Lib.hid (equal_any none none 0 0 0 0 (fun _ => 0) (fun _ => 0) w4 Ints.zero Ints.zero (by omega) (by omega))
          rw [eqB_id] at HE
          clear hr hb4 HL2 q0 q1 q2 HLl
          go_wp2_with fail
          refine Ro.use HE.out ?_
          intro w6 hd6
          have Hb6 := Lib.hid (Hb4.out.trans ((hd6.below _).mono Hb4.out.size))
          clear hd6 HE
          go_wp2_with fail
          refine (awake_any _).mono ?_
          rintro e w7 ⟨rfl, hb7⟩
          have Hb7 := Lib.hid (Hb6.out.trans (hb7.mono Hb6.out.size))
          clear hb7
          go_wp2
          go_ret
          exact ⟨rfl, Hb7.out⟩
        | some x =>
          have hL2 := HL2.out
          have hx6 := HLl.out x hr
          rw [hr] at hL2 hL4
          obtain ⟨A2, c2, rfl, rfl, hI2, -⟩ := hL2
          obtain ⟨A4, c4, rfl, rfl, hI4, -⟩ := hL4
          have HE := Lib.hid (equal_any A2 A4 x.length x.length c2 c4 (fun k => x.getD k 0) (fun k => x.getD k 0) w4 ((hI2.keep Hb23.out).keep hb4) hI4 (by omega) (by omega))
          rw [eqB_id] at HE
          clear hr hb4 HL2 q0 q1 q2 HLl hI2 hI4
          go_wp2_with fail
          refine Ro.use HE.out ?_
          intro w6 hd6
          have Hb6 := Lib.hid (Hb4.out.trans ((hd6.below _).mono Hb4.out.size))
          clear hd6 HE
          go_wp2_with fail
          refine (awake_any _).mono ?_
          rintro e w7 ⟨rfl, hb7⟩
          have Hb7 := Lib.hid (Hb6.out.trans (hb7.mono Hb6.out.size))
          clear hb7
          go_wp2
          go_ret
          exact ⟨rfl, Hb7.out⟩
end Go.Proofs.Ytiigcjcolpmafaa

