import Derived.Test.YtkgikehagkpmoaaEx2
namespace Go.Proofs.Ytkgikehagkpmoaa
open Go.RowKit

/-- E comes of D by resolving cycles while everybody is envied. -/
inductive Reach (n m : Nat) (v : Nat → Nat → Int) (D : Nat → Int) : (Nat → Int) → Prop
  | refl : Reach n m v D D
  | step {E : Nat → Int} {C : List Nat} : Reach n m v D E → calmI n m v E n = -1 → shC (envE m v E) n = some C → Reach n m v D (resF C E)
theorem Reach.head {n m : Nat} {v : Nat → Nat → Int} {D E : Nat → Int} (h : Reach n m v D E) : E = D ∨ ∃ C, calmI n m v D n = -1 ∧ shC (envE m v D) n = some C ∧ Reach n m v (resF C D) E := by
  induction h with
  | refl => exact .inl rfl
  | step h1 h2 h3 ih =>
    rcases ih with rfl | ⟨C, a, b, c⟩
    · exact .inr ⟨_, h2, h3, .refl⟩
    · exact .inr ⟨C, a, b, .step c h2 h3⟩
theorem Reach.only {n m : Nat} {v : Nat → Nat → Int} {D E E' : Nat → Int} (h : Reach n m v D E) (h' : Reach n m v D E') (he : calmI n m v E n ≠ -1) (he' : calmI n m v E' n ≠ -1) : E = E' := by
  have key : ∀ {E}, Reach n m v D E → Reach n m v E E' := fun h => by
    induction h with
    | refl => exact h'
    | step h1 h2 h3 ih =>
      rcases ih.head with e | ⟨C, -, b, c⟩
      · exact absurd (e ▸ h2) he'
      · rw [h3] at b
        injection b with b
        rw [b]
        exact c
  rcases (key h).head with e | ⟨C, a, -⟩
  · exact e.symm
  · exact absurd a he
/-- What is given when k goods are. -/
inductive CySeq (n m : Nat) (v : Nat → Nat → Int) : Nat → (Nat → Int) → Prop
  | zero : CySeq n m v 0 (fun _ => -1)
  | next {k j : Nat} {D E : Nat → Int} : CySeq n m v k D → Reach n m v D E → calmI n m v E n = (j : Int) → CySeq n m v (k + 1) (upd E k (j : Int))
theorem CySeq.only {n m : Nat} {v : Nat → Nat → Int} {k : Nat} {D D' : Nat → Int} (h : CySeq n m v k D) (h' : CySeq n m v k D') : D = D' := by
  induction h generalizing D' with
  | zero => cases h'; rfl
  | next h1 h2 h3 ih =>
    cases h' with
    | next g1 g2 g3 =>
      obtain rfl := ih g1
      obtain rfl := h2.only g2 (by omega) (by omega)
      rw [h3] at g3
      rw [g3]

set_option maxHeartbeats 1000000 in
set_option maxRecDepth 1000000 in
theorem nextOwnx_any (w0 : World) (A : Option Addr) (n m c gd cd : Nat) (v : Nat → Nat → Int) (hM : Mat w0 A n m v) (hb : BdM n m v 100) (hm : m ≤ 7) (hn0 : 0 < n) (hn : n ≤ 4) (hgd : w0.heap.size ≤ gd)
    (Inv : (Nat → Int) → Prop) (hstep : ∀ D C, Inv D → calmI n m v D n = -1 → shC (envE m v D) n = some C → Inv (resF C D)) (D : Nat → Int) (w : World) (hI : Inv D) (hR : RowI w gd m D) (hbel : Below w0.heap.size w0 w) :
    Calls Try.prog 40 #[.slice A n c, .slice (some ⟨gd, 0, none⟩) m cd] w fun e w' => ∃ (D' : Nat → Int) (j : Nat), e = .returned (.int .i64 j) ∧ j < n ∧ calmI n m v D' n = (j : Int) ∧ Inv D' ∧ RowI w' gd m D' ∧ Exc gd w w' := by
  have HM := Lib.hid hM
  have HB := Lib.hid hb
  have HB5 := Lib.hid (hb.le (u' := 100000) (by omega))
  have HSt := Lib.hid hstep
  have HI := Lib.hid hI
  have HR := Lib.hid hR
  have Hbel := Lib.hid hbel
  have hph := phi_bd hb hn hm D
  obtain ⟨G, hG⟩ : ∃ G : Nat, (G : Int) = 2800 - phi n m v D := ⟨(2800 - phi n m v D).toNat, by omega⟩
  have HG := Lib.hid hG
  clear hM hb hstep hI hR hbel hph hG
  go_enter Try.func40, Try.ntmps40
  go_wp2_with fail
  go_loopg [5] G (fun gk _ wr => ∃ E : Nat → Int, (gk : Int) = 2800 - phi n m v E ∧ Inv E ∧ RowI wr gd m E ∧ Exc gd w wr)
  case atStart => exact ⟨D, HG.out, HI.out, HR.out, Exc.refl _ _⟩
  case round =>
    obtain ⟨E, hgk, hIE, hRE, hEx⟩ := hrel
    have HGk := Lib.hid hgk
    have HIE := Lib.hid hIE
    have HRE := Lib.hid hRE
    have HEx := Lib.hid hEx
    have hMw := HM.out.keep (Hbel.out.trans (hEx.below hgd Hbel.out.size))
    have HMw := Lib.hid hMw
    clear hgk hIE hRE hEx hMw
    go_wp2_with fail
    refine Ro.use (unenvied_any A _ n m c cd v E _ HMw.out HRE.out.ints HB5.out (by omega) (by omega)) ?_
    intro w2 hD2
    have HR2 := Lib.hid (HRE.out.dn hD2)
    have HM2 := Lib.hid (HMw.out.dn hD2)
    have HEx2 := Lib.hid (HEx.out.trans (Exc.of_below (hD2.below _)))
    clear hD2
    rcases calm_cases n m v E with ⟨hc, hall⟩ | ⟨j, hj, hc, hfree⟩
    · have HCm := Lib.hid hc
      rw [hc]
      have HAll := Lib.hid hall
      clear hc hall
      go_wp2_with fail
      refine (shortest_any A _ n m c cd v E _ HM2.out HR2.out.ints HB5.out (by omega) hn0 (by omega)).mono ?_
      rintro e w3 ⟨x, rfl, hb3, hrep⟩
      have HR3 := Lib.hid (HR2.out.keep hb3)
      have HEx3 := Lib.hid (HEx2.out.trans (Exc.of_below hb3))
      have hgw := HR2.out.lt
      cases hsh : shC (envE m v E) n with
      | none => exact (shC_none (envE_irr m v E) hn0 HAll.out hsh).elim
      | some C =>
        rw [hsh] at hrep
        obtain ⟨b5, o5, c5, rfl, hI5, hB5⟩ := hrep
        obtain ⟨hcyc, hcl⟩ := shC_some hsh
        have HCyc := Lib.hid hcyc
        have HShC := Lib.hid hsh
        have HRes := Lib.hid (resolve_any gd m cd b5 o5 c5 C E w3 HR3.out hI5 (by omega) (by have := hcyc.two; omega) (by omega) (by omega))
        clear hsh hI5 hcyc hcl hb3
        go_wp2_with fail
        refine HRes.out.mono ?_
        rintro e w4 ⟨rfl, hR4, hE4⟩
        have HR4 := Lib.hid hR4
        have HE4 := Lib.hid (HEx3.out.trans hE4)
        have HI4 := Lib.hid (HSt.out E C HIE.out HCm.out HShC.out)
        have hup := phi_up HCyc.out
        have hb1 := phi_bd HB.out hn hm (resF C E)
        obtain ⟨g', hg'⟩ : ∃ g' : Nat, (g' : Int) = 2800 - phi n m v (resF C E) := ⟨(2800 - phi n m v (resF C E)).toNat, by omega⟩
        have HLt : Hid (g' < gk) := Lib.hid (by have := HGk.out; omega)
        have HG' := Lib.hid hg'
        clear hR4 hE4 hup hb1 hg'
        go_wp2
        go_roundg g'
        case rel => exact ⟨_, HG'.out, HI4.out, HR4.out, HE4.out⟩
        case measure => exact HLt.out
    · have HCm := Lib.hid hc
      rw [hc]
      have hj1 := bne_t (a := (j : Int)) (b := -1) (by omega)
      clear hc hfree
      go_wp2
      go_ret
      exact ⟨E, j, rfl, hj, HCm.out, HIE.out, HR2.out, HEx2.out⟩
set_option maxHeartbeats 1000000 in
set_option maxRecDepth 1000000 in
theorem Cycles_ex (A : Option Addr) (n c : Nat) (L : Nat → Nat) (v : Nat → Nat → Int) (w : World) (h : Rows2 w A n L v) (hn : n ≤ 9) (hL : Short n L) (hok : okVals n L v = true) :
    Calls Try.prog 14 #[.slice A n c] w fun e w' => ∃ Ax cx D, e = .returned (.tuple #[.slice Ax (L 0) cx, .int .i64 0]) ∧ Ints w' Ax (L 0) D ∧ CySeq n (L 0) v (L 0) D ∧ Below w.heap.size w w' := by
  obtain ⟨h1, h2, h3, h4, h5, h6⟩ := okVals_of hok
  have HM := Lib.hid (okVals_mat h hok)
  have HB := Lib.hid hok
  have H6 := Lib.hid h6
  obtain ⟨b, o, R, cR, rfl, -, -⟩ := h.at (show 0 < n by omega)
  obtain ⟨R0, c0, hc0, -⟩ := h.cell0 (by omega)
  generalize hm : L 0 = m at *
  have HMm := Lib.hid hm
  clear hok h5 h6 hm
  go_enter Try.func14, Try.ntmps14
  go_wp2_with fail
  refine (validValues_any _ _ _ _ _ _ h hn hL).mono ?_
  rintro e w' ⟨rfl, rfl⟩
  rw [HB.out]
  go_wp2_with fail
  refine (undivided_any m _ (by omega)).mono ?_
  rintro e w1 ⟨rfl, hR1, hb1⟩
  have HR1 := Lib.hid hR1
  have Hb1 := Lib.hid hb1
  clear hR1 hb1 hc0
  go_wp2_with fail
  obtain ⟨gd, hgd⟩ : ∃ gd, gd = w.heap.size := ⟨_, rfl⟩
  have HGd := Lib.hid hgd
  rw [← hgd]
  rw [← hgd] at HR1
  clear hgd
  go_loopw [17] (fun x wr => ∃ (k : Nat) (D : Nat → Int), k ≤ m ∧ x = .int .i64 k ∧ RowI wr gd m D ∧ CySeq n m v k D ∧ Below w.heap.size w wr) (fun x _ => m - (intOf x).toNat)
  case atStart => exact ⟨0, fun _ => -1, Nat.zero_le _, rfl, HR1.out, .zero, Hb1.out⟩
  case round =>
    obtain ⟨k, D, hk, rfl, hR, hP, hbel⟩ := hrel
    by_cases hlt : k < m
    · have HNx := Lib.hid (nextOwnx_any w _ n m c gd m v HM.out H6.out h4 (by omega) h2 (by rw [HGd.out]; exact Nat.le_refl _) (fun E => Reach n m v D E) (fun E C h h1 h2 => .step h h1 h2) D wr .refl hR hbel)
      have Hbel := Lib.hid hbel
      have HP := Lib.hid hP
      clear hR hP hbel
      go_wp2_with fail
      refine HNx.out.mono ?_
      rintro e w2 ⟨D', j, rfl, hj, hcm, hre, hR', hEx⟩
      have HP2 : Hid (CySeq n m v (k + 1) (upd D' k (j : Int))) := Lib.hid (.next HP.out hre hcm)
      have hck := hR'.cell hlt
      have hfz := hR'.frozen k
      have HR2 := Lib.hid (hR'.set k (j : Int))
      have hgd0 : w.heap.size ≤ gd := by rw [HGd.out]; exact Nat.le_refl _
      have Hb2 := Lib.hid ((Hbel.out.trans (hEx.below hgd0 Hbel.out.size)).setCell (p := ⟨gd, k, none⟩) hgd0 (.int .i64 (j : Int)))
      clear hR' hEx hcm hre hgd0
      go_wp2
      go_roundw
      case rel => exact ⟨k + 1, _, by omega, by go_num, HR2.out, HP2.out, Hb2.out⟩
      case measure => simp [intOf]; omega
    · obtain rfl : m = k := by omega
      have HR := Lib.hid hR
      have HP := Lib.hid hP
      clear hR hP
      go_wp2
      go_ret2
      exact ⟨_, _, D, rfl, HR.out.ints, HP.out, hbel⟩
end Go.Proofs.Ytkgikehagkpmoaa
