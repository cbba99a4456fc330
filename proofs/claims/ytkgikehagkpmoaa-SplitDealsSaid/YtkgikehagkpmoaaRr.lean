import Derived.Test.YtkgikehagkpmoaaEx3
import Derived.Test.YtkgikehagkpmoaaRef1
namespace Go.Proofs.Ytkgikehagkpmoaa
open Go.RowKit

set_option maxHeartbeats 1000000 in
set_option maxRecDepth 1000000 in
theorem rcalm_any (A D : Option Addr) (n m c c' : Nat) (v : Nat → Nat → Int) (d : Nat → Int) (w : World) (h : Mat w A n m v) (hd : Ints w D m d) (hb : BdM n m v 100000) (hm : m ≤ 9) (hn : n ≤ 9) :
    Ro 42 #[.slice A n c, .slice D m c'] w (.int .i64 (calmI n m v d n)) := by
  refine Ro.of ?_
  have H := Lib.hid h
  have HD := Lib.hid hd
  have HB := Lib.hid hb
  clear h hd hb
  go_enter Try.func42, Try.ntmps42
  go_wp2
  go_loopw [10] (fun x wr => ∃ k : Nat, k ≤ n ∧ x = .int .i64 k ∧ (∀ j, j < k → envdB n m v d j = true) ∧ Dn w wr) (fun x _ => n - (intOf x).toNat)
  case atStart => exact ⟨0, Nat.zero_le _, rfl, fun j hj => absurd hj (by omega), Dn.refl _⟩
  case round =>
    obtain ⟨k, hk, rfl, hN, hD⟩ := hrel
    have HN := Lib.hid hN
    clear hN
    by_cases hlt : k < n
    · go_wp2
      obtain ⟨wo, hwo⟩ : ∃ wo : World, wo = wr := ⟨_, rfl⟩
      have HWo := Lib.hid hwo
      clear hwo
      go_loopw [6, 15] (fun s x wi => ∃ (i : Nat) (b : Bool), i ≤ n ∧ x = .int .i64 i ∧ s = .bool b ∧ b = anyB (fun i => envB m v d i (k : Int)) i ∧ Dn w wi) (fun _ x _ => n - (intOf x).toNat)
      case atStart => exact ⟨0, false, Nat.zero_le _, rfl, rfl, rfl, hD⟩
      case round =>
        obtain ⟨i, b, hi, rfl, rfl, hb, hDi⟩ := hrel
        have HBb := Lib.hid hb
        clear hb
        by_cases hlt2 : i < n
        · cases b with
          | true =>
            have HB2 : Hid (true = anyB (fun i => envB m v d i (k : Int)) (i + 1)) := Lib.hid (by
              show true = (anyB (fun i => envB m v d i (k : Int)) i || _)
              rw [← HBb.out]
              rfl)
            go_wp2
            go_roundw
            case rel => exact ⟨i + 1, true, by omega, by go_num, rfl, HB2.out, hDi⟩
            case measure => simp [intOf]; omega
          | false =>
            go_wp2_with fail
            refine (renvies_any _ _ n m _ _ v d i k _ (H.out.dn hDi) (HD.out.dn hDi) HB.out hm hlt2 hn).mono ?_
            rintro e w' ⟨rfl, rfl⟩
            have HB2 : Hid (envB m v d i (k : Int) = anyB (fun i => envB m v d i (k : Int)) (i + 1)) := Lib.hid (by
              show _ = (anyB (fun i => envB m v d i (k : Int)) i || envB m v d i (k : Int))
              rw [← HBb.out]
              rfl)
            generalize envB m v d i (k : Int) = b at *
            cases b with
            | true =>
              go_wp2
              go_roundw
              case rel => exact ⟨i + 1, _, by omega, by go_num, rfl, HB2.out, hDi⟩
              case measure => simp [intOf]; omega
            | false =>
              go_wp2
              go_roundw
              case rel => exact ⟨i + 1, _, by omega, by go_num, rfl, HB2.out, hDi⟩
              case measure => simp [intOf]; omega
        · obtain rfl : n = i := by omega
          cases b with
          | true =>
            have HN2 : Hid (∀ j, j < k + 1 → envdB n m v d j = true) := Lib.hid (fun j hj => by
              rcases Nat.lt_or_ge j k with hl | hl
              · exact HN.out j hl
              · obtain rfl : j = k := by omega
                exact HBb.out.symm)
            go_wp2
            go_roundw
            case rel => exact ⟨k + 1, by omega, by go_num, HN2.out, hDi⟩
            case measure => simp [intOf]; omega
          | false =>
            have HE : Hid (calmI n m v d n = k) := Lib.hid (calmI_some HN.out HBb.out.symm n hlt)
            go_wp2
            go_ret
            exact ⟨ret_int HE.out.symm, hDi⟩
    · obtain rfl : n = k := by omega
      go_wp2
      go_ret
      exact ⟨ret_int (calmI_none HN.out).symm, hD⟩

theorem favF_is (f D : Nat → Int) : ∀ k, FavI f D k (favF f D k) := by
  intro k
  induction k with
  | zero => exact .inl ⟨rfl, fun h hh => absurd hh (by omega)⟩
  | succ k ih =>
    simp only [favF]
    by_cases e1 : D k = -1 ∧ (favF f D k = -1 ∨ f (favF f D k).toNat < f k)
    · rw [if_pos e1]
      refine .inr ⟨k, by omega, rfl, e1.1, fun h hh he => ?_⟩
      rcases Nat.lt_or_ge h k with hl | hl
      · rcases ih with ⟨e, hno⟩ | ⟨b, hb, e, hD, hbest⟩
        · exact absurd he (hno h hl)
        · have h1 := hbest h hl he
          rcases e1.2 with h2 | h2
          · omega
          · rw [e, Int.toNat_natCast] at h2
            omega
      · obtain rfl : h = k := by omega
        exact Int.le_refl _
    · rw [if_neg e1]
      rcases ih with ⟨e, hno⟩ | ⟨b, hb, e, hD, hbest⟩
      · refine .inl ⟨e, fun h hh he => ?_⟩
        rcases Nat.lt_or_ge h k with hl | hl
        · exact hno h hl he
        · obtain rfl : h = k := by omega
          exact e1 ⟨he, .inl e⟩
      · refine .inr ⟨b, by omega, e, hD, fun h hh he => ?_⟩
        rcases Nat.lt_or_ge h k with hl | hl
        · exact hbest h hl he
        · obtain rfl : h = k := by omega
          rcases Int.lt_or_le (f b) (f h) with hl2 | hl2
          · exact absurd ⟨he, .inr (by rw [e, Int.toNat_natCast]; exact hl2)⟩ e1
          · exact hl2

set_option maxHeartbeats 2000000 in
set_option maxRecDepth 1000000 in
theorem rRounds_any (A : Option Addr) (n m c : Nat) (v : Nat → Nat → Int) (w : World) (h : Mat w A n m v) (hn0 : 0 < n) (hn : n ≤ 9) (hm0 : 0 < m) (hm : m ≤ 9) :
    Calls Try.prog 18 #[.slice A n c] w fun e w' => ∃ Ax cx, e = .returned (.slice Ax m cx) ∧ Ints w' Ax m (rdD n m v m) ∧ Below w.heap.size w w' := by
  have hmk := mk_ints m (by omega)
  have HM := Lib.hid h
  obtain ⟨b, o, R, cR, rfl, -, -⟩ := h.at hn0
  obtain ⟨R0, c0, hc0, -⟩ := h.cell0 hn0
  have hr0 : RowI (w.alloc (.cells (madeCells #[.int .i64 0] m) 3)) w.heap.size m (fun g => if g < 0 then -1 else 0) := (RowI.made w m).congr fun g _ => by rw [if_neg (by omega)]
  have HR0 := Lib.hid hr0
  clear hr0 h
  go_enter Try.func18, Try.ntmps18
  go_wp2
  clear hmk hc0
  obtain ⟨gd, hgd⟩ : ∃ gd, gd = w.heap.size := ⟨_, rfl⟩
  have HGd := Lib.hid hgd
  rw [← hgd]
  rw [← hgd] at HR0
  clear hgd
  go_loopw [16] (fun x wr => ∃ k : Nat, k ≤ m ∧ x = .int .i64 k ∧ RowI wr gd m (fun g => if g < k then -1 else 0) ∧ Below w.heap.size w wr) (fun x _ => m - (intOf x).toNat)
  case atStart => exact ⟨0, Nat.zero_le _, rfl, HR0.out, (Below.refl _ _).alloc (Nat.le_refl _) _⟩
  case round =>
    obtain ⟨k, hk, rfl, hR, hbel⟩ := hrel
    by_cases hlt : k < m
    · have hck := hR.cell hlt
      have hfz := hR.frozen k
      have HR := Lib.hid (hR.set k (-1))
      clear hR
      go_wp2
      go_roundw
      case rel =>
        refine ⟨k + 1, by omega, by go_num, HR.out.congr (fun g hg => ?_), hbel.setCell (show w.heap.size ≤ gd by rw [HGd.out]; exact Nat.le_refl _) _⟩
        simp only [upd]
        by_cases e : g = k
        · rw [if_pos e, if_pos (by omega)]
        · rw [if_neg e]
          by_cases e2 : g < k
          · rw [if_pos e2, if_pos (by omega)]
          · rw [if_neg e2, if_neg (by omega)]
      case measure => simp [intOf]; omega
    · obtain rfl : m = k := by omega
      have HR1 := Lib.hid (hR.congr (f' := fun _ => -1) fun g hg => by rw [if_pos hg])
      have Hb1 := Lib.hid hbel
      clear hR hbel HR0
      go_wp2
      obtain ⟨wq, hwq⟩ : ∃ wq : World, wq = wr := ⟨_, rfl⟩
      have HWq := Lib.hid hwq
      clear hwq
      go_loopw [25] (fun x wr => ∃ (k : Nat) (D : Nat → Int) (p : Nat → Nat), k ≤ m ∧ x = .int .i64 k ∧ RowI wr gd m D ∧ RdI n m k v D p ∧ D = rdD n m v k ∧ Below w.heap.size w wr) (fun x _ => m - (intOf x).toNat)
      case atStart => exact ⟨0, fun _ => -1, fun _ => 0, Nat.zero_le _, rfl, HR1.out, RdI.start v, rfl, Hb1.out⟩
      case round =>
        obtain ⟨k, D, p, hk, rfl, hR, hP, hDe, hbel⟩ := hrel
        have HDe := Lib.hid hDe
        have HR := Lib.hid hR
        have HP := Lib.hid hP
        have Hbel := Lib.hid hbel
        clear hDe hR hP hbel
        by_cases hlt : k < m
        · obtain ⟨i, hi⟩ : ∃ i, i = k % n := ⟨_, rfl⟩
          have hin : i < n := by rw [hi]; exact Nat.mod_lt _ (by omega)
          have t1 : ((k : Int)).tmod (n : Int) = (i : Int) := by rw [hi]; exact tmod_nat2 k n
          have hnp : (0 : Int) < n := by omega
          have hnz : ¬ (n : Int) = 0 := by omega
          have HI := Lib.hid hi
          clear hi
          go_wp2
          obtain ⟨wo, hwo⟩ : ∃ wo : World, wo = wr := ⟨_, rfl⟩
          have HWo := Lib.hid hwo
          clear hwo
          go_loopw [7, 34] (fun s x wi => ∃ (g : Nat) (y : Int), g ≤ m ∧ x = .int .i64 g ∧ s = .int .i64 y ∧ y = favF (v i) D g ∧ RowI wi gd m D ∧ Below w.heap.size w wi) (fun _ x _ => m - (intOf x).toNat)
          case atStart => exact ⟨0, -1, Nat.zero_le _, rfl, rfl, rfl, HR.out, Hbel.out⟩
          case round =>
            obtain ⟨g, y, hg, rfl, rfl, hy, hRi, hbi⟩ := hrel
            have HY := Lib.hid hy
            have HRi := Lib.hid hRi
            have Hbi := Lib.hid hbi
            have hfi := favF_is (v i) D g
            rw [← hy] at hfi
            have HFi := Lib.hid hfi
            clear hy hRi hbi hfi
            by_cases hlt2 : g < m
            · obtain ⟨Ri, ci, hci, hVi⟩ := (HM.out.keep Hbi.out).cell hin
              obtain ⟨bi, oi, rfl, hcg⟩ := hVi.at hlt2
              have hcd := HRi.out.cell hlt2
              have hi0 : (0 : Int) ≤ i := by omega
              have hi1 : (i : Int) < n := by omega
              rcases HP.out.rng g hlt2 with e1 | e1
              · have HE1 := Lib.hid e1
                rw [e1] at hcd
                clear e1
                rcases HFi.out with ⟨rfl, hno⟩ | ⟨b2, hb2, rfl, hDb, hbest⟩
                · have HX : Hid ((g : Int) = favF (v i) D (g + 1)) := Lib.hid (by
                    simp only [favF]
                    rw [if_pos ⟨HE1.out, .inl HY.out.symm⟩])
                  clear hno hVi
                  go_wp2_with fail
                  go_quiet (fail)
                  go_wp2
                  go_roundw
                  case rel => exact ⟨g + 1, _, by omega, by go_num, rfl, HX.out, HRi.out.dn ((Dn.refl _).drewN _), Hbi.out.trans ((((Dn.refl _).drewN _).below _))⟩
                  case measure => simp [intOf]; omega
                · have hcb := hVi.cell (show b2 < m by omega)
                  have hb0 : (0 : Int) ≤ (b2 : Int) := by omega
                  have hbm : (b2 : Int) < m := by omega
                  have hbn : decide ((b2 : Int) < 0) = false := decide_eq_false (by omega)
                  by_cases hgt : v i b2 < v i g
                  · have HX : Hid ((g : Int) = favF (v i) D (g + 1)) := Lib.hid (by
                      simp only [favF]
                      rw [if_pos ⟨HE1.out, .inr (by rw [← HY.out, Int.toNat_natCast]; exact hgt)⟩])
                    clear hbest hDb hVi
                    go_wp2_with fail
                    go_quiet (fail)
                    go_wp2
                    go_roundw
                    case rel => exact ⟨g + 1, _, by omega, by go_num, rfl, HX.out, HRi.out.dn ((Dn.refl _).drewN _), Hbi.out.trans ((((Dn.refl _).drewN _).below _))⟩
                    case measure => simp [intOf]; omega
                  · have HX : Hid ((b2 : Int) = favF (v i) D (g + 1)) := Lib.hid (by
                      simp only [favF]
                      rw [if_neg (fun h => by
                        rcases h.2 with h2 | h2
                        · rw [← HY.out] at h2; omega
                        · rw [← HY.out, Int.toNat_natCast] at h2; exact hgt h2)]
                      exact HY.out)
                    clear hbest hDb hVi
                    go_wp2_with fail
                    go_quiet (fail)
                    go_wp2
                    go_roundw
                    case rel => exact ⟨g + 1, _, by omega, by go_num, rfl, HX.out, HRi.out.dn ((Dn.refl _).drewN _), Hbi.out.trans ((((Dn.refl _).drewN _).below _))⟩
                    case measure => simp [intOf]; omega
              · have hdn : decide (D g < 0) = false := decide_eq_false (by omega)
                have HX : Hid (y = favF (v i) D (g + 1)) := Lib.hid (by
                  simp only [favF]
                  rw [if_neg (fun h => by have := h.1; omega)]
                  exact HY.out)
                clear hVi
                go_wp2_with fail
                go_quiet (fail)
                go_wp2
                go_roundw
                case rel => exact ⟨g + 1, _, by omega, by go_num, rfl, HX.out, HRi.out.dn ((Dn.refl _).drewN _), Hbi.out.trans ((((Dn.refl _).drewN _).below _))⟩
                case measure => simp [intOf]; omega
            · obtain rfl : g = m := by omega
              obtain ⟨b2, hb2, rfl, hDb, hbest⟩ := HP.out.fav hlt HFi.out
              have HDn : Hid (upd D b2 (i : Int) = rdD n g v (k + 1)) := Lib.hid (by
                simp only [rdD]
                rw [← HDe.out, ← HI.out, ← HY.out, Int.toNat_natCast])
              have hnx := HP.out.next hn0 hb2 hDb (fun x hx he => by rw [← HI.out]; exact hbest x hx he)
              rw [← HI.out] at hnx
              have HNx := Lib.hid hnx
              have hck := HRi.out.cell hb2
              have hfz := HRi.out.frozen b2
              have HR2 := Lib.hid (HRi.out.set b2 (i : Int))
              have hgd0 : w.heap.size ≤ gd := by rw [HGd.out]; exact Nat.le_refl _
              have Hb2 := Lib.hid (Hbi.out.setCell (p := ⟨gd, b2, none⟩) hgd0 (.int .i64 (i : Int)))
              have hg0 : (0 : Int) ≤ b2 := by omega
              have hgm : (b2 : Int) < g := by omega
              clear hbest hgd0 hnx hDb t1
              go_wp2
              go_roundw
              case rel => exact ⟨k + 1, _, _, by omega, by go_num, HR2.out, HNx.out, HDn.out, Hb2.out⟩
              case measure => simp [intOf]; omega
        · obtain rfl : k = m := by omega
          go_wp2
          go_ret
          exact ⟨_, _, rfl, by rw [← HDe.out]; exact HR.out.ints, Hbel.out⟩
end Go.Proofs.Ytkgikehagkpmoaa
