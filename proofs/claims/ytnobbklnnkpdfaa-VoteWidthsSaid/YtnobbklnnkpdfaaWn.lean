/- The winner by paths. -/
import Derived.Test.YtnobbklnnkpdfaaWd
import Derived.Deep.RegionLaw
namespace Go.Proofs.Ytnobbklnnkpdfaa
open Go.RowKit

/-- Candidate a is at least as strong as all others. -/
def strP (W : Nat → Int) (a b : Nat) : Bool := !decide (W (5 * a + b) < W (5 * b + a))
def strB (W : Nat → Int) (c a : Nat) : Bool := allB (strP W a) c

set_option maxHeartbeats 1000000 in
set_option maxRecDepth 1000000 in
theorem strongest_any (A : Option Addr) (n cA c a : Nat) (T W : Nat → Int) (hc : c ≤ 5) (ha : a < c) (w : World) :
    Lr 79 #[.agg (pollL A n cA c T).toArray, .agg (tabL W).toArray, .int .i64 a] w (.bool (strB W c a)) := by
  have HP0 := Lib.hid (PollI.box w A n cA c T)
  have Hb0 := Lib.hid ((Below.refl w.heap.size w).alloc (Nat.le_refl _) (.cells (pollL A n cA c T).toArray 56))
  have HP1 := Lib.hid (HP0.out.keep ((Below.refl _ _).alloc (Nat.le_refl _) (.cells (tabL W).toArray 54)))
  have HT1 := Lib.hid (TabI.box (w.alloc (.cells (pollL A n cA c T).toArray 56)) W)
  have Hb1 := Lib.hid (Hb0.out.alloc (by simp) (.cells (tabL W).toArray 54))
  have hz1 : (w.alloc (.cells (pollL A n cA c T).toArray 56)).heap.size = w.heap.size + 1 := by simp
  rw [hz1] at HT1
  clear HP0 Hb0 hz1
  show Calls _ _ _ _ _
  go_enter Try.func79, Try.ntmps79
  have hc1 := HP1.out.c1
  go_wp2
  clear hc1
  generalize (w.alloc (.cells (pollL A n cA c T).toArray 56)).alloc (.cells (tabL W).toArray 54) = X at *
  go_loopw [10] (fun i wr => ∃ b : Nat, b ≤ c ∧ i = .int .i64 b ∧ AllLt (strP W a) b ∧ Dn X wr) (fun i _ => c - (intOf i).toNat)
  case atStart => exact ⟨0, Nat.zero_le _, rfl, AllLt.zero, Dn.refl _⟩
  case round =>
    obtain ⟨b, hb, rfl, hA, hD⟩ := hrel
    have HA := Lib.hid hA
    have HD := Lib.hid hD
    clear hA hD
    by_cases hlt : b < c
    · have ha5 : a < 5 := by omega
      have hb5 : b < 5 := by omega
      have HT := Lib.hid (show TabI wr (w.heap.size + 1) W from by
        obtain ⟨m, rfl⟩ := HD.out
        exact HT1.out)
      have hx1 := HT.out.cell ha5 hb5
      have hx2 := HT.out.cell hb5 ha5
      have HU : Hid (strP W a b = !decide (W (5 * a + b) < W (5 * b + a))) := Lib.hid rfl
      generalize W (5 * a + b) = M1 at *
      generalize W (5 * b + a) = M2 at *
      rcases Int.lt_or_le M1 M2 with hm | hm
      · have HF := Lib.hid (allB_f (p := strP W a) hlt (by rw [HU.out, decide_eq_true hm]; rfl))
        go_wp2
        go_quiet (fail)
        go_wp2
        go_ret
        exact ⟨ret_bool (by unfold strB; rw [HF.out]), Hb1.out.trans ((HD.out.drewN _).below _)⟩
      · have HA2 := Lib.hid (HA.out.succ (by rw [HU.out, decide_eq_false (by omega)]; rfl))
        go_wp2
        go_quiet (fail)
        go_wp2
        go_roundw
        case rel => exact ⟨b + 1, by omega, by go_num, HA2.out, HD.out.drewN _⟩
        case measure => simp [intOf]; omega
    · obtain rfl : b = c := by omega
      go_wp2
      go_ret
      exact ⟨ret_bool (by unfold strB; rw [allB_t HA.out]), Hb1.out.trans (HD.out.below _)⟩

set_option maxHeartbeats 1000000 in
set_option maxRecDepth 1000000 in
theorem byPaths_any (A : Option Addr) (n cA c k0 : Nat) (T : Nat → Int) (hc : c ≤ 5) (hk0 : k0 < c) (h1 : strB (wT c T c) c k0 = true) (h2 : ∀ a, a < k0 → strB (wT c T c) c a = false) (w : World) :
    Lr 65 #[.agg (pollL A n cA c T).toArray] w (.int .i64 k0) := by
  have HP0 := Lib.hid (PollI.box w A n cA c T)
  have Hb0 := Lib.hid ((Below.refl w.heap.size w).alloc (Nat.le_refl _) (.cells (pollL A n cA c T).toArray 56))
  have HWd := Lib.hid (widths_any A n cA c T hc (w.alloc (.cells (pollL A n cA c T).toArray 56)))
  have H1 := Lib.hid h1
  have H2 := Lib.hid h2
  clear h1 h2
  generalize wT c T c = W at *
  show Calls _ _ _ _ _
  go_enter Try.func65, Try.ntmps65
  go_wp2_with (first
    | (refine wpList_load_mid rfl 56 _ rfl w.heap.size 0 rfl (pollL A n cA c T) _ HP0.out.range Try.underlying56 rfl (by rw [pollL_len]; exact infoPoll) ?_)
    | fail)
  refine HWd.out.mono ?_
  rintro e w2 ⟨rfl, hb2⟩
  have HP2 := Lib.hid (HP0.out.keep hb2)
  have Hb2 := Lib.hid (Hb0.out.trans (hb2.mono Hb0.out.size))
  clear hb2 HWd HP0
  have HZ3 := Lib.hid (TabI.zero w2)
  have HP3 := Lib.hid (HP2.out.keep (tab_below w2))
  have Hb3 := Lib.hid (Hb2.out.trans ((tab_below w2).mono Hb2.out.size))
  go_wp2_with fail
  rw [run_storeTab _ _ _ W HZ3.out]
  simp only [Result.andThen_ok]
  rw [Oper.upon_skip]
  have HT := Lib.hid (TabI.stored (T := W) HZ3.out)
  have HP := Lib.hid (World.rowIs.of_block HP3.out (setCells_other _ w2.heap.size (tabL W) w.heap.size (by have := HP2.out.lt; omega) 0))
  have HB := Lib.hid (below_setCells (tabL W) 0 Hb2.out.size Hb3.out)
  clear HZ3 HP3 Hb3 Hb0 HP2
  have HG : Hid (w.heap.size ≤ w2.heap.size) := Lib.hid Hb2.out.size
  generalize World.setCells _ w2.heap.size 0 (tabL W) = X at *
  generalize w2.heap.size = G at *
  clear Hb2
  go_wp2
  go_loopw [4] (fun i wr => ∃ a : Nat, a ≤ k0 ∧ i = .int .i64 a ∧ TabI wr G W ∧ PollI wr w.heap.size A n cA c T ∧ Below w.heap.size w wr) (fun i _ => k0 - (intOf i).toNat)
  case atStart => exact ⟨0, Nat.zero_le _, rfl, HT.out, HP.out, HB.out⟩
  case round =>
    obtain ⟨a, ha, rfl, hT, hP, hB⟩ := hrel
    have HTa := Lib.hid hT
    have HPa := Lib.hid hP
    have HBa := Lib.hid hB
    clear hT hP hB HT HP HB
    have HS := Lib.hid (strongest_any A n cA c a T W hc (by omega) wr)
    go_wp2_with (first
      | (refine wpList_load_mid rfl 56 _ rfl w.heap.size 0 rfl (pollL A n cA c T) _ HPa.out.range Try.underlying56 rfl (by rw [pollL_len]; exact infoPoll) ?_)
      | (refine wpList_load_mid rfl 54 _ rfl G 0 rfl (tabL W) _ HTa.out.range Try.underlying54 rfl (by rw [tabL_len]; exact infoTab) ?_)
      | fail)
    refine Lr.use HS.out ?_
    intro w5 hb5
    have HT5 := Lib.hid (HTa.out.keep hb5)
    have HP5 := Lib.hid (HPa.out.keep hb5)
    have HB5 := Lib.hid (HBa.out.trans (hb5.mono HBa.out.size))
    clear hb5 HS
    rcases Nat.lt_or_ge a k0 with hl | hl
    · rw [H2.out a hl]
      go_wp2
      go_roundw
      case rel => exact ⟨a + 1, by omega, by go_num, HT5.out, HP5.out, HB5.out⟩
      case measure => simp [intOf]; omega
    · obtain rfl : a = k0 := by omega
      rw [H1.out]
      go_wp2
      go_ret
      exact ⟨rfl, HB5.out⟩
end Go.Proofs.Ytnobbklnnkpdfaa
