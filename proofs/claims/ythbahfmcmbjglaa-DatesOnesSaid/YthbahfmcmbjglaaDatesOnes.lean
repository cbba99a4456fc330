import Derived.Test.YthbahfmcmbjglaaJh
import Derived.Test.YthbahfmcmbjglaaQo
namespace Go.Proofs.Ythbahfmcmbjglaa
open Go.RowKit

/-- The first k weights are 1. -/
def onP (J : Nat → Nat → Int) (k : Nat) : Nat → Nat → Int := fun a i => if a < k ∧ i = 3 then 1 else J a i
def onJ (J : Nat → Nat → Int) : Nat → Nat → Int := fun a i => if i = 3 then 1 else J a i
theorem onP_zero (J : Nat → Nat → Int) : onP J 0 = J := by
  funext a i
  simp [onP]
theorem onP_put (J : Nat → Nat → Int) (k : Nat) : updK (onP J k) k 3 1 = onP J (k + 1) := by
  funext a i
  unfold onP
  by_cases e : a = k ∧ i = 3
  · obtain ⟨rfl, rfl⟩ := e
    rw [updK_at]
    simp
  · rw [updK_ne _ _ (by omega)]
    by_cases h : a < k ∧ i = 3
    · rw [if_pos h, if_pos ⟨by omega, h.2⟩]
    · rw [if_neg h, if_neg (by omega)]
theorem onP_all (J : Nat → Nat → Int) {n k : Nat} (hk : k < n) (i : Nat) : onP J n k i = onJ J k i := by
  unfold onP onJ
  by_cases h : i = 3
  · rw [if_pos ⟨hk, h⟩, if_pos h]
  · rw [if_neg (fun e => h e.2), if_neg h]
theorem on_same (J : Nat → Nat → Int) (n N : Nat) : hvF (wtS n (wtW (onJ J))) (fitB n (onJ J)) N = hvF (wtS n (wtM (onJ J))) (fitB n (onJ J)) N := by
  have e : wtW (onJ J) = wtM (onJ J) := by
    funext k
    simp [wtW, wtM, onJ]
  rw [e]
theorem on_ct {n : Nat} (hn : n ≤ 8) (J : Nat → Nat → Int) : (hvF (wtS n (wtM J)) (fitB n J) (2 ^ n)).1 < 256 ∧ (hvF (wtS n (wtM J)) (fitB n J) (2 ^ n)).2 = (pc8 (hvF (wtS n (wtM J)) (fitB n J) (2 ^ n)).1 : Int) := by
  have h1 := hvF_lt (wtS n (wtM J)) (fitB n J) (2 ^ n) (Nat.pow_pos (by omega))
  have h2 := Nat.pow_le_pow_right (n := 2) (by omega) hn
  refine ⟨by omega, ?_⟩
  rw [hvF_val (wtS_none n _), ← pc8_ct, ← ctS_8 hn h1]
  rfl

set_option maxHeartbeats 4000000 in
set_option maxRecDepth 1000000 in
theorem datesOnes_walk (A : Option Addr) (n c : Nat) (J : Nat → Nat → Int) (W : World) (h : ArgK 4 W A n c J) : TrueBelow 9 #[.slice A n c] W := by
  have hnm : n ≤ maxLen := Nat.le_trans h.1 h.2.1
  have H := Lib.hid h.2.2.2
  have Hn := Lib.hid hnm
  clear h hnm
  show Calls _ _ _ _ _
  go_enter Try.func9, Try.ntmps9
  go_wp2_with fail
  refine (of_any A n c J W H.out Hn.out).mono ?_
  rintro e w1 ⟨x, rfl, hx, hb1⟩
  have Hm10 := Lib.hid (show min n 10 ≤ maxLen by have := Hn.out; omega)
  have hm10 : min n 10 ≤ 10 := by omega
  generalize min n 10 = m at *
  obtain ⟨Ax, cx, rfl, -⟩ := hx.form
  have HX := Lib.hid hx
  have HB1 := Lib.hid hb1
  clear hx hb1
  go_wp2_with fail
  go_loopw [16] (fun i wr => ∃ k : Nat, k ≤ m ∧ i = .int .i64 k ∧ OwnK 4 67 wr W.heap.size (.slice Ax m cx) m (onP J k) ∧ Below W.heap.size W wr) (fun i _ => m - (intOf i).toNat)
  case atStart => exact ⟨0, Nat.zero_le _, rfl, by rw [onP_zero]; exact HX.out, HB1.out⟩
  case round =>
    obtain ⟨k, hk, rfl, hO, hB⟩ := hrel
    have HO := Lib.hid hO
    have HBr := Lib.hid hB
    clear hO hB
    by_cases hlt : k < m
    · obtain ⟨G, cG, ev, hcs, hfr1, hbG, hGl, hmc2, hP1, -⟩ := HO.out.put (k := k) (i := 3) hlt (by omega) 1
      injection ev with ev1 ev2 ev3
      subst ev1 ev3
      have g1 := hcs 3 (by omega)
      rw [onP_put] at hP1
      have HP1 := Lib.hid hP1
      clear hcs ev2 hP1
      go_wp2
      go_roundw
      case rel => exact ⟨k + 1, by omega, by go_num, HP1.out, HBr.out.setCell (p := ⟨G, k * 4 + 3, none⟩) hbG _⟩
      case measure => simp [intOf]; omega
    · have hkn : m = k := by omega
      subst hkn
      have HL := Lib.hid (HO.out.congr (fun k hk i _ => onP_all J hk i))
      obtain ⟨A0, c0, e0, -, hRz, -⟩ := HL.out.form
      injection e0 with e1 e2 e3
      subst e1 e3
      have HR := Lib.hid hRz
      clear hRz e2
      cases hok : okJ m (onJ J) with
      | false =>
        have HBad := Lib.hid hok
        clear hok
        go_wp2_with fail
        refine (most_bad Ax m cx (onJ J) _ HR.out Hm10.out HBad.out).use fun w2 hb2 => ?_
        have HB2 := Lib.hid (HBr.out.trans (hb2.mono HBr.out.size))
        have HR2 := Lib.hid (HR.out.keep hb2)
        clear hb2
        go_wp2_with fail
        refine (weigh_bad Ax m cx (onJ J) w2 HR2.out Hm10.out HBad.out).use fun w4 hb4 => ?_
        have HB4 := Lib.hid (HB2.out.trans (hb4.mono HB2.out.size))
        clear hb4
        go_wp2_with fail
        refine (awake_any w4).use fun w8 hb8 => ?_
        have HB8 := Lib.hid (HB4.out.trans (hb8.mono HB4.out.size))
        clear hb8
        go_wp2
        go_ret
        exact ⟨rfl, HB8.out⟩
      | true =>
        have HOk := Lib.hid hok
        have hn8 := (okJ_iff.1 hok).1.2
        have hct := on_ct hn8 (onJ J)
        clear hok hn8
        go_wp2_with fail
        refine (most_ok Ax m cx (onJ J) _ HR.out HOk.out).use fun w2 hb2 => ?_
        have HB2 := Lib.hid (HBr.out.trans (hb2.mono HBr.out.size))
        have HR2 := Lib.hid (HR.out.keep hb2)
        have HWg := Lib.hid (weigh_ok Ax m cx (onJ J) w2 HR2.out HOk.out)
        rw [on_same] at HWg
        generalize (hvF (wtS m (wtM (onJ J))) (fitB m (onJ J)) (2 ^ m)).1 = ra at *
        generalize (hvF (wtS m (wtM (onJ J))) (fitB m (onJ J)) (2 ^ m)).2 = rb at *
        obtain ⟨ha, rfl⟩ := hct
        clear hb2
        go_wp2_with fail
        refine (HWg.out).use fun w4 hb4 => ?_
        have HB4 := Lib.hid (HB2.out.trans (hb4.mono HB2.out.size))
        clear hb4 HWg
        go_wp2_with fail
        go_loopw [10, 11] (fun ct st wr => ∃ s : Nat, s < 256 ∧ st = .int .i64 s ∧ ct = .int .i64 ((pc8 ra : Int) - pc8 s) ∧ pc8 s ≤ pc8 ra ∧ w4 = wr) (fun _ st _ => (intOf st).toNat)
        case atStart => exact ⟨ra, ha, rfl, by rw [Int.sub_self], Nat.le_refl _, rfl⟩
        case round =>
          obtain ⟨s, hs, rfl, rfl, hle, rfl⟩ := hrel
          have hpa : pc8 ra ≤ 8 := by unfold pc8; omega
          by_cases hp : 0 < s
          · obtain ⟨h1, h2, h3⟩ := lwX_spec s hs hp
            have e1 : ((s - 1 : Nat) : Int) = (s : Int) - 1 := by omega
            rw [e1] at h1
            generalize lwX s = s' at *
            have HP3 := Lib.hid h3
            have HLe := Lib.hid hle
            have hps : pc8 s ≤ 8 := by omega
            clear h3 hle
            go_wp2
            go_roundw
            case rel => exact ⟨s', by omega, rfl, val_int (by have := HP3.out; have := HLe.out; omega), by have := HP3.out; have := HLe.out; omega, by first | rfl | trivial⟩
            case measure => simp [intOf]; omega
          · obtain rfl : s = 0 := by omega
            have e0 : ((pc8 ra : Int) - pc8 0) = pc8 ra := by simp [pc8]
            rw [e0]
            go_wp2_with fail
            refine (awake_any _).use fun w8 hb8 => ?_
            have HB8 := Lib.hid (HB4.out.trans (hb8.mono HB4.out.size))
            clear hb8
            go_wp2
            go_ret
            exact ⟨rfl, HB8.out⟩
end Go.Proofs.Ythbahfmcmbjglaa
