/- Best: the first set that is ahead. -/
import Derived.Test.YtnobbklnnkpdfaaMg
import Derived.Test.YtnobbklnnkpdfaaShift
namespace Go.Proofs.Ytnobbklnnkpdfaa
open Go.RowKit

set_option maxHeartbeats 1000000 in
set_option maxRecDepth 1000000 in
theorem has_any (s x : Nat) (hx : x < 64) (w : World) : Calls Try.prog 77 #[.int .i64 s, .int .i64 x] w fun e w' => e = .returned (.bool (bitN s x)) ∧ w = w' := by
  have h2 : bits .and .i64 ((s : Int) / 2 ^ x) 1 = ((s / 2 ^ x % 2 : Nat) : Int) := by
    have e : ((s : Int) / 2 ^ x) = ((s / 2 ^ x : Nat) : Int) := by push_cast; rfl
    rw [e, i64_and1]
    omega
  have HU : Hid (bitN s x = decide (s / 2 ^ x % 2 = 1)) := Lib.hid rfl
  generalize s / 2 ^ x = y at *
  rcases Nat.mod_two_eq_zero_or_one y with h | h
  · have hq : (((y % 2 : Nat) : Int) == 1) = false := by rw [h]; rfl
    have HV : Hid (bitN s x = false) := Lib.hid (by rw [HU.out, h]; rfl)
    clear h
    go_enter Try.func77, Try.ntmps77
    go_wp2
    go_ret
    exact ⟨ret_bool (by rw [HV.out]; first | rfl | exact hq | (rw [h2]; exact hq)), rfl⟩
  · have hq : (((y % 2 : Nat) : Int) == 1) = true := by rw [h]; rfl
    have HV : Hid (bitN s x = true) := Lib.hid (by rw [HU.out, h]; rfl)
    clear h
    go_enter Try.func77, Try.ntmps77
    go_wp2
    go_ret
    exact ⟨ret_bool (by rw [HV.out]; first | rfl | exact hq | (rw [h2]; exact hq)), rfl⟩

set_option maxHeartbeats 1000000 in
set_option maxRecDepth 1000000 in
theorem ahead_any (A : Option Addr) (n cA c s : Nat) (T : Nat → Int) (hc : c ≤ 5) (w : World) :
    Lr 60 #[.agg (pollL A n cA c T).toArray, .int .i64 s] w (.bool (ahdB T c s)) := by
  have HP0 := Lib.hid (PollI.box w A n cA c T)
  have Hb0 := Lib.hid ((Below.refl w.heap.size w).alloc (Nat.le_refl _) (.cells (pollL A n cA c T).toArray 56))
  show Calls _ _ _ _ _
  go_enter Try.func60, Try.ntmps60
  have hc1 := HP0.out.c1
  go_wp2
  clear hc1
  generalize w.alloc (.cells (pollL A n cA c T).toArray 56) = X at *
  go_loopw [9] (fun i wr => ∃ a : Nat, a ≤ c ∧ i = .int .i64 a ∧ AllLt (fun a => allB (ahdP T s a) c) a ∧ X = wr) (fun i _ => c - (intOf i).toNat)
  case atStart => exact ⟨0, Nat.zero_le _, rfl, AllLt.zero, rfl⟩
  case round =>
    obtain ⟨a, ha, rfl, hA, rfl⟩ := hrel
    have HA := Lib.hid hA
    clear hA
    by_cases hlt : a < c
    · have hc1 := HP0.out.c1
      go_wp2
      clear hc1
      go_loopw [14] (fun i wx => ∃ b : Nat, b ≤ c ∧ i = .int .i64 b ∧ AllLt (ahdP T s a) b ∧ X = wx) (fun i _ => c - (intOf i).toNat)
      case atStart => exact ⟨0, Nat.zero_le _, rfl, AllLt.zero, rfl⟩
      case round =>
        obtain ⟨b, hb, rfl, hA, rfl⟩ := hrel
        have HAb := Lib.hid hA
        clear hA
        by_cases hlb : b < c
        · have ha5 : a < 5 := by omega
          have hb5 : b < 5 := by omega
          have hx := HP0.out.at2 ha5 hb5
          have HU : Hid (ahdP T s a b = !(bitN s a && (!bitN s b && decide (T (5 * a + b) ≤ 0)))) := Lib.hid rfl
          generalize T (5 * a + b) = M at *
          have HH1 := Lib.hid (has_any s a (by omega) X)
          have HH2 := Lib.hid (has_any s b (by omega) X)
          cases h1 : bitN s a with
          | false =>
            have HN := Lib.hid (HAb.out.succ (by rw [HU.out, h1]; rfl))
            rw [h1] at HH1
            clear h1
            go_wp2_with (go_at_call 77; refine HH1.out.mono ?_; rintro e w3 ⟨rfl, rfl⟩)
            go_roundw
            case rel => exact ⟨b + 1, by omega, by go_num, HN.out, (by first | trivial | rfl)⟩
            case measure => simp [intOf]; omega
          | true =>
            rw [h1] at HH1
            cases h2 : bitN s b with
            | true =>
              have HN := Lib.hid (HAb.out.succ (by rw [HU.out, h1, h2]; rfl))
              rw [h2] at HH2
              clear h1 h2
              go_wp2_with (go_at_call 77; first | (refine HH1.out.mono ?_; clear HH1; rintro e w3 ⟨rfl, rfl⟩) | (refine HH2.out.mono ?_; clear HH2; rintro e w3 ⟨rfl, rfl⟩))
              go_roundw
              case rel => exact ⟨b + 1, by omega, by go_num, HN.out, (by first | trivial | rfl)⟩
              case measure => simp [intOf]; omega
            | false =>
              rw [h2] at HH2
              rcases Int.lt_or_le 0 M with hm | hm
              · have HN := Lib.hid (HAb.out.succ (by rw [HU.out, h1, h2, decide_eq_false (by omega)]; rfl))
                clear h1 h2
                go_wp2_with (go_at_call 77; first | (refine HH1.out.mono ?_; clear HH1; rintro e w3 ⟨rfl, rfl⟩) | (refine HH2.out.mono ?_; clear HH2; rintro e w3 ⟨rfl, rfl⟩))
                go_roundw
                case rel => exact ⟨b + 1, by omega, by go_num, HN.out, (by first | trivial | rfl)⟩
                case measure => simp [intOf]; omega
              · have HF := Lib.hid (allB_f (p := ahdP T s a) hlb (by rw [HU.out, h1, h2, decide_eq_true hm]; rfl))
                have HF2 := Lib.hid (allB_f (p := fun a => allB (ahdP T s a) c) hlt HF.out)
                clear h1 h2
                go_wp2_with (go_at_call 77; first | (refine HH1.out.mono ?_; clear HH1; rintro e w3 ⟨rfl, rfl⟩) | (refine HH2.out.mono ?_; clear HH2; rintro e w3 ⟨rfl, rfl⟩))
                go_ret
                exact ⟨ret_bool (by unfold ahdB; rw [HF2.out]), Hb0.out⟩
        · obtain rfl : b = c := by omega
          have HN := Lib.hid (HA.out.succ (show (fun a => allB (ahdP T s a) b) a = true from allB_t HAb.out))
          go_wp2
          go_roundw
          case rel => exact ⟨a + 1, by omega, by go_num, HN.out, (by first | trivial | rfl)⟩
          case measure => simp [intOf]; omega
    · obtain rfl : a = c := by omega
      go_wp2
      go_ret
      exact ⟨ret_bool (by unfold ahdB; rw [allB_t HA.out]), Hb0.out⟩

set_option maxHeartbeats 1000000 in
set_option maxRecDepth 1000000 in
theorem Best_ok (A : Option Addr) (n cA s0 : Nat) (L : Nat → Nat) (v : Nat → Nat → Int) (w : World) (h : RowsK w A n L v) (hok : okBal n L v = true) (hA : n ≤ cA) (hs : IsBst (mAll v (L 0) n) (L 0) s0) :
    Lr 31 #[.slice A n cA] w (.tuple #[.int .i64 s0, .int .i64 0]) := by
  obtain ⟨-, ⟨hc1, hc5⟩, -⟩ := okBal_iff.1 hok
  have HC := Lib.hid (count_ok A n cA L v w h hok hA)
  have HS := Lib.hid hs
  have hs0 : s0 ≤ 31 := by
    have h1 := hs.le
    have h2 : 2 ^ L 0 ≤ 2 ^ 5 := Nat.pow_le_pow_right (by omega) hc5
    omega
  have hs1 := hs.pos
  clear h hok hs
  generalize mAll v (L 0) n = T at *
  generalize L 0 = c at *
  show Calls _ _ _ _ _
  go_enter Try.func31, Try.ntmps31
  go_wp2_with fail
  refine HC.out.mono ?_
  rintro e w2 ⟨rfl, hb2⟩
  have HZ2 := Lib.hid (PollI.zero w2)
  have Hb3 := Lib.hid (hb2.trans ((zero_below w2).mono hb2.size))
  have hsz := hb2.size
  clear hb2 HC
  go_wp2_with fail
  rw [run_storePoll _ _ _ A n cA c T HZ2.out]
  simp only [Result.andThen_ok]
  rw [Oper.upon_skip]
  have HR := Lib.hid (PollI.stored (A := A) (n := n) (cA := cA) (c := c) (T := T) HZ2.out)
  have HB := Lib.hid (below_setCells (pollL A n cA c T) 0 hsz Hb3.out)
  clear HZ2 Hb3 hsz
  generalize World.setCells _ w2.heap.size 0 (pollL A n cA c T) = W3 at *
  generalize w2.heap.size = G at *
  go_wp2
  go_loopw [6] (fun i wr => ∃ t : Nat, 1 ≤ t ∧ t ≤ s0 ∧ i = .int .i64 t ∧ PollI wr G A n cA c T ∧ Below w.heap.size w wr) (fun i _ => s0 - (intOf i).toNat)
  case atStart => exact ⟨1, Nat.le_refl _, hs1, rfl, HR.out, HB.out⟩
  case round =>
    obtain ⟨t, ht1, ht, rfl, hP, hB⟩ := hrel
    have HPa := Lib.hid hP
    have HBa := Lib.hid hB
    clear hP hB HR HB
    have HH := Lib.hid (ahead_any A n cA c t T hc5 wr)
    go_wp2_with (first
      | (refine wpList_load_mid rfl 56 _ rfl G 0 rfl (pollL A n cA c T) _ HPa.out.range Try.underlying56 rfl (by rw [pollL_len]; exact infoPoll) ?_)
      | fail)
    refine Lr.use HH.out ?_
    intro w5 hb5
    have HP5 := Lib.hid (HPa.out.keep hb5)
    have HB5 := Lib.hid (HBa.out.trans (hb5.mono HBa.out.size))
    clear hb5 HH
    rcases Nat.lt_or_ge t s0 with hl | hl
    · rw [HS.out.no t ht1 hl]
      go_wp2
      go_roundw
      case rel => exact ⟨t + 1, by omega, by omega, by go_num, HP5.out, HB5.out⟩
      case measure => simp [intOf]; omega
    · obtain rfl : t = s0 := by omega
      rw [HS.out.hd]
      go_wp2
      go_ret2
      exact ⟨rfl, HB5.out⟩
end Go.Proofs.Ytnobbklnnkpdfaa
