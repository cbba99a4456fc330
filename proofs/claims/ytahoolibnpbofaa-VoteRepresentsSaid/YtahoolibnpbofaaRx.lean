/- The reference's Best. -/
import Derived.Test.YtahoolibnpbofaaRq
import Derived.IntWalk
namespace Go.Proofs.Ytahoolibnpbofaa
open Go.RowKit

theorem bit_one (s x : Nat) : (bits .and .i64 ((s : Int) / 2 ^ x) 1 == 1) = bitN s x := by
  have h2 : bits .and .i64 ((s : Int) / 2 ^ x) 1 = ((s / 2 ^ x % 2 : Nat) : Int) := by
    have e : ((s : Int) / 2 ^ x) = ((s / 2 ^ x : Nat) : Int) := by push_cast; rfl
    rw [e, i64_and1]
    omega
  rw [h2]
  unfold bitN
  generalize s / 2 ^ x % 2 = z
  rw [Bool.eq_iff_iff]
  simp
  omega
theorem bit_nil (s x : Nat) : (bits .and .i64 ((s : Int) / 2 ^ x) 1 == 0) = !bitN s x := by
  have h2 : bits .and .i64 ((s : Int) / 2 ^ x) 1 = ((s / 2 ^ x % 2 : Nat) : Int) := by
    have e : ((s : Int) / 2 ^ x) = ((s / 2 ^ x : Nat) : Int) := by push_cast; rfl
    rw [e, i64_and1]
    omega
  rw [h2]
  unfold bitN
  rcases Nat.mod_two_eq_zero_or_one (s / 2 ^ x) with h | h <;> rw [h] <;> rfl
theorem pow_wrap (c : Nat) (hc : c ≤ 9) : wrap64 ((2 : Int) ^ c) = ((2 ^ c : Nat) : Int) := by
  have hM : 2 ^ c ≤ 512 := by
    have : 2 ^ c ≤ 2 ^ 9 := Nat.pow_le_pow_right (by omega) hc
    omega
  have e : ((2 ^ c : Nat) : Int) = (2 : Int) ^ c := by push_cast; rfl
  rw [← e]
  generalize 2 ^ c = M at hM
  exact IntWalk.wrap64_in _ ⟨by omega, by omega⟩

set_option maxHeartbeats 2000000 in
set_option maxRecDepth 1000000 in
theorem rBest_any (A : Option Addr) (n cA s0 : Nat) (L : Nat → Nat) (v : Nat → Nat → Int) (T : Nat → Int) (w : World) (h : ArgR w A n cA L v) (hok : okBal n L v = true) (hT : ∀ a b, a < L 0 → b < L 0 → mrg v (L 0) a b n = T (5 * a + b)) (hAn : Anti T (L 0)) (hs : IsBst T (L 0) s0) :
    Ro 20 #[.slice A n cA] w (.int .i64 s0) := by
  refine Ro.of ?_
  obtain ⟨⟨hn1, hn9⟩, ⟨hc1, hc5⟩, hO⟩ := okBal_iff.1 hok
  have HMg : Hid (∀ (w' : World) (a b : Nat), Dn w w' → a < L 0 → b < L 0 → Ro 45 #[.slice A n cA, .int .i64 a, .int .i64 b] w' (.int .i64 (T (5 * a + b)))) := Lib.hid (fun w' a b hd ha hb => by
    rw [← hT a b ha hb]
    exact margin_any A n cA (L 0) a b L v w' (h.below (hd.below _)) hn9 (fun i hi => (hO i hi).1))
  obtain ⟨b0, o0, A0, c0, rfl, hcl, -⟩ := h.at (show 0 < n by omega)
  have hcl' : w.cell? ⟨b0, o0, none⟩ = some (.slice A0 (L 0) c0) := hcl
  clear h hok hO hcl hT
  generalize L 0 = c at *
  have hpw := pow_wrap c (by omega)
  have HS := Lib.hid hs
  have HAn := Lib.hid hAn
  have HLt : Hid (∀ t, s0 < t → t < 2 ^ c → ahdB T c t = true → pcN s0 ≤ pcN t) := Lib.hid (fun t h1 h2 h3 => bst_size hc5 hAn hs h3 h1 h2)
  have HEq : Hid (s0 ≠ 2 ^ c - 1 → pcN s0 < pcN (2 ^ c - 1)) := Lib.hid (fun h => bst_lt hc5 hs h)
  have hle := hs.le
  have hpos := hs.pos
  have hM : 2 ^ c ≤ 32 := by
    have : 2 ^ c ≤ 2 ^ 5 := Nat.pow_le_pow_right (by omega) hc5
    omega
  have hM2 : 2 ≤ 2 ^ c := by
    have : 2 ^ 1 ≤ 2 ^ c := Nat.pow_le_pow_right (by omega) hc1
    omega
  clear hs hAn
  generalize hMc : 2 ^ c = M at *
  clear hMc
  go_enter Try.func20, Try.ntmps20
  go_wp2
  clear hcl'
  have HPw := Lib.hid hpw
  clear hpw
  have HBst : Hid (∀ t bs : Nat, 1 ≤ t → t < M → bs = (if t ≤ s0 then M - 1 else s0) → ∀ ok : Bool, ok = ahdB T c t → (if ok && decide (pcN t < pcN bs) then t else bs) = (if t + 1 ≤ s0 then M - 1 else s0)) := Lib.hid (fun t bs h1 h2 hbs ok hok' => by
    rcases Nat.lt_trichotomy t s0 with hl | rfl | hl
    · rw [hok', HS.out.no t h1 hl, Bool.false_and, if_neg (by simp), hbs, if_pos (by omega), if_pos (by omega)]
    · rw [hok', HS.out.hd, Bool.true_and, hbs, if_pos (Nat.le_refl _), if_neg (show ¬ t + 1 ≤ t by omega)]
      by_cases he : t = M - 1
      · split <;> omega
      · rw [if_pos (by simpa using HEq.out he)]
    · rw [hbs, if_neg (show ¬ t ≤ s0 by omega), if_neg (show ¬ t + 1 ≤ s0 by omega)]
      cases ok with
      | false => simp
      | true =>
        have := HLt.out t hl h2 hok'.symm
        rw [if_neg (by simp; omega)])
  go_loopw [4, 5] (fun x y wr => ∃ bs t : Nat, x = .int .i64 bs ∧ y = .int .i64 t ∧ 1 ≤ t ∧ t ≤ M ∧ bs < 512 ∧ bs = (if t ≤ s0 then M - 1 else s0) ∧ Dn w wr) (fun _ y _ => M - (intOf y).toNat)
  case atStart => exact ⟨M - 1, 1, by go_num, rfl, Nat.le_refl _, by omega, by omega, by rw [if_pos hpos], Dn.refl _⟩
  case round =>
    obtain ⟨bs, t, rfl, rfl, ht1, ht, hbs9, hbs, hD⟩ := hrel
    have HBs := Lib.hid hbs
    have HD := Lib.hid hD
    clear hbs hD
    have hpw := HPw.out
    by_cases hlt : t < M
    · obtain ⟨X, rfl⟩ : ∃ X, X = wr := ⟨wr, rfl⟩
      go_wp2
      clear hpw
      go_loopw [6, 23] (fun x y wx => ∃ a : Nat, a ≤ c ∧ y = .int .i64 a ∧ x = .bool (allB (fun a => allB (ahdP T t a) c) a) ∧ Dn X wx) (fun _ y _ => c - (intOf y).toNat)
      case atStart => exact ⟨0, Nat.zero_le _, rfl, rfl, Dn.refl _⟩
      case round =>
        obtain ⟨a, ha, rfl, rfl, hD⟩ := hrel
        have HDa := Lib.hid hD
        clear hD
        by_cases hla : a < c
        · obtain ⟨Y, rfl⟩ : ∃ Y, Y = wr := ⟨wr, rfl⟩
          have HN : Hid (allB (fun a => allB (ahdP T t a) c) (a + 1) = (allB (fun a => allB (ahdP T t a) c) a && allB (ahdP T t a) c)) := Lib.hid rfl
          generalize allB (fun a => allB (ahdP T t a) c) a = okA at *
          go_wp2
          go_loopw [6, 27] (fun x y wx => ∃ b : Nat, b ≤ c ∧ y = .int .i64 b ∧ x = .bool (okA && allB (ahdP T t a) b) ∧ Dn Y wx) (fun _ y _ => c - (intOf y).toNat)
          case atStart => exact ⟨0, Nat.zero_le _, rfl, by simp [allB], Dn.refl _⟩
          case round =>
            obtain ⟨b, hb, rfl, rfl, hD⟩ := hrel
            have HDb := Lib.hid hD
            clear hD
            by_cases hlb : b < c
            · have HNb : Hid ((okA && allB (ahdP T t a) (b + 1)) = ((okA && allB (ahdP T t a) b) && ahdP T t a b)) := Lib.hid (by simp only [allB, Bool.and_assoc])
              generalize (okA && allB (ahdP T t a) b) = okB at *
              have HU : Hid (ahdP T t a b = !(bitN t a && (!bitN t b && decide (T (5 * a + b) ≤ 0)))) := Lib.hid rfl
              have e1 := bit_one t a
              have e2 := bit_nil t b
              have HMc := Lib.hid (HMg.out wr a b ((HD.out.trans HDa.out).trans HDb.out) hla hlb)
              generalize T (5 * a + b) = m at *
              cases h1 : bitN t a with
              | false =>
                have HV : Hid (ahdP T t a b = true) := Lib.hid (by rw [HU.out, h1]; rfl)
                rw [h1] at e1
                clear h1 HU e2
                go_wp2
                go_roundw
                case rel => exact ⟨b + 1, by omega, by go_num, by rw [HNb.out, HV.out, Bool.and_true], HDb.out⟩
                case measure => simp [intOf]; omega
              | true =>
                rw [h1] at e1
                cases h2 : bitN t b with
                | true =>
                  have HV : Hid (ahdP T t a b = true) := Lib.hid (by rw [HU.out, h1, h2]; rfl)
                  rw [h2] at e2
                  have e2' : (bits .and .i64 ((t : Int) / 2 ^ b) 1 == 0) = false := e2
                  clear h1 h2 HU e2
                  go_wp2
                  go_roundw
                  case rel => exact ⟨b + 1, by omega, by go_num, by rw [HNb.out, HV.out, Bool.and_true], HDb.out⟩
                  case measure => simp [intOf]; omega
                | false =>
                  rw [h2] at e2
                  have e2' : (bits .and .i64 ((t : Int) / 2 ^ b) 1 == 0) = true := e2
                  clear e2
                  rcases Int.lt_or_le 0 m with hm | hm
                  · have HV : Hid (ahdP T t a b = true) := Lib.hid (by rw [HU.out, h1, h2, decide_eq_false (by omega)]; rfl)
                    clear h1 h2 HU
                    go_wp2_with fail
                    refine Ro.use HMc.out ?_
                    intro w4 hd4
                    have HD4 := Lib.hid (HDb.out.trans hd4)
                    clear hd4
                    go_wp2
                    go_roundw
                    case rel => exact ⟨b + 1, by omega, by go_num, by rw [HNb.out, HV.out, Bool.and_true], HD4.out⟩
                    case measure => simp [intOf]; omega
                  · have HV : Hid (ahdP T t a b = false) := Lib.hid (by rw [HU.out, h1, h2, decide_eq_true hm]; rfl)
                    clear h1 h2 HU
                    go_wp2_with fail
                    refine Ro.use HMc.out ?_
                    intro w4 hd4
                    have HD4 := Lib.hid (HDb.out.trans hd4)
                    clear hd4
                    go_wp2
                    go_roundw
                    case rel => exact ⟨b + 1, by omega, by go_num, by rw [HNb.out, HV.out, Bool.and_false], HD4.out⟩
                    case measure => simp [intOf]; omega
            · have hbc : b = c := by omega
              rw [hbc]
              clear hbc hlb hb
              go_wp2
              go_roundw
              case rel => exact ⟨a + 1, by omega, by go_num, by rw [HN.out], HDa.out.trans HDb.out⟩
              case measure => simp [intOf]; omega
        · have hac : a = c := by omega
          rw [hac]
          clear hac hla ha
          have HUp : Hid (∀ ok : Bool, ok = ahdB T c t → (if ok && decide (pcN t < pcN bs) then t else bs) = (if t + 1 ≤ s0 then M - 1 else s0)) := Lib.hid (HBst.out t bs ht1 hlt HBs.out)
          have HUa : Hid (allB (fun a => allB (ahdP T t a) c) c = ahdB T c t) := Lib.hid rfl
          have ht9 : t < 512 := by omega
          have HS1 := Lib.hid (size_any t ht9 wr)
          have HS2 := Lib.hid (size_any bs hbs9 wr)
          generalize allB (fun a => allB (ahdP T t a) c) c = ok at *
          have HW := Lib.hid (HD.out.trans HDa.out)
          cases ok with
          | false =>
            have HR := Lib.hid (HUp.out false HUa.out)
            go_wp2
            go_roundw
            case rel => exact ⟨bs, t + 1, rfl, by go_num, by omega, by omega, hbs9, by have := HR.out; simpa using this, HW.out⟩
            case measure => simp [intOf]; omega
          | true =>
            have HR := Lib.hid (HUp.out true HUa.out)
            generalize pcN t = p1 at *
            generalize pcN bs = p2 at *
            rcases Nat.lt_or_ge p1 p2 with hp | hp
            · have HR2 : Hid (t = (if t + 1 ≤ s0 then M - 1 else s0)) := Lib.hid (by
                have h9 := HR.out
                rw [Bool.true_and, decide_eq_true hp] at h9
                simpa using h9)
              go_wp2_with (go_at_call 46; first | (refine HS1.out.mono ?_; clear HS1; rintro e w3 ⟨rfl, rfl⟩) | (refine HS2.out.mono ?_; clear HS2; rintro e w3 ⟨rfl, rfl⟩))
              go_roundw
              case rel => exact ⟨t, t + 1, rfl, by go_num, by omega, by omega, ht9, HR2.out, HW.out⟩
              case measure => simp [intOf]; omega
            · have HR2 : Hid (bs = (if t + 1 ≤ s0 then M - 1 else s0)) := Lib.hid (by
                have h9 := HR.out
                rw [Bool.true_and, decide_eq_false (by omega)] at h9
                simpa using h9)
              go_wp2_with (go_at_call 46; first | (refine HS1.out.mono ?_; clear HS1; rintro e w3 ⟨rfl, rfl⟩) | (refine HS2.out.mono ?_; clear HS2; rintro e w3 ⟨rfl, rfl⟩))
              go_roundw
              case rel => exact ⟨bs, t + 1, rfl, by go_num, by omega, by omega, hbs9, HR2.out, HW.out⟩
              case measure => simp [intOf]; omega
    · have HR : Hid (bs = s0) := Lib.hid (by rw [HBs.out, if_neg (by omega)])
      go_wp2
      go_ret
      exact ⟨ret_int (by rw [HR.out]), HD.out⟩
end Go.Proofs.Ytahoolibnpbofaa
