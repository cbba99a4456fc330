/- The reference's Fits. -/
import Derived.Test.YtbgekacfimgkeaaJd
import Derived.Test.YtbgekacfimgkeaaQh
namespace Go.Proofs.Ytbgekacfimgkeaa
open Go.RowKit

theorem bit_and (s j : Nat) : bits .and .i64 ((s : Int) / 2 ^ j) 1 = if btN s j = true then 1 else 0 := by
  have e : ((s : Int) / 2 ^ j) = ((s / 2 ^ j : Nat) : Int) := by push_cast; rfl
  rw [e, i64_and1]
  unfold btN
  rcases Nat.mod_two_eq_zero_or_one (s / 2 ^ j) with h | h
  · rw [if_neg (by simp [h])]
    omega
  · rw [if_pos (by simp [h])]
    omega
theorem bit_off : ∀ a, a < 8 → ∀ s, s < 256 → bits .andNot .i64 ((s : Nat) : Int) ((2 ^ a : Nat) : Int) = ((btX s a : Nat) : Int) := by decide +kernel
theorem pow_fit (a : Nat) (ha : a ≤ 8) : wrap64 (2 ^ a) = ((2 ^ a : Nat) : Int) := by
  have h := Nat.pow_le_pow_right (n := 2) (by omega) ha
  have e : (2 : Int) ^ a = ((2 ^ a : Nat) : Int) := by push_cast; rfl
  rw [e]
  generalize 2 ^ a = x at *
  unfold wrap64
  omega
/-- The first of a set that is due first. -/
def mnF (J : Nat → Nat → Int) (s : Nat) : Nat → Int := chF (fun k => if btN s k = true then 1 else 0) (fun _ => 0) (fun k => J k 2) 0
theorem avl_bt (s k : Nat) : avl (fun k => if btN s k = true then 1 else 0) (fun _ => 0) 0 k = btN s k := by
  unfold avl
  cases hb : btN s k <;> simp [hb]
theorem mnF_succ (J : Nat → Nat → Int) (s k : Nat) : mnF J s (k + 1) = if btN s k = true then (if mnF J s k < 0 ∨ J k 2 < J (mnF J s k).toNat 2 then (k : Int) else mnF J s k) else mnF J s k := by
  unfold mnF
  rw [chF, avl_bt]
theorem mnF_lo (J : Nat → Nat → Int) (s k : Nat) : -1 ≤ mnF J s k ∧ mnF J s k < k := chF_lo k
theorem mnF_spec (J : Nat → Nat → Int) (s n : Nat) : (mnF J s n = -1 ∧ ∀ k, k < n → btN s k = false) ∨ ∃ j : Nat, j < n ∧ mnF J s n = (j : Int) ∧ btN s j = true ∧ ∀ k, k < n → btN s k = true → J j 2 ≤ J k 2 := by
  rcases chF_spec (left := fun k => if btN s k = true then 1 else 0) (r := fun _ => 0) (rk := fun k => J k 2) (now := 0) n with ⟨e, h⟩ | ⟨j, h1, h2, h3, h4, -⟩
  · exact .inl ⟨e, fun k hk => by rw [← avl_bt]; exact h k hk⟩
  · refine .inr ⟨j, h1, h2, by rw [← avl_bt]; exact h3, fun k hk hb => h4 k hk (by rw [avl_bt]; exact hb)⟩

set_option maxHeartbeats 4000000 in
set_option maxRecDepth 1000000 in
theorem fits_any (A : Option Addr) (n c s0 : Nat) (J : Nat → Nat → Int) (w : World) (h : Recs 4 w A n J) (hok : okJ n J = true) (hs0 : s0 < 256) :
    Lr 60 #[.slice A n c, .int .i64 s0] w (.bool (fitB n J s0)) := by
  unfold Lr
  have H := Lib.hid h
  obtain ⟨⟨h1, h8⟩, hJ⟩ := okJ_iff.1 hok
  have HJ := Lib.hid hJ
  have HJ0 := Lib.hid (fun k (hk : k < n) => show 0 ≤ J k 0 by have := (hJ k hk).1; omega)
  have hct := ctS_le s0 n
  clear h hok hJ
  go_enter Try.func60, Try.ntmps60
  go_wp2
  go_loopw [1, 5, 11] (fun se no i wr => ∃ (k s : Nat) (now : Int), k ≤ n ∧ s < 256 ∧ i = .int .i64 k ∧ se = .int .i64 s ∧ no = .int .i64 now ∧ 0 ≤ now ∧ now ≤ 20 * k ∧ fitB n J s0 = fitG n J s now ∧ ctS s n ≤ n - k ∧ Below w.heap.size w wr) (fun _ _ i _ => n - (intOf i).toNat)
  case atStart => exact ⟨0, s0, 0, Nat.zero_le _, hs0, rfl, rfl, rfl, Int.le_refl _, by omega, rfl, by omega, Below.refl _ _⟩
  case round =>
    obtain ⟨k, s, now, hk, hs, rfl, rfl, rfl, hn0, hn1, hF, hct, hD⟩ := hrel
    have HF := Lib.hid hF
    have Hct := Lib.hid hct
    have HD := Lib.hid hD
    clear hF hct hD
    by_cases hlt : k < n
    · have hnow : now ≤ 160 := by omega
      go_wp2
      obtain ⟨W0, rfl⟩ : ∃ W0, W0 = wr := ⟨wr, rfl⟩
      go_loopw [6, 15] (fun at_ i wy => ∃ a : Nat, a ≤ n ∧ i = .int .i64 a ∧ at_ = .int .i64 (mnF J s a) ∧ Below w.heap.size w wy) (fun _ i _ => n - (intOf i).toNat)
      case atStart => exact ⟨0, Nat.zero_le _, rfl, rfl, HD.out⟩
      case round =>
        obtain ⟨a, ha, rfl, rfl, hD⟩ := hrel
        have HDa := Lib.hid hD
        by_cases hla : a < n
        · have hlo := mnF_lo J s a
          have HC := Lib.hid (mnF_succ J s a)
          obtain ⟨b, o, rfl, c0, c1, c2, c3⟩ := (H.out.keep hD).four hla
          have HD1 := Lib.hid (hD.alloc hD.size (.cells #[.int .i64 (J a 0), .int .i64 (J a 1), .int .i64 (J a 2), .int .i64 (J a 3)] 74))
          have HRk := Lib.hid (H.out.keep HD1.out)
          have hbit := bit_and s a
          have ha64 : a < 64 := by omega
          clear hD
          cases hb : btN s a with
          | false =>
            have HN := Lib.hid (show mnF J s (a + 1) = mnF J s a by rw [HC.out, hb]; rfl)
            rw [hb] at hbit
            simp only [Bool.false_eq_true, if_false] at hbit
            generalize mnF J s a = q at *
            clear HC hb
            go_wp2_with fail
            go_quiet (fail)
            go_wp2
            go_roundw
            case rel => exact ⟨a + 1, by omega, by go_num, by rw [HN.out], HD1.out.trans (((Dn.refl _).drewN _).below _)⟩
            case measure => simp [intOf]; omega
          | true =>
            have HN := Lib.hid (show mnF J s (a + 1) = if mnF J s a < 0 ∨ J a 2 < J (mnF J s a).toNat 2 then (a : Int) else mnF J s a by rw [HC.out, hb]; rfl)
            rw [hb] at hbit
            simp only [if_true] at hbit
            generalize mnF J s a = q at *
            clear HC hb
            rcases (show q < 0 ∨ 0 ≤ q by omega) with hq0 | hq0
            · have HN2 : Hid (mnF J s (a + 1) = (a : Int)) := Lib.hid (by rw [HN.out, if_pos (.inl hq0)])
              clear HN
              go_wp2_with fail
              go_quiet (fail)
              go_wp2
              go_roundw
              case rel => exact ⟨a + 1, by omega, by go_num, by rw [HN2.out], HD1.out.trans (((Dn.refl _).drewN _).below _)⟩
              case measure => simp [intOf]; omega
            · obtain ⟨z, rfl⟩ : ∃ z : Nat, q = (z : Int) := ⟨q.toNat, by omega⟩
              simp only [Int.toNat_natCast] at HN
              have hza : z < n := by omega
              obtain ⟨b2, o2, e2, c20, c21, c22, c23⟩ := HRk.out.four hza
              injection e2 with e2
              injection e2 with e3 e4
              subst e3 e4
              have hdn : decide ((z : Int) < 0) = false := decide_eq_false (by omega)
              by_cases hlt2 : J a 2 < J z 2
              · have HN2 : Hid (mnF J s (a + 1) = (a : Int)) := Lib.hid (by rw [HN.out, if_pos (.inr hlt2)])
                have hdl : decide (J a 2 < J z 2) = true := decide_eq_true hlt2
                clear HN hlt2
                go_wp2_with fail
                go_quiet (fail)
                go_wp2
                go_roundw
                case rel => exact ⟨a + 1, by omega, by go_num, by rw [HN2.out], HD1.out.trans (((Dn.refl _).drewN _).below _)⟩
                case measure => simp [intOf]; omega
              · have HN2 : Hid (mnF J s (a + 1) = (z : Int)) := Lib.hid (by rw [HN.out, if_neg (fun h => by rcases h with h | h; omega; exact hlt2 h)])
                have hdl : decide (J a 2 < J z 2) = false := decide_eq_false hlt2
                clear HN hlt2
                go_wp2_with fail
                go_quiet (fail)
                go_wp2
                go_roundw
                case rel => exact ⟨a + 1, by omega, by go_num, by rw [HN2.out], HD1.out.trans (((Dn.refl _).drewN _).below _)⟩
                case measure => simp [intOf]; omega
        · have hna : n = a := by omega
          subst hna
          rcases mnF_spec J s n with ⟨ec, hno⟩ | ⟨j, hj, ec, hbj, hmin⟩
          · have HT := Lib.hid (show fitB n J s0 = true by rw [HF.out]; exact fitG_none hno)
            rw [ec]
            clear ec hno hD
            go_wp2
            go_ret
            exact ⟨ret_bool HT.out.symm, HDa.out⟩
          · rw [ec]
            obtain ⟨b, o, rfl, c0, c1, c2, c3⟩ := (H.out.keep hD).four hj
            have hj8 : j < 8 := by omega
            have w1_ := pow_fit j (by omega)
            have w2_ := bit_off j hj8 s hs
            obtain ⟨⟨j1, j2⟩, -, ⟨j3, j4⟩, -⟩ := HJ.out j hj
            have HSt := Lib.hid (fitG_step (now := now) h8 hs HJ0.out hj hbj hmin)
            have HCt := Lib.hid (show ctS (btX s j) n ≤ n - (k + 1 : Nat) by have := ctS_out h8 hs hj hbj; have := Hct.out; omega)
            have hsx : btX s j < 256 := by have := btX_le s j; omega
            clear ec hbj hmin hD c1 c3
            generalize btX s j = s' at *
            generalize (2 : Nat) ^ j = pw at *
            by_cases hl : J j 2 < now + J j 0
            · have HT := Lib.hid (show fitB n J s0 = false by
                rw [HF.out]
                refine Bool.eq_false_iff.2 (fun h => ?_)
                have := (HSt.out.1 h).1
                omega)
              clear w1_ w2_
              go_wp2
              go_ret
              exact ⟨ret_bool HT.out.symm, HDa.out⟩
            · have HN := Lib.hid (show fitB n J s0 = fitG n J s' (now + J j 0) by
                rw [HF.out, Bool.eq_iff_iff, HSt.out]
                exact ⟨fun h => h.2, fun h => ⟨by omega, h⟩⟩)
              go_wp2
              go_roundw
              case rel => exact ⟨k + 1, s', now + J j 0, by omega, hsx, by go_num, rfl, rfl, by omega, by omega, HN.out, HCt.out, HDa.out⟩
              case measure => simp [intOf]; omega
    · have hkn : n = k := by omega
      subst hkn
      have HT := Lib.hid (show fitB n J s0 = true by rw [HF.out]; exact fitG_none (ctS_zero (by have := Hct.out; omega)))
      go_wp2
      go_ret
      exact ⟨ret_bool HT.out.symm, HD.out⟩
end Go.Proofs.Ytbgekacfimgkeaa
