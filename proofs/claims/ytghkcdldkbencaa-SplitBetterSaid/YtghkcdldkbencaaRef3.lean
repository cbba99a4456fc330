import Derived.Test.YtghkcdldkbencaaRef2
namespace Go.Proofs.Ytghkcdldkbencaa
open Go.RowKit

/-- The greatest worth of a good of somebody else, of the first k; 0 if there is none. -/
def bestTo (f d : Nat → Int) (i : Int) : Nat → Int
  | 0 => 0
  | k + 1 => if d k = i then bestTo f d i k else max (bestTo f d i k) (f k)
theorem bestTo_yes {f d : Nat → Int} {i : Int} {k : Nat} (h : d k = i) : bestTo f d i (k + 1) = bestTo f d i k := by simp [bestTo, h]
theorem bestTo_no1 {f d : Nat → Int} {i : Int} {k : Nat} (h : ¬ d k = i) (h1 : bestTo f d i k ≤ f k) : bestTo f d i (k + 1) = f k := by
  simp only [bestTo, h, if_false]; omega
theorem bestTo_no2 {f d : Nat → Int} {i : Int} {k : Nat} (h : ¬ d k = i) (h1 : f k < bestTo f d i k) : bestTo f d i (k + 1) = bestTo f d i k := by
  simp only [bestTo, h, if_false]; omega
theorem bestTo_bd {m : Nat} {f : Nat → Int} {u : Int} (hu : 0 ≤ u) (h : Bd m f u) (d : Nat → Int) (i : Int) (k : Nat) (hk : k ≤ m) : 0 ≤ bestTo f d i k ∧ bestTo f d i k ≤ u := by
  induction k with
  | zero => simp [bestTo, hu]
  | succ k ih =>
    have h1 := ih (by omega)
    have h2 := h k (by omega)
    by_cases e : d k = i
    · rw [bestTo_yes e]; exact h1
    · rcases Int.lt_or_le (f k) (bestTo f d i k) with hl | hl
      · rw [bestTo_no2 e hl]; exact h1
      · rw [bestTo_no1 e hl]; exact h2
theorem bestTo_ge {f d : Nat → Int} {i : Int} {k g : Nat} (hg : g < k) (h : ¬ d g = i) : f g ≤ bestTo f d i k := by
  induction k with
  | zero => omega
  | succ k ih =>
    by_cases e : d k = i
    · rw [bestTo_yes e]
      exact ih (by
        rcases Nat.lt_or_ge g k with hl | hl
        · exact hl
        · obtain rfl : g = k := by omega
          exact absurd e h)
    · simp only [bestTo, e, if_false]
      rcases Nat.lt_or_ge g k with hl | hl
      · have := ih hl; omega
      · obtain rfl : g = k := by omega
        omega
theorem bestTo_is {f d : Nat → Int} {i : Int} {k : Nat} : bestTo f d i k = 0 ∨ ∃ g, g < k ∧ ¬ d g = i ∧ f g = bestTo f d i k := by
  induction k with
  | zero => exact .inl rfl
  | succ k ih =>
    by_cases e : d k = i
    · rw [bestTo_yes e]
      rcases ih with h | ⟨g, h1, h2, h3⟩
      · exact .inl h
      · exact .inr ⟨g, by omega, h2, h3⟩
    · rcases Int.lt_or_le (f k) (bestTo f d i k) with hl | hl
      · rw [bestTo_no2 e hl]
        rcases ih with h | ⟨g, h1, h2, h3⟩
        · exact .inl h
        · exact .inr ⟨g, by omega, h2, h3⟩
      · rw [bestTo_no1 e hl]
        exact .inr ⟨k, by omega, e, rfl⟩
theorem best_spec {n m : Nat} {f d : Nat → Int} {i : Int} {u : Int} (hb : Bd m f u) (hu : 0 ≤ u) :
    (enoughB n m f d i || anyB (oneP n m f d i) m) = true ↔ sumTo f m ≤ n * (wTo f d i m + bestTo f d i m) := by
  have h0 := (bestTo_bd hu hb d i m (Nat.le_refl _)).1
  rw [Bool.or_eq_true, anyB_iff]
  simp only [enoughB, oneP, decide_eq_true_eq]
  constructor
  · rintro (h | ⟨g, h1, h2, h3⟩)
    · have : (n : Int) * wTo f d i m ≤ n * (wTo f d i m + bestTo f d i m) := Int.mul_le_mul_of_nonneg_left (by omega) (by omega)
      omega
    · have h4 := bestTo_ge (f := f) h1 h2
      have : (n : Int) * (wTo f d i m + f g) ≤ n * (wTo f d i m + bestTo f d i m) := Int.mul_le_mul_of_nonneg_left (by omega) (by omega)
      omega
  · intro h
    rcases bestTo_is (f := f) (d := d) (i := i) (k := m) with h1 | ⟨g, h1, h2, h3⟩
    · left; rw [h1, Int.add_zero] at h; exact h
    · right; exact ⟨g, h1, h2, by rw [h3]; exact h⟩

set_option maxHeartbeats 2000000 in
set_option maxRecDepth 1000000 in
theorem rfair_low (A D : Option Addr) (n m c c' : Nat) (v : Nat → Nat → Int) (d : Nat → Int) (kind : Int) (w : World) (h : Mat w A n m v) (hd : Ints w D m d) (hb : BdM n m v 100000) (hm : m ≤ 9) (hn : n ≤ 9) (hk0 : 0 ≤ kind) (hk3 : kind < 3) :
    Ro 23 #[.slice A n c, .slice D m c', .int .i64 kind] w (.bool (fairAll n m v d kind)) := by
  refine Ro.of ?_
  have HM := Lib.hid h
  have HD := Lib.hid hd
  have HB := Lib.hid hb
  have HF : Hid (∀ i, fairToB n m v d kind i = !anyB (badP m v d i kind) n) := Lib.hid (fun i => by simp only [fairToB]; rw [if_neg (by omega), if_neg (by omega)])
  clear h hd hb
  go_enter Try.func23, Try.ntmps23
  go_wp2
  go_loopw [16] (fun x wr => ∃ k : Nat, k ≤ n ∧ x = .int .i64 k ∧ AllLt (fairToB n m v d kind) k ∧ Dn w wr) (fun x _ => n - (intOf x).toNat)
  case atStart => exact ⟨0, Nat.zero_le _, rfl, AllLt.zero, Dn.refl _⟩
  case round =>
    obtain ⟨i, hk, rfl, hA, hDn⟩ := hrel
    by_cases hlt : i < n
    · go_wp2
      obtain ⟨wo, hwo⟩ : ∃ wo : World, wo = wr := ⟨_, rfl⟩
      have HWo := Lib.hid hwo
      clear hwo
      go_loopw [23] (fun x wi => ∃ k : Nat, k ≤ n ∧ x = .int .i64 k ∧ NoneLt (badP m v d i kind) k ∧ Dn w wi) (fun x _ => n - (intOf x).toNat)
      case atStart => exact ⟨0, Nat.zero_le _, rfl, NoneLt.zero, hDn⟩
      case round =>
        obtain ⟨k, hk2, rfl, hN, hDi⟩ := hrel
        by_cases hlt2 : k < n
        · go_wp2_with fail
          refine (renvies_any _ _ n m _ _ v d i k _ (HM.out.dn hDi) (HD.out.dn hDi) HB.out hm hlt hn).mono ?_
          rintro e w' ⟨rfl, rfl⟩
          cases he : envB m v d i k with
          | false =>
            have HE : Hid (badP m v d i kind k = false) := Lib.hid (by simp [badP, he])
            clear he
            go_wp2
            go_roundw
            case rel => exact ⟨k + 1, by omega, by go_num, hN.succ HE.out, hDi⟩
            case measure => simp [intOf]; omega
          | true =>
            have HE := Lib.hid he
            clear he
            go_wp2_with fail
            refine Ro.use (reased_any _ _ n m _ _ v d i k kind _ (HM.out.dn hDi) (HD.out.dn hDi) HB.out hm hlt hn) ?_
            intro w2 hD2
            cases hx : excB m (v i) d i k kind with
            | true =>
              have HX : Hid (badP m v d i kind k = false) := Lib.hid (by simp [badP, hx])
              clear hx
              go_wp2
              go_roundw
              case rel => exact ⟨k + 1, by omega, by go_num, hN.succ HX.out, hDi.trans hD2⟩
              case measure => simp [intOf]; omega
            | false =>
              have HX : Hid (badP m v d i kind k = true) := Lib.hid (by simp [badP, hx, HE.out])
              clear hx
              go_wp2
              go_ret
              exact ⟨ret_bool (show false = fairAll n m v d kind from (allB_f hlt (by rw [HF.out, anyB_t hlt2 HX.out]; rfl)).symm), hDi.trans hD2⟩
        · obtain rfl : k = n := by omega
          go_wp2
          go_roundw
          case rel => exact ⟨i + 1, by omega, by go_num, hA.succ (by rw [HF.out, anyB_f hN]; rfl), hDi⟩
          case measure => simp [intOf]; omega
    · obtain rfl : i = n := by omega
      go_wp2
      go_ret
      exact ⟨ret_bool (show true = fairAll i m v d kind from (allB_t hA).symm), hDn⟩

set_option maxHeartbeats 2000000 in
set_option maxRecDepth 1000000 in
theorem rfair_high (A D : Option Addr) (n m c c' : Nat) (v : Nat → Nat → Int) (d : Nat → Int) (kind : Int) (w : World) (h : Mat w A n m v) (hd : Ints w D m d) (hb : BdM n m v 100000) (hm : m ≤ 9) (hn : n ≤ 9) (hk3 : kind = 3 ∨ kind = 4) :
    Ro 23 #[.slice A n c, .slice D m c', .int .i64 kind] w (.bool (fairAll n m v d kind)) := by
  refine Ro.same ?_
  have HM := Lib.hid h
  have HD := Lib.hid hd
  have HB := Lib.hid hb
  have HK := Lib.hid hk3
  have hk : 3 ≤ kind := by omega
  clear h hd hb hk3
  go_enter Try.func23, Try.ntmps23
  go_wp2
  go_loop [16] (fun x => ∃ k : Nat, k ≤ n ∧ x = .int .i64 k ∧ AllLt (fairToB n m v d kind) k) (fun x => n - (intOf x).toNat)
  case atStart => exact ⟨0, Nat.zero_le _, rfl, AllLt.zero⟩
  case round =>
    obtain ⟨i, hk', rfl, hA⟩ := hrel
    by_cases hlt : i < n
    · obtain ⟨b, o, R, cR, rfl, hc, hR⟩ := HM.out.at hlt
      have HRi := Lib.hid hR
      obtain ⟨b1, b2⟩ := wTo_bd (HB.out i hlt) d i m (Nat.le_refl _)
      obtain ⟨b3, b4⟩ := sumTo_bd (HB.out i hlt) m (Nat.le_refl _)
      clear hR
      go_wp2_with fail
      refine (rworth_any _ _ n m _ _ v d i i _ HM.out HD.out HB.out hm hlt hn).mono ?_
      rintro e w' ⟨rfl, rfl⟩
      go_wp2
      go_loop [10, 11, 51] (fun s t x => ∃ k : Nat, k ≤ m ∧ x = .int .i64 k ∧ s = .int .i64 (sumTo (v i) k) ∧ t = .int .i64 (bestTo (v i) d i k)) (fun _ _ x => m - (intOf x).toNat)
      case atStart => exact ⟨0, Nat.zero_le _, rfl, rfl, rfl⟩
      case round =>
        obtain ⟨k, hk2, rfl, rfl, rfl⟩ := hrel
        by_cases hlt2 : k < m
        · obtain ⟨b', o', rfl, hc'⟩ := HRi.out.at hlt2
          obtain ⟨bd, od, rfl, hcd⟩ := HD.out.at hlt2
          obtain ⟨h1, h2⟩ := HB.out i hlt k hlt2
          obtain ⟨h3, h4⟩ := sumTo_bd (HB.out i hlt) k (by omega)
          obtain ⟨h5, h6⟩ := bestTo_bd (by omega) (HB.out i hlt) d i k (by omega)
          by_cases e : d k = i
          · have HE := Lib.hid (bestTo_yes (f := v i) e)
            have hB := bne_f e
            clear e
            go_wp2
            go_round
            case rel => exact ⟨k + 1, by omega, by go_num, rfl, val_int HE.out.symm⟩
            case measure => simp [intOf]; omega
          · have hB := bne_t e
            rcases Int.lt_or_le (v i k) (bestTo (v i) d i k) with hl | hl
            · have HE := Lib.hid (bestTo_no2 e hl)
              clear e
              go_wp2
              go_round
              case rel => exact ⟨k + 1, by omega, by go_num, rfl, val_int HE.out.symm⟩
              case measure => simp [intOf]; omega
            · have HE := Lib.hid (bestTo_no1 e hl)
              clear e
              go_wp2
              go_round
              case rel => exact ⟨k + 1, by omega, by go_num, rfl, val_int (by rw [HE.out]; split <;> omega)⟩
              case measure => simp [intOf]; omega
        · obtain rfl : k = m := by omega
          obtain ⟨h5, h6⟩ := bestTo_bd (by omega) (HB.out i hlt) d i k (Nat.le_refl _)
          have p1 : 0 ≤ (n : Int) * wTo (v i) d i k := Int.mul_nonneg (by omega) b1
          have p2 : (n : Int) * wTo (v i) d i k ≤ 9 * 900000 := Int.mul_le_mul (by omega) (by omega) b1 (by omega)
          have p3 : 0 ≤ (n : Int) * (wTo (v i) d i k + bestTo (v i) d i k) := Int.mul_nonneg (by omega) (by omega)
          have p4 : (n : Int) * (wTo (v i) d i k + bestTo (v i) d i k) ≤ 9 * 1000000 := Int.mul_le_mul (by omega) (by omega) (by omega) (by omega)
          have p5 : (n : Int) * wTo (v i) d i k ≤ n * (wTo (v i) d i k + bestTo (v i) d i k) := Int.mul_le_mul_of_nonneg_left (by omega) (by omega)
          by_cases k3 : kind = 3
          · have hB := beq_t k3
            by_cases c1 : (n : Int) * wTo (v i) d i k < sumTo (v i) k
            · have HX : Hid (fairToB n k v d kind i = false) := Lib.hid (by simp only [fairToB, k3, if_true, enoughB, decide_eq_false_iff_not]; omega)
              clear k3
              go_wp2
              go_ret
              exact ⟨ret_bool (show false = fairAll n k v d kind from (allB_f hlt HX.out).symm), rfl⟩
            · have HX : Hid (fairToB n k v d kind i = true) := Lib.hid (by simp only [fairToB, k3, if_true, enoughB, decide_eq_true_eq]; omega)
              clear k3
              go_wp2
              go_round
              case rel => exact ⟨i + 1, by omega, by go_num, hA.succ HX.out⟩
              case measure => simp [intOf]; omega
          · have k4 : kind = 4 := by have := HK.out; omega
            have hB := beq_f k3
            have hsp := best_spec (n := n) (d := d) (i := (i : Int)) (HB.out i hlt) (by omega)
            by_cases c2 : (n : Int) * (wTo (v i) d i k + bestTo (v i) d i k) < sumTo (v i) k
            · have c1 : (n : Int) * wTo (v i) d i k < sumTo (v i) k := by omega
              have HX : Hid (fairToB n k v d kind i = false) := Lib.hid (by
                simp only [fairToB]
                rw [if_neg k3, if_pos k4, Bool.eq_false_iff]
                intro hh
                have := hsp.1 hh
                omega)
              clear k3 hsp k4
              go_wp2
              go_ret
              exact ⟨ret_bool (show false = fairAll n k v d kind from (allB_f hlt HX.out).symm), rfl⟩
            · have HX : Hid (fairToB n k v d kind i = true) := Lib.hid (by
                simp only [fairToB]
                rw [if_neg k3, if_pos k4]
                exact hsp.2 (by omega))
              clear k3 hsp k4
              by_cases c1 : (n : Int) * wTo (v i) d i k < sumTo (v i) k
              all_goals
                go_wp2
                go_round
                case rel => exact ⟨i + 1, by omega, by go_num, hA.succ HX.out⟩
                case measure => simp [intOf]; omega
    · obtain rfl : i = n := by omega
      go_wp2
      go_ret
      exact ⟨ret_bool (show true = fairAll i m v d kind from (allB_t hA).symm), rfl⟩
end Go.Proofs.Ytghkcdldkbencaa
