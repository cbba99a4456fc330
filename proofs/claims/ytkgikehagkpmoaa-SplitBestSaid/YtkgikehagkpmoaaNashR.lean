import Derived.Test.YtkgikehagkpmoaaImp
import Derived.Test.YtkgikehagkpmoaaDivs
import Derived.Test.YtkgikehagkpmoaaLex
import Derived.Test.YtkgikehagkpmoaaNash
namespace Go.Proofs.Ytkgikehagkpmoaa
open Go.RowKit

/-- What one round of the reference's Nash does. -/
theorem nash_step (s : Nat → Nat → Int) (k : Nat) (hk : 0 < k) : bst s 2 (k + 1) = if s (bst s 2 k) 0 < s k 0 ∨ (s k 0 = s (bst s 2 k) 0 ∧ s (bst s 2 k) 1 < s k 1) then k else bst s 2 k := by
  simp only [bst]
  have e : (k = 0 ∨ 0 < cmpF (s k) (s (bst s 2 k)) 2) ↔ (s (bst s 2 k) 0 < s k 0 ∨ (s k 0 = s (bst s 2 k) 0 ∧ s (bst s 2 k) 1 < s k 1)) := by
    rw [cmpF_pos]
    constructor
    · rintro (h | ⟨j, hj, h1, h2⟩)
      · omega
      · rcases j with _ | j
        · exact .inl h2
        · obtain rfl : j = 0 := by omega
          exact .inr ⟨(h1 0 (by omega)).symm, h2⟩
    · rintro (h | ⟨h1, h2⟩)
      · exact .inr ⟨0, by omega, fun j hj => absurd hj (by omega), h⟩
      · exact .inr ⟨1, by omega, fun j hj => (by obtain rfl : j = 0 := (by omega); exact h1.symm), h2⟩
  by_cases c : s (bst s 2 k) 0 < s k 0 ∨ (s k 0 = s (bst s 2 k) 0 ∧ s (bst s 2 k) 1 < s k 1)
  · rw [if_pos c, if_pos (e.2 c)]
  · rw [if_neg c, if_neg (fun h => c (e.1 h))]
theorem bst_one (s : Nat → Nat → Int) (len : Nat) : bst s len 1 = 0 := by simp [bst]

/-- What the three variables hold when k divisions have been seen. -/
def RNashSt (w : World) (base n m : Nat) (s : Nat → Nat → Int) (k : Nat) (vb p q : Value) : Prop :=
  (k = 0 ∧ vb = .slice none 0 0 ∧ p = .int .i64 (-1) ∧ q = .int .i64 0) ∨
  (0 < k ∧ OwnL w base vb (lst m (dg n m (bst s 2 k))) ∧ p = .int .i64 (s (bst s 2 k) 0) ∧ q = .int .i64 (s (bst s 2 k) 1))

set_option maxHeartbeats 2000000 in
set_option maxRecDepth 1000000 in
theorem rnash_any (A : Option Addr) (n m c : Nat) (v : Nat → Nat → Int) (w : World) (h : Mat w A n m v) (hb : BdM n m v 100) (hm : m ≤ 7) (hn : 0 < n) (hn4 : n ≤ 4) :
    Calls Try.prog 28 #[.slice A n c] w fun e w' => ∃ x, e = .returned (.tuple #[x, .int .i64 (nashS v n m (nashI v n m) 1)]) ∧ Below w.heap.size w w' ∧ OwnL w' w.heap.size x (lst m (dg n m (nashI v n m))) := by
  obtain ⟨b, o, R, cR, rfl, -, -⟩ := h.at hn
  obtain ⟨R0, c0, hc0, -⟩ := h.cell0 hn
  have HM := Lib.hid h
  have HB := Lib.hid (hb.le (u' := 100000) (by omega))
  have HB1 := Lib.hid hb
  have hN : n ^ m ≤ 16384 := by
    have h1 : n ^ m ≤ 4 ^ m := Nat.pow_le_pow_left hn4 m
    have h2 : 4 ^ m ≤ 4 ^ 7 := Nat.pow_le_pow_right (by omega) (by omega)
    omega
  have hN0 : 0 < n ^ m := Nat.pow_pos hn
  have HDv := Lib.hid (divs_any n hn hn4 m hm)
  have HI : Hid (nashI v n m = bst (nashS v n m) 2 (n ^ m)) := Lib.hid rfl
  obtain ⟨s, hs⟩ : ∃ s, s = nashS v n m := ⟨_, rfl⟩
  have HS0 : Hid (∀ k, s k 0 = cntTo (wrt v m (dg n m k)) n) := Lib.hid (fun k => by rw [hs]; rfl)
  have HS1 : Hid (∀ k, s k 1 = prodTo (wrt v m (dg n m k)) n) := Lib.hid (fun k => by rw [hs]; rfl)
  obtain ⟨N, hNe⟩ : ∃ N, N = n ^ m := ⟨_, rfl⟩
  rw [← hNe] at hN hN0
  rw [← hs]
  generalize nashI v n m = I at *
  have HNe := Lib.hid hNe
  have HI2 : Hid (I = bst s 2 N) := Lib.hid (by rw [HI.out, hs, hNe])
  clear h hb hNe hs HI
  go_enter Try.func28, Try.ntmps28
  go_wp2_with fail
  refine (HDv.out w).mono ?_
  rintro e w1 ⟨y, rfl, hy, hb1⟩
  rw [← HNe.out] at hy
  obtain ⟨Ay, cy, rfl, hrows, -⟩ := hy.rows
  have Hb1 := Lib.hid hb1
  have HRows := Lib.hid hrows
  have HY := Lib.hid hy
  clear hb1 hrows hy
  go_wp2_with fail
  go_loopw [4, 5, 6, 21] (fun vb p q x wr => ∃ k : Nat, k ≤ N ∧ x = .int .i64 k ∧ RNashSt wr w.heap.size n m s k vb p q ∧ Below w1.heap.size w1 wr) (fun _ _ _ x _ => N - (intOf x).toNat)
  case atStart => exact ⟨0, Nat.zero_le _, rfl, .inl ⟨rfl, rfl, rfl, rfl⟩, Below.refl _ _⟩
  case round =>
    obtain ⟨k, hk, rfl, hst, hbel⟩ := hrel
    have HBel := Lib.hid (Hb1.out.trans (hbel.mono Hb1.out.size))
    have HB2 := Lib.hid hbel
    have HSt := Lib.hid hst
    clear hbel hst
    by_cases hlt : k < N
    · obtain ⟨by_, oy, Rk, ck, rfl, hck, hIk⟩ := (HRows.out.keep HB2.out).at hlt
      have HIk := Lib.hid hIk
      have HX : Hid (OwnL wr w.heap.size (.slice Rk m ck) (lst m (dg n m k))) := Lib.hid (by
        obtain ⟨vals, hvl, hown, hvals⟩ := HY.out
        have hkl : k < vals.length := by omega
        obtain ⟨rx, hx⟩ : ∃ rx, vals[k]? = some rx := ⟨_, List.getElem?_eq_getElem hkl⟩
        have hr := hvals k rx hx
        have hown' := ownsRow_below hown HB2.out
        rcases hown'.2 with ⟨e1, _⟩ | ⟨g, cap, cur, e1, _⟩
        · cases e1
        · injection e1 with e1 e2 e3
          injection e1 with e1
          injection e1 with e4 e5
          subst e4 e5 e3
          have := World.ownsRow.cellAt hown' k (by omega)
          rw [hx] at this
          rw [Nat.zero_add] at hck
          rw [hck] at this
          injection this with this
          rw [this]
          exact hr.below HB2.out)
      obtain ⟨f, hf⟩ : ∃ f, f = wrt v m (dg n m k) := ⟨_, rfl⟩
      have HF : Hid (Bd n f 1000) := Lib.hid (by rw [hf]; exact wrt_bd HB1.out (by omega) _)
      have HK0 : Hid (s k 0 = cntTo f n) := Lib.hid (by rw [hf]; exact HS0.out k)
      have HK1 : Hid (s k 1 = prodTo f n) := Lib.hid (by rw [hf]; exact HS1.out k)
      clear hIk
      go_wp2_with fail
      refine (rown_any _ _ n m _ _ v (dg n m k) _ (HM.out.keep HBel.out) HIk.out HB.out (by omega) (by omega)).mono ?_
      rintro e w2 ⟨x, rfl, hx, hb2⟩
      rw [← hf] at hx
      obtain ⟨A2, c2, rfl, hI2⟩ := hx.sl0'
      have Hb2 := Lib.hid (HB2.out.trans (hb2.mono HB2.out.size))
      have HX2 := Lib.hid (HX.out.below hb2)
      have HSt2 : Hid (∀ vb p q, RNashSt wr w.heap.size n m s k vb p q → RNashSt w2 w.heap.size n m s k vb p q) := Lib.hid (fun vb p q h => by
        rcases h with h | ⟨h1, h2, h3⟩
        · exact .inl h
        · exact .inr ⟨h1, h2.below hb2, h3⟩)
      have HS := Lib.hid (HSt2.out _ _ _ HSt.out)
      have HI2' := Lib.hid hI2
      clear hx hb2 hI2 hf HSt2
      go_wp2_with fail
      go_loop [9, 10, 29] (fun p q i => ∃ j : Nat, j ≤ n ∧ i = .int .i64 j ∧ p = .int .i64 (cntTo f j) ∧ q = .int .i64 (prodTo f j)) (fun _ _ i => n - (intOf i).toNat)
      case atStart => exact ⟨0, Nat.zero_le _, rfl, rfl, rfl⟩
      case round =>
        obtain ⟨j, hj, rfl, rfl, rfl⟩ := hrel
        by_cases hjn : j < n
        · obtain ⟨bb, oo, rfl, hc⟩ := HI2'.out.at hjn
          obtain ⟨h1, h2⟩ := cntTo_bd f j
          obtain ⟨h3, h4⟩ := prodTo_bd HF.out j (by omega)
          obtain ⟨h5, h6⟩ := HF.out j hjn
          have h7 : prodTo f j ≤ 1000000000000 := by
            have : (1000 : Int) ^ j ≤ 1000 ^ 4 := by
              have : j = 0 ∨ j = 1 ∨ j = 2 ∨ j = 3 := by omega
              rcases this with rfl | rfl | rfl | rfl <;> decide
            omega
          have h8 : 0 ≤ prodTo f j * f j := Int.mul_nonneg (by omega) h5
          have h9 : prodTo f j * f j ≤ 1000000000000 * 1000 := Int.mul_le_mul h7 h6 h5 (by omega)
          by_cases e : 0 < f j
          · have HE : Hid (cntTo f (j + 1) = cntTo f j + 1 ∧ prodTo f (j + 1) = prodTo f j * f j) := Lib.hid (by simp [cntTo, prodTo, e])
            clear h4
            go_wp2
            go_round
            case rel => exact ⟨j + 1, by omega, by go_num, val_int HE.out.1.symm, val_int HE.out.2.symm⟩
            case measure => simp [intOf]; omega
          · have HE : Hid (cntTo f (j + 1) = cntTo f j ∧ prodTo f (j + 1) = prodTo f j) := Lib.hid (by simp [cntTo, prodTo, e])
            clear h4
            go_wp2
            go_round
            case rel => exact ⟨j + 1, by omega, by go_num, val_int HE.out.1.symm, val_int HE.out.2.symm⟩
            case measure => simp [intOf]; omega
        · obtain rfl : j = n := by omega
          have hc0 := (cntTo_bd f j).1
          rcases HS.out with ⟨rfl, rfl, rfl, rfl⟩ | ⟨hk0, hox, rfl, rfl⟩
          · go_wp2
            go_roundw
            case rel => exact ⟨1, by omega, by go_num, .inr ⟨by omega, by rw [bst_one]; exact HX2.out, by rw [bst_one, HK0.out], by rw [bst_one, HK1.out]⟩, Hb2.out⟩
            case measure => simp [intOf]; omega
          · have hstep := nash_step s k hk0
            by_cases c : s (bst s 2 k) 0 < s k 0 ∨ (s k 0 = s (bst s 2 k) 0 ∧ s (bst s 2 k) 1 < s k 1)
            · rw [if_pos c] at hstep
              have HStep := Lib.hid hstep
              rw [HK0.out, HK1.out] at c
              clear hstep
              rcases c with c | ⟨c, c'⟩
              · go_wp2
                go_roundw
                case rel => exact ⟨k + 1, by omega, by go_num, .inr ⟨by omega, by rw [HStep.out]; exact HX2.out, by rw [HStep.out, HK0.out], by rw [HStep.out, HK1.out]⟩, Hb2.out⟩
                case measure => simp [intOf]; omega
              · have c2 : ¬ s (bst s 2 k) 0 < cntTo f j := by omega
                go_wp2
                go_roundw
                case rel => exact ⟨k + 1, by omega, by go_num, .inr ⟨by omega, by rw [HStep.out]; exact HX2.out, by rw [HStep.out, HK0.out], by rw [HStep.out, HK1.out]⟩, Hb2.out⟩
                case measure => simp [intOf]; omega
            · rw [if_neg c] at hstep
              have HStep := Lib.hid hstep
              have HOx := Lib.hid hox
              rw [HK0.out, HK1.out] at c
              have c1 : ¬ s (bst s 2 k) 0 < cntTo f j := fun h => c (.inl h)
              clear hstep hox
              by_cases e : cntTo f j = s (bst s 2 k) 0
              · have c2 : ¬ s (bst s 2 k) 1 < prodTo f j := fun h => c (.inr ⟨e, h⟩)
                clear c
                go_wp2
                go_roundw
                case rel => exact ⟨k + 1, by omega, by go_num, .inr ⟨by omega, by rw [HStep.out]; exact HOx.out, by rw [HStep.out], by rw [HStep.out]⟩, Hb2.out⟩
                case measure => simp [intOf]; omega
              · clear c
                go_wp2
                go_roundw
                case rel => exact ⟨k + 1, by omega, by go_num, .inr ⟨by omega, by rw [HStep.out]; exact HOx.out, by rw [HStep.out], by rw [HStep.out]⟩, Hb2.out⟩
                case measure => simp [intOf]; omega
    · obtain rfl : k = N := by omega
      rcases HSt.out with ⟨rfl, -⟩ | ⟨hk0, hox, rfl, rfl⟩
      · omega
      · rw [← HI2.out] at hox ⊢
        have HOx := Lib.hid hox
        clear hox
        go_wp2
        go_ret2
        exact ⟨_, rfl, HBel.out, HOx.out⟩
end Go.Proofs.Ytkgikehagkpmoaa
