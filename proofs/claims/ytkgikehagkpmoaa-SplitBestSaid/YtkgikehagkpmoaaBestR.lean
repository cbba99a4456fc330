import Derived.Test.YtkgikehagkpmoaaRise
import Derived.Test.YtkgikehagkpmoaaNashR
namespace Go.Proofs.Ytkgikehagkpmoaa
open Go.RowKit

def befB (n : Nat) (f g : Nat → Int) : Bool := decide (0 < cmpF g f n)
set_option maxHeartbeats 1000000 in
theorem rbefore_any (A B : Option Addr) (n c c' : Nat) (f g : Nat → Int) (w : World) (hf : Ints w A n f) (hg : Ints w B n g) (hn : n ≤ 9) :
    Calls Try.prog 57 #[.slice A n c, .slice B n c'] w fun e w' => e = .returned (.bool (befB n f g)) ∧ w = w' := by
  have HF := Lib.hid hf
  have HG := Lib.hid hg
  clear hf hg
  go_enter Try.func57, Try.ntmps57
  go_wp2
  go_loop [9] (fun i => ∃ k : Nat, k ≤ n ∧ i = .int .i64 k ∧ ∀ j, j < k → f j = g j) (fun i => n - (intOf i).toNat)
  case atStart => exact ⟨0, Nat.zero_le _, rfl, fun j hj => absurd hj (by omega)⟩
  case round =>
    obtain ⟨k, hk, rfl, he⟩ := hrel
    have HE := Lib.hid he
    clear he
    by_cases hlt : k < n
    · obtain ⟨b, o, rfl, hc⟩ := HF.out.at hlt
      obtain ⟨b', o', rfl, hc'⟩ := HG.out.at hlt
      by_cases hq : f k = g k
      · have hB := bne_f hq
        have HQ := Lib.hid hq
        clear hq
        go_wp2
        go_round
        case rel => exact ⟨k + 1, by omega, by go_num, fun j hj => (by
          rcases Nat.lt_or_ge j k with h | h
          · exact HE.out j h
          · obtain rfl : j = k := (by omega)
            exact HQ.out)⟩
        case measure => simp [intOf]; omega
      · have hB := bne_t hq
        have HR : Hid (befB n f g = decide (f k < g k)) := Lib.hid (by
          unfold befB
          rw [Bool.eq_iff_iff, decide_eq_true_eq, decide_eq_true_eq, cmpF_pos]
          constructor
          · rintro ⟨j, hj, h1, h2⟩
            rcases Nat.lt_or_ge j k with h | h
            · have := HE.out j h; omega
            · rcases Nat.lt_or_ge k j with h' | h'
              · have := h1 k h'; omega
              · obtain rfl : j = k := by omega
                exact h2
          · intro h
            exact ⟨k, hlt, HE.out, h⟩)
        clear hq
        go_wp2
        go_ret
        exact ⟨ret_bool HR.out.symm, rfl⟩
    · obtain rfl : k = n := by omega
      have HR : Hid (befB k f g = false) := Lib.hid (by
        unfold befB
        rw [decide_eq_false_iff_not, cmpF_pos]
        rintro ⟨j, hj, h1, h2⟩
        have := HE.out j hj
        omega)
      go_wp2
      go_ret
      exact ⟨ret_bool HR.out.symm, rfl⟩

/-- What the two variables hold when k divisions have been seen. -/
def RLeastSt (w : World) (base n m : Nat) (s : Nat → Nat → Int) (k : Nat) (vb vw : Value) : Prop :=
  (k = 0 ∧ vb = .slice none 0 0 ∧ vw = .slice none 0 0) ∨
  (0 < k ∧ OwnL w base vb (lst m (dg n m (bst s n k))) ∧ OwnL w base vw (lst n (s (bst s n k))))

set_option maxHeartbeats 2000000 in
set_option maxRecDepth 1000000 in
theorem rleast_any (A : Option Addr) (n m c : Nat) (v : Nat → Nat → Int) (w : World) (h : Mat w A n m v) (hb : BdM n m v 100) (hm0 : 0 < m) (hm : m ≤ 7) (hn : 0 < n) (hn4 : n ≤ 4) :
    Calls Try.prog 29 #[.slice A n c] w fun e w' => ∃ x, e = .returned x ∧ Below w.heap.size w w' ∧ OwnL w' w.heap.size x (lst m (dg n m (leastI v n m))) := by
  have q := fun (w : World) (a : Option Addr) (n c n' c' : Nat) => Lib.run_eql_slice_nil (P := Try.prog) w 23 3 a n c n' c' Try.underlying23
  obtain ⟨b, o, R, cR, rfl, -, -⟩ := h.at hn
  obtain ⟨R0, c0, hc0, -⟩ := h.cell0 hn
  have HM := Lib.hid h
  have HB := Lib.hid (hb.le (u' := 100000) (by omega))
  have HB1 := Lib.hid hb
  have hN : n ^ m ≤ 16384 := by
    have h1 : n ^ m ≤ 4 ^ m := Nat.pow_le_pow_left hn4 m
    have h2 : 4 ^ m ≤ 4 ^ 7 := Nat.pow_le_pow_right (by omega) (by omega)
    omega
  have hN0 : 0 < n ^ m := Nat.pow_pos hn
  have HDv := Lib.hid (divs_any n hn hn4 m hm)
  obtain ⟨s, hs⟩ : ∃ s, s = leastS v n m := ⟨_, rfl⟩
  have HS : Hid (∀ k, s k = scoreL n (wrt v m (dg n m k))) := Lib.hid (fun k => by rw [hs]; rfl)
  obtain ⟨N, hNe⟩ : ∃ N, N = n ^ m := ⟨_, rfl⟩
  have HI2 : Hid (leastI v n m = bst s n N) := Lib.hid (by rw [hs, hNe]; rfl)
  rw [← hNe] at hN hN0
  generalize leastI v n m = I at *
  have HNe := Lib.hid hNe
  clear h hb hNe hs
  go_enter Try.func29, Try.ntmps29
  go_wp2_with fail
  refine (HDv.out w).mono ?_
  rintro e w1 ⟨y, rfl, hy, hb1⟩
  rw [← HNe.out] at hy
  obtain ⟨Ay, cy, rfl, hrows, -⟩ := hy.rows
  have Hb1 := Lib.hid hb1
  have HRows := Lib.hid hrows
  have HY := Lib.hid hy
  clear hb1 hrows hy
  go_wp2_with fail
  go_loopw [3, 4, 16] (fun vb vw x wr => ∃ k : Nat, k ≤ N ∧ x = .int .i64 k ∧ RLeastSt wr w.heap.size n m s k vb vw ∧ Below w1.heap.size w1 wr) (fun _ _ x _ => N - (intOf x).toNat)
  case atStart => exact ⟨0, Nat.zero_le _, rfl, .inl ⟨rfl, rfl, rfl⟩, Below.refl _ _⟩
  case round =>
    obtain ⟨k, hk, rfl, hst, hbel⟩ := hrel
    have HBel := Lib.hid (Hb1.out.trans (hbel.mono Hb1.out.size))
    have HB2 := Lib.hid hbel
    have HSt := Lib.hid hst
    clear hbel hst
    by_cases hlt : k < N
    · obtain ⟨by_, oy, Rk, ck, rfl, hck, hIk⟩ := (HRows.out.keep HB2.out).at hlt
      have HIk := Lib.hid hIk
      have HX : Hid (OwnL wr w.heap.size (.slice Rk m ck) (lst m (dg n m k))) := Lib.hid (by
        obtain ⟨vals, hvl, hown, hvals⟩ := HY.out
        have hkl : k < vals.length := by omega
        obtain ⟨rx, hx⟩ : ∃ rx, vals[k]? = some rx := ⟨_, List.getElem?_eq_getElem hkl⟩
        have hr := hvals k rx hx
        have hown' := ownsRow_below hown HB2.out
        rcases hown'.2 with ⟨e1, _⟩ | ⟨g, cap, cur, e1, _⟩
        · cases e1
        · injection e1 with e1 e2 e3
          injection e1 with e1
          injection e1 with e4 e5
          subst e4 e5 e3
          have := World.ownsRow.cellAt hown' k (by omega)
          rw [hx] at this
          rw [Nat.zero_add] at hck
          rw [hck] at this
          injection this with this
          rw [this]
          exact hr.below HB2.out)
      obtain ⟨f, hf⟩ : ∃ f, f = wrt v m (dg n m k) := ⟨_, rfl⟩
      have HSk : Hid (s k = scoreL n f) := Lib.hid (by rw [hf]; exact HS.out k)
      clear hIk
      go_wp2_with fail
      refine (rown_any _ _ n m _ _ v (dg n m k) _ (HM.out.keep HBel.out) HIk.out HB.out (by omega) (by omega)).mono ?_
      rintro e w2 ⟨x, rfl, hx, hb2⟩
      rw [← hf] at hx
      obtain ⟨A2, c2, rfl, hI2⟩ := hx.sl0'
      have Hb2 := Lib.hid (HB2.out.trans (hb2.mono HB2.out.size))
      have HX2 := Lib.hid (HX.out.below hb2)
      have HSt2 : Hid (∀ vb vw, RLeastSt wr w.heap.size n m s k vb vw → RLeastSt w2 w.heap.size n m s k vb vw) := Lib.hid (fun vb vw h => by
        rcases h with h | ⟨h1, h2, h3⟩
        · exact .inl h
        · exact .inr ⟨h1, h2.below hb2, h3.below hb2⟩)
      have HS2 := Lib.hid (HSt2.out _ _ HSt.out)
      have HI2' := Lib.hid hI2
      clear hx hb2 hI2 hf HSt2 HSt
      go_wp2_with fail
      refine (rising_any A2 n c2 f _ HI2'.out hn4).mono ?_
      rintro e w3 ⟨x, rfl, hx3, hb3⟩
      rw [← HSk.out] at hx3
      obtain ⟨A3, c3, rfl, hI3⟩ := hx3.sl0'
      have Hb3 := Lib.hid (Hb2.out.trans (hb3.mono Hb2.out.size))
      have HX3 := Lib.hid (HX2.out.below hb3)
      have HS3 : Hid (∀ vb vw, RLeastSt w2 w.heap.size n m s k vb vw → RLeastSt w3 w.heap.size n m s k vb vw) := Lib.hid (fun vb vw h => by
        rcases h with h | ⟨h1, h2, h3⟩
        · exact .inl h
        · exact .inr ⟨h1, h2.below hb3, h3.below hb3⟩)
      have HS4 := Lib.hid (HS3.out _ _ HS2.out)
      have hbase : w.heap.size ≤ w2.heap.size := Nat.le_trans Hb1.out.size Hb2.out.size
      have HR3 := Lib.hid (hx3.rebase hbase)
      have HI3 := Lib.hid hI3
      clear hx3 hb3 hI3 HS3 HS2
      rcases HS4.out with ⟨rfl, rfl, rfl⟩ | ⟨hk0, hox, how⟩
      · go_wp2
        go_roundw
        case rel => exact ⟨1, by omega, by go_num, .inr ⟨by omega, by rw [bst_one]; exact HX3.out, by rw [bst_one]; exact HR3.out⟩, Hb3.out⟩
        case measure => simp [intOf]; omega
      · obtain ⟨Ab, cb, rfl, hIb⟩ := hox.sl hm0
        obtain ⟨Aw, cw, rfl, hIw⟩ := how.sl hn
        have HOx := Lib.hid hox
        have HOw := Lib.hid how
        have HIw := Lib.hid hIw
        clear hox how hIb hIw
        go_wp2_with fail
        refine (rbefore_any _ _ n _ _ (s (bst s n k)) (s k) _ HIw.out HI3.out (by omega)).mono ?_
        rintro e w4 ⟨rfl, rfl⟩
        cases hbf : befB n (s (bst s n k)) (s k) with
        | true =>
          have HSt3 : Hid (bst s n (k + 1) = k) := Lib.hid (by
            have := of_decide_eq_true hbf
            simp only [bst]
            rw [if_pos (.inr this)])
          clear hbf
          go_wp2
          go_roundw
          case rel => exact ⟨k + 1, by omega, by go_num, .inr ⟨by omega, by rw [HSt3.out]; exact HX3.out, by rw [HSt3.out]; exact HR3.out⟩, Hb3.out⟩
          case measure => simp [intOf]; omega
        | false =>
          have HSt3 : Hid (bst s n (k + 1) = bst s n k) := Lib.hid (by
            have := of_decide_eq_false hbf
            simp only [bst]
            rw [if_neg (fun h => by
              rcases h with h | h
              · omega
              · exact this h)])
          clear hbf
          go_wp2
          go_roundw
          case rel => exact ⟨k + 1, by omega, by go_num, .inr ⟨by omega, by rw [HSt3.out]; exact HOx.out, by rw [HSt3.out]; exact HOw.out⟩, Hb3.out⟩
          case measure => simp [intOf]; omega
    · obtain rfl : k = N := by omega
      rcases HSt.out with ⟨rfl, -⟩ | ⟨hk0, hox, -⟩
      · omega
      · rw [← HI2.out] at hox
        have HOx := Lib.hid hox
        clear hox
        go_wp2
        go_ret
        exact ⟨_, rfl, HBel.out, HOx.out⟩
end Go.Proofs.Ytkgikehagkpmoaa
