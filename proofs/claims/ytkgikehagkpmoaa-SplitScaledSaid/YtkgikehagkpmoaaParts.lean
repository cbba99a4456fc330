import Derived.Test.YtkgikehagkpmoaaDv3
import Derived.Test.YtkgikehagkpmoaaKM
namespace Go.Proofs.Ytkgikehagkpmoaa
open Go.RowKit

def okParts (m : Nat) (f : Nat → Int) (n : Int) : Bool := okRow m f && decide (1 ≤ n ∧ n ≤ 7)
theorem okParts_of {m : Nat} {f : Nat → Int} {n : Int} (h : okParts m f n = true) : ∃ k : Nat, n = ((k + 1 : Nat) : Int) ∧ k ≤ 6 ∧ 0 < m ∧ m ≤ 7 ∧ Bd m f 100 := by
  simp only [okParts, okRow, Bool.and_eq_true, decide_eq_true_eq] at h
  obtain ⟨⟨h1, h2, h3⟩, h4, h5⟩ := h
  exact ⟨(n - 1).toNat, by omega, by omega, by omega, h2, h3⟩
theorem okParts_few {m : Nat} {f : Nat → Int} {n : Int} : okParts (min m 9) f n = okParts m f n := by
  rw [Bool.eq_iff_iff]
  simp only [okParts, okRow, Bool.and_eq_true, decide_eq_true_eq]
  constructor
  · rintro ⟨⟨h1, h2, h3⟩, h4⟩
    have e : min m 9 = m := by omega
    rw [e] at h1 h2 h3
    exact ⟨⟨h1, h2, h3⟩, h4⟩
  · rintro ⟨⟨h1, h2, h3⟩, h4⟩
    have e : min m 9 = m := by omega
    rw [e]
    exact ⟨⟨h1, h2, h3⟩, h4⟩

set_option maxRecDepth 1000000 in
theorem validParts_any (A : Option Addr) (m c : Nat) (f : Nat → Int) (n : Int) (w : World) (h : Ints w A m f) (hm : m ≤ 9) :
    Calls Try.prog 44 #[.slice A m c, .int .i64 n] w fun e w' => e = .returned (.bool (okParts m f n)) ∧ w = w' := by
  cases ho : okRow m f with
  | false =>
    have HE : Hid (okParts m f n = false) := Lib.hid (by simp [okParts, ho])
    have HO := Lib.hid ho
    clear ho
    go_enter Try.func44, Try.ntmps44
    go_wp2_with fail
    refine (validRow_any _ _ _ f _ h hm).mono ?_
    rintro e w' ⟨rfl, rfl⟩
    rw [HO.out]
    go_wp2
    go_ret
    exact ⟨ret_bool HE.out.symm, rfl⟩
  | true =>
    have HO := Lib.hid ho
    by_cases h1 : 1 ≤ n
    · by_cases h2 : n ≤ 7
      · have HE : Hid (okParts m f n = true) := Lib.hid (by simp [okParts, ho, h1, h2])
        clear ho
        go_enter Try.func44, Try.ntmps44
        go_wp2_with fail
        refine (validRow_any _ _ _ f _ h hm).mono ?_
        rintro e w' ⟨rfl, rfl⟩
        rw [HO.out]
        go_wp2
        go_ret
        exact ⟨ret_bool HE.out.symm, rfl⟩
      · have HE : Hid (okParts m f n = false) := Lib.hid (by simp [okParts, h2])
        clear ho
        go_enter Try.func44, Try.ntmps44
        go_wp2_with fail
        refine (validRow_any _ _ _ f _ h hm).mono ?_
        rintro e w' ⟨rfl, rfl⟩
        rw [HO.out]
        go_wp2
        go_ret
        exact ⟨ret_bool (by rw [HE.out, decide_eq_false_iff_not]; omega), rfl⟩
    · have HE : Hid (okParts m f n = false) := Lib.hid (by simp [okParts, h1])
      clear ho
      go_enter Try.func44, Try.ntmps44
      go_wp2_with fail
      refine (validRow_any _ _ _ f _ h hm).mono ?_
      rintro e w' ⟨rfl, rfl⟩
      rw [HO.out]
      go_wp2
      go_ret
      exact ⟨ret_bool HE.out.symm, rfl⟩

/-- The share of n + 1 people. -/
def shareN (m : Nat) (f : Nat → Int) (n : Nat) : Int := shR n m f (fun _ => 0) 0

set_option maxRecDepth 1000000 in
theorem Share_bad (A : Option Addr) (m c : Nat) (f : Nat → Int) (n : Int) (w : World) (h : Ints w A m f) (hm : m ≤ 9) (hbad : okParts m f n = false) :
    Calls Try.prog 20 #[.slice A m c, .int .i64 n] w fun e w' => e = .returned (.tuple #[.int .i64 0, .int .i64 2]) ∧ w = w' := by
  have HB := Lib.hid hbad
  clear hbad
  go_enter Try.func20, Try.ntmps20
  go_wp2_with fail
  refine (validParts_any _ _ _ f n _ h hm).mono ?_
  rintro e w' ⟨rfl, rfl⟩
  rw [HB.out]
  go_wp2
  go_ret2
  exact ⟨rfl, rfl⟩
set_option maxRecDepth 1000000 in
theorem Share_ok (A : Option Addr) (m c : Nat) (f : Nat → Int) (k : Nat) (n : Int) (w : World) (h : Ints w A m f) (hok : okParts m f n = true) (hk : n = ((k + 1 : Nat) : Int)) :
    Calls Try.prog 20 #[.slice A m c, .int .i64 n] w fun e w' => e = .returned (.tuple #[.int .i64 (shareN m f k), .int .i64 0]) ∧ Below w.heap.size w w' := by
  obtain ⟨k', e, hk6, hm0, hm7, hb⟩ := okParts_of hok
  obtain rfl : k = k' := by omega
  have HB := Lib.hid hb
  have HO := Lib.hid hok
  have HK := Lib.hid hk
  clear hb hok hk e
  go_enter Try.func20, Try.ntmps20
  go_wp2_with fail
  refine (validParts_any _ _ _ f n _ h (by omega)).mono ?_
  rintro e w' ⟨rfl, rfl⟩
  rw [HO.out]
  go_wp2_with fail
  rw [HK.out]
  refine (divide_any A c m k f _ h HB.out hm0 hm7 hk6).mono ?_
  rintro e w' ⟨x, D, rfl, hb1, hx, -⟩
  obtain ⟨Ax, cx, rfl, -⟩ := hx.sl0
  have Hb1 := Lib.hid hb1
  clear hb1 hx
  go_wp2
  go_ret2
  exact ⟨rfl, Hb1.out⟩
set_option maxRecDepth 1000000 in
theorem Split_bad (A : Option Addr) (m c : Nat) (f : Nat → Int) (n : Int) (w : World) (h : Ints w A m f) (hm : m ≤ 9) (hbad : okParts m f n = false) :
    Calls Try.prog 22 #[.slice A m c, .int .i64 n] w fun e w' => e = .returned (.tuple #[.slice none 0 0, .int .i64 2]) ∧ w = w' := by
  have HB := Lib.hid hbad
  clear hbad
  go_enter Try.func22, Try.ntmps22
  go_wp2_with fail
  refine (validParts_any _ _ _ f n _ h hm).mono ?_
  rintro e w' ⟨rfl, rfl⟩
  rw [HB.out]
  go_wp2
  go_ret2
  exact ⟨rfl, rfl⟩
set_option maxRecDepth 1000000 in
theorem Split_ok (A : Option Addr) (m c : Nat) (f : Nat → Int) (k : Nat) (n : Int) (w : World) (h : Ints w A m f) (hok : okParts m f n = true) (hk : n = ((k + 1 : Nat) : Int)) :
    Calls Try.prog 22 #[.slice A m c, .int .i64 n] w fun e w' => ∃ Ax cx D, e = .returned (.tuple #[.slice Ax m cx, .int .i64 0]) ∧ Below w.heap.size w w' ∧ Ints w' Ax m D ∧ Own (k + 1) m D ∧ lowT (wOf f D m) k = shareN m f k := by
  obtain ⟨k', e, hk6, hm0, hm7, hb⟩ := okParts_of hok
  obtain rfl : k = k' := by omega
  have HB := Lib.hid hb
  have HO := Lib.hid hok
  have HK := Lib.hid hk
  clear hb hok hk e
  go_enter Try.func22, Try.ntmps22
  go_wp2_with fail
  refine (validParts_any _ _ _ f n _ h (by omega)).mono ?_
  rintro e w' ⟨rfl, rfl⟩
  rw [HO.out]
  go_wp2_with fail
  rw [HK.out]
  refine (divide_any A c m k f _ h HB.out hm0 hm7 hk6).mono ?_
  rintro e w' ⟨x, D, rfl, hb1, hx, hOwn, hlow⟩
  obtain ⟨Ax, cx, rfl, hI⟩ := hx.sl0
  have Hb1 := Lib.hid hb1
  have HI := Lib.hid hI
  have HOwn := Lib.hid hOwn
  have HLow := Lib.hid hlow
  clear hb1 hx hI hOwn hlow
  go_wp2
  go_ret2
  exact ⟨_, _, D, rfl, Hb1.out, HI.out, HOwn.out, HLow.out⟩

theorem sumTo_nn {f : Nat → Int} {n : Nat} (h : ∀ j, j < n → 0 ≤ f j) : 0 ≤ sumTo f n := by
  induction n with
  | zero => exact Int.le_refl _
  | succ n ih =>
    have h1 := ih (fun j hj => h j (by omega))
    have h2 := h n (by omega)
    simp only [sumTo]
    omega
theorem mxf_some (s : Int) (f : Nat → Int) (c : Nat) : mxf s f c = s ∨ ∃ p, p < c ∧ mxf s f c = f p := by
  induction c with
  | zero => exact .inl rfl
  | succ c ih =>
    simp only [mxf]
    rcases Int.lt_or_le (mxf s f c) (f c) with h | h
    · exact .inr ⟨c, by omega, by omega⟩
    · rcases ih with e | ⟨p, hp, e⟩
      · exact .inl (by omega)
      · exact .inr ⟨p, by omega, by omega⟩
/-- The share times the number of people is at most what all goods are worth, as some division reaches it. -/
theorem low_sum {m k : Nat} {f D : Nat → Int} {s : Int} (h : Own (k + 1) m D) (hs : lowT (wOf f D m) k = s) : s * ((k + 1 : Nat) : Int) ≤ sumTo f m := by
  have h1 := sum_parts (f := f) h m (Nat.le_refl _)
  have h2 : sumTo (fun _ => s) (k + 1) ≤ sumTo (fun j => wTo f D j m) (k + 1) := sumTo_le (fun j hj => by
    have := lowT_le (wOf f D m) k j (by omega)
    rw [hs] at this
    exact this)
  rw [sumTo_const, h1] at h2
  rw [Int.mul_comm]
  exact h2
theorem shR_reach (n : Nat) : ∀ (k : Nat) (f S : Nat → Int) (used : Nat), (∀ j, j < k → 0 ≤ f j) → (∀ p, p ≤ n → 0 ≤ S p) → used ≤ n + 1 → shR n k f S used * ((n + 1 : Nat) : Int) ≤ sumTo S (n + 1) + sumTo f k := by
  intro k
  induction k with
  | zero =>
    intro f S used hf hS hu
    have h2 : sumTo (fun _ => lowT S n) (n + 1) ≤ sumTo S (n + 1) := sumTo_le (fun j hj => lowT_le S n j (by omega))
    rw [sumTo_const, Int.mul_comm] at h2
    simp only [shR, sumTo]
    simp only [sumTo] at h2
    omega
  | succ k ih =>
    intro f S used hf hS hu
    have hsh : ∀ (f : Nat → Int) k, sumTo f (k + 1) = f 0 + sumTo (fun j => f (j + 1)) k := by
      intro f k
      induction k with
      | zero => simp [sumTo]
      | succ k ih => rw [sumTo, ih]; simp only [sumTo]; omega
    have hadd : ∀ p, p ≤ n → sumTo (addAt S p (f 0)) (n + 1) = sumTo S (n + 1) + f 0 := by
      intro p hp
      have h := sum_upd S (f 0) (n + 1) p
      rw [if_pos ⟨by omega, by omega⟩] at h
      rw [← h]
      congr 1
      funext q
      simp only [addAt]
      by_cases e : q = p
      · rw [if_pos e, if_pos (by rw [e])]
      · rw [if_neg e, if_neg (by omega)]
    have h0 := hf 0 (by omega)
    rw [hsh f k]
    have hx : ∃ p, p ≤ n ∧ shR n (k + 1) f S used = shR n k (fun j => f (j + 1)) (addAt S p (f 0)) (max used (p + 1)) ∨ shR n (k + 1) f S used ≤ 0 := by
      simp only [shR]
      rcases mxf_some 0 (fun p => shR n k (fun j => f (j + 1)) (addAt S p (f 0)) (max used (p + 1))) (min (used + 1) (n + 1)) with e | ⟨p, hp, e⟩
      · exact ⟨0, .inr (by rw [e]; exact Int.le_refl _)⟩
      · exact ⟨p, .inl ⟨by omega, e⟩⟩
    obtain ⟨p, ⟨hp, e⟩ | e⟩ := hx
    · rw [e]
      have := ih (fun j => f (j + 1)) (addAt S p (f 0)) (max used (p + 1)) (fun j hj => hf (j + 1) (by omega)) (fun q hq => by
        have := hS q hq
        simp only [addAt]
        split <;> omega) (by omega)
      rw [hadd p hp] at this
      omega
    · have h1 : shR n (k + 1) f S used * ((n + 1 : Nat) : Int) ≤ 0 := Int.mul_nonpos_of_nonpos_of_nonneg e (by omega)
      have h2 : 0 ≤ sumTo S (n + 1) := sumTo_nn (fun q hq => hS q (by omega))
      have h3 : 0 ≤ sumTo (fun j => f (j + 1)) k := sumTo_nn (fun j hj => hf (j + 1) (by omega))
      omega
theorem shareN_sum {m k : Nat} {f : Nat → Int} (hb : Bd m f 100) : shareN m f k * ((k + 1 : Nat) : Int) ≤ sumTo f m := by
  have h := shR_reach k m f (fun _ => 0) 0 (fun j hj => (hb j hj).1) (fun _ _ => Int.le_refl _) (by omega)
  rw [sumTo_const] at h
  unfold shareN
  omega
theorem shareN_nn {m k : Nat} {f : Nat → Int} (hb : Bd m f 100) : 0 ≤ shareN m f k := shR_nn k m f _ 0 (fun j hj => (hb j hj).1) (fun _ _ => Int.le_refl _)
theorem shareN_less {m k : Nat} {f : Nat → Int} (hb : Bd m f 100) : shareN m f (k + 1) ≤ shareN m f k :=
  shR_mono m (k + 1) k f _ _ 0 0 (fun j hj => (hb j hj).1) (fun _ _ => Int.le_refl _) (by omega) (by omega) (fun _ _ => Int.le_refl _) (by omega) (by omega) (by omega)
theorem shareN_more {m k : Nat} {f : Nat → Int} (hb : Bd (m + 1) f 100) : shareN m (fun j => f (j + 1)) k ≤ shareN (m + 1) f k :=
  shR_more m k f _ 0 (fun j hj => (hb j hj).1) (fun _ _ => Int.le_refl _) (by omega)
end Go.Proofs.Ytkgikehagkpmoaa
