/- Every ballot counted twice, in whatever order (theory). -/
import Derived.Test.YtbaedcpbcelmpaaWl
import Derived.Test.YtbaedcpbcelmpaaAf
import Derived.Test.YtbaedcpbcelmpaaDr
namespace Go.Proofs.Ytbaedcpbcelmpaa
open Go.RowKit

/-- Ballots one behind the other twice, and turned. -/
def dbW (n : Nat) (v : Nat → Nat → Int) : Nat → Nat → Int := fun i => if i < n then v i else v (i - n)
def dbV (n : Nat) (v : Nat → Nat → Int) : Nat → Nat → Int := fun i => dbW n v (2 * n - 1 - i)
theorem dbV_in {n i : Nat} (v : Nat → Nat → Int) (hi : i < 2 * n) : ∃ j, j < n ∧ dbV n v i = v j := by
  unfold dbV dbW
  by_cases h : 2 * n - 1 - i < n
  · exact ⟨2 * n - 1 - i, h, if_pos h⟩
  · exact ⟨2 * n - 1 - i - n, by omega, if_neg h⟩
theorem dbV_at {n j : Nat} (v : Nat → Nat → Int) (hj : j < n) : ∃ i, i < 2 * n ∧ dbV n v i = v j := by
  refine ⟨2 * n - 1 - j, by omega, ?_⟩
  unfold dbV dbW
  rw [show 2 * n - 1 - (2 * n - 1 - j) = j by omega, if_pos hj]
theorem sumZ_split (f : Nat → Int) (a : Nat) : ∀ b : Nat, sumZ f (a + b) = sumZ f a + sumZ (fun i => f (a + i)) b := by
  intro b
  induction b with
  | zero => simp [sumZ]
  | succ b ih =>
    rw [show a + (b + 1) = (a + b) + 1 by omega]
    simp only [sumZ]
    rw [ih]
    omega
theorem sumZ_first (f : Nat → Int) : ∀ m : Nat, sumZ f (m + 1) = f 0 + sumZ (fun i => f (i + 1)) m := by
  intro m
  induction m with
  | zero => simp [sumZ]
  | succ m ih =>
    show sumZ f (m + 1) + f (m + 1) = f 0 + (sumZ (fun i => f (i + 1)) m + f (m + 1))
    rw [ih]
    omega
theorem sumZ_turn : ∀ (m : Nat) (f : Nat → Int), sumZ (fun i => f (m - 1 - i)) m = sumZ f m := by
  intro m
  induction m with
  | zero => intro f; rfl
  | succ m ih =>
    intro f
    rw [sumZ_first (fun i => f (m + 1 - 1 - i)) m]
    show f m + sumZ (fun i => f (m - (i + 1))) m = sumZ f m + f m
    have : sumZ (fun i => f (m - (i + 1))) m = sumZ (fun i => f (m - 1 - i)) m := sumZ_congr (fun i hi => by rw [show m - (i + 1) = m - 1 - i by omega])
    rw [this, ih]
    omega
theorem sum_twice (g : (Nat → Int) → Int) (n : Nat) (v : Nat → Nat → Int) : sumZ (fun i => g (dbV n v i)) (2 * n) = 2 * sumZ (fun i => g (v i)) n := by
  have e1 : sumZ (fun i => g (dbV n v i)) (2 * n) = sumZ (fun i => g (dbW n v i)) (2 * n) := sumZ_turn (2 * n) (fun i => g (dbW n v i))
  rw [e1, show 2 * n = n + n by omega, sumZ_split]
  have e2 : sumZ (fun i => g (dbW n v i)) n = sumZ (fun i => g (v i)) n := sumZ_congr (fun i hi => by unfold dbW; rw [if_pos hi])
  have e3 : sumZ (fun i => g (dbW n v (n + i))) n = sumZ (fun i => g (v i)) n := sumZ_congr (fun i hi => by unfold dbW; rw [if_neg (by omega), show n + i - n = i by omega])
  rw [e2, e3]
  omega
theorem mrg_sum (v : Nat → Nat → Int) (c a b : Nat) : ∀ n : Nat, mrg v c a b n = sumZ (fun i => sg (idxI (v i) (a : Int) c) (idxI (v i) (b : Int) c)) n := by
  intro n
  induction n with
  | zero => rfl
  | succ n ih => simp only [mrg, sumZ, ih]
theorem mrg_twice (v : Nat → Nat → Int) (c a b n : Nat) : mrg (dbV n v) c a b (2 * n) = 2 * mrg v c a b n := by
  rw [mrg_sum, mrg_sum]
  exact sum_twice (fun f => sg (idxI f (a : Int) c) (idxI f (b : Int) c)) n v
theorem fp_sum (v : Nat → Nat → Int) (x : Nat) : ∀ n : Nat, (fpN v x n : Int) = sumZ (fun i => if v i 0 = (x : Int) then 1 else 0) n := by
  intro n
  induction n with
  | zero => rfl
  | succ n ih =>
    simp only [fpN, sumZ]
    rw [← ih]
    split <;> simp
theorem fp_twice (v : Nat → Nat → Int) (x n : Nat) : (fpN (dbV n v) x (2 * n) : Int) = 2 * (fpN v x n : Int) := by
  rw [fp_sum, fp_sum]
  exact sum_twice (fun f => if f 0 = (x : Int) then 1 else 0) n v
theorem bd_sum (v : Nat → Nat → Int) (c x : Nat) : ∀ n : Nat, bdN v c x n = sumZ (fun i => (c : Int) - 1 - idxI (v i) (x : Int) c) n := by
  intro n
  induction n with
  | zero => rfl
  | succ n ih => simp only [bdN, sumZ, ih]
theorem bd_twice (v : Nat → Nat → Int) (c x n : Nat) : bdN (dbV n v) c x (2 * n) = 2 * bdN v c x n := by
  rw [bd_sum, bd_sum]
  exact sum_twice (fun f => (c : Int) - 1 - idxI f (x : Int) c) n v
theorem topF_twice {f g : Nat → Int} : ∀ {c : Nat}, (∀ x, g x = 2 * f x) → topF g c = topF f c := by
  intro c
  induction c with
  | zero => intro _; rfl
  | succ c ih =>
    intro h
    simp only [topF]
    rw [ih h, h, h]
    by_cases e : f (topF f c) < f c
    · rw [if_pos e, if_pos (by omega)]
    · rw [if_neg e, if_neg (by omega)]
theorem okBal_db {n : Nat} {L : Nat → Nat} {v : Nat → Nat → Int} (hok : okBal n L v = true) (h4 : n ≤ 4) : okBal (2 * n) (fun _ => L 0) (dbV n v) = true := by
  obtain ⟨⟨hn1, hn9⟩, hc, hO⟩ := okBal_iff.1 hok
  refine okBal_iff.2 ⟨⟨by omega, by omega⟩, hc, fun i hi => ⟨rfl, ?_⟩⟩
  obtain ⟨j, hj, e⟩ := dbV_in v hi
  rw [e]
  exact (hO j hj).2
theorem mAll_db {n : Nat} {L : Nat → Nat} {v : Nat → Nat → Int} (hok : okBal n L v = true) (h4 : n ≤ 4) {a b : Nat} (ha : a < L 0) (hb : b < L 0) : mAll (dbV n v) (L 0) (2 * n) (5 * a + b) = 2 * mAll v (L 0) n (5 * a + b) := by
  obtain ⟨-, ⟨-, hc5⟩, hO⟩ := okBal_iff.1 hok
  obtain ⟨-, -, hO2⟩ := okBal_iff.1 (okBal_db hok h4)
  rw [mAll_at hc5 ha hb (2 * n) (fun i hi => (hO2 i hi).2), mAll_at hc5 ha hb n (fun i hi => (hO i hi).2), mrg_twice]
theorem pkB_db {n c : Nat} {L : Nat → Nat} {v : Nat → Nat → Int} {o : Nat → Int} (hL : ∀ i, i < n → L i = c) : pkB (2 * n) (fun _ => c) (dbV n v) o c = pkB n L v o c := by
  refine allB_congr (fun k _ => allB_congr (fun x _ => allB_congr (fun q _ => ?_)))
  rw [Bool.eq_iff_iff]
  unfold pkI
  rw [allB_iff, allB_iff]
  constructor
  · intro h i hi
    obtain ⟨j, hj, e⟩ := dbV_at v hi
    have := h j hj
    simp only [e] at this
    rw [hL i hi]
    exact this
  · intro h i hi
    obtain ⟨j, hj, e⟩ := dbV_in v hi
    have := h j hj
    rw [hL j hj] at this
    simp only [e]
    exact this
theorem axF_db {n c : Nat} {L : Nat → Nat} {v : Nat → Nat → Int} (hL : ∀ i, i < n → L i = c) : axF (2 * n) (fun _ => c) (dbV n v) (List.range c) = axF n L v (List.range c) := by
  unfold axF
  rw [List.length_range]
  congr 1
  funext x
  exact pkB_db hL
/-- Twice as much, of the candidates. -/
def dbR (c : Nat) (T T2 : Nat → Int) : Prop := ∀ a b, a < c → b < c → T2 (5 * a + b) = 2 * T (5 * a + b)
theorem dbR_st {c t a b : Nat} {T T2 : Nat → Int} (h : dbR c T T2) (ht : t < c) (ha : a < c) (hb : b < c) : dbR c (stW T t a b) (stW T2 t a b) := by
  intro x y hx hy
  unfold stW
  by_cases e : a = b
  · rw [if_pos e, if_pos e]; exact h x y hx hy
  · rw [if_neg e, if_neg e]
    unfold upd
    by_cases e2 : 5 * x + y = 5 * a + b
    · rw [if_pos e2, if_pos e2]
      have h1 := h a b ha hb
      have h2 := h a t ha ht
      have h3 := h t b ht hb
      rw [h1, h2, h3]
      omega
    · rw [if_neg e2, if_neg e2]; exact h x y hx hy
theorem dbR_B {c t a : Nat} {T T2 : Nat → Int} (h : dbR c T T2) (ht : t < c) (ha : a < c) : ∀ b, b ≤ c → dbR c (wB t a T b) (wB t a T2 b) := by
  intro b
  induction b with
  | zero => intro _; exact h
  | succ b ih => intro hb; exact dbR_st (ih (by omega)) ht ha (by omega)
theorem dbR_A {c t : Nat} {T T2 : Nat → Int} (h : dbR c T T2) (ht : t < c) : ∀ a, a ≤ c → dbR c (wA t c T a) (wA t c T2 a) := by
  intro a
  induction a with
  | zero => intro _; exact h
  | succ a ih => intro ha; exact dbR_B (ih (by omega)) ht (by omega) c (Nat.le_refl _)
theorem dbR_T {c : Nat} {T T2 : Nat → Int} (h : dbR c T T2) : ∀ t, t ≤ c → dbR c (wT c T t) (wT c T2 t) := by
  intro t
  induction t with
  | zero => intro _; exact h
  | succ t ih => intro ht; exact dbR_A (ih (by omega)) (by omega) c (Nat.le_refl _)
theorem strB_db {c a : Nat} {W W2 : Nat → Int} (h : dbR c W W2) (ha : a < c) : strB W2 c a = strB W c a := by
  unfold strB
  refine allB_congr (fun b hb => ?_)
  unfold strP
  rw [h a b ha hb, h b a hb ha]
  by_cases e : W (5 * a + b) < W (5 * b + a)
  · rw [decide_eq_true e, decide_eq_true (by omega)]
  · rw [decide_eq_false e, decide_eq_false (by omega)]
theorem ahd_db {c s : Nat} {T T2 : Nat → Int} (h : dbR c T T2) : ahdB T2 c s = ahdB T c s := by
  rw [Bool.eq_iff_iff, ahdB_iff, ahdB_iff]
  constructor
  · intro k a b ha hb h1 h2
    have := k a b ha hb h1 h2
    rw [h a b ha hb] at this
    omega
  · intro k a b ha hb h1 h2
    have := k a b ha hb h1 h2
    rw [h a b ha hb]
    omega
theorem bst_db {c s : Nat} {T T2 : Nat → Int} (h : dbR c T T2) (hs : IsBst T c s) : IsBst T2 c s :=
  ⟨hs.pos, hs.le, by rw [ahd_db h]; exact hs.hd, fun t h1 h2 => by rw [ahd_db h]; exact hs.no t h1 h2⟩
theorem fstF_congr {p q : Nat → Bool} : ∀ {s k : Nat}, (∀ j, k ≤ j → j < k + s → p j = q j) → fstF p s k = fstF q s k := by
  intro s
  induction s with
  | zero => intro k _; rfl
  | succ s ih =>
    intro k h
    simp only [fstF]
    rw [h k (Nat.le_refl _) (by omega), ih (fun j h1 h2 => h j (by omega) (by omega))]
theorem rowS_dbl {g g' : Nat → Nat → Int} {k : Nat} : ∀ {j : Nat}, (∀ i, i < j → g' k (k + 1 + i) = 2 * g k (k + 1 + i)) → rowS g' k j = 2 * rowS g k j := by
  intro j
  induction j with
  | zero => intro _; rfl
  | succ j ih =>
    intro h
    have h1 := ih (fun i hi => h i (by omega))
    have h2 := h j (by omega)
    simp only [rowS]
    omega
theorem triS_dbl {g g' : Nat → Nat → Int} {c : Nat} (h : ∀ i j, i < j → j < c → g' i j = 2 * g i j) : ∀ {k : Nat}, k ≤ c → triS g' c k = 2 * triS g c k := by
  intro k
  induction k with
  | zero => intro _; rfl
  | succ k ih =>
    intro hk
    have h1 := ih (by omega)
    have h2 := rowS_dbl (g := g) (g' := g') (k := k) (j := c - (k + 1)) (fun i hi => h k (k + 1 + i) (by omega) (by omega))
    simp only [triS]
    omega
theorem dis_db {n : Nat} {L : Nat → Nat} {v : Nat → Nat → Int} (hok : okBal n L v = true) (h4 : n ≤ 4) {o : Nat → Int} (ho : Ord (L 0) o) : disS (2 * n) (mAll (dbV n v) (L 0) (2 * n)) o (L 0) = 2 * disS n (mAll v (L 0) n) o (L 0) := by
  refine triS_dbl (fun i j hij hj => ?_) (Nat.le_refl _)
  have h1 := ho.rng i (by omega)
  have h2 := ho.rng j hj
  obtain ⟨a, ea⟩ : ∃ a : Nat, o i = (a : Int) := ⟨(o i).toNat, by omega⟩
  obtain ⟨b, eb⟩ : ∃ b : Nat, o j = (b : Int) := ⟨(o j).toNat, by omega⟩
  have e1 := dG_bh hok ho hij hj ea eb rfl
  rw [e1]
  have hne := ho.inj i j hij hj
  obtain ⟨-, ⟨-, hc5⟩, hO⟩ := okBal_iff.1 hok
  have hm := mrg_bh (v := v) (c := L 0) (a := a) (b := b) (by omega) (fun e => hne (by rw [ea, eb, e])) n (fun i hi => (hO i hi).2)
  unfold dG
  rw [ea, eb, Int.toNat_natCast, Int.toNat_natCast, mAll_db hok h4 (by omega) (by omega), mAll_at hc5 (by omega) (by omega) n (fun i hi => (hO i hi).2), hm]
  have hb := bh_bd v (L 0) a b n
  rw [Int.tdiv_eq_ediv_of_nonneg (by push_cast; omega)]
  push_cast
  omega
theorem minF_db {α : Type} {d d2 : α → Int} : ∀ {l : List α} {b : α}, (∀ x, x = b ∨ x ∈ l → d2 x = 2 * d x) → minF d2 b l = minF d b l := by
  intro l
  induction l with
  | nil => intro b _; rfl
  | cons a l ih =>
    intro b h
    simp only [minF]
    have h1 := h a (.inr (by simp))
    have h2 := h b (.inl rfl)
    have e : (if d2 a < d2 b then a else b) = (if d a < d b then a else b) := by
      by_cases e : d a < d b
      · rw [if_pos e, if_pos (by omega)]
      · rw [if_neg e, if_neg (by omega)]
    rw [e]
    refine ih (fun x hx => ?_)
    rcases hx with hx | hx
    · rw [hx]
      split
      · exact h1
      · exact h2
    · exact h x (.inr (by simp [hx]))
theorem kem_db {n : Nat} {L : Nat → Nat} {v : Nat → Nat → Int} (hok : okBal n L v = true) (h4 : n ≤ 4) : kemL (2 * n) (mAll (dbV n v) (L 0) (2 * n)) (L 0) = kemL n (mAll v (L 0) n) (L 0) := by
  unfold kemL
  refine minF_db (fun x hx => dis_db hok h4 ?_)
  rcases hx with rfl | hx
  · exact (ord_of_mem (range_mem (L 0))).2
  · exact (ord_of_mem hx).2
theorem win_db {r n : Nat} {L : Nat → Nat} {v : Nat → Nat → Int} (hok : okBal n L v = true) (h4 : n ≤ 4) : winF r (2 * n) (L 0) (dbV n v) = winF r n (L 0) v := by
  obtain ⟨-, ⟨hc1, hc5⟩, -⟩ := okBal_iff.1 hok
  have hR : dbR (L 0) (mAll v (L 0) n) (mAll (dbV n v) (L 0) (2 * n)) := fun a b ha hb => mAll_db hok h4 ha hb
  unfold winF
  rw [topF_twice (fun x => fp_twice v x n), topF_twice (fun x => bd_twice v (L 0) x n), kem_db hok h4, fstF_congr (q := strB (wT (L 0) (mAll v (L 0) n) (L 0)) (L 0)) (fun j _ hj => strB_db (dbR_T hR (L 0) (Nat.le_refl _)) (by omega))]
end Go.Proofs.Ytbaedcpbcelmpaa
