/- Serial is Shapley of Road: unit by unit. -/
import Derived.Test.YtoeimngbpagegaaDoorGse
import Derived.Test.YtoeimngbpagegaaDoorGfa
namespace Go.Proofs.YtoeimngbpagegaaDoor
open Go.RowKit

/-- The game 'the set meets U'. -/
def unG (U : Nat) : Nat → Int := fun s => if s &&& U = 0 then 0 else 1
theorem un_sh : ∀ k, k ≤ 4 → ∀ U, U < 2 ^ k → ∀ p, p < k → shP k (unG U) p (2 ^ k) * 12 = (if inS U p = true then 12 / ((pcS U : Nat) : Int) else 0) * (facN k : Nat) := by decide +kernel
/-- The players beyond unit t of the road. -/
def mkS (F : Nat → Int) (t : Int) : Nat → Nat
  | 0 => 0
  | k + 1 => if t < F k then mkS F t k + 2 ^ k else mkS F t k
theorem mkS_lt (F : Nat → Int) (t : Int) : ∀ k, mkS F t k < 2 ^ k := by
  intro k
  induction k with
  | zero => simp [mkS]
  | succ k ih =>
    have e : 2 ^ (k + 1) = 2 ^ k + 2 ^ k := by rw [Nat.pow_succ]; omega
    unfold mkS
    split <;> omega
/-- By Bools: for four players. -/
def mkB (b : Nat → Bool) : Nat → Nat
  | 0 => 0
  | k + 1 => if b k = true then mkB b k + 2 ^ k else mkB b k
theorem mkS_B (F : Nat → Int) (t : Int) : ∀ k, mkS F t k = mkB (fun q => decide (t < F q)) k := by
  intro k
  induction k with
  | zero => rfl
  | succ k ih => simp only [mkS, mkB, ih, decide_eq_true_iff]
def cnB (b : Nat → Bool) : Nat → Nat
  | 0 => 0
  | k + 1 => if b k = true then cnB b k + 1 else cnB b k
def mtB (b : Nat → Bool) (s : Nat) : Nat → Bool
  | 0 => false
  | k + 1 => mtB b s k || (inS s k && b k)
def b4 (b0 b1 b2 b3 : Bool) : Nat → Bool := fun q => if q = 0 then b0 else if q = 1 then b1 else if q = 2 then b2 else b3
theorem mkB_congr {b b' : Nat → Bool} : ∀ k, (∀ q, q < k → b q = b' q) → mkB b k = mkB b' k ∧ cnB b k = cnB b' k ∧ ∀ s, mtB b s k = mtB b' s k := by
  intro k
  induction k with
  | zero => intro _; exact ⟨rfl, rfl, fun _ => rfl⟩
  | succ k ih =>
    intro h
    obtain ⟨h1, h2, h3⟩ := ih (fun q hq => h q (by omega))
    have h4 := h k (by omega)
    simp only [mkB, cnB, mtB, h1, h2, h3, h4]
    simp
theorem b4_of (b : Nat → Bool) {k : Nat} (hk : k ≤ 4) : ∀ q, q < k → b q = b4 (b 0) (b 1) (b 2) (b 3) q := by
  intro q hq
  have : q = 0 ∨ q = 1 ∨ q = 2 ∨ q = 3 := by omega
  rcases this with rfl | rfl | rfl | rfl <;> rfl
theorem b4_all : ∀ k, k ≤ 4 → ∀ b0 b1 b2 b3, pcS (mkB (b4 b0 b1 b2 b3) k) = cnB (b4 b0 b1 b2 b3) k ∧ (∀ p, p < k → inS (mkB (b4 b0 b1 b2 b3) k) p = b4 b0 b1 b2 b3 p) ∧ ∀ s, s < 2 ^ k → unG (mkB (b4 b0 b1 b2 b3) k) s = if mtB (b4 b0 b1 b2 b3) s k = true then 1 else 0 := by decide +kernel
theorem mkB_all {k : Nat} (hk : k ≤ 4) (b : Nat → Bool) : pcS (mkB b k) = cnB b k ∧ (∀ p, p < k → inS (mkB b k) p = b p) ∧ ∀ s, s < 2 ^ k → unG (mkB b k) s = if mtB b s k = true then 1 else 0 := by
  obtain ⟨h1, h2, h3⟩ := mkB_congr k (b4_of b hk)
  obtain ⟨k1, k2, k3⟩ := b4_all k hk (b 0) (b 1) (b 2) (b 3)
  rw [h1, h2]
  refine ⟨k1, fun p hp => ?_, fun s hs => ?_⟩
  · rw [k2 p hp]
    exact (b4_of b hk p hp).symm
  · rw [k3 s hs, h3]
/-- t is below the greatest length of the set's exactly if the set meets those beyond t. -/
theorem mx_lt (F : Nat → Int) (s : Nat) {t : Int} (ht : 0 ≤ t) : ∀ k, decide (t < mxS F s k) = mtB (fun q => decide (t < F q)) s k := by
  intro k
  induction k with
  | zero => exact decide_eq_false (show ¬ t < 0 by omega)
  | succ k ih =>
    unfold mxS mtB
    rw [← ih]
    cases inS s k with
    | false => simp
    | true =>
      simp only [if_true, Bool.true_and]
      rw [← Bool.decide_or]
      refine decide_eq_decide.2 ?_
      split <;> omega
/-- The first N units of a road. -/
def roN (F : Nat → Int) (k N : Nat) : Nat → Int := fun s => if (N : Int) < mxS F s k then N else mxS F s k
theorem roN_succ {F : Nat → Int} {k : Nat} (hk : k ≤ 4) (h0 : ∀ s, 0 ≤ mxS F s k) (N s : Nat) (hs : s < 2 ^ k) : roN F k (N + 1) s = roN F k N s + unG (mkS F N k) s := by
  rw [mkS_B, (mkB_all hk _).2.2 s hs, ← mx_lt F s (by omega)]
  unfold roN
  have h := h0 s
  by_cases h1 : (N : Int) < mxS F s k
  · rw [decide_eq_true h1, if_pos rfl, if_pos h1]
    push_cast
    split <;> omega
  · rw [decide_eq_false h1, if_neg h1]
    push_cast
    rw [if_neg (by omega)]
    simp
/-- What p pays for the first N units, in twelfths. -/
def svN (F : Nat → Int) (k p : Nat) : Nat → Int
  | 0 => 0
  | N + 1 => svN F k p N + if (N : Int) < F p then 12 / ((cnB (fun q => decide ((N : Int) < F q)) k : Nat) : Int) else 0
theorem ro_sh {F : Nat → Int} {k p : Nat} (hk : k ≤ 4) (hp : p < k) (h0 : ∀ s, 0 ≤ mxS F s k) : ∀ N, shP k (roN F k N) p (2 ^ k) * 12 = svN F k p N * (facN k : Nat) := by
  intro N
  induction N with
  | zero =>
    have : shP k (roN F k 0) p (2 ^ k) = 0 := shP_zero _ (fun s hs => by
      have h1 := h0 s
      have h2 := h0 (s ||| 2 ^ p)
      unfold roN
      split <;> split <;> omega)
    rw [this]
    simp [svN]
  | succ N ih =>
    rw [shP_add (C := roN F k N) (D := unG (mkS F N k)) (2 ^ k) (fun s hs => roN_succ hk h0 N s hs) (fun s hs => roN_succ hk h0 N _ (or_lt k hk s hs p hp)), Int.add_mul, ih, un_sh k hk _ (mkS_lt F N k) p hp, mkS_B, (mkB_all hk _).1, (mkB_all hk _).2.1 p hp, svN, Int.add_mul]
    simp only [decide_eq_true_iff]
/-- How many are beyond t: of a permutation as many. -/
theorem cnB_lst (b : Int → Bool) (F : Nat → Int) : ∀ k, cnB (fun q => b (F q)) k = (lst k F).countP b := by
  intro k
  induction k with
  | zero => rfl
  | succ k ih =>
    rw [lst_succ, List.countP_append, ← ih]
    simp only [cnB, List.countP_cons, List.countP_nil]
    split <;> omega
/-- Sorted: beyond t, in stretch a, are all but the first a. -/
theorem cnB_srt {G : Nat → Int} {t : Int} {a : Nat} : ∀ n, a ≤ n → (∀ q, q < n → decide (t < G q) = decide (a ≤ q)) → cnB (fun q => decide (t < G q)) n = n - a := by
  intro n
  induction n with
  | zero => intro _ _; simp [cnB]
  | succ n ih =>
    intro ha h
    have e := h n (by omega)
    simp only [cnB, e, decide_eq_true_iff]
    rcases Nat.lt_or_ge n a with h1 | h1
    · obtain rfl : a = n + 1 := by omega
      rw [if_neg (by omega)]
      have z : ∀ m, m ≤ n → cnB (fun q => decide (t < G q)) m = 0 := by
        intro m
        induction m with
        | zero => intro _; rfl
        | succ m im =>
          intro hm
          simp only [cnB, im (by omega), h m (by omega), decide_eq_true_iff]
          rw [if_neg (by omega)]
      rw [z n (Nat.le_refl _)]
      omega
    · rw [if_pos h1, ih h1 (fun q hq => h q (by omega))]
      omega
theorem svN_add (F : Nat → Int) (k p : Nat) (x : Int) (N : Nat) : ∀ m : Nat, (∀ t : Nat, N ≤ t → t < N + m → (if (t : Int) < F p then 12 / ((cnB (fun q => decide ((t : Int) < F q)) k : Nat) : Int) else 0) = x) → svN F k p (N + m) = svN F k p N + m * x := by
  intro m
  induction m with
  | zero => intro _; simp
  | succ m ih =>
    intro h
    rw [← Nat.add_assoc, svN, ih (fun t h1 h2 => h t h1 (by omega)), h (N + m) (by omega) (by omega)]
    have e : ((m + 1 : Nat) : Int) = (m : Int) + 1 := by simp
    rw [e, Int.add_mul]
    omega
theorem svP_svN {F G : Nat → Int} {n p : Nat} (hp : p < n) (hG : ∀ k, k < n → 0 ≤ G k ∧ G k ≤ 1000) (hs : Srt (fun x => x) G n) (hP : (lst n G).Perm (lst n F)) : ∀ a, a ≤ n → svP F G n p a = svN F n p (pvS G a).toNat := by
  have hm : ∃ b, b < n ∧ G b = F p := by
    have h1 : F p ∈ lst n F := List.mem_of_getElem? (lst_get n F p hp)
    have h2 := hP.mem_iff.2 h1
    unfold lst at h2
    obtain ⟨b, hb, e⟩ := List.mem_map.1 h2
    exact ⟨b, List.mem_range.1 hb, e⟩
  obtain ⟨b, hb, hbe⟩ := hm
  intro a
  induction a with
  | zero => intro _; rfl
  | succ a ih =>
    intro ha
    have h1 := pvS_bd hG hs a (by omega)
    have hpv : pvS G (a + 1) = G a := rfl
    have key := svN_add F n p (if G a ≤ F p then 12 / ((n - a : Nat) : Int) else 0) (pvS G a).toNat ((G a).toNat - (pvS G a).toNat) (fun t ht1 ht2 => by
      have hlow : ∀ q, q < a → G q ≤ pvS G a := fun q hq => by
        obtain ⟨a', rfl⟩ : ∃ a', a = a' + 1 := ⟨a - 1, by omega⟩
        show G q ≤ G a'
        rcases Nat.lt_or_ge q a' with h2 | h2
        · exact hs q a' h2 (by omega)
        · obtain rfl : q = a' := by omega
          exact Int.le_refl _
      have hhi : ∀ q, a ≤ q → q < n → G a ≤ G q := fun q h2 h3 => by
        rcases Nat.lt_or_ge a q with h4 | h4
        · exact hs a q h4 h3
        · obtain rfl : a = q := by omega
          exact Int.le_refl _
      have hc : cnB (fun q => decide ((t : Int) < F q)) n = n - a := by
        rw [cnB_lst (fun x => decide ((t : Int) < x)) F n, ← hP.countP_eq, ← cnB_lst (fun x => decide ((t : Int) < x)) G n]
        refine cnB_srt n (by omega) (fun q hq => decide_eq_decide.2 ?_)
        rcases Nat.lt_or_ge q a with h2 | h2
        · have := hlow q h2
          omega
        · have := hhi q h2 hq
          omega
      rw [hc]
      by_cases h2 : G a ≤ F p
      · rw [if_pos h2, if_pos (by omega)]
      · rw [if_neg h2, if_neg ?_]
        rcases Nat.lt_or_ge b a with h3 | h3
        · have := hlow b h3
          omega
        · have := hhi b h3 hb
          omega)
    rw [show (pvS G a).toNat + ((G a).toNat - (pvS G a).toNat) = (pvS G (a + 1)).toNat by rw [hpv]; omega] at key
    rw [key, svP, ih (by omega)]
    have e : (((G a).toNat - (pvS G a).toNat : Nat) : Int) = G a - pvS G a := by omega
    rw [e]
    unfold ptS
    split <;> simp
theorem svN_top {F : Nat → Int} {n p N : Nat} (h : F p ≤ N) (M : Nat) (hM : N ≤ M) : svN F n p M = svN F n p N := by
  obtain ⟨m, rfl⟩ : ∃ m, M = N + m := ⟨M - N, by omega⟩
  have := svN_add F n p 0 N m (fun t h1 h2 => if_neg (by omega))
  rw [this]
  simp
/-- Serial is Shapley of Road. -/
theorem serial_sh {F G : Nat → Int} {n : Nat} (hn : n ≤ 4) (hF : ∀ k, k < n → 0 ≤ F k ∧ F k ≤ 1000) (hs : Srt (fun x => x) G n) (hP : (lst n G).Perm (lst n F)) (p : Nat) (hp : p < n) (i : Nat) (hi : i < 2) :
    shF n (2 ^ n) (fun s => mxS F s n) p i = seF F G n p i := by
  have hG := permG_all (P := fun x => 0 ≤ x ∧ x ≤ 1000) hP hF
  have hb := fun s => mxS_bd hF s n (Nat.le_refl _)
  have h1 := ro_sh hn hp (fun s => (hb s).1) 1000
  have e1 : roN F n 1000 = fun s => mxS F s n := by
    funext s
    unfold roN
    have := hb s
    rw [if_neg (by omega)]
  rw [e1] at h1
  have h2 := svP_svN hp hG hs hP n (Nat.le_refl _)
  obtain ⟨m, rfl⟩ : ∃ m, n = m + 1 := ⟨n - 1, by omega⟩
  have h3 : svN F (m + 1) p 1000 = svN F (m + 1) p (pvS G (m + 1)).toNat := by
    refine svN_top ?_ 1000 (by have := hG m (by omega); show (G m).toNat ≤ 1000; omega)
    have hm : ∃ b, b < m + 1 ∧ G b = F p := by
      have h1 : F p ∈ lst (m + 1) F := List.mem_of_getElem? (lst_get (m + 1) F p hp)
      have h2 := hP.mem_iff.2 h1
      unfold lst at h2
      obtain ⟨b, hb, e⟩ := List.mem_map.1 h2
      exact ⟨b, List.mem_range.1 hb, e⟩
    obtain ⟨b, hb1, hb2⟩ := hm
    show F p ≤ ((G m).toNat : Nat)
    have hgm := hG m (by omega)
    rcases Nat.lt_or_ge b m with h4 | h4
    · have : G b ≤ G m := hs b m h4 (by omega)
      omega
    · obtain rfl : b = m := by omega
      omega
  rw [h3, ← h2] at h1
  have hf := facN_pos (m + 1) hn
  have hh := r_ext (a := shP (m + 1) (fun s => mxS F s (m + 1)) p (2 ^ (m + 1))) (b := (facN (m + 1) : Nat)) (c := svP F G (m + 1) p (m + 1)) (d := 12) (by omega) (by decide) h1
  have : i = 0 ∨ i = 1 := by omega
  rcases this with rfl | rfl
  · exact hh.1
  · exact hh.2
end Go.Proofs.YtoeimngbpagegaaDoor
