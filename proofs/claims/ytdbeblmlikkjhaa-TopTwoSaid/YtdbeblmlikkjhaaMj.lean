/- A candidate who beats all others. -/
import Derived.Test.YtdbeblmlikkjhaaKo
import Derived.Test.YtdbeblmlikkjhaaSw
namespace Go.Proofs.Ytdbeblmlikkjhaa
open Go.RowKit

theorem bit_two : ∀ a, a < 5 → ∀ x, x < 5 → bitN (2 ^ a) x = decide (x = a) := by decide +kernel
theorem mj_ahd {T : Nat → Int} {c a : Nat} (hc : c ≤ 5) (ha : a < c) (hb : ∀ b, b < c → b ≠ a → 0 < T (5 * a + b)) : ahdB T c (2 ^ a) = true :=
  ahdB_iff.2 (fun x y hx hy h1 h2 => by
    rw [bit_two a (by omega) x (by omega)] at h1
    rw [bit_two a (by omega) y (by omega)] at h2
    obtain rfl := of_decide_eq_true h1
    exact hb y hy (of_decide_eq_false h2))
theorem mj_str {T : Nat → Int} {c a : Nat} (hc : c ≤ 5) (h0 : ∀ a, a < c → T (5 * a + a) = 0) (hA : Anti T c) (ha : a < c) (hb : ∀ b, b < c → b ≠ a → 0 < T (5 * a + b)) {b : Nat} (hb1 : b < c) (hb2 : b ≠ a) :
    wT c T c (5 * b + a) < 0 ∧ 0 < wT c T c (5 * a + b) := by
  have h := wT_out hc h0 hA (mj_ahd hc ha hb) c (Nat.le_refl _)
  have h1 := h.1 b a hb1 ha (by rw [bit_two a (by omega) b (by omega)]; exact decide_eq_false hb2) (by rw [bit_two a (by omega) a (by omega)]; exact decide_eq_true rfl)
  have h2 := h.2 a b ha hb1
  have h3 := hb b hb1 hb2
  omega
theorem mj_win {T : Nat → Int} {c a k0 : Nat} (hc : c ≤ 5) (h0 : ∀ a, a < c → T (5 * a + a) = 0) (hA : Anti T c) (ha : a < c) (hb : ∀ b, b < c → b ≠ a → 0 < T (5 * a + b)) (hk : k0 < c) (hs : strB (wT c T c) c k0 = true) : k0 = a := by
  by_cases e : k0 = a
  · exact e
  · have h1 := mj_str hc h0 hA ha hb hk e
    have h2 := strB_iff.1 hs a ha
    omega
theorem mj_best {T : Nat → Int} {c a s : Nat} (hc : c ≤ 5) (hA : Anti T c) (ha : a < c) (hb : ∀ b, b < c → b ≠ a → 0 < T (5 * a + b)) (h : IsBst T c s) : s = 2 ^ a := by
  have h2 := mj_ahd hc ha hb
  have hp : 1 ≤ 2 ^ a := Nat.one_le_two_pow
  have hlt : 2 ^ a < 2 ^ c := Nat.pow_lt_pow_right (by omega) ha
  have hsl : s < 2 ^ c := by have := h.le; omega
  have hle : s ≤ 2 ^ a := by
    rcases Nat.lt_or_ge (2 ^ a) s with hl | hl
    · have := h.no (2 ^ a) hp hl
      rw [h2] at this
      cases this
    · exact hl
  rcases ahd_nest hA h.hd h2 with hn | hn
  · have hn2 : ∀ x, x < c → bitN (2 ^ a) x = true → bitN s x = true := fun x hx hxb => by
      rw [bit_two a (by omega) x (by omega)] at hxb
      obtain rfl := of_decide_eq_true hxb
      have hs1 := bit_some c (by omega) s hsl h.pos
      obtain ⟨y, hy, hyb⟩ := anyB_iff.1 hs1
      have hyx := hn y hy hyb
      rw [bit_two x (by omega) y (by omega)] at hyx
      obtain rfl := of_decide_eq_true hyx
      exact hyb
    have := (bits_sub hc hlt hsl hn2).1
    omega
  · have := (bits_sub hc hlt hsl hn).1
    omega
/-- The p-th first. -/
def mvN (p k : Nat) : Nat := if k = 0 then p else if k ≤ p then k - 1 else k
theorem tri_move (d : Nat → Nat → Int) {c p : Nat} (hc : c ≤ 5) (hp : p < c) (h0 : 0 < p) (hd : ∀ i, i < p → d p i < d i p) : triS (fun i j => d (mvN p i) (mvN p j)) c c < triS d c c := by
  have e : (c = 2 ∧ p = 1) ∨ (c = 3 ∧ p = 1) ∨ (c = 3 ∧ p = 2) ∨ (c = 4 ∧ p = 1) ∨ (c = 4 ∧ p = 2) ∨ (c = 4 ∧ p = 3) ∨ (c = 5 ∧ p = 1) ∨ (c = 5 ∧ p = 2) ∨ (c = 5 ∧ p = 3) ∨ (c = 5 ∧ p = 4) := by omega
  rcases e with ⟨rfl, rfl⟩ | ⟨rfl, rfl⟩ | ⟨rfl, rfl⟩ | ⟨rfl, rfl⟩ | ⟨rfl, rfl⟩ | ⟨rfl, rfl⟩ | ⟨rfl, rfl⟩ | ⟨rfl, rfl⟩ | ⟨rfl, rfl⟩ | ⟨rfl, rfl⟩
  all_goals simp [triS, rowS, mvN]
  · have h1 := hd 0 (by omega); omega
  · have h1 := hd 0 (by omega); omega
  · have h1 := hd 0 (by omega); have h2 := hd 1 (by omega); omega
  · have h1 := hd 0 (by omega); omega
  · have h1 := hd 0 (by omega); have h2 := hd 1 (by omega); omega
  · have h1 := hd 0 (by omega); have h2 := hd 1 (by omega); have h3 := hd 2 (by omega); omega
  · have h1 := hd 0 (by omega); omega
  · have h1 := hd 0 (by omega); have h2 := hd 1 (by omega); omega
  · have h1 := hd 0 (by omega); have h2 := hd 1 (by omega); have h3 := hd 2 (by omega); omega
  · have h1 := hd 0 (by omega); have h2 := hd 1 (by omega); have h3 := hd 2 (by omega); have h4 := hd 3 (by omega); omega
theorem mvN_lt {p c k : Nat} (hp : p < c) (hk : k < c) : mvN p k < c := by
  unfold mvN
  split
  · omega
  · split <;> omega
theorem mvN_inj {p i j : Nat} (hij : i < j) : mvN p i ≠ mvN p j := by
  unfold mvN
  intro e
  repeat' split at e
  all_goals omega
theorem mj_first {T : Nat → Int} {n c a : Nat} (hc : c ≤ 5) (hA : Anti T c) (hT : ∀ a b, a < c → b < c → -(n : Int) ≤ T (5 * a + b) ∧ T (5 * a + b) ≤ n) (ha : a < c) (hb : ∀ b, b < c → b ≠ a → 0 < T (5 * a + b)) : rowF (kemL n T c) 0 = a := by
  have hO := (ord_of_mem (kem_mem n T c)).2
  have hmin : ∀ o, Ord c o → disS n T (rowF (kemL n T c)) c ≤ disS n T o c := fun o h => kem_min n T h
  generalize rowF (kemL n T c) = o at *
  obtain ⟨p, hp, e, -, hu⟩ := hO.place ha
  by_cases h0 : p = 0
  · rw [← h0]; exact e
  exfalso
  have hO' : Ord c (fun k => o (mvN p k)) := by
    refine ⟨fun k hk => hO.rng _ (mvN_lt hp hk), fun i j hij hj h => ?_⟩
    rcases Nat.lt_trichotomy (mvN p i) (mvN p j) with hl | hl | hl
    · exact hO.inj _ _ hl (mvN_lt hp hj) h
    · exact mvN_inj hij hl
    · exact hO.inj _ _ hl (mvN_lt hp (by omega)) h.symm
  have h1 := hmin _ hO'
  have h2 : disS n T (fun k => o (mvN p k)) c < disS n T o c := by
    refine tri_move (dG n T o) hc hp (by omega) (fun i hi => ?_)
    have h3 := hO.rng i (by omega)
    have h4 : (o i).toNat ≠ a := fun e2 => hO.inj i p hi hp (by omega)
    have h5 := hb (o i).toNat (by omega) h4
    have h6 := hA (o i).toNat a (by omega) ha
    have h7 := hT a (o i).toNat ha (by omega)
    have h8 : (o p).toNat = a := by omega
    unfold dG
    rw [h8, h6]
    generalize T (5 * a + (o i).toNat) = t at *
    rw [Int.tdiv_eq_ediv_of_nonneg (by omega), Int.tdiv_eq_ediv_of_nonneg (by omega)]
    omega
  omega
end Go.Proofs.Ytdbeblmlikkjhaa
