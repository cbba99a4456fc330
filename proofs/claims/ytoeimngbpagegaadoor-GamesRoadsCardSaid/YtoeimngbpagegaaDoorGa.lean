/- Fractions: lowest terms; what they are in units of 1/W.: plain theory. -/
import Derived.Test.YtoeimngbpagegaaDoorBase
namespace Go.Proofs.YtoeimngbpagegaaDoor

/-- num / den in lowest terms, the denominator above 0. -/
def gI (a b : Int) : Int := (Int.gcd a b : Int)
def rN (a b : Int) : Int := a * b.sign / gI a b
def rD (a b : Int) : Int := (b.natAbs : Int) / gI a b
/-- In lowest terms. -/
def Low (n d : Int) : Prop := 0 < d ∧ Int.gcd n d = 1

theorem gI_pos {a b : Int} (hb : b ≠ 0) : 0 < gI a b := by
  unfold gI
  have : 0 < Int.gcd a b := Int.gcd_pos_of_ne_zero_right a hb
  omega
theorem gI_dvd_left (a b : Int) : gI a b ∣ a := Int.gcd_dvd_left a b
theorem gI_dvd_right (a b : Int) : gI a b ∣ b := Int.gcd_dvd_right a b
theorem rD_mul {a b : Int} (hb : b ≠ 0) : rD a b * gI a b = b.natAbs := by
  unfold rD
  exact Int.ediv_mul_cancel (Int.dvd_trans (gI_dvd_right a b) (Int.dvd_natAbs.2 (Int.dvd_refl b)))
theorem rN_mul {a b : Int} (hb : b ≠ 0) : rN a b * gI a b = a * b.sign := by
  unfold rN
  exact Int.ediv_mul_cancel (Int.dvd_trans (gI_dvd_left a b) (Int.dvd_mul_right a _))
theorem rD_pos {a b : Int} (hb : b ≠ 0) : 0 < rD a b := by
  have h := rD_mul (a := a) hb
  have hg := gI_pos (a := a) hb
  have hn : 0 < (b.natAbs : Int) := by omega
  rcases Int.lt_trichotomy (rD a b) 0 with h1 | h1 | h1
  · have := Int.mul_neg_of_neg_of_pos h1 hg
    omega
  · rw [h1, Int.zero_mul] at h
    omega
  · exact h1
/-- The cross product: what it is. -/
theorem rN_cross {a b : Int} (hb : b ≠ 0) : rN a b * b = a * rD a b := by
  have hg := gI_pos (a := a) hb
  have h1 := rN_mul (a := a) hb
  have h2 := rD_mul (a := a) hb
  have hs : b.sign * b.natAbs = b := Int.sign_mul_natAbs b
  have e : rN a b * b * gI a b = a * rD a b * gI a b := by
    calc rN a b * b * gI a b = rN a b * gI a b * b := by ac_rfl
      _ = a * b.sign * b := by rw [h1]
      _ = a * (b.sign * b) := by rw [Int.mul_assoc]
      _ = a * b.natAbs := by rw [Int.sign_mul_self]
      _ = a * (rD a b * gI a b) := by rw [h2]
      _ = a * rD a b * gI a b := by rw [Int.mul_assoc]
  exact Int.eq_of_mul_eq_mul_right (by omega) e
theorem r_low {a b : Int} (hb : b ≠ 0) : Low (rN a b) (rD a b) := by
  refine ⟨rD_pos hb, ?_⟩
  have hg := gI_pos (a := a) hb
  have h1 := rN_mul (a := a) hb
  have h2 := rD_mul (a := a) hb
  have e : Int.gcd (rN a b * gI a b) (rD a b * gI a b) = Int.gcd (rN a b) (rD a b) * (gI a b).natAbs := Int.gcd_mul_right ..
  rw [h1, h2] at e
  have e2 : Int.gcd (a * b.sign) (b.natAbs : Int) = Int.gcd a b := by
    simp only [Int.gcd, Int.natAbs_mul, Int.natAbs_natCast]
    have : b.sign.natAbs = 1 := by
      rcases Int.lt_trichotomy b 0 with h | h | h
      · rw [Int.sign_eq_neg_one_of_neg h]; rfl
      · exact absurd h hb
      · rw [Int.sign_eq_one_of_pos h]; rfl
    rw [this, Nat.mul_one]
  rw [e2] at e
  have hgn : (gI a b).natAbs = Int.gcd a b := by unfold gI; simp
  rw [hgn] at e
  have hp : 0 < Int.gcd a b := Int.gcd_pos_of_ne_zero_right a hb
  have : 1 * Int.gcd a b = Int.gcd (rN a b) (rD a b) * Int.gcd a b := by rw [Nat.one_mul]; exact e
  exact (Nat.eq_of_mul_eq_mul_right hp this).symm
theorem dvd_cop {a b c : Int} (h : a ∣ b * c) (g : Int.gcd a c = 1) : a ∣ b := by
  have h2 := Int.natAbs_dvd_natAbs.2 h
  rw [Int.natAbs_mul] at h2
  exact Int.natAbs_dvd_natAbs.1 (Nat.Coprime.dvd_of_dvd_mul_right g h2)
/-- Two in lowest terms with the same cross product are the same. -/
theorem low_ext {a b c d : Int} (h : Low a b) (h' : Low c d) (e : a * d = c * b) : a = c ∧ b = d := by
  obtain ⟨hb, g⟩ := h
  obtain ⟨hd, g'⟩ := h'
  have d1 : b ∣ d := by
    have : b ∣ d * a := by rw [Int.mul_comm, e]; exact Int.dvd_mul_left _ _
    exact dvd_cop this (by rw [Int.gcd_comm]; exact g)
  have d2 : d ∣ b := by
    have : d ∣ b * c := by rw [Int.mul_comm, ← e]; exact Int.dvd_mul_left _ _
    exact dvd_cop this (by rw [Int.gcd_comm]; exact g')
  have eb : b = d := Int.dvd_antisymm (by omega) (by omega) d1 d2
  subst eb
  exact ⟨Int.eq_of_mul_eq_mul_right (by omega) e, rfl⟩
theorem r_ext {a b c d : Int} (hb : b ≠ 0) (hd : d ≠ 0) (e : a * d = c * b) : rN a b = rN c d ∧ rD a b = rD c d := by
  refine low_ext (r_low hb) (r_low hd) ?_
  have h1 := rN_cross (a := a) hb
  have h2 := rN_cross (a := c) hd
  have : rN a b * rD c d * (b * d) = rN c d * rD a b * (b * d) := by
    calc rN a b * rD c d * (b * d) = (rN a b * b) * rD c d * d := by ac_rfl
      _ = a * rD a b * rD c d * d := by rw [h1]
      _ = (a * d) * rD a b * rD c d := by ac_rfl
      _ = c * b * rD a b * rD c d := by rw [e]
      _ = (c * rD c d) * rD a b * b := by ac_rfl
      _ = rN c d * d * rD a b * b := by rw [h2]
      _ = rN c d * rD a b * (b * d) := by ac_rfl
  exact Int.eq_of_mul_eq_mul_right (Int.mul_ne_zero hb hd) this
theorem r_of_low {a b : Int} (h : Low a b) : rN a b = a ∧ rD a b = b := by
  have hb : b ≠ 0 := by have := h.1; omega
  exact low_ext (r_low hb) h (rN_cross hb)
theorem low_iff {a b : Int} (hb : 0 < b) : Low a b ↔ (rN a b = a ∧ rD a b = b) :=
  ⟨r_of_low, fun ⟨h1, h2⟩ => by have := r_low (a := a) (b := b) (by omega); rw [h1, h2] at this; exact this⟩
theorem rD_le {a b : Int} (hb : b ≠ 0) : rD a b ≤ b.natAbs := by
  have h := rD_mul (a := a) hb
  have hg := gI_pos (a := a) hb
  have hp := rD_pos (a := a) hb
  have : rD a b * 1 ≤ rD a b * gI a b := Int.mul_le_mul_of_nonneg_left (by omega) (by omega)
  omega
theorem rN_abs {a b : Int} (hb : b ≠ 0) : (rN a b).natAbs ≤ a.natAbs := by
  have h := rN_mul (a := a) hb
  have hg := gI_pos (a := a) hb
  have h2 := congrArg Int.natAbs h
  rw [Int.natAbs_mul, Int.natAbs_mul] at h2
  have : b.sign.natAbs = 1 := by
    rcases Int.lt_trichotomy b 0 with h | h | h
    · rw [Int.sign_eq_neg_one_of_neg h]; rfl
    · exact absurd h hb
    · rw [Int.sign_eq_one_of_pos h]; rfl
  rw [this, Nat.mul_one] at h2
  have hg1 : 1 ≤ (gI a b).natAbs := by omega
  calc (rN a b).natAbs = (rN a b).natAbs * 1 := by omega
    _ ≤ (rN a b).natAbs * (gI a b).natAbs := Nat.mul_le_mul_left _ hg1
    _ = a.natAbs := h2

/-- In units of 1/W. -/
def cntF (W n d : Int) : Int := n * (W / d)
theorem cntF_mul {W n d : Int} (hd : d ∣ W) : cntF W n d * d = n * W := by
  unfold cntF
  rw [Int.mul_assoc, Int.ediv_mul_cancel hd]
theorem cnt_inj {W a b c d : Int} (hW : 0 < W) (h : Low a b) (h' : Low c d) (hb : b ∣ W) (hd : d ∣ W) (e : cntF W a b = cntF W c d) : a = c ∧ b = d := by
  refine low_ext h h' ?_
  have h1 := cntF_mul (n := a) hb
  have h2 := cntF_mul (n := c) hd
  have : a * d * W = c * b * W := by
    calc a * d * W = (a * W) * d := by ac_rfl
      _ = cntF W a b * b * d := by rw [h1]
      _ = cntF W c d * b * d := by rw [e]
      _ = (cntF W c d * d) * b := by ac_rfl
      _ = c * W * b := by rw [h2]
      _ = c * b * W := by ac_rfl
  exact Int.eq_of_mul_eq_mul_right (by omega) this
theorem rD_dvd {W a b : Int} (hb : b ≠ 0) (h : b ∣ W) : rD a b ∣ W := by
  have h2 := rD_mul (a := a) hb
  have : rD a b ∣ (b.natAbs : Int) := ⟨gI a b, h2.symm⟩
  exact Int.dvd_trans this (Int.natAbs_dvd.2 h)
theorem cnt_r {W a b : Int} (hb : b ≠ 0) (h : b ∣ W) : cntF W (rN a b) (rD a b) = a * (W / b) := by
  have h1 := cntF_mul (W := W) (n := rN a b) (rD_dvd (a := a) hb h)
  have h2 := rN_cross (a := a) hb
  have h3 := rD_pos (a := a) hb
  obtain ⟨q, rfl⟩ := h
  rw [Int.mul_ediv_cancel_left _ hb]
  have : cntF (b * q) (rN a b) (rD a b) * rD a b = a * q * rD a b := by
    rw [h1]
    calc rN a b * (b * q) = rN a b * b * q := by ac_rfl
      _ = a * rD a b * q := by rw [h2]
      _ = a * q * rD a b := by ac_rfl
  exact Int.eq_of_mul_eq_mul_right (by omega) this
/-- The sum. It need not be that the product of the denominators divides W. -/
theorem cnt_add {W a b c d : Int} (hb : 0 < b) (hd : 0 < d) (hbW : b ∣ W) (hdW : d ∣ W) :
    rD (a * d + c * b) (b * d) ∣ W ∧ cntF W (rN (a * d + c * b) (b * d)) (rD (a * d + c * b) (b * d)) = cntF W a b + cntF W c d := by
  have hbd : b * d ≠ 0 := Int.mul_ne_zero (by omega) (by omega)
  have hc := rN_cross (a := a * d + c * b) hbd
  have hp := rD_pos (a := a * d + c * b) hbd
  have hl := r_low (a := a * d + c * b) hbd
  generalize rN (a * d + c * b) (b * d) = N at *
  generalize rD (a * d + c * b) (b * d) = D at *
  have h1 := cntF_mul (n := a) hbW
  have h2 := cntF_mul (n := c) hdW
  -- N * (b d) = (a d + c b) D; with S = cnt a + cnt c: S b d = (a d + c b) W
  have hS : (cntF W a b + cntF W c d) * (b * d) = (a * d + c * b) * W := by
    calc (cntF W a b + cntF W c d) * (b * d) = cntF W a b * b * d + cntF W c d * d * b := by rw [Int.add_mul]; ac_rfl
      _ = a * W * d + c * W * b := by rw [h1, h2]
      _ = (a * d + c * b) * W := by rw [Int.add_mul]; ac_rfl
  have hSD : (cntF W a b + cntF W c d) * D = N * W := by
    have : (cntF W a b + cntF W c d) * D * (b * d) = N * W * (b * d) := by
      calc (cntF W a b + cntF W c d) * D * (b * d) = (cntF W a b + cntF W c d) * (b * d) * D := by ac_rfl
        _ = (a * d + c * b) * D * W := by rw [hS]; ac_rfl
        _ = N * (b * d) * W := by rw [hc]
        _ = N * W * (b * d) := by ac_rfl
    exact Int.eq_of_mul_eq_mul_right hbd this
  have hdv : D ∣ W := by
    have : D ∣ W * N := by rw [Int.mul_comm, ← hSD]; exact Int.dvd_mul_left _ _
    exact dvd_cop this (by rw [Int.gcd_comm]; exact hl.2)
  refine ⟨hdv, ?_⟩
  have h3 := cntF_mul (n := N) hdv
  exact Int.eq_of_mul_eq_mul_right (show D ≠ 0 by omega) (by rw [h3, hSD])
theorem cnt_less {W a b c d : Int} (hW : 0 < W) (hb : 0 < b) (hd : 0 < d) (hbW : b ∣ W) (hdW : d ∣ W) : a * d < c * b ↔ cntF W a b < cntF W c d := by
  have h1 := cntF_mul (n := a) hbW
  have h2 := cntF_mul (n := c) hdW
  have hbd : 0 < b * d := Int.mul_pos hb hd
  have e1 : cntF W a b * (b * d) = (a * d) * W := by
    calc cntF W a b * (b * d) = cntF W a b * b * d := by ac_rfl
      _ = a * W * d := by rw [h1]
      _ = _ := by ac_rfl
  have e2 : cntF W c d * (b * d) = (c * b) * W := by
    calc cntF W c d * (b * d) = cntF W c d * d * b := by ac_rfl
      _ = c * W * b := by rw [h2]
      _ = _ := by ac_rfl
  constructor
  · intro h
    have := Int.mul_lt_mul_of_pos_right h hW
    rw [← e1, ← e2] at this
    exact Int.lt_of_mul_lt_mul_right this (by omega)
  · intro h
    have := Int.mul_lt_mul_of_pos_right h hbd
    rw [e1, e2] at this
    exact Int.lt_of_mul_lt_mul_right this (by omega)
end Go.Proofs.YtoeimngbpagegaaDoor
