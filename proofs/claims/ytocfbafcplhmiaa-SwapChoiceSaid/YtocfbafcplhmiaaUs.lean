/- The core: no group objects to the outcome of trading; some group objects to every other one. -/
import Derived.Test.YtocfbafcplhmiaaUr
namespace Go.Proofs.Ytocfbafcplhmiaa
open Go.RowKit

theorem prev_keep {t : Nat → Nat → Nat} {n : Nat} {ow : Nat → Nat} (h : Wsh n t ow) {i : Nat} (hi : i < n) (Q : Nat → Prop) (hQ : ∀ y, y < n → rnF t n ow y = rnF t n ow i → Q y → Q (ow (trF t n ow y))) (h0 : Q i) :
    ∃ j, j < n ∧ rnF t n ow j = rnF t n ow i ∧ ow (trF t n ow j) = i ∧ Q j := by
  obtain ⟨hg, ht, hr⟩ := goes_at h hi
  have hl := gsF_left hg
  have hc : onC (nxF t n ow (lfF t n ow (rnF t n ow i))) n i = true := by
    unfold gsF at hg
    rw [Bool.and_eq_true] at hg
    exact hg.2
  obtain ⟨k, hk, e⟩ := onC_iff.1 hc
  have hstep : ∀ j, (j < n ∧ gsF t n ow (lfF t n ow (rnF t n ow i)) j = true ∧ Q j) → (nxF t n ow (lfF t n ow (rnF t n ow i)) j < n ∧ gsF t n ow (lfF t n ow (rnF t n ow i)) (nxF t n ow (lfF t n ow (rnF t n ow i)) j) = true ∧ Q (nxF t n ow (lfF t n ow (rnF t n ow i)) j)) := by
    intro j ⟨h1, h2, h3⟩
    refine ⟨(nxF_keep h h1 hi hl).1, gsF_next h h1 h2, ?_⟩
    have e2 := (goes_iff h h1).1 h2
    have := hQ j h1 e2 h3
    rw [(goes_at h h1).2.1, e2] at this
    exact this
  have hkeep := itF_keep (f := nxF t n ow (lfF t n ow (rnF t n ow i))) (P := fun j => j < n ∧ gsF t n ow (lfF t n ow (rnF t n ow i)) j = true ∧ Q j) hstep k i ⟨hi, hg, h0⟩
  have e2 := (goes_iff h hkeep.1).1 hkeep.2.1
  refine ⟨_, hkeep.1, e2, ?_, hkeep.2.2⟩
  have e3 := (goes_at h hkeep.1).2.1
  rw [e3, e2]
  exact e
/-- The outcome of trading of wishes t, everyone with the own thing. -/
def tr0 (t : Nat → Nat → Nat) (n : Nat) : Nat → Nat := trF t n (owF (fun k => k) n)
def rn0 (t : Nat → Nat → Nat) (n : Nat) : Nat → Nat := rnF t n (owF (fun k => k) n)
section
variable {t : Nat → Nat → Nat} {n : Nat}
theorem wsh0 (ht : ∀ i, i < n → Pm n (t i)) : Wsh n t (owF (fun k => k) n) := ⟨ht, owF_pm (pm_id n)⟩
theorem tr0_pm (ht : ∀ i, i < n → Pm n (t i)) : Pm n (tr0 t n) := trF_pm (wsh0 ht)
theorem prev0 (ht : ∀ i, i < n → Pm n (t i)) {i : Nat} (hi : i < n) (Q : Nat → Prop) (hQ : ∀ y, y < n → rn0 t n y = rn0 t n i → Q y → Q (tr0 t n y)) (h0 : Q i) :
    ∃ j, j < n ∧ rn0 t n j = rn0 t n i ∧ tr0 t n j = i ∧ Q j := by
  obtain ⟨j, h1, h2, h3, h4⟩ := prev_keep (wsh0 ht) hi Q (fun y hy e hq => by
    show Q (owF (fun k => k) n (tr0 t n y))
    rw [owF_id ((tr0_pm ht).lt y hy)]
    exact hQ y hy e hq) h0
  have h3' : owF (fun k => k) n (tr0 t n j) = i := h3
  rw [owF_id ((tr0_pm ht).lt j h1)] at h3'
  exact ⟨j, h1, h2, h3', h4⟩
/-- In ranks: what someone gets; whatever they like more has left before. -/
theorem gets0 (ht : ∀ i, i < n → Pm n (t i)) {i : Nat} (hi : i < n) : rn0 t n (tr0 t n i) = rn0 t n i ∧ ∀ x, x < n → owF (t i) n x < owF (t i) n (tr0 t n i) → rn0 t n x < rn0 t n i := by
  obtain ⟨k, hk, e, hlt, hr, hb⟩ := gets_at (wsh0 ht) hi
  have htk := (ht i hi).lt k hk
  rw [owF_id htk] at hr
  have e' : tr0 t n i = t i k := e
  refine ⟨by rw [e']; exact hr, fun x hx hlt2 => ?_⟩
  rw [e', owF_of (ht i hi) hk] at hlt2
  have hq := (owF_at (ht i hi) hx)
  have := hb _ hlt2
  rw [hq.2, owF_id hx] at this
  exact this
theorem rank_inj (ht : ∀ i, i < n → Pm n (t i)) {i x y : Nat} (hi : i < n) (hx : x < n) (hy : y < n) (e : owF (t i) n x = owF (t i) n y) : x = y := by
  rw [← (owF_at (ht i hi) hx).2, ← (owF_at (ht i hi) hy).2, e]
theorem obB_iff (_ : ∀ i, i < n → Pm n (t i)) {S : Nat} {h : Nat → Nat} : obB t n S h = true ↔ ∃ p : Nat → Nat, Pm n p ∧ (∀ i, i < n → inS S i = true → inS S (p i) = true) ∧ (∀ i, i < n → inS S i = true → owF (t i) n (p i) ≤ owF (t i) n (h i)) ∧ ∃ i, i < n ∧ inS S i = true ∧ owF (t i) n (p i) < owF (t i) n (h i) := by
  have key : ∀ p : Nat → Nat, (exB S p n && gnB t n S p h) = true ↔ (∀ i, i < n → inS S i = true → inS S (p i) = true) ∧ (∀ i, i < n → inS S i = true → owF (t i) n (p i) ≤ owF (t i) n (h i)) ∧ ∃ i, i < n ∧ inS S i = true ∧ owF (t i) n (p i) < owF (t i) n (h i) := by
    intro p
    unfold exB gnB
    rw [Bool.and_eq_true, Bool.and_eq_true, allB_iff, allB_iff, anyB_iff]
    unfold gnP gnQ lkB
    constructor
    · rintro ⟨h1, h2, i, hi, h3⟩
      refine ⟨fun j hj hs => ?_, fun j hj hs => ?_, i, hi, ?_⟩
      · have := h1 j hj
        rw [hs] at this
        simpa using this
      · have := h2 j hj
        rw [hs] at this
        simpa using this
      · simpa using h3
    · rintro ⟨h1, h2, i, hi, h3, h4⟩
      refine ⟨fun j hj => ?_, fun j hj => ?_, i, hi, by simp [h3, h4]⟩
      · cases hs : inS S j with
        | false => rfl
        | true => rw [h1 j hj hs]; rfl
      · cases hs : inS S j with
        | false => rfl
        | true =>
          have := h2 j hj hs
          simp
          omega
  unfold obB
  rw [List.any_eq_true]
  constructor
  · rintro ⟨x, hx, hp⟩
    exact ⟨rN x, (pm_of_mem hx).2, (key _).1 hp⟩
  · rintro ⟨p, hp, h1, h2, i, hi, h3, h4⟩
    refine ⟨(List.range n).map p, mem_of_pm hp, (key _).2 ⟨fun j hj hs => ?_, fun j hj hs => ?_, i, hi, h3, ?_⟩⟩
    · rw [rN_map hj]; exact h1 j hj hs
    · rw [rN_map hj]; exact h2 j hj hs
    · rw [rN_map hi]; exact h4
theorem core_none (ht : ∀ i, i < n → Pm n (t i)) (S : Nat) : obB t n S (tr0 t n) = false := by
  rw [← Bool.not_eq_true, obB_iff ht]
  rintro ⟨p, hp, h1, h2, i, hi, h3, h4⟩
  have key : ∀ r, ∀ i, i < n → inS S i = true → rn0 t n i = r → p i = tr0 t n i := by
    intro r
    induction r using Nat.strongRecOn with
    | ind r ih =>
      intro i hi hs hr
      rcases Nat.lt_or_eq_of_le (h2 i hi hs) with hl | he
      · exfalso
        have hpl := hp.lt i hi
        have h5 := (gets0 ht hi).2 (p i) hpl hl
        rw [hr] at h5
        obtain ⟨j, hj, e1, e2, hjs⟩ := prev0 ht hpl (fun y => inS S y = true) (fun y hy e hs' => by
          rw [← ih (rn0 t n y) (by omega) y hy hs' rfl]
          exact h1 y hy hs') (h1 i hi hs)
        have e3 := ih (rn0 t n j) (by omega) j hj hjs rfl
        have : j = i := hp.inj j i hj hi (by rw [e3, e2])
        subst this
        omega
      · exact rank_inj ht hi (hp.lt i hi) ((tr0_pm ht).lt i hi) he
  rw [key _ i hi h3 rfl] at h4
  omega
/-- The set of those with f. -/
def seB (f : Nat → Bool) (n : Nat) : Nat := (decide (0 < n) && f 0).toNat + 2 * (decide (1 < n) && f 1).toNat + 4 * (decide (2 < n) && f 2).toNat + 8 * (decide (3 < n) && f 3).toNat + 16 * (decide (4 < n) && f 4).toNat
theorem seB_key : ∀ b0 b1 b2 b3 b4 : Bool, inS (b0.toNat + 2 * b1.toNat + 4 * b2.toNat + 8 * b3.toNat + 16 * b4.toNat) 0 = b0 ∧ inS (b0.toNat + 2 * b1.toNat + 4 * b2.toNat + 8 * b3.toNat + 16 * b4.toNat) 1 = b1 ∧ inS (b0.toNat + 2 * b1.toNat + 4 * b2.toNat + 8 * b3.toNat + 16 * b4.toNat) 2 = b2 ∧ inS (b0.toNat + 2 * b1.toNat + 4 * b2.toNat + 8 * b3.toNat + 16 * b4.toNat) 3 = b3 ∧ inS (b0.toNat + 2 * b1.toNat + 4 * b2.toNat + 8 * b3.toNat + 16 * b4.toNat) 4 = b4 := by decide
theorem seB_lt_key : ∀ n : Nat, n < 6 → ∀ b0 b1 b2 b3 b4 : Bool, (decide (0 < n) && b0).toNat + 2 * (decide (1 < n) && b1).toNat + 4 * (decide (2 < n) && b2).toNat + 8 * (decide (3 < n) && b3).toNat + 16 * (decide (4 < n) && b4).toNat < 2 ^ n := by decide
theorem seB_in {f : Nat → Bool} {n x : Nat} (hn : n ≤ 5) (hx : x < n) : inS (seB f n) x = f x := by
  obtain ⟨h0, h1, h2, h3, h4⟩ := seB_key (decide (0 < n) && f 0) (decide (1 < n) && f 1) (decide (2 < n) && f 2) (decide (3 < n) && f 3) (decide (4 < n) && f 4)
  have : x = 0 ∨ x = 1 ∨ x = 2 ∨ x = 3 ∨ x = 4 := by omega
  unfold seB
  rcases this with rfl | rfl | rfl | rfl | rfl
  · rw [h0, decide_eq_true hx, Bool.true_and]
  · rw [h1, decide_eq_true hx, Bool.true_and]
  · rw [h2, decide_eq_true hx, Bool.true_and]
  · rw [h3, decide_eq_true hx, Bool.true_and]
  · rw [h4, decide_eq_true hx, Bool.true_and]
theorem seB_lt {f : Nat → Bool} {n : Nat} (hn : n ≤ 5) : seB f n < 2 ^ n := seB_lt_key n (by omega) _ _ _ _ _
theorem core_some (hn : n ≤ 5) (ht : ∀ i, i < n → Pm n (t i)) {o : Nat → Nat} (ho : Pm n o) (hne : ∃ i, i < n ∧ o i ≠ tr0 t n i) : ∃ S, S < 2 ^ n ∧ obB t n S o = true := by
  obtain ⟨i0, hi0, hd, hmin⟩ : ∃ i, i < n ∧ o i ≠ tr0 t n i ∧ ∀ j, j < n → rn0 t n j < rn0 t n i → o j = tr0 t n j := by
    obtain ⟨i, hi, hd⟩ := hne
    have : ∀ r, ∀ i, i < n → o i ≠ tr0 t n i → rn0 t n i = r → ∃ i, i < n ∧ o i ≠ tr0 t n i ∧ ∀ j, j < n → rn0 t n j < rn0 t n i → o j = tr0 t n j := by
      intro r
      induction r using Nat.strongRecOn with
      | ind r ih =>
        intro i hi hd hr
        by_cases hx : ∃ j, j < n ∧ rn0 t n j < rn0 t n i ∧ o j ≠ tr0 t n j
        · obtain ⟨j, hj, h1, h2⟩ := hx
          exact ih _ (by omega) j hj h2 rfl
        · refine ⟨i, hi, hd, fun j hj hl => ?_⟩
          apply Classical.byContradiction
          intro h
          exact hx ⟨j, hj, hl, h⟩
    exact this _ i hi hd rfl
  refine ⟨seB (fun j => decide (rn0 t n j = rn0 t n i0)) n, seB_lt hn, (obB_iff ht).2 ⟨tr0 t n, tr0_pm ht, fun i hi hs => ?_, fun i hi hs => ?_, i0, hi0, ?_, ?_⟩⟩
  · rw [seB_in hn hi, decide_eq_true_iff] at hs
    rw [seB_in hn ((tr0_pm ht).lt i hi), decide_eq_true_iff, (gets0 ht hi).1, hs]
  · rw [seB_in hn hi, decide_eq_true_iff] at hs
    apply Classical.byContradiction
    intro hlt
    have hol := ho.lt i hi
    have h1 := (gets0 ht hi).2 (o i) hol (by omega)
    obtain ⟨j, hj, e1, e2, -⟩ := prev0 ht hol (fun _ => True) (fun _ _ _ _ => trivial) trivial
    have h2 := hmin j hj (by omega)
    have : j = i := ho.inj j i hj hi (by rw [h2, e2])
    subst this
    omega
  · rw [seB_in hn hi0, decide_eq_true_iff]
  · have hol := ho.lt i0 hi0
    have htl := (tr0_pm ht).lt i0 hi0
    rcases Nat.lt_trichotomy (owF (t i0) n (tr0 t n i0)) (owF (t i0) n (o i0)) with h | h | h
    · exact h
    · exact absurd (rank_inj ht hi0 htl hol h).symm hd
    · exfalso
      have h1 := (gets0 ht hi0).2 (o i0) hol h
      obtain ⟨j, hj, e1, e2, -⟩ := prev0 ht hol (fun _ => True) (fun _ _ _ _ => trivial) trivial
      have h2 := hmin j hj (by omega)
      have : j = i0 := ho.inj j i0 hj hi0 (by rw [h2, e2])
      subst this
      omega
end
theorem pc5_top : ∀ n : Nat, n < 6 → ∀ s : Nat, s < 2 ^ n → pc5 s ≤ n := by decide +kernel
theorem obR_inv {ob : Nat → Bool} {n : Nat} (hn : n ≤ 5) (h0 : ob 0 = false) : ∀ m, m ≤ 2 ^ n → (obR ob n m = (0, n + 1) ∧ ∀ s, s < m → ob s = false) ∨ ((obR ob n m).1 ≠ 0 ∧ ∃ s, s < m ∧ ob s = true) := by
  intro m
  induction m with
  | zero => intro _; exact .inl ⟨rfl, fun s hs => absurd hs (by omega)⟩
  | succ m ih =>
    intro hm
    have hpc := pc5_top n (by omega) m (by omega)
    rw [obR]
    rcases ih (by omega) with ⟨e, hall⟩ | ⟨hne, s, hs, ho⟩
    · cases hob : ob m with
      | true =>
        right
        rw [e, if_pos ⟨by show pc5 m < n + 1; omega, rfl⟩]
        refine ⟨?_, m, by omega, hob⟩
        show m ≠ 0
        rintro rfl
        rw [h0] at hob
        cases hob
      | false =>
        left
        rw [if_neg (fun h => by cases h.2)]
        refine ⟨e, fun s hs => ?_⟩
        rcases Nat.lt_or_ge s m with hl | hl
        · exact hall s hl
        · obtain rfl : s = m := by omega
          exact hob
    · right
      split
      · rename_i h
        refine ⟨?_, m, by omega, h.2⟩
        show m ≠ 0
        rintro rfl
        rw [h0] at h
        cases h.2
      · exact ⟨hne, s, by omega, ho⟩
theorem obB_zero (t : Nat → Nat → Nat) (n : Nat) (h : Nat → Nat) : obB t n 0 h = false := by
  unfold obB
  rw [← Bool.not_eq_true, List.any_eq_true]
  rintro ⟨x, _, hp⟩
  unfold obP gnB at hp
  rw [Bool.and_eq_true, Bool.and_eq_true, anyB_iff] at hp
  obtain ⟨-, -, p, -, hq⟩ := hp
  unfold gnQ at hq
  rw [inS_zero] at hq
  cases hq
theorem obV_none {t : Nat → Nat → Nat} {n : Nat} {h : Nat → Nat} (hn : n ≤ 5) (hno : ∀ s, s < 2 ^ n → obB t n s h = false) : obV t n h = .tuple #[.int .i64 0, .int .i64 4] := by
  unfold obV
  rcases obR_inv (ob := fun s => obB t n s h) hn (obB_zero t n h) (2 ^ n) (Nat.le_refl _) with ⟨e, -⟩ | ⟨-, s, hs, ho⟩
  · rw [e]; rfl
  · rw [hno s hs] at ho; cases ho
theorem obV_some {t : Nat → Nat → Nat} {n : Nat} {h : Nat → Nat} (hn : n ≤ 5) (hs : ∃ s, s < 2 ^ n ∧ obB t n s h = true) : ∃ b : Nat, 0 < b ∧ obV t n h = .tuple #[.int .i64 b, .int .i64 0] := by
  unfold obV
  rcases obR_inv (ob := fun s => obB t n s h) hn (obB_zero t n h) (2 ^ n) (Nat.le_refl _) with ⟨-, hall⟩ | ⟨hne, -⟩
  · obtain ⟨s, h1, h2⟩ := hs
    rw [hall s h1] at h2; cases h2
  · exact ⟨_, Nat.pos_of_ne_zero hne, by rw [if_neg hne]⟩
end Go.Proofs.Ytocfbafcplhmiaa
