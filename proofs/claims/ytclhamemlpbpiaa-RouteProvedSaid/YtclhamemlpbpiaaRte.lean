/- What proves a way: the distances of its first stop. -/
import Derived.Test.YtclhamemlpbpiaaRtc
import Derived.Test.YtclhamemlpbpiaaHt
namespace Go.Proofs.Ytclhamemlpbpiaa
open Go.RowKit

theorem stR_le {n m : Nat} {F : Nat → Nat → Int} (hok : okM n m F = true) {x y : Int} : ∀ k, k ≤ m → ∀ i, i < k → jnP F x y i → 0 ≤ stR F x y k ∧ stR F x y k ≤ F i 2 := by
  obtain ⟨-, -, hrd⟩ := okM_iff.1 hok
  intro k
  induction k with
  | zero => intro _ i hi; omega
  | succ k ih =>
    intro hk i hi hj
    have h1 := (hrd k (by omega)).2.2.2
    rw [stR]
    by_cases e : i = k
    · subst e
      by_cases h3 : jnP F x y i ∧ (stR F x y i < 0 ∨ F i 2 < stR F x y i)
      · rw [if_pos h3]
        omega
      · rw [if_neg h3]
        have h4 : ¬ (stR F x y i < 0 ∨ F i 2 < stR F x y i) := fun h => h3 ⟨hj, h⟩
        omega
    · have h2 := ih (by omega) i (by omega) hj
      by_cases h3 : jnP F x y k ∧ (stR F x y k < 0 ∨ F k 2 < stR F x y k)
      · rw [if_pos h3]
        omega
      · rw [if_neg h3]
        exact h2
theorem road_le {n m : Nat} {F : Nat → Nat → Int} (hok : okM n m F = true) {k x y : Nat} (hk : k < m) (hx : x < n) (hy : y < n) (e1 : F k 0 = x) (e2 : F k 1 = y) : dsT n m F (8 * x + y) ≤ F k 2 ∧ dsT n m F (8 * y + x) ≤ F k 2 := by
  have hne : x ≠ y := fun e => by
    have := ((okM_iff.1 hok).2.2 k hk).2.2.1
    rw [e1, e2, e] at this
    exact this rfl
  have hle : ∀ i, dsT n m F i ≤ stT n m F i := dS_le n
  have h1 := stR_le hok (x := (x : Int)) (y := (y : Int)) m (Nat.le_refl _) k hk (by unfold jnP; omega)
  have h2 := stT_stR hok hx hy hne
  rw [if_neg (by omega)] at h2
  have h3 := hle (8 * x + y)
  have h4 := (dsT_met hok).sym x y hx hy
  omega
/-- Distances from a stop bound the roads. -/
theorem ptB_dist {n m : Nat} {F : Nat → Nat → Int} (hok : okM n m F = true) {a : Nat} (ha : a < n) : ptB m F (fun b => dsT n m F (8 * a + b)) = true := by
  refine ptB_iff.2 (fun k hk => ?_)
  obtain ⟨h1, h2, -⟩ := (okM_iff.1 hok).2.2 k hk
  obtain ⟨x, hx⟩ : ∃ x : Nat, F k 0 = x := ⟨(F k 0).toNat, by omega⟩
  obtain ⟨y, hy⟩ : ∃ y : Nat, F k 1 = y := ⟨(F k 1).toNat, by omega⟩
  rw [hx, hy, Int.toNat_natCast, Int.toNat_natCast]
  have h3 := road_le hok hk (x := x) (y := y) (by omega) (by omega) hx hy
  have hM := dsT_met hok
  have h4 := hM.tri y (by omega) a x ha (by omega)
  have h5 := hM.tri x (by omega) a y ha (by omega)
  show dsT n m F (8 * a + x) - dsT n m F (8 * a + y) ≤ F k 2 ∧ -(dsT n m F (8 * a + x) - dsT n m F (8 * a + y)) ≤ F k 2
  omega
/-- Way with these potentials is accepted. -/
theorem sh_way {n m : Nat} {F : Nat → Nat → Int} (hok : okM n m F = true) {a b : Nat} (ha : a < n) (hb : b < n) {L : List Int} (hlt : dsT n m F (8 * a + b) < 400)
    (hw : wyF n (stT n m F) (dsT n m F) b (dsT n m F (8 * a + b)).toNat [(a : Int)] a none = some L) : shB n m F (fun i => L.getD i 0) L.length (fun v => dsT n m F (8 * a + v)) n = true := by
  have hM := dsT_met hok
  have hB := dsT_bd hok
  obtain ⟨v, e, h⟩ := wyF_good hok hb (dsT n m F (8 * a + b)).toNat a [(a : Int)] none (PayG.start ha) hlt (by have := hM.nn (8 * a + b); omega)
  rw [hw] at e
  injection e with e
  subst e
  rcases h with h | h
  · cases h
  have hlen := wkB_le h.wk
  have hn8 : n ≤ 8 := by have := (okM_iff.1 hok).1; omega
  have h0 := h.cost
  rw [hM.diag b hb] at h0
  rcases wk_cost hok _ h.wk with ⟨-, e2, e3, e4⟩ | ⟨e1, -⟩
  · have hpos := h.pos
    unfold shB boB
    rw [h.wk, decide_eq_true hpos, e2, decide_eq_true (show coS m F (fun i => L.getD i 0) L.length < 400 by omega), decide_eq_true rfl, ptB_dist hok ha]
    have hr : rgB (fun v => dsT n m F (8 * a + v)) n = true := rgB_iff.2 (fun j hj => by
      have h1 := hM.nn (8 * a + j)
      have h2 := hB (8 * a + j)
      show -1000 ≤ dsT n m F (8 * a + j) ∧ dsT n m F (8 * a + j) ≤ 1000
      omega)
    rw [hr]
    simp only [Bool.true_and, Bool.and_true]
    refine decide_eq_true ?_
    rw [h.last, h.first, Int.toNat_natCast, Int.toNat_natCast, hM.diag a ha]
    omega
  · rw [h.ro] at e1
    cases e1
/-- What is accepted is as long as the distance. -/
theorem sh_dist {n m : Nat} {F : Nat → Nat → Int} (hok : okM n m F = true) {f p : Nat → Int} {k kp : Nat} (h : shB n m F f k p kp = true) :
    0 < k ∧ k ≤ n ∧ kp = n ∧ (∀ i, i < k → 0 ≤ f i ∧ f i < n) ∧ (∀ j, j < n → -1000 ≤ p j ∧ p j ≤ 1000) ∧ p (f (k - 1)).toNat - p (f 0).toNat = rowD (dsT n m F) (f 0).toNat (f (k - 1)).toNat := by
  unfold shB boB at h
  rw [Bool.and_eq_true_iff, Bool.and_eq_true_iff, Bool.and_eq_true_iff, Bool.and_eq_true_iff, Bool.and_eq_true_iff, Bool.and_eq_true_iff, decide_eq_true_iff, decide_eq_true_iff, decide_eq_true_iff, decide_eq_true_iff] at h
  obtain ⟨⟨hw, h0, hlt⟩, ⟨hkp, hr, hp⟩, he⟩ := h
  have hk := wkB_le hw
  have hwk := wkB_iff.1 hw
  subst hkp
  have hr := rgB_iff.1 hr
  refine ⟨h0, hk, rfl, fun i hi => (hwk i hi).1, hr, ?_⟩
  rcases wk_cost hok k hw with ⟨e1, e2, -, -⟩ | ⟨-, e2⟩
  · obtain ⟨j, rfl⟩ : ∃ j, k = j + 1 := ⟨k - 1, by omega⟩
    have h1 := way_ge hok j hw e1
    rw [show j + 1 - 1 = j by omega] at he ⊢
    have hx := (hwk 0 (by omega)).1
    have hy := (hwk j (by omega)).1
    have hM := dsT_met hok
    have h2 := pt_le hok hp (x := (f 0).toNat) (by omega) (dsT kp m F (8 * (f 0).toNat + (f j).toNat)).toNat (f j).toNat (by omega) (by omega) (by have := hM.nn (8 * (f 0).toNat + (f j).toNat); omega)
    unfold rowD dOf
    rw [if_neg (by omega)]
    omega
  · omega
theorem by_stop (q : Int) {n : Nat} (h1 : 1 ≤ n) (h2 : n ≤ 8) : ∃ u : Nat, u < n ∧ wrap64 ((IntKind.u64.wrap q).tmod (n : Int)) = (u : Int) := by
  rw [IntKind.wrap_u64]
  have h3 : 0 ≤ q % 18446744073709551616 := Int.emod_nonneg _ (by omega)
  rw [Int.tmod_eq_emod_of_nonneg h3]
  generalize q % 18446744073709551616 = x at *
  have h4 : 0 ≤ x % (n : Int) := Int.emod_nonneg _ (by omega)
  have h5 : x % (n : Int) < n := Int.emod_lt_of_pos _ (by omega)
  refine ⟨(x % (n : Int)).toNat, by omega, ?_⟩
  generalize x % (n : Int) = y at *
  unfold wrap64
  omega
end Go.Proofs.Ytclhamemlpbpiaa
