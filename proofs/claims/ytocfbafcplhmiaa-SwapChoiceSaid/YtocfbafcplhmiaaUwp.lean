/- An outcome that nothing is better than is chosen in some order, and the other way round. -/
import Derived.Test.YtocfbafcplhmiaaUzo
import Derived.Test.YtocfbafcplhmiaaUw
namespace Go.Proofs.Ytocfbafcplhmiaa
open Go.RowKit

section
variable {t : Nat → Nat → Nat} {n : Nat}
/-- Nothing is better than o. -/
def NoB (t : Nat → Nat → Nat) (n : Nat) (o : Nat → Nat) : Prop := ∀ p : Nat → Nat, Pm n p → (∀ i, i < n → owF (t i) n (p i) ≤ owF (t i) n (o i)) → ∀ i, i < n → p i = o i
theorem best_min {S i x : Nat} (ht : Pm n (t i)) (hx : x < n) (hs : inS S x = true) : owF (t i) n (bsB t n S i) ≤ owF (t i) n x := by
  obtain ⟨h1, h2⟩ := owF_at ht hx
  have h3 := fsN_lt (p := fun k => inS S (t i k)) h1 (by show inS S (t i (owF (t i) n x)) = true; rw [h2]; exact hs)
  unfold bsB
  rw [owF_of ht h3.1]
  exact h3.2
theorem chosen_best (hn : n ≤ 5) (ht : ∀ i, i < n → Pm n (t i)) {f : Nat → Nat} (hf : Pm n f) : NoB t n (chF t n f) := by
  intro p hp hle
  have key : ∀ j, j < n → p (f j) = chF t n f (f j) := by
    intro j
    induction j using Nat.strongRecOn with
    | ind j ih =>
      intro hj
      have hfj := hf.lt j hj
      have hpl := hp.lt _ hfj
      obtain ⟨h1, h2, h3, h4, h5⟩ := ch_inv hn ht hf j (by omega)
      have hin : inS (chL t n f j) (p (f j)) = true := by
        rw [h2 _ (by omega), decide_eq_true hpl, anyB_f (fun q hq => by
          rw [decide_eq_false_iff_not]
          intro e
          have h6 := ih q hq (by omega)
          rw [chF_at hf (by omega), e] at h6
          have := hp.inj _ _ (hf.lt q (by omega)) hfj h6
          have := hf.inj _ _ (by omega) hj this
          omega)]
        rfl
      have h7 := best_min (ht _ hfj) hpl hin
      have h8 := hle _ hfj
      rw [chF_at hf hj] at h8 ⊢
      exact rank_inj ht hfj hpl (bsB_lt (ht _ hfj) (h5 hj)).1 (by omega)
  intro i hi
  obtain ⟨j, hj, rfl⟩ := hf.surj hi
  exact key j hj
/-- Someone who is left has the best thing that is left. -/
theorem pick_ex (ht : ∀ i, i < n → Pm n (t i)) {o : Nat → Nat} (ho : Pm n o) (hb : NoB t n o) {lv : Nat → Bool} (hex : ∃ i, i < n ∧ lv i = true) : ∃ i, i < n ∧ lv i = true ∧ bsF t n (owF o n) lv i = o i := by
  have hW : Wsh n t (owF o n) := ⟨ht, owF_pm ho⟩
  obtain ⟨i0, hi0, hl0⟩ := hex
  obtain ⟨j, hj, hg⟩ := gsF_ex hW hi0 hl0
  have hpm : Pm n (fun i => if gsF t n (owF o n) lv i = true then bsF t n (owF o n) lv i else o i) := by
    refine Pm.of (ord_of_surj (fun x hx => ?_))
    cases hgx : gsF t n (owF o n) lv (owF o n x) with
    | true =>
      have h1 := taken_iff hW (lv := lv) hx
      rw [hgx, anyB_iff] at h1
      obtain ⟨p, hp, e⟩ := h1
      rw [Bool.and_eq_true, decide_eq_true_iff] at e
      exact ⟨p, hp, by simp [e.1, e.2]⟩
    | false =>
      refine ⟨owF o n x, (owF_at ho hx).1, ?_⟩
      simp only [hgx]
      simp [(owF_at ho hx).2]
  have hat : ∀ i, i < n → lv i = true → owF (t i) n (bsF t n (owF o n) lv i) ≤ owF (t i) n (o i) := by
    intro i hi hl
    obtain ⟨k, hk, e1, -, e3, e4⟩ := bsF_at hW hi hi hl
    have hoi := ho.lt i hi
    obtain ⟨r1, r2⟩ := owF_at (ht i hi) hoi
    rw [e1, owF_of (ht i hi) hk]
    rcases Nat.lt_or_ge (owF (t i) n (o i)) k with hlt | hge
    · have := e4 _ hlt
      rw [r2, owF_of ho hi, hl] at this
      cases this
    · exact hge
  refine ⟨j, hj, gsF_left hg, ?_⟩
  have := hb _ hpm (fun i hi => by
    show owF (t i) n (if gsF t n (owF o n) lv i = true then bsF t n (owF o n) lv i else o i) ≤ _
    split
    · rename_i h
      exact hat i hi (gsF_left h)
    · exact Nat.le_refl _) j hj
  have h2 : (if gsF t n (owF o n) lv j = true then bsF t n (owF o n) lv j else o j) = o j := this
  rw [hg, if_pos rfl] at h2
  exact h2
/-- Who is left behind the first j of f. -/
def lvO (f : Nat → Nat) (j : Nat) : Nat → Bool := fun p => !anyB (fun q => decide (f q = p)) j
theorem lvO_congr {f g : Nat → Nat} {j : Nat} (h : ∀ q, q < j → f q = g q) : lvO f j = lvO g j := by
  funext p
  unfold lvO
  rw [anyB_congr (fun q hq => by rw [h q hq])]
theorem order_ex (ht : ∀ i, i < n → Pm n (t i)) {o : Nat → Nat} (ho : Pm n o) (hb : NoB t n o) : ∀ k, k ≤ n → ∃ f : Nat → Nat, (∀ j, j < k → f j < n) ∧ (∀ i j, i < k → j < k → f i = f j → i = j) ∧ ∀ j, j < k → bsF t n (owF o n) (lvO f j) (f j) = o (f j) := by
  intro k
  induction k with
  | zero => intro _; exact ⟨fun _ => 0, fun j hj => absurd hj (by omega), fun i j hi => absurd hi (by omega), fun j hj => absurd hj (by omega)⟩
  | succ k ih =>
    intro hk
    obtain ⟨f, h1, h2, h3⟩ := ih (by omega)
    have hex : ∃ i, i < n ∧ lvO f k i = true := by
      apply Classical.byContradiction
      intro hno
      have hall : ∀ x, x < n → ∃ q, q < k ∧ f q = x := fun x hx => by
        apply Classical.byContradiction
        intro hno2
        refine hno ⟨x, hx, ?_⟩
        unfold lvO
        rw [anyB_f (fun q hq => by rw [decide_eq_false_iff_not]; exact fun e => hno2 ⟨q, hq, e⟩)]
        rfl
      have hp : ∃ p : Nat → Nat, ∀ x, x < n → p x < k ∧ f (p x) = x := by
        refine ⟨fun x => if hx : x < n then Classical.choose (hall x hx) else 0, fun x hx => ?_⟩
        have := Classical.choose_spec (hall x hx)
        simpa [hx] using this
      obtain ⟨p, hp⟩ := hp
      obtain ⟨i, j, hij, hj, e⟩ := pig k p (fun x hx => (hp x (by omega)).1)
      have e1 := (hp i (by omega)).2
      have e2 := (hp j (by omega)).2
      rw [e] at e1
      omega
    obtain ⟨i, hi, hl, he⟩ := pick_ex ht ho hb hex
    have hni : ∀ q, q < k → f q ≠ i := fun q hq e => by
      unfold lvO at hl
      rw [anyB_t hq (by simp [e])] at hl
      cases hl
    refine ⟨fun j => if j = k then i else f j, fun j hj => ?_, fun a b ha hb' e => ?_, fun j hj => ?_⟩
    · show (if j = k then i else f j) < n
      split
      · exact hi
      · exact h1 j (by omega)
    · have e' : (if a = k then i else f a) = (if b = k then i else f b) := e
      by_cases ea : a = k
      · by_cases eb : b = k
        · omega
        · rw [if_pos ea, if_neg eb] at e'
          exact absurd e'.symm (hni b (by omega))
      · by_cases eb : b = k
        · rw [if_neg ea, if_pos eb] at e'
          exact absurd e' (hni a (by omega))
        · rw [if_neg ea, if_neg eb] at e'
          exact h2 a b (by omega) (by omega) e'
    · have hc : lvO (fun j => if j = k then i else f j) j = lvO f j := lvO_congr (fun q hq => by
        show (if q = k then i else f q) = f q
        rw [if_neg (by omega)])
      rw [hc]
      show bsF t n (owF o n) (lvO f j) (if j = k then i else f j) = o (if j = k then i else f j)
      by_cases e : j = k
      · rw [if_pos e, e]
        exact he
      · rw [if_neg e]
        exact h3 j (by omega)
theorem order_of (hn : n ≤ 5) (ht : ∀ i, i < n → Pm n (t i)) {o : Nat → Nat} (ho : Pm n o) (hb : NoB t n o) : ∃ f : Nat → Nat, Pm n f ∧ ∀ i, i < n → chF t n f i = o i := by
  obtain ⟨f, h1, h2, h3⟩ := order_ex ht ho hb n (Nat.le_refl _)
  have hf : Pm n f := ⟨h1, h2⟩
  have key : ∀ j, j < n → bsB t n (chL t n f j) (f j) = o (f j) := by
    intro j
    induction j using Nat.strongRecOn with
    | ind j ih =>
      intro hj
      rw [← h3 j hj]
      refine bsB_bsF ho (ht _ (h1 j hj)) (fun p hp => ?_)
      obtain ⟨-, q2, -⟩ := ch_inv hn ht hf j (by omega)
      have hop := ho.lt p hp
      rw [q2 _ (by omega), decide_eq_true hop, Bool.true_and]
      unfold lvO
      rw [anyB_congr (fun q hq => ?_)]
      rw [decide_eq_decide, ih q hq (by omega)]
      constructor
      · intro e; rw [e]
      · intro e; exact ho.inj _ _ (h1 q (by omega)) hp e
  refine ⟨f, hf, fun i hi => ?_⟩
  obtain ⟨j, hj, rfl⟩ := hf.surj hi
  rw [chF_at hf hj, key j hj]
/-- In the program's words: Better finds nothing exactly if nothing is better. -/
theorem btP_iff (hn : n ≤ 5) (_ : ∀ i, i < n → Pm n (t i)) {o : Nat → Nat} {x : List Nat} : btP t n o x = true ↔ (∀ i, i < n → owF (t i) n (rN x i) ≤ owF (t i) n (o i)) ∧ ∃ i, i < n ∧ owF (t i) n (rN x i) < owF (t i) n (o i) := by
  have hfull : ∀ i, i < n → inS (2 ^ n - 1) i = true := fun i hi => by rw [inS_full n (by omega) i (by omega), decide_eq_true hi]
  unfold btP gnB
  rw [Bool.and_eq_true, allB_iff, anyB_iff]
  unfold gnP gnQ lkB
  constructor
  · rintro ⟨h1, i, hi, h2⟩
    refine ⟨fun j hj => ?_, i, hi, ?_⟩
    · have := h1 j hj
      rw [hfull j hj] at this
      simpa using this
    · rw [hfull i hi] at h2
      simpa using h2
  · rintro ⟨h1, i, hi, h2⟩
    refine ⟨fun j hj => ?_, i, hi, ?_⟩
    · rw [hfull j hj]
      have := h1 j hj
      simp
      omega
    · rw [hfull i hi]
      simp [h2]
theorem better_none (hn : n ≤ 5) (ht : ∀ i, i < n → Pm n (t i)) {o : Nat → Nat} (ho : Pm n o) : (ordL (List.range n) n []).find? (btP t n o) = none ↔ NoB t n o := by
  rw [List.find?_eq_none]
  constructor
  · intro h p hp hle i hi
    apply Classical.byContradiction
    intro hne
    refine h _ (mem_of_pm hp) ((btP_iff hn ht).2 ⟨fun j hj => by rw [rN_map hj]; exact hle j hj, i, hi, ?_⟩)
    rw [rN_map hi]
    rcases Nat.lt_or_eq_of_le (hle i hi) with hl | he
    · exact hl
    · exact absurd (rank_inj ht hi (hp.lt i hi) (ho.lt i hi) he) hne
  · intro h x hx hb
    obtain ⟨h1, i, hi, h2⟩ := (btP_iff hn ht).1 hb
    have := h _ (pm_of_mem hx).2 h1 i hi
    rw [this] at h2
    omega
theorem odP_iff {o : Nat → Nat} {x : List Nat} : odP t n o x = true ↔ ∀ i, i < n → chF t n (rN x) i = o i := by
  unfold odP eqB eqP
  rw [Bool.and_eq_true, allB_iff]
  constructor
  · rintro ⟨-, h⟩ i hi
    exact Int.ofNat.inj (of_decide_eq_true (h i hi))
  · intro h
    exact ⟨by simp, fun i hi => by simp [h i hi]⟩
theorem chF_congr {f g : Nat → Nat} (h : ∀ k, k < n → f k = g k) : ∀ i, chF t n f i = chF t n g i := by
  have hL : ∀ k, k ≤ n → chL t n f k = chL t n g k := by
    intro k
    induction k with
    | zero => intro _; rfl
    | succ k ih =>
      intro hk
      show adN (chL t n f k) (2 ^ (bsB t n (chL t n f k) (f k))) = adN (chL t n g k) (2 ^ (bsB t n (chL t n g k) (g k)))
      rw [ih (by omega), h k (by omega)]
  have hO : ∀ k, k ≤ n → ∀ i, chO t n f k i = chO t n g k i := by
    intro k
    induction k with
    | zero => intro _ i; rfl
    | succ k ih =>
      intro hk i
      rw [chO_succ, chO_succ, h k (by omega), hL k (by omega), ih (by omega)]
  exact hO n (Nat.le_refl _)
theorem order_none (hn : n ≤ 5) (ht : ∀ i, i < n → Pm n (t i)) {o : Nat → Nat} (ho : Pm n o) : (ordL (List.range n) n []).find? (odP t n o) = none ↔ ¬ NoB t n o := by
  rw [List.find?_eq_none]
  constructor
  · intro h hb
    obtain ⟨f, hf, he⟩ := order_of hn ht ho hb
    refine h _ (mem_of_pm hf) (odP_iff.2 (fun i hi => ?_))
    rw [chF_congr (g := f) (fun k hk => rN_map hk) i]
    exact he i hi
  · intro h x hx hb
    have h1 := odP_iff.1 hb
    refine h (fun p hp hle i hi => ?_)
    rw [← h1 i hi]
    refine chosen_best hn ht (pm_of_mem hx).2 p hp (fun j hj => ?_) i hi
    rw [h1 j hj]
    exact hle j hj
end
end Go.Proofs.Ytocfbafcplhmiaa
