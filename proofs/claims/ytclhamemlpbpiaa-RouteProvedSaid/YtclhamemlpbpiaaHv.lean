/- What Way finds: ways that cost the distance. -/
import Derived.Test.YtclhamemlpbpiaaHp
import Derived.Test.YtclhamemlpbpiaaHu
namespace Go.Proofs.Ytclhamemlpbpiaa

theorem coS_congr {m : Nat} {F : Nat → Nat → Int} {f g : Nat → Int} : ∀ k, (∀ i, i < k → f i = g i) → coS m F f k = coS m F g k := by
  intro k
  induction k with
  | zero => intro _; rfl
  | succ k ih =>
    intro h
    rw [coS, coS, ih (fun i hi => h i (by omega)), h k (by omega), h (k - 1) (by omega)]
theorem roB_iff {m : Nat} {F : Nat → Nat → Int} {f : Nat → Int} {k : Nat} : roB m F f k = true ↔ ∀ i, i < k → 0 < i → 0 ≤ stR F (f (i - 1)) (f i) m := by
  unfold roB
  rw [allB_iff]
  constructor
  · intro h i hi h0
    have := h i hi
    rw [decide_eq_false (by omega), Bool.false_or, decide_eq_true_iff] at this
    exact this
  · intro h i hi
    by_cases h0 : i = 0
    · simp [h0]
    · rw [decide_eq_true (h i hi (by omega)), Bool.or_true]
/-- L is the beginning of a way to b that costs the distance; it has come to x. -/
structure PayG (n m : Nat) (F : Nat → Nat → Int) (a b x : Nat) (L : List Int) : Prop where
  pos : 0 < L.length
  rng : x < n
  first : L.getD 0 0 = (a : Int)
  last : L.getD (L.length - 1) 0 = (x : Int)
  wk : wkB n (fun i => L.getD i 0) L.length = true
  ro : roB m F (fun i => L.getD i 0) L.length = true
  cost : coS m F (fun i => L.getD i 0) L.length + dsT n m F (8 * x + b) = dsT n m F (8 * a + b)
  far : ∀ i, i < L.length → dsT n m F (8 * x + b) ≤ dsT n m F (8 * (L.getD i 0).toNat + b)
theorem getD_app {L : List Int} {x : Int} {i : Nat} : (L ++ [x]).getD i 0 = if i < L.length then L.getD i 0 else if i = L.length then x else 0 := by
  by_cases h : i < L.length
  · rw [if_pos h, List.getD_eq_getElem?_getD, List.getElem?_append_left h, ← List.getD_eq_getElem?_getD]
  · rw [if_neg h]
    by_cases h2 : i = L.length
    · subst h2
      simp [List.getD]
    · rw [if_neg h2, List.getD_eq_getElem?_getD, List.getElem?_eq_none (by simp; omega)]
      rfl
theorem PayG.start {n m : Nat} {F : Nat → Nat → Int} {a b : Nat} (ha : a < n) : PayG n m F a b a [(a : Int)] := by
  refine ⟨by simp, ha, rfl, rfl, ?_, ?_, ?_, ?_⟩
  · refine wkB_iff.2 (fun i hi => ?_)
    obtain rfl : i = 0 := by simpa using hi
    exact ⟨⟨by show (0 : Int) ≤ (a : Int); omega, by show (a : Int) < n; omega⟩, fun j hj => absurd hj (by omega)⟩
  · refine roB_iff.2 (fun i hi h0 => ?_)
    simp at hi
    omega
  · simp [coS]
  · intro i hi
    obtain rfl : i = 0 := by simpa using hi
    exact Int.le_refl _
theorem PayG.step {n m : Nat} {F : Nat → Nat → Int} {a b x y : Nat} {L : List Int} (hok : okM n m F = true) (_ : b < n) (hy : y < n) (hlt : dsT n m F (8 * x + b) < 400) (h : PayG n m F a b x L) (hn : nxW (stT n m F) (dsT n m F) b x y = true) :
    PayG n m F a b y (L ++ [(y : Int)]) ∧ dsT n m F (8 * y + b) < dsT n m F (8 * x + b) := by
  obtain ⟨hyx, he⟩ := nxW_iff.1 hn
  have hS := stT_met hok
  have hM := dsT_met hok
  have h1 := hS.off x y h.rng hy (fun e => hyx e.symm)
  have h2 := hM.nn (8 * y + b)
  have hst := stT_stR hok h.rng hy (fun e => hyx e.symm)
  have hr := stR_rng hok x y m (Nat.le_refl _)
  have hs0 : ¬ stR F x y m < 0 := fun hneg => by
    rw [if_pos hneg] at hst
    omega
  rw [if_neg hs0] at hst
  have hlast := h.last
  have hpos := h.pos
  have hl : ∀ i, i < L.length → (L ++ [(y : Int)]).getD i 0 = L.getD i 0 := fun i hi => by rw [getD_app, if_pos hi]
  have hly : (L ++ [(y : Int)]).getD L.length 0 = (y : Int) := by rw [getD_app, if_neg (by omega), if_pos rfl]
  have hlen : (L ++ [(y : Int)]).length = L.length + 1 := by simp
  have hw := wkB_iff.1 h.wk
  have hro := roB_iff.1 h.ro
  have hnew : ∀ j, j < L.length → L.getD j 0 ≠ (y : Int) := fun j hj e => by
    have h3 := h.far j hj
    rw [e, Int.toNat_natCast] at h3
    omega
  refine ⟨⟨by omega, hy, by rw [hl 0 h.pos]; exact h.first, by rw [hlen]; exact hly, ?_, ?_, ?_, ?_⟩, by omega⟩
  · refine wkB_iff.2 (fun i hi => ?_)
    rw [hlen] at hi
    by_cases hi2 : i < L.length
    · rw [hl i hi2]
      refine ⟨(hw i hi2).1, fun j hj => ?_⟩
      rw [hl j (by omega)]
      exact (hw i hi2).2 j hj
    · obtain rfl : i = L.length := by omega
      rw [hly]
      refine ⟨by omega, fun j hj => ?_⟩
      rw [hl j hj]
      exact hnew j hj
  · refine roB_iff.2 (fun i hi h0 => ?_)
    rw [hlen] at hi
    by_cases hi2 : i < L.length
    · have h3 := hro i hi2 h0
      rw [hl i hi2, hl (i - 1) (by omega)]
      exact h3
    · obtain rfl : i = L.length := by omega
      rw [hly, hl (L.length - 1) (by omega), hlast]
      omega
  · rw [hlen, coS, if_neg (by omega), coS_congr (g := fun i => L.getD i 0) L.length (fun i hi => hl i hi), hly, hl (L.length - 1) (by omega), hlast]
    have h3 := h.cost
    omega
  · intro i hi
    rw [hlen] at hi
    by_cases hi2 : i < L.length
    · rw [hl i hi2]
      have := h.far i hi2
      omega
    · obtain rfl : i = L.length := by omega
      rw [hly, Int.toNat_natCast]
      omega
/-- From a stop that reaches b there is a step. -/
theorem nx_exists {n m : Nat} {F : Nat → Nat → Int} {b x : Nat} (hok : okM n m F = true) (hb : b < n) (hx : x < n) (hxb : x ≠ b) (hlt : dsT n m F (8 * x + b) < 400) : ∃ y, y < n ∧ nxW (stT n m F) (dsT n m F) b x y = true := by
  have hM := dsT_met hok
  have hn8 : n ≤ 8 := by have := (okM_iff.1 hok).1; omega
  have hS := stT_met hok
  have hL : Lst n (stT n m F) (dsT n m F) := dS_lst hn8 hS (fun x y hx hy hxy h => ⟨x, hx, hxy, stT_small hok x y hx hy hxy h, by rw [hS.diag x hx]; omega⟩) n (Nat.le_refl _)
  have hle : ∀ i, dsT n m F i ≤ stT n m F i := dS_le n
  have h1 := hM.sym x b hx hb
  obtain ⟨z, hz, hzx, h2, h3⟩ := hL b x hb hx (fun e => hxb e.symm) (by omega)
  have h4 := hS.sym z x hz hx
  have h5 := hM.sym z b hz hb
  have h6 := hM.tri z hz x b hx hb
  have h7 := hle (8 * x + z)
  exact ⟨z, hz, nxW_iff.2 ⟨hzx, by omega⟩⟩
/-- What the fold gives: something, and what it had or a way. -/
theorem wyF_good {n m : Nat} {F : Nat → Nat → Int} {a b : Nat} (hok : okM n m F = true) (hb : b < n) : ∀ (f x : Nat) (L : List Int) (B : Option (List Int)), PayG n m F a b x L → dsT n m F (8 * x + b) < 400 → dsT n m F (8 * x + b) ≤ f →
    ∃ v, wyF n (stT n m F) (dsT n m F) b f L x B = some v ∧ (B = some v ∨ PayG n m F a b b v) := by
  have hM := dsT_met hok
  have leaf : ∀ (f : Nat) (L : List Int) (B : Option (List Int)), PayG n m F a b b L → ∃ v, wyF n (stT n m F) (dsT n m F) b f L b B = some v ∧ (B = some v ∨ PayG n m F a b b v) := fun f L B h => by
    rw [wyF_end]
    unfold pickW
    cases B with
    | none => exact ⟨L, rfl, .inr h⟩
    | some u =>
      by_cases hl : L.length < u.length
      · exact ⟨L, by simp [hl], .inr h⟩
      · exact ⟨u, by simp [hl], .inl rfl⟩
  intro f
  induction f with
  | zero =>
    intro x L B h hlt hf
    by_cases e : x = b
    · subst e
      exact leaf 0 L B h
    · have := hM.off x b h.rng hb e
      omega
  | succ f ih =>
    intro x L B h hlt hf
    by_cases e : x = b
    · subst e
      exact leaf (f + 1) L B h
    · rw [wyF_step e]
      obtain ⟨y, hy, hyn⟩ := nx_exists hok hb h.rng e hlt
      have key : ∀ k, k ≤ n → (∀ v, wyS n (stT n m F) (dsT n m F) b f L x B k = some v → B = some v ∨ PayG n m F a b b v) ∧ (y < k → wyS n (stT n m F) (dsT n m F) b f L x B k ≠ none) ∧ (B ≠ none → wyS n (stT n m F) (dsT n m F) b f L x B k ≠ none) := by
        intro k
        induction k with
        | zero => intro _; exact ⟨fun v hv => .inl hv, fun h => absurd h (by omega), fun h => h⟩
        | succ k ihk =>
          intro hk
          obtain ⟨i1, i2, i3⟩ := ihk (by omega)
          rw [wyS]
          by_cases hc : nxW (stT n m F) (dsT n m F) b x k = true
          · rw [if_pos hc]
            obtain ⟨hp, hd⟩ := PayG.step hok hb (by omega) hlt h hc
            obtain ⟨v, hv, hor⟩ := ih k (L ++ [(k : Int)]) (wyS n (stT n m F) (dsT n m F) b f L x B k) hp (by omega) (by omega)
            rw [hv]
            refine ⟨fun u hu => ?_, fun _ => by simp, fun _ => by simp⟩
            injection hu with hu
            subst hu
            rcases hor with hor | hor
            · exact i1 _ hor
            · exact .inr hor
          · rw [if_neg hc]
            refine ⟨i1, fun hy2 => ?_, i3⟩
            rcases Nat.lt_or_ge y k with h3 | h3
            · exact i2 h3
            · obtain rfl : y = k := by omega
              exact absurd hyn hc
      obtain ⟨k1, k2, -⟩ := key n (Nat.le_refl _)
      cases hv : wyS n (stT n m F) (dsT n m F) b f L x B n with
      | none => exact absurd hv (k2 hy)
      | some v => exact ⟨v, rfl, k1 v hv⟩
end Go.Proofs.Ytclhamemlpbpiaa
