/- The first shortest way: the program's fold and the reference's search find the same. -/
import Derived.Test.YtclhamemlpbpiaaHw
namespace Go.Proofs.Ytclhamemlpbpiaa

/-- Of what C gives for each length the first with the least one, if it is shorter than B. -/
def BestOf (C : Nat → Option (List Int)) (B R : Option (List Int)) : Prop :=
  (R = B ∧ ∀ l v, C l = some v → ∃ u, B = some u ∧ u.length ≤ l) ∨ (∃ l v, C l = some v ∧ v.length = l ∧ R = some v ∧ (∀ j, j < l → C j = none) ∧ ∀ u, B = some u → l < u.length)
theorem BestOf.none_ {C : Nat → Option (List Int)} {B : Option (List Int)} (h : ∀ l, C l = none) : BestOf C B B := .inl ⟨rfl, fun l v hv => by rw [h l] at hv; cases hv⟩
theorem BestOf.join {C1 C2 : Nat → Option (List Int)} {B R1 R2 : Option (List Int)} (h1 : BestOf C1 B R1) (h2 : BestOf C2 R1 R2) : BestOf (fun l => (C1 l).or (C2 l)) B R2 := by
  rcases h1 with ⟨rfl, h1⟩ | ⟨l1, v1, e1, g1, rfl, m1, b1⟩
  · rcases h2 with ⟨rfl, h2⟩ | ⟨l2, v2, e2, g2, rfl, m2, b2⟩
    · refine .inl ⟨rfl, fun l v hv => ?_⟩
      cases h : C1 l with
      | none => exact h2 l v (by simpa [h] using hv)
      | some u => exact h1 l u h
    · have hn : ∀ j, j ≤ l2 → C1 j = none := fun j hj => by
        cases h : C1 j with
        | none => rfl
        | some u =>
          obtain ⟨x, hx, hle⟩ := h1 j u h
          have := b2 x hx
          omega
      exact .inr ⟨l2, v2, by simp [hn l2 (Nat.le_refl _), e2], g2, rfl, fun j hj => by simp [hn j (by omega), m2 j hj], b2⟩
  · rcases h2 with ⟨rfl, h2⟩ | ⟨l2, v2, e2, g2, rfl, m2, b2⟩
    · refine .inr ⟨l1, v1, by simp [e1], g1, rfl, fun j hj => ?_, b1⟩
      cases h : C2 j with
      | none => simp [m1 j hj, h]
      | some u =>
        obtain ⟨x, hx, hle⟩ := h2 j u h
        injection hx with hx
        subst hx
        omega
    · have hl := b2 v1 rfl
      exact .inr ⟨l2, v2, by simp [m1 l2 (by omega), e2], g2, rfl, fun j hj => by simp [m1 j (by omega), m2 j hj], fun u hu => by have := b1 u hu; omega⟩
theorem BestOf.congr {C D : Nat → Option (List Int)} {B R : Option (List Int)} (h : BestOf C B R) (e : ∀ l, C l = D l) : BestOf D B R := by
  have : C = D := funext e
  rw [← this]
  exact h

/-- The first way on with so many more steps. -/
def wyC (n : Nat) (S T : Nat → Int) (b : Nat) : Nat → List Int → Nat → Option (List Int)
  | 0, L, x => if x = b then some L else none
  | r + 1, L, x => (List.range n).foldl (fun acc y => acc.or (if nxW S T b x y = true then wyC n S T b r (L ++ [(y : Int)]) y else none)) none
def orS (g : Nat → Option (List Int)) : Nat → Option (List Int)
  | 0 => none
  | k + 1 => (orS g k).or (g k)
theorem orS_fold {g : Nat → Option (List Int)} : ∀ k, (List.range k).foldl (fun acc y => acc.or (g y)) none = orS g k := by
  intro k
  induction k with
  | zero => rfl
  | succ k ih =>
    rw [List.range_succ, List.foldl_append, ih]
    rfl
theorem orS_congr {g h : Nat → Option (List Int)} : ∀ k, (∀ y, y < k → g y = h y) → orS g k = orS h k := by
  intro k
  induction k with
  | zero => intro _; rfl
  | succ k ih =>
    intro e
    rw [orS, orS, ih (fun y hy => e y (by omega)), e k (by omega)]
theorem orS_none {g : Nat → Option (List Int)} : ∀ k, (∀ y, y < k → g y = none) → orS g k = none := by
  intro k
  induction k with
  | zero => intro _; rfl
  | succ k ih =>
    intro e
    rw [orS, ih (fun y hy => e y (by omega)), e k (by omega)]
    rfl
theorem wyC_succ {n : Nat} {S T : Nat → Int} {b r : Nat} {L : List Int} {x : Nat} : wyC n S T b (r + 1) L x = orS (fun y => if nxW S T b x y = true then wyC n S T b r (L ++ [(y : Int)]) y else none) n := by
  rw [wyC, orS_fold]
/-- The same by the whole length. -/
def wyA (n : Nat) (S T : Nat → Int) (b : Nat) (L : List Int) (x : Nat) (l : Nat) : Option (List Int) := if l < L.length then none else wyC n S T b (l - L.length) L x

theorem wyF_best {n m : Nat} {F : Nat → Nat → Int} {a b : Nat} (hok : okM n m F = true) (hb : b < n) : ∀ (f x : Nat) (L : List Int) (B : Option (List Int)), PayG n m F a b x L → dsT n m F (8 * x + b) < 400 → dsT n m F (8 * x + b) ≤ f →
    BestOf (wyA n (stT n m F) (dsT n m F) b L x) B (wyF n (stT n m F) (dsT n m F) b f L x B) := by
  have hM := dsT_met hok
  have hS := stT_met hok
  have leaf : ∀ (f : Nat) (L : List Int) (B : Option (List Int)), BestOf (wyA n (stT n m F) (dsT n m F) b L b) B (wyF n (stT n m F) (dsT n m F) b f L b B) := fun f L B => by
    have hz : ∀ r, 0 < r → wyC n (stT n m F) (dsT n m F) b r L b = none := fun r hr => by
      obtain ⟨r, rfl⟩ : ∃ q, r = q + 1 := ⟨r - 1, by omega⟩
      rw [wyC_succ]
      refine orS_none n (fun y hy => if_neg (fun h => ?_))
      obtain ⟨h1, h2⟩ := nxW_iff.1 h
      have h3 := hS.off b y hb hy (fun e => h1 e.symm)
      have h4 := hM.nn (8 * y + b)
      have h5 := hM.diag b hb
      omega
    have hA : ∀ l, wyA n (stT n m F) (dsT n m F) b L b l = if l = L.length then some L else none := fun l => by
      unfold wyA
      by_cases h1 : l < L.length
      · rw [if_pos h1, if_neg (by omega)]
      · rw [if_neg h1]
        by_cases h2 : l = L.length
        · rw [if_pos h2, h2, Nat.sub_self, wyC, if_pos rfl]
        · rw [if_neg h2, hz (l - L.length) (by omega)]
    rw [wyF_end]
    refine BestOf.congr (C := fun l => if l = L.length then some L else none) ?_ (fun l => (hA l).symm)
    unfold pickW
    cases B with
    | none => exact .inr ⟨L.length, L, by simp, rfl, rfl, fun j hj => by simp; omega, fun u hu => by cases hu⟩
    | some u =>
      by_cases hl : L.length < u.length
      · exact .inr ⟨L.length, L, by simp, rfl, by simp [hl], fun j hj => by simp; omega, fun v hv => by injection hv with hv; subst hv; exact hl⟩
      · refine .inl ⟨by simp [hl], fun l v hv => ⟨u, rfl, ?_⟩⟩
        by_cases h : l = L.length
        · omega
        · simp [h] at hv
  intro f
  induction f with
  | zero =>
    intro x L B h hlt hf
    by_cases e : x = b
    · subst e
      exact leaf 0 L B
    · have := hM.off x b h.rng hb e
      omega
  | succ f ih =>
    intro x L B h hlt hf
    by_cases e : x = b
    · subst e
      exact leaf (f + 1) L B
    · rw [wyF_step e]
      have key : ∀ k, k ≤ n → BestOf (fun l => if l < L.length + 1 then none else orS (fun y => if nxW (stT n m F) (dsT n m F) b x y = true then wyC n (stT n m F) (dsT n m F) b (l - (L.length + 1)) (L ++ [(y : Int)]) y else none) k) B (wyS n (stT n m F) (dsT n m F) b f L x B k) := by
        intro k
        induction k with
        | zero => intro _; exact BestOf.none_ (fun l => by simp [orS])
        | succ k ihk =>
          intro hk
          have h1 := ihk (by omega)
          rw [wyS]
          by_cases hc : nxW (stT n m F) (dsT n m F) b x k = true
          · rw [if_pos hc]
            obtain ⟨hp, hd⟩ := PayG.step hok hb (by omega) hlt h hc
            have h2 := ih k (L ++ [(k : Int)]) (wyS n (stT n m F) (dsT n m F) b f L x B k) hp (by omega) (by omega)
            refine (h1.join h2).congr (fun l => ?_)
            unfold wyA
            rw [List.length_append]
            by_cases hl : l < L.length + 1
            · simp [hl]
            · simp [hl, orS, hc]
          · rw [if_neg hc]
            refine h1.congr (fun l => ?_)
            by_cases hl : l < L.length + 1
            · simp [hl]
            · simp [hl, orS, hc]
      refine (key n (Nat.le_refl _)).congr (fun l => ?_)
      unfold wyA
      by_cases h1 : l < L.length
      · rw [if_pos (by omega), if_pos h1]
      · rw [if_neg h1]
        by_cases h2 : l < L.length + 1
        · rw [if_pos h2, show l - L.length = 0 by omega, wyC, if_neg e]
        · rw [if_neg h2, show l - L.length = l - (L.length + 1) + 1 by omega, wyC_succ]

/-- The reference's Cost of a list, and its search. -/
def coL (n m : Nat) (F : Nat → Nat → Int) (L : List Int) : Int := coR n m F (fun i => L.getD i 0) L.length
def wsF (n m : Nat) (F : Nat → Nat → Int) (b : Nat) (d : Int) : Nat → List Int → Option (List Int)
  | 0, L => if L.getD (L.length - 1) 0 = (b : Int) ∧ coL n m F L = d then some L else none
  | r + 1, L => orS (fun y => if 0 ≤ coL n m F (L ++ [(y : Int)]) ∧ coL n m F (L ++ [(y : Int)]) ≤ d then wsF n m F b d r (L ++ [(y : Int)]) else none) n
theorem PayG.coL {n m : Nat} {F : Nat → Nat → Int} {a b x : Nat} {L : List Int} (h : PayG n m F a b x L) : coL n m F L = dsT n m F (8 * a + b) - dsT n m F (8 * x + b) := by
  unfold Proofs.Ytclhamemlpbpiaa.coL coR
  rw [if_neg (by have := h.pos; omega), h.wk, h.ro]
  have := h.cost
  show coS m F (fun i => L.getD i 0) L.length = _
  omega
/-- One stop more. -/
theorem coL_snoc {n m : Nat} {F : Nat → Nat → Int} {L : List Int} {x y : Nat} (hok : okM n m F = true) (hx : x < n) (hp : 0 < L.length) (hl : L.getD (L.length - 1) 0 = (x : Int)) (h : 0 ≤ coL n m F (L ++ [(y : Int)])) : y < n ∧ x ≠ y ∧ 0 ≤ coL n m F L ∧ coL n m F (L ++ [(y : Int)]) = coL n m F L + stT n m F (8 * x + y) := by
  have hll : ∀ i, i < L.length → (L ++ [(y : Int)]).getD i 0 = L.getD i 0 := fun i hi => by rw [getD_app, if_pos hi]
  have hly : (L ++ [(y : Int)]).getD L.length 0 = (y : Int) := by rw [getD_app, if_neg (by omega), if_pos rfl]
  have hln : (L ++ [(y : Int)]).length = L.length + 1 := by simp
  have e1 : coL n m F (L ++ [(y : Int)]) = if (wkB n (fun i => (L ++ [(y : Int)]).getD i 0) (L.length + 1) && roB m F (fun i => (L ++ [(y : Int)]).getD i 0) (L.length + 1)) = true then coS m F (fun i => (L ++ [(y : Int)]).getD i 0) (L.length + 1) else -1 := by
    unfold Proofs.Ytclhamemlpbpiaa.coL coR
    rw [hln, if_neg (by omega)]
  have e2 : coL n m F L = if (wkB n (fun i => L.getD i 0) L.length && roB m F (fun i => L.getD i 0) L.length) = true then coS m F (fun i => L.getD i 0) L.length else -1 := by
    unfold Proofs.Ytclhamemlpbpiaa.coL coR
    rw [if_neg (by omega)]
  rw [e1] at h ⊢
  rw [e2]
  clear e1 e2
  by_cases hg : (wkB n (fun i => (L ++ [(y : Int)]).getD i 0) (L.length + 1) && roB m F (fun i => (L ++ [(y : Int)]).getD i 0) (L.length + 1)) = true
  · rw [if_pos hg]
    rw [Bool.and_eq_true_iff] at hg
    have hw := wkB_iff.1 hg.1
    have hr := roB_iff.1 hg.2
    have hw1 : wkB n (fun i => L.getD i 0) L.length = true := wkB_iff.2 (fun i hi => by
      have h1 := hw i (by omega)
      rw [hll i hi] at h1
      refine ⟨h1.1, fun j hj => ?_⟩
      have h2 := h1.2 j hj
      rw [hll j (by omega)] at h2
      exact h2)
    have hr1 : roB m F (fun i => L.getD i 0) L.length = true := roB_iff.2 (fun i hi h0 => by
      have h1 := hr i (by omega) h0
      rw [hll i hi, hll (i - 1) (by omega)] at h1
      exact h1)
    have h1 := hw L.length (by omega)
    rw [hly] at h1
    have h2 := h1.2 (L.length - 1) (by omega)
    rw [(hll (L.length - 1) (by omega)).trans hl] at h2
    have h3 := hr L.length (by omega) hp
    rw [hly, (hll (L.length - 1) (by omega)).trans hl] at h3
    have h4 := stT_stR hok hx (show y < n by omega) (show x ≠ y by omega)
    rw [if_neg (by omega)] at h4
    rw [hw1, hr1, Bool.and_self, if_pos rfl, coS, if_neg (by omega), coS_congr (g := fun i => L.getD i 0) L.length (fun i hi => hll i hi), hly, (hll (L.length - 1) (by omega)).trans hl]
    refine ⟨by omega, by omega, ?_, by omega⟩
    rcases wk_cost hok L.length hw1 with ⟨-, -, h5, -⟩ | ⟨e, -⟩
    · exact h5
    · rw [hr1] at e
      cases e
  · rw [if_neg hg] at h
    omega
/-- From where the way is too dear nothing is found. -/
theorem wsF_dead {n m : Nat} {F : Nat → Nat → Int} {b : Nat} {d : Int} (hok : okM n m F = true) (hb : b < n) : ∀ (r x : Nat) (L : List Int), x < n → 0 < L.length → L.getD (L.length - 1) 0 = (x : Int) → d < coL n m F L + dsT n m F (8 * x + b) → wsF n m F b d r L = none := by
  have hM := dsT_met hok
  have hle : ∀ i, dsT n m F i ≤ stT n m F i := dS_le n
  intro r
  induction r with
  | zero =>
    intro x L hx hp hl hd
    rw [wsF, if_neg]
    rintro ⟨h1, h2⟩
    obtain rfl : x = b := by omega
    rw [hM.diag x hx] at hd
    omega
  | succ r ih =>
    intro x L hx hp hl hd
    rw [wsF]
    refine orS_none n (fun y hy => ?_)
    by_cases h : 0 ≤ coL n m F (L ++ [(y : Int)]) ∧ coL n m F (L ++ [(y : Int)]) ≤ d
    · rw [if_pos h]
      obtain ⟨h1, h2, h3, h4⟩ := coL_snoc hok hx hp hl h.1
      have h5 := hM.tri y hy x b hx hb
      have h6 := hle (8 * x + y)
      refine ih y (L ++ [(y : Int)]) hy (by simp) ?_ (by omega)
      rw [List.length_append, show L.length + [(y : Int)].length - 1 = L.length by simp, getD_app, if_neg (by omega), if_pos rfl]
    · rw [if_neg h]
theorem wsF_wyC {n m : Nat} {F : Nat → Nat → Int} {a b : Nat} (hok : okM n m F = true) (hb : b < n) (hd : dsT n m F (8 * a + b) < 400) : ∀ (r x : Nat) (L : List Int), PayG n m F a b x L → wsF n m F b (dsT n m F (8 * a + b)) r L = wyC n (stT n m F) (dsT n m F) b r L x := by
  have hM := dsT_met hok
  have hle : ∀ i, dsT n m F i ≤ stT n m F i := dS_le n
  intro r
  induction r with
  | zero =>
    intro x L h
    rw [wsF, wyC, h.coL, h.last]
    by_cases e : x = b
    · subst e
      rw [if_pos rfl, if_pos ⟨rfl, by rw [hM.diag x hb]; omega⟩]
    · rw [if_neg e, if_neg (fun h2 => e (by omega))]
  | succ r ih =>
    intro x L h
    rw [wsF, wyC_succ]
    refine orS_congr n (fun y hy => ?_)
    have h0 := hM.nn (8 * x + b)
    have hlt : dsT n m F (8 * x + b) < 400 := by
      have := h.far 0 h.pos
      rw [h.first, Int.toNat_natCast] at this
      omega
    by_cases hc : nxW (stT n m F) (dsT n m F) b x y = true
    · obtain ⟨hp, hlt2⟩ := PayG.step hok hb hy hlt h hc
      have h1 := hp.coL
      have h2 := hM.nn (8 * y + b)
      have h3 := hp.far 0 hp.pos
      rw [hp.first, Int.toNat_natCast] at h3
      rw [if_pos hc, if_pos ⟨by omega, by omega⟩]
      exact ih y _ hp
    · rw [if_neg hc]
      by_cases h2 : 0 ≤ coL n m F (L ++ [(y : Int)]) ∧ coL n m F (L ++ [(y : Int)]) ≤ dsT n m F (8 * a + b)
      · rw [if_pos h2]
        obtain ⟨h3, h4, h5, h6⟩ := coL_snoc hok h.rng h.pos h.last h2.1
        have h7 := h.coL
        have h8 := hM.tri y hy x b h.rng hb
        have h9 := hle (8 * x + y)
        have h10 : stT n m F (8 * x + y) + dsT n m F (8 * y + b) ≠ dsT n m F (8 * x + b) := fun e => hc (nxW_iff.2 ⟨fun e => h4 e.symm, e⟩)
        refine wsF_dead hok hb r y _ hy (by simp) ?_ (by omega)
        rw [List.length_append, show L.length + [(y : Int)].length - 1 = L.length by simp, getD_app, if_neg (by have := h.pos; omega), if_pos rfl]
      · rw [if_neg h2]
/-- Both find the same way. -/
theorem way_same {n m : Nat} {F : Nat → Nat → Int} {a b f : Nat} (hok : okM n m F = true) (ha : a < n) (hb : b < n) (hd : dsT n m F (8 * a + b) < 400) (hf : dsT n m F (8 * a + b) ≤ f) :
    ∃ v, wyF n (stT n m F) (dsT n m F) b f [(a : Int)] a none = some v ∧ PayG n m F a b b v ∧ 0 < v.length ∧ v.length ≤ n ∧ wsF n m F b (dsT n m F (8 * a + b)) (v.length - 1) [(a : Int)] = some v ∧ ∀ r, r < v.length - 1 → wsF n m F b (dsT n m F (8 * a + b)) r [(a : Int)] = none := by
  have h0 := PayG.start (n := n) (m := m) (F := F) (b := b) ha
  obtain ⟨v, hv, hor⟩ := wyF_good hok hb f a [(a : Int)] none h0 hd hf
  have hP : PayG n m F a b b v := hor.resolve_left (by simp)
  have hB := wyF_best hok hb f a [(a : Int)] none h0 hd hf
  rw [hv] at hB
  refine ⟨v, hv, hP, hP.pos, wkB_le hP.wk, ?_⟩
  rcases hB with ⟨e, -⟩ | ⟨l, u, e1, e2, e3, e4, -⟩
  · cases e
  · injection e3 with e3
    subst e3
    refine ⟨?_, fun r hr => ?_⟩
    · rw [wsF_wyC hok hb hd _ _ _ h0]
      unfold wyA at e1
      by_cases hl : l < [(a : Int)].length
      · rw [if_pos hl] at e1
        cases e1
      · rw [if_neg hl] at e1
        rw [e2]
        exact e1
    · rw [wsF_wyC hok hb hd _ _ _ h0]
      have h2 := e4 (r + 1) (by omega)
      unfold wyA at h2
      rw [if_neg (by simp)] at h2
      simpa using h2
end Go.Proofs.Ytclhamemlpbpiaa
