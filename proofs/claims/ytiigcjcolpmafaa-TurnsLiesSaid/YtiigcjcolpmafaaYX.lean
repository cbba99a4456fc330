/- Part of the proof: YX. -/
import Derived.Test.YtiigcjcolpmafaaYL
import Derived.Test.YtiigcjcolpmafaaYF
import Derived.Test.YtiigcjcolpmafaaYK
import Derived.Test.YtiigcjcolpmafaaRzz
import Derived.Deep.RegionHeld3
import Derived.Test.YtiigcjcolpmafaaTstz
import Derived.Test.YtiigcjcolpmafaaYC
import Derived.Test.YtiigcjcolpmafaaYN
import Derived.Deep.CutRange
import Derived.Deep.DeepCutAuto
import Derived.Laws.CopyOwn
/- The order of lists; a search in depth finds the least; what is put in by insertion is sorted. -/
namespace Go.Proofs.Ytiigcjcolpmafaa
open Go.RowKit

/-- a comes before b. -/
def bfL : List Int → List Int → Bool
  | [], b => decide (0 < b.length)
  | _ :: _, [] => false
  | x :: a, y :: b => if y < x then false else if x < y then true else bfL a b
theorem bf_cons (x y : Int) (a b : List Int) : bfL (x :: a) (y :: b) = if y < x then false else if x < y then true else bfL a b := rfl
theorem bf_asym : ∀ {a b : List Int}, bfL a b = true → bfL b a = false := by
  intro a
  induction a with
  | nil =>
    intro b h
    cases b with
    | nil => cases h
    | cons y b => rfl
  | cons x a ih =>
    intro b h
    cases b with
    | nil => cases h
    | cons y b =>
      rw [bf_cons] at h ⊢
      by_cases h1 : y < x
      · rw [if_pos h1] at h; cases h
      · rw [if_neg h1] at h
        by_cases h2 : x < y
        · rw [if_pos h2]
        · rw [if_neg h2] at h
          rw [if_neg h2, if_neg h1]
          exact ih h
theorem bf_tot : ∀ {a b : List Int}, a ≠ b → bfL a b = true ∨ bfL b a = true := by
  intro a
  induction a with
  | nil =>
    intro b h
    cases b with
    | nil => exact absurd rfl h
    | cons y b => exact .inl rfl
  | cons x a ih =>
    intro b h
    cases b with
    | nil => exact .inr rfl
    | cons y b =>
      rw [bf_cons, bf_cons]
      by_cases h1 : y < x
      · right; rw [if_neg (by omega), if_pos h1]
      · by_cases h2 : x < y
        · left; rw [if_neg h1, if_pos h2]
        · rw [if_neg h1, if_neg h2, if_neg h2, if_neg h1]
          refine ih (fun e => h ?_)
          have : x = y := by omega
          rw [this, e]
theorem bf_trans : ∀ {a b c : List Int}, bfL a b = true → bfL b c = true → bfL a c = true := by
  intro a
  induction a with
  | nil =>
    intro b c h1 h2
    cases b with
    | nil => cases h1
    | cons y b =>
      cases c with
      | nil => cases h2
      | cons z c => rfl
  | cons x a ih =>
    intro b c h1 h2
    cases b with
    | nil => cases h1
    | cons y b =>
      cases c with
      | nil => cases h2
      | cons z c =>
        rw [bf_cons] at h1 h2 ⊢
        by_cases e1 : y < x
        · rw [if_pos e1] at h1; cases h1
        · rw [if_neg e1] at h1
          by_cases e3 : z < y
          · rw [if_pos e3] at h2; cases h2
          · rw [if_neg e3] at h2
            rw [if_neg (by omega)]
            by_cases e2 : x < y
            · rw [if_pos (by omega)]
            · rw [if_neg e2] at h1
              by_cases e4 : y < z
              · rw [if_pos (by omega)]
              · rw [if_neg e4] at h2
                rw [if_neg (by omega)]
                exact ih h1 h2
theorem bf_neg {a b c : List Int} (h : bfL a c = true) : bfL a b = true ∨ bfL b c = true := by
  by_cases e : b = a
  · right; rw [e]; exact h
  · rcases bf_tot e with h1 | h1
    · right; exact bf_trans h1 h
    · left; exact h1
theorem bf_pre : ∀ (l a b : List Int), bfL (l ++ a) (l ++ b) = bfL a b := by
  intro l
  induction l with
  | nil => intro a b; rfl
  | cons x l ih =>
    intro a b
    show bfL (x :: (l ++ a)) (x :: (l ++ b)) = _
    rw [bf_cons, if_neg (by omega), if_neg (by omega)]
    exact ih a b
theorem LstOk.pre {p : PlanD} {s : Nat} : ∀ {t l : List Int}, LstOk p s (l ++ t) → LstOk p s l := by
  intro t l h
  have hg : ∀ k, k < l.length → (l ++ t).getD k 0 = l.getD k 0 := fun k hk => by
    simp only [List.getD_eq_getElem?_getD]
    rw [List.getElem?_append_left hk]
  refine ⟨⟨?_, fun a ha => ?_⟩, fun k hk => ?_⟩
  · have := h.row.1
    rw [List.length_append] at this
    omega
  · have h1 : 0 ≤ (l ++ t).getD a 0 ∧ (l ++ t).getD a 0 < (p.nH : Int) ∧ idxI (fun k => (l ++ t).getD k 0) ((l ++ t).getD a 0) a = -1 := h.row.2 a (by rw [List.length_append]; omega)
    rw [hg a ha, idxI_cgA (g := fun k => l.getD k 0) (fun k hk => hg k (by omega))] at h1
    exact h1
  · have h1 := h.sub k (by rw [List.length_append]; omega)
    rwa [hg k hk] at h1
theorem LstOk.next {p : PlanD} {s : Nat} {l t : List Int} {y : Int} (h : LstOk p s (l ++ y :: t)) : ∃ k : Nat, k < p.nH ∧ y = (k : Int) ∧ candB p s l k = true := by
  have e : l ++ y :: t = (l ++ [y]) ++ t := by simp
  rw [e] at h
  have h2 := h.pre
  have hlen : l.length < (l ++ [y]).length := by simp
  obtain ⟨r1, r2, r3⟩ := h2.row.2 l.length hlen
  have hs := h2.sub l.length hlen
  have hy : (l ++ [y]).getD l.length 0 = y := by simp [List.getD_eq_getElem?_getD]
  simp only [hy] at r1 r2 r3 hs
  refine ⟨y.toNat, by omega, by omega, ?_⟩
  have ey : ((y.toNat : Nat) : Int) = y := by omega
  unfold candB hasB
  rw [ey, Bool.and_eq_true, Bool.not_eq_true', decide_eq_true_iff, decide_eq_false_iff_not]
  refine ⟨hs, ?_⟩
  rw [idxI_cgA (g := fun k => l.getD k 0) (fun k hk => getD_snoc hk)] at r3
  omega
theorem lf_least {p : PlanD} {s : Nat} {m : Nat → Int} : ∀ (d : Nat) (l : List Int), l.length + d = p.nH → LstOk p s l →
    (lfL p s m d l = none → ∀ t, LstOk p s (l ++ t) → gnL p s m (l ++ t) = false) ∧
    (∀ x, lfL p s m d l = some x → (∃ t, x = l ++ t) ∧ ∀ t, LstOk p s (l ++ t) → gnL p s m (l ++ t) = true → l ++ t = x ∨ bfL x (l ++ t) = true) := by
  intro d
  induction d with
  | zero =>
    intro l hld hl
    have ht : ∀ t, LstOk p s (l ++ t) → t = [] := fun t h => by
      have := h.row.1
      rw [List.length_append] at this
      exact List.length_eq_zero_iff.1 (by omega)
    refine ⟨fun h t hk => ?_, fun x h => ?_⟩
    · rw [ht t hk, List.append_nil]
      have h : (if gnL p s m l = true then some l else none) = none := h
      cases e : gnL p s m l with
      | false => rfl
      | true => rw [if_pos e] at h; cases h
    · have h : (if gnL p s m l = true then some l else none) = some x := h
      by_cases e : gnL p s m l = true
      · rw [if_pos e] at h
        injection h with h
        subst h
        exact ⟨⟨[], by simp⟩, fun t hk _ => by rw [ht t hk]; simp⟩
      · rw [if_neg e] at h; cases h
  | succ d ih =>
    intro l hld hl
    have hF : ∀ h : Nat, h < p.nH → candB p s l h = true → (l ++ [(h : Int)]).length + d = p.nH ∧ LstOk p s (l ++ [(h : Int)]) := fun h hh hc => ⟨by rw [List.length_append]; show l.length + 1 + d = _; omega, hl.snoc hh hc⟩
    refine ⟨fun h t hk => ?_, fun x h => ?_⟩
    · have h : (if gnL p s m l = true then some l else orH (fun h => if candB p s l h = true then lfL p s m d (l ++ [(h : Int)]) else none) p.nH) = none := h
      by_cases e : gnL p s m l = true
      · rw [if_pos e] at h; cases h
      · rw [if_neg e] at h
        cases t with
        | nil => rw [List.append_nil]; exact Bool.eq_false_iff.2 e
        | cons y t =>
          obtain ⟨k, hk1, rfl, hc⟩ := hk.next
          have h1 := orH_iff.1 h k hk1
          rw [if_pos hc] at h1
          have e2 : l ++ (k : Int) :: t = (l ++ [(k : Int)]) ++ t := by simp
          rw [e2] at hk ⊢
          exact (ih _ (hF k hk1 hc).1 (hF k hk1 hc).2).1 h1 t hk
    · have h : (if gnL p s m l = true then some l else orH (fun h => if candB p s l h = true then lfL p s m d (l ++ [(h : Int)]) else none) p.nH) = some x := h
      by_cases e : gnL p s m l = true
      · rw [if_pos e] at h
        injection h with h
        subst h
        refine ⟨⟨[], by simp⟩, fun t _ _ => ?_⟩
        cases t with
        | nil => left; simp
        | cons y t =>
          right
          have := bf_pre l [] (y :: t)
          rw [List.append_nil] at this
          rw [this]
          rfl
      · rw [if_neg e] at h
        obtain ⟨k, hk1, h1, h2⟩ := orH_of h
        have hc : candB p s l k = true := by
          by_cases hc : candB p s l k = true
          · exact hc
          · rw [if_neg hc] at h1; cases h1
        rw [if_pos hc] at h1
        obtain ⟨⟨t', et⟩, hx⟩ := (ih _ (hF k hk1 hc).1 (hF k hk1 hc).2).2 x h1
        refine ⟨⟨(k : Int) :: t', by rw [et]; simp⟩, fun t hk hg => ?_⟩
        cases t with
        | nil => rw [List.append_nil] at hg; exact absurd hg e
        | cons y t =>
          obtain ⟨q, hq, rfl, hcq⟩ := hk.next
          have e2 : l ++ (q : Int) :: t = (l ++ [(q : Int)]) ++ t := by simp
          rcases Nat.lt_trichotomy q k with g | g | g
          · have h3 := h2 q g
            rw [if_pos hcq] at h3
            rw [e2] at hk hg
            have := (ih _ (hF q hq hcq).1 (hF q hq hcq).2).1 h3 t hk
            rw [this] at hg
            cases hg
          · subst g
            rw [e2] at hk hg ⊢
            exact hx t hk hg
          · right
            rw [et, show (l ++ [(k : Int)]) ++ t' = l ++ (k : Int) :: t' by simp, bf_pre, bf_cons, if_neg (by omega), if_pos (by omega)]
/-- Nothing stands before what comes earlier. -/
def SrtB (ls : List (List Int)) : Prop := ls.Pairwise (fun a b => bfL b a = false)
def atB (l : List Int) : List (List Int) → Nat
  | [] => 0
  | y :: ls => if bfL y l = true then atB l ls + 1 else 0
def insB (ls : List (List Int)) (l : List Int) : List (List Int) := ls.take (atB l ls) ++ l :: ls.drop (atB l ls)
theorem insB_cons (y l : List Int) (ls : List (List Int)) : insB (y :: ls) l = if bfL y l = true then y :: insB ls l else l :: y :: ls := by
  unfold insB
  by_cases h : bfL y l = true
  · have e : atB l (y :: ls) = atB l ls + 1 := by show (if _ then _ else _) = _; rw [if_pos h]
    rw [e, if_pos h]
    rfl
  · have e : atB l (y :: ls) = 0 := by show (if _ then _ else _) = _; rw [if_neg h]
    rw [e, if_neg h]
    rfl
theorem insB_mem {l z : List Int} : ∀ {ls : List (List Int)}, z ∈ insB ls l ↔ z = l ∨ z ∈ ls := by
  intro ls
  induction ls with
  | nil => simp [insB, atB]
  | cons y ls ih =>
    rw [insB_cons]
    split
    · rw [List.mem_cons, ih, List.mem_cons]
      constructor
      · rintro (h | h | h)
        · exact .inr (.inl h)
        · exact .inl h
        · exact .inr (.inr h)
      · rintro (h | h | h)
        · exact .inr (.inl h)
        · exact .inl h
        · exact .inr (.inr h)
    · rw [List.mem_cons]
theorem insB_srt {l : List Int} : ∀ {ls : List (List Int)}, SrtB ls → SrtB (insB ls l) := by
  intro ls
  induction ls with
  | nil => intro _; exact List.pairwise_singleton _ _
  | cons y ls ih =>
    intro h
    obtain ⟨h1, h2⟩ := List.pairwise_cons.1 h
    rw [insB_cons]
    by_cases g : bfL y l = true
    · rw [if_pos g]
      refine List.pairwise_cons.2 ⟨fun z hz => ?_, ih h2⟩
      rcases insB_mem.1 hz with rfl | hz
      · exact bf_asym g
      · exact h1 z hz
    · rw [if_neg g]
      refine List.pairwise_cons.2 ⟨fun z hz => ?_, h⟩
      rcases List.mem_cons.1 hz with rfl | hz
      · exact Bool.eq_false_iff.2 g
      · cases e : bfL z l with
        | false => rfl
        | true =>
          rcases bf_neg (b := y) e with h3 | h3
          · rw [h1 z hz] at h3; cases h3
          · exact absurd h3 g
def sortB : List (List Int) → List (List Int) → List (List Int)
  | acc, [] => acc
  | acc, l :: ls => sortB (insB acc l) ls
theorem sortB_srt : ∀ {ls acc : List (List Int)}, SrtB acc → SrtB (sortB acc ls) := by
  intro ls
  induction ls with
  | nil => intro acc h; exact h
  | cons l ls ih => intro acc h; exact ih (insB_srt h)
theorem sortB_mem {z : List Int} : ∀ {ls acc : List (List Int)}, z ∈ sortB acc ls ↔ z ∈ acc ∨ z ∈ ls := by
  intro ls
  induction ls with
  | nil => intro acc; simp [sortB]
  | cons l ls ih =>
    intro acc
    show z ∈ sortB (insB acc l) ls ↔ _
    rw [ih, insB_mem, List.mem_cons]
    constructor
    · rintro ((h | h) | h)
      · exact .inr (.inl h)
      · exact .inl h
      · exact .inr (.inr h)
    · rintro (h | h | h)
      · exact .inl (.inr h)
      · exact .inl (.inl h)
      · exact .inr h
/-- The first of a sorted list for which a condition holds is the least. -/
theorem find_least {P : List Int → Bool} {x : List Int} : ∀ {ls : List (List Int)}, SrtB ls → x ∈ ls → P x = true → (∀ y, y ∈ ls → P y = true → y = x ∨ bfL x y = true) → ls.find? P = some x := by
  intro ls
  induction ls with
  | nil => intro _ h; cases h
  | cons y ls ih =>
    intro hs hx hp hl
    obtain ⟨h1, h2⟩ := List.pairwise_cons.1 hs
    by_cases e : P y = true
    · rw [List.find?_cons_of_pos e]
      rcases hl y (List.mem_cons_self ..) e with g | g
      · rw [g]
      · rcases List.mem_cons.1 hx with rfl | hx
        · rfl
        · rw [h1 x hx] at g; cases g
    · rw [List.find?_cons_of_neg e]
      rcases List.mem_cons.1 hx with rfl | hx
      · exact absurd hp e
      · exact ih h2 hx hp (fun z hz hpz => hl z (List.mem_cons_of_mem _ hz) hpz)
/-- Both searches find the same. -/
def lieP0 (p : PlanD) (s : Nat) : Option (List Int) := lfL p s (frM p) p.nH []
theorem lie_find {p : PlanD} {s : Nat} {ls : List (List Int)} (hs : SrtB ls) (hm : ∀ x, x ∈ ls ↔ LstOk p s x) : lieP0 p s = ls.find? (gnL p s (frM p)) := by
  unfold lieP0
  obtain ⟨h1, h2⟩ := lf_least (p := p) (s := s) (m := frM p) p.nH [] (by simp) (LstOk.nil p s)
  cases e : lfL p s (frM p) p.nH [] with
  | none =>
    have := h1 e
    rw [List.find?_eq_none.2 (fun x hx => by have h3 : gnL p s (frM p) x = false := this x ((hm x).1 hx); rw [h3]; decide)]
  | some x =>
    obtain ⟨hk, hg⟩ := lfL_ok p.nH [] x (LstOk.nil p s) e
    rw [find_least hs ((hm x).2 hk) hg (fun y hy hgy => (h2 x e).2 y ((hm y).1 hy) hgy)]
end Go.Proofs.Ytiigcjcolpmafaa

/- The reference's chosen and lists: theory of what they list. -/
namespace Go.Proofs.Ytiigcjcolpmafaa
open Go.RowKit

/-- A list with each of the first i of f that it has not. -/
def exR (f : Nat → Int) (l : List Int) : Nat → List (List Int)
  | 0 => []
  | i + 1 => if idxI (fun k => l.getD k 0) (f i) l.length < 0 then exR f l i ++ [l ++ [f i]] else exR f l i
def exL (f : Nat → Int) (L : Nat) (ls : List (List Int)) : Nat → List (List Int)
  | 0 => []
  | j + 1 => exL f L ls j ++ exR f (ls.getD j []) L
def chL (f : Nat → Int) (L : Nat) : Nat → List (List Int)
  | 0 => [[]]
  | k + 1 => exL f L (chL f L k) (chL f L k).length
def alL (f : Nat → Int) (L : Nat) : Nat → List (List Int)
  | 0 => []
  | k + 1 => alL f L k ++ chL f L k
theorem exR_len (f : Nat → Int) (l : List Int) : ∀ i, (exR f l i).length ≤ i := by
  intro i
  induction i with
  | zero => exact Nat.le_refl _
  | succ i ih =>
    unfold exR
    split
    · rw [List.length_append]; show _ + 1 ≤ _; omega
    · omega
theorem exL_len (f : Nat → Int) (L : Nat) (ls : List (List Int)) : ∀ j, (exL f L ls j).length ≤ j * L := by
  intro j
  induction j with
  | zero => simp [exL]
  | succ j ih =>
    unfold exL
    rw [List.length_append, Nat.succ_mul]
    have := exR_len f (ls.getD j []) L
    omega
theorem chL_len (f : Nat → Int) (L : Nat) (hL : L ≤ 6) : ∀ k, (chL f L k).length ≤ 6 ^ k := by
  intro k
  induction k with
  | zero => exact Nat.le_refl _
  | succ k ih =>
    unfold chL
    have h1 := exL_len f L (chL f L k) (chL f L k).length
    have h2 : (chL f L k).length * L ≤ 6 ^ k * 6 := Nat.mul_le_mul ih hL
    rw [Nat.pow_succ]
    omega
theorem alL_len (f : Nat → Int) (L : Nat) (hL : L ≤ 6) : ∀ k, k ≤ 7 → (alL f L k).length ≤ 55987 := by
  have h : ∀ k, (alL f L k).length ≤ (6 ^ k - 1) / 5 := fun k => by
    induction k with
    | zero => exact Nat.le_refl _
    | succ k ih =>
      unfold alL
      rw [List.length_append]
      have := chL_len f L hL k
      rw [Nat.pow_succ]
      have : 1 ≤ 6 ^ k := Nat.one_le_pow _ _ (by decide)
      omega
  intro k hk
  have h1 := h k
  have h2 : 6 ^ k ≤ 6 ^ 7 := Nat.pow_le_pow_right (by decide) hk
  have h3 : (6 : Nat) ^ 7 = 279936 := by decide
  omega
theorem exR_mem {f : Nat → Int} {l x : List Int} : ∀ {i : Nat}, x ∈ exR f l i ↔ ∃ j, j < i ∧ idxI (fun k => l.getD k 0) (f j) l.length < 0 ∧ x = l ++ [f j] := by
  intro i
  induction i with
  | zero => simp [exR]
  | succ i ih =>
    unfold exR
    by_cases e : idxI (fun k => l.getD k 0) (f i) l.length < 0
    · rw [if_pos e, List.mem_append, ih, List.mem_singleton]
      constructor
      · rintro (⟨j, h1, h2, h3⟩ | h)
        · exact ⟨j, by omega, h2, h3⟩
        · exact ⟨i, by omega, e, h⟩
      · rintro ⟨j, h1, h2, h3⟩
        rcases Nat.lt_succ_iff_lt_or_eq.1 h1 with g | g
        · exact .inl ⟨j, g, h2, h3⟩
        · subst g; exact .inr h3
    · rw [if_neg e, ih]
      constructor
      · rintro ⟨j, h1, h2, h3⟩
        exact ⟨j, by omega, h2, h3⟩
      · rintro ⟨j, h1, h2, h3⟩
        rcases Nat.lt_succ_iff_lt_or_eq.1 h1 with g | g
        · exact ⟨j, g, h2, h3⟩
        · subst g; exact absurd h2 e
theorem exL_mem {f : Nat → Int} {L : Nat} {ls : List (List Int)} {x : List Int} : ∀ {j : Nat}, x ∈ exL f L ls j ↔ ∃ i, i < j ∧ x ∈ exR f (ls.getD i []) L := by
  intro j
  induction j with
  | zero => simp [exL]
  | succ j ih =>
    unfold exL
    rw [List.mem_append, ih]
    constructor
    · rintro (⟨i, h1, h2⟩ | h)
      · exact ⟨i, by omega, h2⟩
      · exact ⟨j, by omega, h⟩
    · rintro ⟨i, h1, h2⟩
      rcases Nat.lt_succ_iff_lt_or_eq.1 h1 with g | g
      · exact .inl ⟨i, g, h2⟩
      · subst g; exact .inr h2
theorem alL_mem {f : Nat → Int} {L : Nat} {x : List Int} : ∀ {k : Nat}, x ∈ alL f L k ↔ ∃ i, i < k ∧ x ∈ chL f L i := by
  intro j
  induction j with
  | zero => simp [alL]
  | succ j ih =>
    unfold alL
    rw [List.mem_append, ih]
    constructor
    · rintro (⟨i, h1, h2⟩ | h)
      · exact ⟨i, by omega, h2⟩
      · exact ⟨j, by omega, h⟩
    · rintro ⟨i, h1, h2⟩
      rcases Nat.lt_succ_iff_lt_or_eq.1 h1 with g | g
      · exact .inl ⟨i, g, h2⟩
      · subst g; exact .inr h2
/-- chosen: the lists of k hands that may be said. -/
theorem chL_ok {p : PlanD} {s : Nat} (hok : okPlan p = true) (hs : s < p.nS) : ∀ (k : Nat) (x : List Int), x ∈ chL (p.vS s) (p.LS s) k ↔ LstOk p s x ∧ x.length = k := by
  have hrow := (okPlan_of hok).2.2.2 s hs
  intro k
  induction k with
  | zero =>
    intro x
    unfold chL
    rw [List.mem_singleton]
    constructor
    · rintro rfl; exact ⟨LstOk.nil p s, rfl⟩
    · rintro ⟨-, h⟩; exact List.length_eq_zero_iff.1 h
  | succ k ih =>
    intro x
    unfold chL
    rw [exL_mem]
    constructor
    · rintro ⟨i, hi, hx⟩
      obtain ⟨j, hj, h1, rfl⟩ := exR_mem.1 hx
      have hm : (chL (p.vS s) (p.LS s) k).getD i [] ∈ chL (p.vS s) (p.LS s) k := by
        rw [List.getD_eq_getElem?_getD, List.getElem?_eq_getElem hi, Option.getD_some]
        exact List.getElem_mem _
      obtain ⟨h2, h3⟩ := (ih _).1 hm
      generalize (chL (p.vS s) (p.LS s) k).getD i [] = l at *
      obtain ⟨r1, r2, -⟩ := hrow.2 j hj
      have e : p.vS s j = (((p.vS s j).toNat : Nat) : Int) := by omega
      have hself := idxI_self hrow hj
      have hc : candB p s l (p.vS s j).toNat = true := by
        unfold candB hasB
        rw [← e, Bool.and_eq_true, Bool.not_eq_true', decide_eq_true_iff, decide_eq_false_iff_not]
        exact ⟨by omega, by omega⟩
      have h4 := h2.snoc (by omega) hc
      rw [← e] at h4
      exact ⟨h4, by rw [List.length_append, h3]; rfl⟩
    · rintro ⟨hx, hl⟩
      obtain ⟨l, y, rfl⟩ : ∃ l y, x = l ++ [y] := by
        rcases List.eq_nil_or_concat x with e | ⟨l, y, e⟩
        · rw [e] at hl; cases hl
        · exact ⟨l, y, by rw [e]; simp⟩
      have hl2 : l.length = k := by rw [List.length_append] at hl; simpa using hl
      obtain ⟨q, hq, rfl, hc⟩ := LstOk.next (t := []) hx
      have hm : l ∈ chL (p.vS s) (p.LS s) k := (ih l).2 ⟨hx.pre, hl2⟩
      obtain ⟨i, hi, e⟩ := List.mem_iff_getElem.1 hm
      refine ⟨i, hi, ?_⟩
      rw [List.getD_eq_getElem?_getD, List.getElem?_eq_getElem hi, Option.getD_some, e]
      unfold candB hasB at hc
      rw [Bool.and_eq_true, Bool.not_eq_true', decide_eq_true_iff, decide_eq_false_iff_not] at hc
      obtain ⟨j, hj, ej, -⟩ := idx_at hc.1
      refine exR_mem.2 ⟨j, hj, ?_, by rw [ej]⟩
      rw [ej]
      have := idxI_bd (fun k => l.getD k 0) (q : Int) l.length
      omega
theorem LstOk.len {p : PlanD} {s : Nat} {x : List Int} (hok : okPlan p = true) (hs : s < p.nS) (h : LstOk p s x) : x.length ≤ p.LS s := by
  have hrow := (okPlan_of hok).2.2.2 s hs
  have key : ∀ a, a < x.length → ∃ i : Nat, i < p.LS s ∧ p.vS s i = x.getD a 0 ∧ idxI (p.vS s) (x.getD a 0) (p.LS s) = i := fun a ha => by
    obtain ⟨i, h1, h2, h3, -⟩ := idx_at (h.sub a ha)
    exact ⟨i, h1, h2, h3⟩
  refine row_len (f := fun a => idxI (p.vS s) (x.getD a 0) (p.LS s)) (fun a ha => ?_)
  obtain ⟨i, h1, h2, h3⟩ := key a ha
  refine ⟨by show 0 ≤ idxI _ _ _; omega, by show idxI _ _ _ < _; omega, ?_⟩
  refine idxI_none (fun j hj e => ?_)
  obtain ⟨i2, g1, g2, g3⟩ := key j (by omega)
  have e : idxI (p.vS s) (x.getD j 0) (p.LS s) = idxI (p.vS s) (x.getD a 0) (p.LS s) := e
  rw [h3, g3] at e
  have e2 : i2 = i := by omega
  rw [e2, h2] at g2
  have h4 := (h.row.2 a ha).2.2
  rcases idxI_cases (fun k => x.getD k 0) ((fun k => x.getD k 0) a) a with ⟨-, h5⟩ | ⟨z, hz, e5, -⟩
  · exact h5 j hj g2.symm
  · omega
theorem all_ok {p : PlanD} {s : Nat} (hok : okPlan p = true) (hs : s < p.nS) (x : List Int) : x ∈ alL (p.vS s) (p.LS s) (p.LS s + 1) ↔ LstOk p s x := by
  rw [alL_mem]
  constructor
  · rintro ⟨i, -, h⟩; exact ((chL_ok hok hs i x).1 h).1
  · intro h; exact ⟨x.length, by have := h.len hok hs; omega, (chL_ok hok hs _ x).2 ⟨h, rfl⟩⟩
/-- What the reference goes through. -/
def lsL (p : PlanD) (s : Nat) : List (List Int) := sortB [] (alL (p.vS s) (p.LS s) (p.LS s + 1))
theorem lie_ref {p : PlanD} {s : Nat} (hok : okPlan p = true) (hs : s < p.nS) : lieP0 p s = (lsL p s).find? (gnL p s (frM p)) :=
  lie_find (sortB_srt List.Pairwise.nil) (fun x => by
    unfold lsL
    rw [sortB_mem, all_ok hok hs]
    simp)
end Go.Proofs.Ytiigcjcolpmafaa

/- The reference's chosen. -/
namespace Go.Proofs.Ytiigcjcolpmafaa
open Go.RowKit

theorem wpList_gs {w : World} {ops : Array Oper} {rest : List Oper} {o : Oper} {a : Act} {Q : Exit → Act → World → Prop} (hgd : o.guard = none) (s x : Operand)
    (ho : o.op = .call { callee := .builtin .append, args := #[s, x], argTypes := #[23, 23] })
    (w0 : World) (v : Value) (L : List Int) (hs : a.eval s = v) (hown : OwnL w w0.heap.size v L) (hB : Below w0.heap.size w0 w) (X : Option Addr) (n c : Nat) (f : Nat → Int) (hx : a.eval x = .slice X n c) (hX : Ints w X n f) (hXn : X = none → n = 0 ∧ c = 0) (hn : L.length + n ≤ 1000000)
    (h : ∀ v' w', OwnL w' w0.heap.size v' (L ++ lst n f) → Below w0.heap.size w0 w' → w.grownBy w' v.ownBlock → wpList Try.prog ops Q rest (a.put o.dst v') w') : wpList Try.prog ops Q (o :: rest) a w := by
  refine wpList_plain hgd fun K hK => ?_
  exact wp_gs s x ho w0 v L hs hown hB X n c f hx hX hXn hn (fun v' w' h1 h2 h3 => hK _ _ (h v' w' h1 h2 h3))
theorem ll_bel {w w' : World} {B : Nat} {v : Value} {ls : List (List Int)} (ho : OwnLL w B v ls) (hB : B ≤ w.heap.size) (hk : w.grownBy w' v.ownBlock) : Below B w w' := by
  cases hv : v.ownBlock with
  | none => rw [hv] at hk; exact (Kp.of_none (bs := []) hk).below (by simp) hB
  | some g => rw [hv] at hk; exact Exc.below hk (ho.own_lt g hv) hB
theorem wpList_lls {w : World} {ops : Array Oper} {rest : List Oper} {o : Oper} {a : Act} {Q : Exit → Act → World → Prop} (hgd : o.guard = none) (s x : Operand)
    (ho : o.op = .call { callee := .builtin .append, args := #[s, x], argTypes := #[22, 22] })
    (base base2 : Nat) (v vx : Value) (ls ls2 : List (List Int)) (hs : a.eval s = v) (hown : OwnLL w base v ls) (hx : a.eval x = vx) (hown2 : OwnLL w base2 vx ls2) (hb2 : base ≤ base2)
    (hsz : ls.length + ls2.length ≤ 100000) (hbase : base ≤ w.heap.size)
    (h : ∀ v' w', OwnLL w' base v' (ls ++ ls2) → Below base w w' → wpList Try.prog ops Q rest (a.put o.dst v') w') : wpList Try.prog ops Q (o :: rest) a w := by
  refine wpList_plain hgd fun K hK => ?_
  have hw : Region.wanted o (yielded ops a.tmps) = true := by simp [Region.wanted, hgd]
  have h2 := step_append_lls (ops := ops) (Q := Q) (K := K) (E := True) hgd s x ho base base2 v vx ls ls2 hs hown hx hown2 hb2 hsz hbase (fun v' w' h1 h2 => hK _ _ (h v' w' h1 (ll_bel hown hbase h2)))
  rw [if_pos hw] at h2
  exact h2
theorem own_none (w : World) (base : Nat) (hb : base ≤ w.heap.size) : OwnL (w.alloc (.cells #[] 3)) base (.slice (some ⟨w.heap.size, 0, none⟩) 0 0) [] :=
  ⟨rfl, .inr ⟨w.heap.size, 0, #[], rfl, hb, heap_alloc_new w _, Nat.le_refl _, by unfold maxLen; omega, rfl, rfl⟩⟩
theorem ownL_reb {w : World} {base base' : Nat} {v : Value} {xs : List Int} (h : OwnL w base v xs) (hb : base' ≤ base) : OwnL w base' v xs := by
  refine ⟨h.1, ?_⟩
  rcases h.2 with hn | ⟨g, cap, cur, e, hg, r⟩
  · exact .inl hn
  · exact .inr ⟨g, cap, cur, e, Nat.le_trans hb hg, r⟩
/-- A row of a slice of slices. -/
theorem OwnLL.rowAt {w : World} {base : Nat} {x : Value} {ls : List (List Int)} (h : OwnLL w base x ls) {j : Nat} (hj : j < ls.length) : ∃ (G c : Nat) (A : Option Addr) (cA : Nat), x = .slice (some ⟨G, 0, none⟩) ls.length c ∧ w.cell? ⟨G, j, none⟩ = some (.slice A (ls.getD j []).length cA) ∧ OwnL w base (.slice A (ls.getD j []).length cA) (ls.getD j []) := by
  obtain ⟨vals, hl, hown, hv⟩ := h
  obtain ⟨r, hr⟩ : ∃ r, vals[j]? = some r := ⟨_, List.getElem?_eq_getElem (by omega)⟩
  have hrow := hv j r hr
  rcases hown.2 with ⟨-, h0⟩ | ⟨G, c, cur, rfl, -⟩
  · omega
  have hc := World.ownsRow.cellAt hown j (by omega)
  rw [hr] at hc
  obtain ⟨A, cA, rfl, -⟩ := hrow.form
  exact ⟨G, c, A, cA, rfl, hc, hrow⟩
theorem own_nilc {w : World} {base n c : Nat} {A : Option Addr} {xs : List Int} (h : OwnL w base (.slice A n c) xs) (hA : A = none) : n = 0 ∧ c = 0 := by
  obtain ⟨A', c', e, h1, -⟩ := h.form
  have h2 := h1 (by injection e with e1; rw [← e1]; exact hA)
  injection h2 with e1 e2 e3
  exact ⟨e2, e3⟩
theorem chL_l {f : Nat → Int} {L : Nat} : ∀ (k : Nat) (x : List Int), x ∈ chL f L k → x.length = k := by
  intro k
  induction k with
  | zero => intro x h; rw [List.mem_singleton.1 h]; rfl
  | succ k ih =>
    intro x h
    unfold chL at h
    obtain ⟨i, hi, hx⟩ := exL_mem.1 h
    obtain ⟨j, -, -, rfl⟩ := exR_mem.1 hx
    rw [List.length_append, ih _ (by
      rw [List.getD_eq_getElem?_getD, List.getElem?_eq_getElem hi, Option.getD_some]
      exact List.getElem_mem _)]
    rfl
set_option maxHeartbeats 8000000 in
set_option maxRecDepth 1000000 in
theorem chosen_any (A : Option Addr) (L c : Nat) (f : Nat → Int) (hL : L ≤ 6) : ∀ (k : Nat) (w : World), k ≤ 6 → Ints w A L f →
    Calls Try.prog 106 #[.slice A L c, .int .i64 k] w fun e w' => ∃ x, e = .returned x ∧ OwnLL w' w.heap.size x (chL f L k) ∧ Below w.heap.size w w' := by
  intro k
  induction k with
  | zero =>
    intro w _ _
    go_enter Try.func106, Try.ntmps106
    go_wp2
    go_ret
    exact ⟨_, rfl, one_ll (OwnL.nil_ _ _) (Nat.le_refl _), below_box _ _⟩
  | succ k ih =>
    intro w hk hI
    have HIh := Lib.hid (ih w (by omega) hI)
    have HI := Lib.hid hI
    have HC : Hid (chL f L (k + 1) = exL f L (chL f L k) (chL f L k).length) := Lib.hid rfl
    have hlen : (chL f L k).length ≤ 7776 := by
      have h1 := chL_len f L hL k
      have h2 : 6 ^ k ≤ 6 ^ 5 := Nat.pow_le_pow_right (by decide) (by omega)
      have h3 : (6 : Nat) ^ 5 = 7776 := by decide
      omega
    have HEl := Lib.hid (exL_len f L (chL f L k))
    have HCl : Hid (∀ j, j < (chL f L k).length → ((chL f L k).getD j []).length ≤ 6) := Lib.hid (fun j hj => by
      rw [chL_l k _ (by
        rw [List.getD_eq_getElem?_getD, List.getElem?_eq_getElem hj, Option.getD_some]
        exact List.getElem_mem _)]
      omega)
    obtain ⟨kk, hkk⟩ : ∃ kk : Int, kk = ((k + 1 : Nat) : Int) := ⟨_, rfl⟩
    have hkb := beq_f (a := kk) (b := 0) (by omega)
    have hw1 : wrap64 (kk - 1) = (k : Int) := by unfold wrap64; omega
    rw [← hkk]
    clear ih hI hkk
    generalize chL f L k = C at *
    go_enter Try.func106, Try.ntmps106
    go_wp2_with fail
    refine HIh.out.mono ?_
    rintro e w1 ⟨x, rfl, hO, hb1⟩
    have HO := Lib.hid hO
    have Hb1 := Lib.hid hb1
    obtain ⟨G, cG, eG⟩ := hO.form
    subst eG
    clear hO hb1 HIh hkb hw1
    go_wp2
    go_loopw [5, 18] (fun y x wr => ∃ j : Nat, j ≤ C.length ∧ x = .int .i64 j ∧ OwnLL wr w1.heap.size y (exL f L C j) ∧ Below w1.heap.size w1 wr) (fun _ x _ => C.length - (intOf x).toNat)
    case atStart => exact ⟨0, Nat.zero_le _, rfl, OwnLL.nil_ _ _, Below.refl _ _⟩
    case round =>
      obtain ⟨j, hj, rfl, hY, hbel⟩ := hrel
      have HY := Lib.hid hY
      have Hbel := Lib.hid hbel
      clear hY hbel
      by_cases hlt : j < C.length
      · obtain ⟨G', c', A', cA', eG, hc, hrow⟩ := HO.out.rowAt hlt
        have hc := old_cell hc Hbel.out
        injection eG with e1 e2 e3
        subst e1 e3
        have HRow := Lib.hid hrow
        have HSu : Hid (exL f L C (j + 1) = exL f L C j ++ exR f (C.getD j []) L) := Lib.hid rfl
        have HE1 := HEl.out j
        have HRl := Lib.hid (exR_len f (C.getD j []))
        have hji : (j : Int) < C.length := by omega
        have hEb : (exL f L C j).length ≤ 46656 := by
          have : j * L ≤ 7776 * 6 := Nat.mul_le_mul (by omega) hL
          omega
        have hl9 := HCl.out j hlt
        generalize C.getD j [] = l at *
        generalize exL f L C j = E at *
        clear hrow HE1 e2
        go_wp2
        clear hc
        go_loopw [5, 24] (fun y x wi => ∃ i : Nat, i ≤ L ∧ x = .int .i64 i ∧ OwnLL wi w1.heap.size y (E ++ exR f l i) ∧ Below w1.heap.size w1 wi) (fun _ x _ => L - (intOf x).toNat)
        case atStart => exact ⟨0, Nat.zero_le _, rfl, by rw [show exR f l 0 = [] from rfl, List.append_nil]; exact HY.out, Hbel.out⟩
        case round =>
          rename World => wk
          obtain ⟨i, hi, rfl, hY2, hbel2⟩ := hrel
          have HY2 := Lib.hid hY2
          have Hbel2 := Lib.hid hbel2
          clear hY2 hbel2
          by_cases hlt2 : i < L
          · obtain ⟨b, o, eA, hcx⟩ := ((HI.out.keep Hb1.out).keep Hbel2.out).at hlt2
            subst eA
            have hii : (i : Int) < L := by omega
            have hrow := HRow.out.below Hbel2.out
            have hIl : Ints wk A' l.length (fun k => l.getD k 0) := by
              obtain ⟨A3, c3, e3, -, h3, -⟩ := hrow.form
              injection e3 with e4 e5 e6
              rw [e4]; exact h3
            have HNc := Lib.hid (fun e => own_nilc hrow (A := A') e)
            have HIl := Lib.hid hIl
            have HSx : Hid (exR f l (i + 1) = if idxI (fun k => l.getD k 0) (f i) l.length < 0 then exR f l i ++ [l ++ [f i]] else exR f l i) := Lib.hid rfl
            have hXl : (exR f l i).length ≤ 6 := by have := exR_len f l i; omega
            have HLst := Lib.hid (lst_of l)
            have HRk := Lib.hid (rRank_any A' l.length cA' (fun k => l.getD k 0) (f i) wk hIl (by omega))
            obtain ⟨lf, hlf⟩ : ∃ lf : Nat → Int, lf = fun k => l.getD k 0 := ⟨_, rfl⟩
            rw [← hlf] at HIl HLst HRk HSx
            clear hlf
            generalize idxI lf (f i) l.length = r at *
            obtain ⟨X1, h1⟩ : ∃ z, z = exR f l (i + 1) := ⟨_, rfl⟩
            rw [← h1] at HSx
            have H1 := Lib.hid h1
            clear h1
            generalize exR f l i = X0 at *
            generalize f i = x at *
            clear hrow hIl
            go_wp2_with fail
            refine HRk.out.mono ?_
            rintro e w' ⟨rfl, rfl⟩
            by_cases hr : r < 0
            · rw [if_pos hr] at HSx
              have d := decide_eq_true hr
              clear hr hcx
              go_wp2_with (at_builtin; go_loud (refine wpList_gs rfl _ _ rfl wk _ _ rfl (own_none wk wk.heap.size (Nat.le_refl _)) (below_box _ _) A' l.length cA' lf rfl (HIl.out.keep (below_box _ _)) HNc.out (by simp; omega) ?_))
              intro v1 wa hO1 hB1 _
              rw [HLst.out] at hO1
              have HO1 := Lib.hid hO1
              have HB1 := Lib.hid hB1
              clear hO1 hB1
              go_wp2_with (at_builtin; go_loud (refine wpList_gs rfl _ _ rfl wk _ _ rfl (HO1.out.below (below_box _ _)) (HB1.out.trans ((below_box _ _).mono HB1.out.size)) (some ⟨wa.heap.size, 0, none⟩) 1 1 (fun _ => x) rfl (fun _ => ⟨_, 0, rfl, fun k hk => by obtain rfl : k = 0 := Nat.lt_one_iff.1 hk; simp [World.cell?_alloc_at]⟩) (fun e => by cases e) (by omega) ?_))
              intro v2 wb hO2 hB2 _
              have hO2 : OwnL wb wk.heap.size v2 (l ++ [x]) := hO2
              obtain ⟨A2, c2, e2, -⟩ := OwnL.form hO2
              have hn2 : (l ++ [x]).length = l.length + 1 := by simp
              rw [hn2] at e2
              subst e2
              have HO2 := Lib.hid hO2
              have HB2 := Lib.hid hB2
              have HLL := Lib.hid (one_ll HO2.out HB2.out.size)
              have HY4 := Lib.hid ((HY2.out.below HB2.out).below (below_box wb (.cells #[.slice A2 (l.length + 1) c2] 23)))
              have hz1 : w1.heap.size ≤ wk.heap.size := Hbel2.out.size
              have hz2 : wk.heap.size ≤ wb.heap.size := HB2.out.size
              clear hO2 hB2 hn2
              go_wp2_with (at_builtin; go_loud (refine wpList_lls rfl _ _ rfl w1.heap.size wk.heap.size _ _ (E ++ X0) [l ++ [x]] rfl HY4.out rfl HLL.out hz1 (by simp; omega) (by simp; omega) ?_))
              intro v3 wc hO3 hB3
              have HO3 := Lib.hid (show OwnLL wc w1.heap.size v3 (E ++ X1) by rw [HSx.out]; exact hO3)
              have HB3 := Lib.hid ((((Hbel2.out.trans (HB2.out.mono hz1)).trans ((below_box wb (.cells #[.slice A2 (l.length + 1) c2] 23)).mono (Nat.le_trans hz1 hz2))).trans hB3))
              clear hO3 hB3
              go_wp2
              go_roundw
              case rel => exact ⟨i + 1, by omega, by go_num, by rw [← H1.out]; exact HO3.out, HB3.out⟩
              case measure => simp [intOf]; omega
            · rw [if_neg hr] at HSx
              have d := decide_eq_false hr
              clear hr
              go_wp2
              go_roundw
              case rel => exact ⟨i + 1, by omega, by go_num, by rw [← H1.out, HSx.out]; exact HY2.out, Hbel2.out⟩
              case measure => simp [intOf]; omega
          · obtain rfl : i = L := by omega
            rw [← HSu.out] at HY2
            go_wp2
            go_roundw
            case rel => exact ⟨j + 1, by omega, by go_num, HY2.out, Hbel2.out⟩
            case measure => simp [intOf]; omega
      · have ej : exL f L C j = exL f L C C.length := by rw [show j = C.length by omega]
        rw [ej] at HY
        rw [← HC.out] at HY
        have HY3 := Lib.hid HY.out
        clear ej HY
        go_wp2
        go_ret
        exact ⟨_, rfl, HY3.out.rebase Hb1.out.size, Hb1.out.trans (Hbel.out.mono Hb1.out.size)⟩
end Go.Proofs.Ytiigcjcolpmafaa

/- The reference's trimmed. -/
namespace Go.Proofs.Ytiigcjcolpmafaa
open Go.RowKit

theorem cnt_in {m : Nat → Int} {s : Int} {y : Nat} : ∀ {k : Nat}, y < k → m y = s → 0 < cnt m s k := by
  intro k
  induction k with
  | zero => intro h; exact absurd h (Nat.not_lt_zero _)
  | succ k ih =>
    intro h e
    simp only [cnt]
    rcases Nat.lt_succ_iff_lt_or_eq.1 h with g | g
    · have := ih g e
      split <;> omega
    · subst g
      rw [if_pos e]
      omega
/-- Whom the shift likes least among the first k. -/
def WrsP (p : PlanD) (s : Nat) (m : Nat → Int) (k : Nat) (v : Int) : Prop :=
  (cnt m (s : Int) k = 0 ∧ v = -1) ∨ (0 < cnt m (s : Int) k ∧ ∃ z : Nat, z < k ∧ v = (z : Int) ∧ m z = (s : Int) ∧ ∀ y, y < k → m y = (s : Int) → rSd p s y ≤ rSd p s z)
theorem WrsP.no {p : PlanD} {s k : Nat} {m : Nat → Int} {v : Int} (h : WrsP p s m k v) (e : m k ≠ (s : Int)) : WrsP p s m (k + 1) v := by
  have hc : cnt m (s : Int) (k + 1) = cnt m (s : Int) k := by simp only [cnt]; rw [if_neg e]
  rcases h with ⟨h1, h2⟩ | ⟨h1, z, h2, h3, h4, h5⟩
  · exact .inl ⟨by rw [hc]; exact h1, h2⟩
  · refine .inr ⟨by rw [hc]; exact h1, z, by omega, h3, h4, fun y hy ey => ?_⟩
    rcases Nat.lt_succ_iff_lt_or_eq.1 hy with g | g
    · exact h5 y g ey
    · rw [g] at ey; exact absurd ey e
theorem WrsP.new {p : PlanD} {s k : Nat} {m : Nat → Int} {v : Int} (h : WrsP p s m k v) (e : m k = (s : Int)) (hv : v < 0 ∨ ∃ z : Nat, v = (z : Int) ∧ rSd p s z ≤ rSd p s k) : WrsP p s m (k + 1) (k : Int) := by
  have hc : cnt m (s : Int) (k + 1) = cnt m (s : Int) k + 1 := by simp only [cnt]; rw [if_pos e]
  refine .inr ⟨by omega, k, Nat.lt_succ_self _, rfl, e, fun y hy ey => ?_⟩
  rcases Nat.lt_succ_iff_lt_or_eq.1 hy with g | g
  · rcases h with ⟨h1, h2⟩ | ⟨h1, z, h2, h3, h4, h5⟩
    · exact absurd ey (by
        have := cnt_in g ey
        omega)
    · rcases hv with hv | ⟨z2, hz2, hz3⟩
      · omega
      · have : z2 = z := by omega
        subst this
        exact Int.le_trans (h5 y g ey) hz3
  · rw [g]; exact Int.le_refl _
theorem WrsP.old {p : PlanD} {s k : Nat} {m : Nat → Int} {z : Nat} (h : WrsP p s m k (z : Int)) (e : m k = (s : Int)) (hv : rSd p s k ≤ rSd p s z) : WrsP p s m (k + 1) (z : Int) := by
  have hc : cnt m (s : Int) (k + 1) = cnt m (s : Int) k + 1 := by simp only [cnt]; rw [if_pos e]
  rcases h with ⟨h1, h2⟩ | ⟨h1, z2, h2, h3, h4, h5⟩
  · omega
  · have : z2 = z := by omega
    subst this
    refine .inr ⟨by omega, z2, by omega, rfl, h4, fun y hy ey => ?_⟩
    rcases Nat.lt_succ_iff_lt_or_eq.1 hy with g | g
    · exact h5 y g ey
    · rw [g]; exact hv
set_option maxHeartbeats 8000000 in
set_option maxRecDepth 1000000 in
theorem trimmed_any (AH AS AP DM : Option Addr) (cH cS cP cM s : Nat) (p : PlanD) (m : Nat → Int) (w : World) (hp : PlanArg w AH AS AP cH cS cP p) (hok : okPlan p = true) (hs : s < p.nS) (hm : Ints w DM p.nH m) (hls : LsdS p s m) :
    Calls Try.prog 109 #[.agg #[.slice AH p.nH cH, .slice AS p.nS cS, .slice AP p.nP cP], .slice DM p.nH cM, .int .i64 s] w fun e w' => ∃ v m', e = .returned v ∧ OwnL w' w.heap.size v (lst p.nH m') ∧ Below w.heap.size w w' ∧
      ((((cnt m (s : Int) p.nH : Nat) : Int) ≤ p.pl s ∧ m' = m) ∨ (p.pl s < ((cnt m (s : Int) p.nH : Nat) : Int) ∧ ∃ z : Nat, z < p.nH ∧ m z = (s : Int) ∧ (∀ y, y < p.nH → m y = (s : Int) → rSd p s y ≤ rSd p s z) ∧ m' = upd m z (-1))) := by
  obtain ⟨⟨a1, a2, a3, a4, a5⟩, a6, -, a8⟩ := okPlan_of hok
  have hpl := a6 s (by omega)
  have hrow := a8 s hs
  have hLS := hrow.1
  have HPl1 : Hid (1 ≤ p.pl s) := Lib.hid hpl.1
  have Hb0 := Lib.hid (below_box w (.cells #[.slice AH p.nH cH, .slice AS p.nS cS, .slice AP p.nP cP] 25))
  have HB0 := Lib.hid (BoxP.newR w AH AS AP p.nH p.nS p.nP cH cS cP)
  have HP := Lib.hid (hp.keep Hb0.out)
  have HM := Lib.hid (hm.keep Hb0.out)
  have HLs := Lib.hid hls
  have hss : (s : Int) < p.nS := by omega
  have hsp : (s : Int) < p.nP := by omega
  have hspn : s < p.nP := by omega
  obtain ⟨W, hW⟩ : ∃ W, W = w.alloc (.cells #[.slice AH p.nH cH, .slice AS p.nS cS, .slice AP p.nP cP] 25) := ⟨_, rfl⟩
  rw [← hW] at Hb0 HB0 HP HM
  have HWW := Lib.hid hW.symm
  obtain ⟨bM, oM, eM, -⟩ := HM.out (by omega)
  subst eM
  have HNl : Hid ((some ⟨bM, oM, none⟩ : Option Addr) = none → p.nH = 0 ∧ cM = 0) := Lib.hid (fun e => by cases e)
  clear hp hm hok hls hW a5 a6 a8 hrow hpl
  go_enter Try.func109, Try.ntmps109
  go_wp2_with fail
  rw [HWW.out]
  clear HWW
  go_loopw [7, 8, 14] (fun x v i wr => ∃ (k : Nat) (V : Int), k ≤ p.nH ∧ i = .int .i64 k ∧ x = .int .i64 (cnt m (s : Int) k : Nat) ∧ v = .int .i64 V ∧ WrsP p s m k V ∧ Below W.heap.size W wr) (fun _ _ i _ => p.nH - (intOf i).toNat)
  case atStart => exact ⟨0, -1, Nat.zero_le _, rfl, rfl, rfl, .inl ⟨rfl, rfl⟩, Below.refl _ _⟩
  case round =>
    obtain ⟨k, V, hk, rfl, rfl, rfl, hwrs, hbel⟩ := hrel
    have HWrs := Lib.hid hwrs
    have Hbel := Lib.hid hbel
    have hcl := cnt_le m (s : Int) k
    clear hwrs hbel
    by_cases hlt : k < p.nH
    · obtain ⟨b, o, eb, hc⟩ := (HM.out.keep Hbel.out).at hlt
      injection eb with eb
      injection eb with e1 e2
      subst e1 e2
      have hki : (k : Int) < p.nH := by omega
      have HCs : Hid (cnt m (s : Int) (k + 1) = if m k = (s : Int) then cnt m (s : Int) k + 1 else cnt m (s : Int) k) := Lib.hid rfl
      obtain ⟨cn1, h1⟩ : ∃ z, z = cnt m (s : Int) (k + 1) := ⟨_, rfl⟩
      rw [← h1] at HCs
      have H1 := Lib.hid h1
      clear h1
      by_cases e : m k = (s : Int)
      · rw [if_pos e] at HCs
        have hB := beq_t e
        have hli : 0 ≤ idxI (p.vS s) (k : Int) (p.LS s) := HLs.out k hlt e
        have HNew := Lib.hid (fun hv => HWrs.out.new e hv)
        have HE := Lib.hid e
        rw [e] at hc
        have hBs := beq_t (rfl : (s : Int) = s)
        clear e hB
        by_cases hV : V < 0
        · have d := decide_eq_true hV
          have HN2 := Lib.hid (HNew.out (.inl hV))
          generalize cnt m (s : Int) k = cn at *
          clear hV
          go_wp2_with fail
          go_quiet (fail)
          have HBq := Lib.hid (Hbel.out.trans ((((Dn.refl wr).drewN nq).below wr.heap.size).mono Hbel.out.size))
          go_wp2
          go_roundw
          case rel => exact ⟨k + 1, k, by omega, by go_num, by rw [← H1.out, HCs.out]; go_num, rfl, HN2.out, HBq.out⟩
          case measure => simp [intOf]; omega
        · have d := decide_eq_false hV
          have HZ := HWrs.out
          rcases HZ with ⟨-, hz⟩ | ⟨hc0, z, hz1, hz2, hz3, hz4⟩
          · omega
          subst hz2
          have hzi : 0 ≤ idxI (p.vS s) (z : Int) (p.LS s) := HLs.out z (by omega) hz3
          have hr1 := (rkI_sm2 hli).1
          have hr2 := (rkI_sm2 hzi).1
          obtain ⟨bS, oS, eS, hcS⟩ := (HP.out.keep Hbel.out).shifts.2.2.2 (by omega)
          subst eS
          obtain ⟨RS, kS, hcR, hAR⟩ := hcS s hs
          have hA1 := Lib.hid (fun q : Later wr => Lr.same (rRank_any RS (p.LS s) kS (p.vS s) (k : Int) q.to (hAR.2.2.2.keep q.below) (by omega)))
          have hA2 := Lib.hid (fun q : Later wr => Lr.same (rRank_any RS (p.LS s) kS (p.vS s) (z : Int) q.to (hAR.2.2.2.keep q.below) (by omega)))
          have HNw : Hid (idxI (p.vS s) (z : Int) (p.LS s) ≤ idxI (p.vS s) (k : Int) (p.LS s) → WrsP p s m (k + 1) (k : Int)) := Lib.hid (fun h => HNew.out (.inr ⟨z, rfl, by unfold rSd; rw [hr1, hr2]; exact h⟩))
          have HOd : Hid (idxI (p.vS s) (k : Int) (p.LS s) ≤ idxI (p.vS s) (z : Int) (p.LS s) → WrsP p s m (k + 1) (z : Int)) := Lib.hid (fun h => HWrs.out.old HE.out (by unfold rSd; rw [hr1, hr2]; exact h))
          obtain ⟨y0, y1, y2⟩ := HB0.out.keep Hbel.out
          have k1 : ∀ q : Later wr, q.to.cell? ⟨w.heap.size, 1, none⟩ = some (.slice (some ⟨bS, oS, none⟩) p.nS cS) := fun q => q.cell y1
          have k2 : ∀ q : Later wr, q.to.cell? ⟨bS, oS + s, none⟩ = some (.slice RS (p.LS s) kS) := fun q => q.cell hcR
          generalize cnt m (s : Int) k = cn at *
          generalize idxI (p.vS s) (k : Int) (p.LS s) = ik at *
          generalize idxI (p.vS s) (z : Int) (p.LS s) = iz at *
          clear hV hz3 hz4 hr1 hr2 hAR hcS hcR y0 y1 y2 hc0
          go_wp2_with fail
          refine wp_region_later (by kernel_rfl) (by kernel_rfl) ?_
          repeat
            (with_reducible refine wpQuiet_step ?_
             intro K' hK'
             go_simp
             first
               | (refine hK' _ ?_; clear hK' K')
               | (apply Exists.intro
                  refine ⟨fun _ => ?_, hK' _ ?_⟩
                  (first
                    | (go_at_call_of 86 (k : Int); with_reducible exact Lr.later (hA1.out _))
                    | (go_at_call 86; with_reducible exact Lr.later (hA2.out _)))
                  clear hK' K'))
          with_reducible refine wpQuiet_nil ?_
          intro _ hw'
          obtain ⟨q', rfl⟩ := hw'
          have HBq := Lib.hid (Hbel.out.trans (q'.below.mono Hbel.out.size))
          clear k1 k2
          generalize q'.to = wy at *
          by_cases hgt : iz < ik
          · have dg : decide (iz < ik) = true := decide_eq_true hgt
            have HN2 := Lib.hid (HNw.out (by omega))
            go_wp2
            go_roundw
            case rel => exact ⟨k + 1, k, by omega, by go_num, by rw [← H1.out, HCs.out]; go_num, rfl, HN2.out, HBq.out⟩
            case measure => simp [intOf]; omega
          · have dg : decide (iz < ik) = false := decide_eq_false hgt
            have HN2 := Lib.hid (HOd.out (by omega))
            go_wp2
            go_roundw
            case rel => exact ⟨k + 1, z, by omega, by go_num, by rw [← H1.out, HCs.out]; go_num, rfl, HN2.out, HBq.out⟩
            case measure => simp [intOf]; omega
      · rw [if_neg e] at HCs
        have hB := beq_f e
        have HN2 := Lib.hid (HWrs.out.no e)
        generalize cnt m (s : Int) k = cn at *
        clear e
        go_wp2
        go_roundw
        case rel => exact ⟨k + 1, V, by omega, by go_num, by rw [← H1.out, HCs.out], rfl, HN2.out, Hbel.out⟩
        case measure => simp [intOf]; omega
    · obtain rfl : k = p.nH := by omega
      have HMi := Lib.hid ((HM.out.keep Hbel.out).keep (below_box wr (.cells #[] 3)))
      have hnp : ¬ (((p.nH : Nat) : Int) < p.nH) := by omega
      have hsz := Hbel.out.size
      go_wp2_with (at_builtin; go_loud (refine wpList_gs rfl _ _ rfl wr _ _ rfl (own_none wr wr.heap.size (Nat.le_refl _)) (below_box _ _) (some ⟨bM, oM, none⟩) p.nH cM m rfl HMi.out HNl.out (by simp; omega) ?_))
      intro v1 w1 hO1 hB1 _
      have hO1 : OwnL w1 wr.heap.size v1 (lst p.nH m) := hO1
      obtain ⟨gv, cv, rfl, hgv, hRv⟩ := hO1.rowC a1
      have HO1 := Lib.hid hO1
      have HB1 := Lib.hid (Hbel.out.trans (hB1.mono hsz))
      have hszw : w.heap.size ≤ wr.heap.size := (Hb0.out.trans (Hbel.out.mono Hb0.out.size)).size
      obtain ⟨y0, y1, y2⟩ := HB0.out.keep HB1.out
      obtain ⟨b, o, eP, hc⟩ := (HP.out.keep HB1.out).places.2.2.2.at hspn
      subst eP
      have HRv := Lib.hid hRv
      clear hO1 hB1 hRv
      obtain ⟨P, hP⟩ : ∃ P, P = p.pl s := ⟨_, rfl⟩
      rw [← hP] at hc
      have HPp := Lib.hid hP
      clear hP
      by_cases hgt : P < ((cnt m (s : Int) p.nH : Nat) : Int)
      · have dg : decide (P < ((cnt m (s : Int) p.nH : Nat) : Int)) = true := decide_eq_true hgt
        have hcn : 0 < cnt m (s : Int) p.nH := by
          have := HPl1.out
          rw [← HPp.out] at this
          omega
        rcases HWrs.out with ⟨hz0, -⟩ | ⟨-, z, hz1, hz2, hz3, hz4⟩
        · omega
        subst hz2
        have HZ := Lib.hid (show z < p.nH ∧ m z = (s : Int) ∧ ∀ y, y < p.nH → m y = (s : Int) → rSd p s y ≤ rSd p s z from ⟨hz1, hz3, hz4⟩)
        have HGt := Lib.hid hgt
        have hzi : (z : Int) < p.nH := by omega
        have cz := HRv.out.cell hz1
        have fz := HRv.out.frozen z
        have hRs := HRv.out.set z (-1)
        have hcm : cv ≤ maxLen := by
          rcases HO1.out.2 with ⟨e, -⟩ | ⟨g, cap, cur, e, -, -, -, hcm, -⟩
          · cases e
          · injection e with e1 e2 e3
            rw [e3]; exact hcm
        have HRs := Lib.hid (hRs.ownL (base := w.heap.size) (by omega) hcm)
        have HBs := Lib.hid ((Hb0.out.trans (HB1.out.mono Hb0.out.size)).setCell (p := ⟨gv, z, none⟩) (show w.heap.size ≤ gv by omega) (.int .i64 (-1)))
        clear hgt hcn hz1 hz3 hz4 hRs hcm
        go_wp2
        go_ret
        exact ⟨_, _, rfl, HRs.out, HBs.out, .inr ⟨by rw [← HPp.out]; exact HGt.out, z, HZ.out.1, HZ.out.2.1, HZ.out.2.2, rfl⟩⟩
      · have dg : decide (P < ((cnt m (s : Int) p.nH : Nat) : Int)) = false := decide_eq_false hgt
        have HGt := Lib.hid hgt
        have HO3 : Hid (OwnL w1 w.heap.size (.slice (some ⟨gv, 0, none⟩) p.nH cv) (lst p.nH m)) := Lib.hid (ownL_reb HO1.out hszw)
        clear hgt
        go_wp2
        go_ret
        have hle : ((cnt m (s : Int) p.nH : Nat) : Int) ≤ p.pl s := by have := HGt.out; have := HPp.out; omega
        have hbw := Hb0.out.trans (HB1.out.mono Hb0.out.size)
        first
          | exact ⟨_, rfl, m, HO3.out, hbw, .inl ⟨hle, rfl⟩⟩
          | exact ⟨_, rfl, HO3.out, hbw, hle⟩
          | exact ⟨_, m, rfl, HO3.out, hbw, .inl ⟨hle, rfl⟩⟩
end Go.Proofs.Ytiigcjcolpmafaa

/- The reference's Deferred: asking in turn. -/
namespace Go.Proofs.Ytiigcjcolpmafaa
open Go.RowKit

theorem wt_no {p : PlanD} {m a : Nat → Int} {h : Nat} (hn : NoneLt (wtP p m a) h) (e : wtP p m a h = false) : NoneLt (wtP p m a) (h + 1) := hn.succ e
set_option maxHeartbeats 16000000 in
set_option maxRecDepth 1000000 in
theorem deferred_any (AH AS AP : Option Addr) (cH cS cP : Nat) (p : PlanD) (w : World) (hp : PlanArg w AH AS AP cH cS cP p) (hok : okPlan p = true) :
    Calls Try.prog 72 #[.agg #[.slice AH p.nH cH, .slice AS p.nS cS, .slice AP p.nP cP]] w fun e w' => ∃ A c m a, e = .returned (.slice A p.nH c) ∧ Ints w' A p.nH m ∧ DaR p m a ∧ DaEnd p m a ∧ Below w.heap.size w w' := by
  obtain ⟨⟨a1, a2, a3, a4, a5⟩, -, a7, -⟩ := okPlan_of hok
  have hmk : ∀ w : World, _ := fun w => mk_ints p.nH (by omega) w
  have Hb0 := Lib.hid (below_box w (.cells #[.slice AH p.nH cH, .slice AS p.nS cS, .slice AP p.nP cP] 25))
  have HB0 := Lib.hid (BoxP.newR w AH AS AP p.nH p.nS p.nP cH cS cP)
  have HP := Lib.hid (hp.keep Hb0.out)
  have HOk := Lib.hid hok
  have HR7 := Lib.hid a7
  obtain ⟨W, hW⟩ : ∃ W, W = w.alloc (.cells #[.slice AH p.nH cH, .slice AS p.nS cS, .slice AP p.nP cP] 25) := ⟨_, rfl⟩
  rw [← hW] at Hb0 HB0 HP
  have HWW := Lib.hid hW.symm
  have HM1 := Lib.hid (RowI.made W p.nH)
  have HM2 := Lib.hid (RowI.made (W.alloc (.cells (madeCells #[.int .i64 0] p.nH) 3)) p.nH)
  have hbA := below_box W (.cells (madeCells #[.int .i64 0] p.nH) 3)
  have hbB := below_box (W.alloc (.cells (madeCells #[.int .i64 0] p.nH) 3)) (.cells (madeCells #[.int .i64 0] p.nH) 3)
  have HM3 := Lib.hid (HM1.out.keep hbB)
  have Hb2 := Lib.hid (hbA.trans (hbB.mono hbA.size))
  have hzz : (W.alloc (.cells (madeCells #[.int .i64 0] p.nH) 3)).heap.size = W.heap.size + 1 := by simp
  rw [hzz] at HM2
  have hWs : W.heap.size = w.heap.size + 1 := by rw [← HWW.out]; simp
  obtain ⟨W2, hW2⟩ : ∃ W2, W2 = (W.alloc (.cells (madeCells #[.int .i64 0] p.nH) 3)).alloc (.cells (madeCells #[.int .i64 0] p.nH) 3) := ⟨_, rfl⟩
  rw [← hW2] at HM2 HM3 Hb2
  rw [hWs] at HM2 HM3
  have HW2 := Lib.hid hW2.symm
  clear hp hok hW a5 a7 hbA hbB hzz hW2 HM1
  go_enter Try.func72, Try.ntmps72
  go_wp2_with fail
  rw [HWW.out, HW2.out]
  clear HWW HW2 hmk
  obtain ⟨ga, hga⟩ : ∃ g, g = w.heap.size + 1 + 1 := ⟨_, rfl⟩
  obtain ⟨gm, hgm⟩ : ∃ g, g = w.heap.size + 1 := ⟨_, rfl⟩
  rw [← hga, ← hgm]
  rw [← hgm] at HM3 HM2
  have HM2 : Hid (RowI W2 ga p.nH (fun _ => 0)) := Lib.hid (by rw [hga, ← hgm]; exact HM2.out)
  have hWgm : W.heap.size ≤ gm := by omega
  have hWga : W.heap.size ≤ ga := by omega
  have hgg : gm ≠ ga := by omega
  have HMs := Lib.hid (fun (aa : Nat → Int) (h : Nat) (hh : h < p.nH) h0 hl => msr_upd (p := p) (a := aa) hh h0 hl)
  clear hga hgm hWs
  go_loopw [19] (fun x wr => ∃ k : Nat, k ≤ p.nH ∧ x = .int .i64 k ∧ RowI wr gm p.nH (fun i => if i < k then -1 else 0) ∧ RowI wr ga p.nH (fun _ => 0) ∧ Below W.heap.size W wr) (fun x _ => p.nH - (intOf x).toNat)
  case atStart => exact ⟨0, Nat.zero_le _, rfl, HM3.out.congr (fun i _ => by rw [if_neg (Nat.not_lt_zero _)]), HM2.out, Hb2.out⟩
  case round =>
    obtain ⟨k, hk, rfl, hM, hA, hbel⟩ := hrel
    have HM := Lib.hid hM
    have HA := Lib.hid hA
    have Hbel := Lib.hid hbel
    clear hM hA hbel
    by_cases hlt : k < p.nH
    · have hki : (k : Int) < p.nH := by omega
      have c0 := HM.out.cell hlt
      have f0 := HM.out.frozen k
      have HMn := Lib.hid ((HM.out.set k (-1)).congr (f' := fun i => if i < k + 1 then -1 else 0) (fun i _ => by
        show upd (fun i => if i < k then -1 else 0) k (-1) i = if i < k + 1 then -1 else 0
        unfold upd
        by_cases e : i = k
        · rw [if_pos e, if_pos (by omega)]
        · rw [if_neg e]
          show (if i < k then (-1 : Int) else 0) = if i < k + 1 then -1 else 0
          by_cases e2 : i < k
          · rw [if_pos e2, if_pos (by omega)]
          · rw [if_neg e2, if_neg (by omega)]))
      have HAn := Lib.hid (HA.out.setOther (a := ⟨gm, k, none⟩) hgg.symm (.int .i64 (-1)))
      have HBn := Lib.hid (Hbel.out.setCell (p := ⟨gm, k, none⟩) hWgm (.int .i64 (-1)))
      go_wp2
      go_roundw
      case rel => exact ⟨k + 1, by omega, by go_num, HMn.out, HAn.out, HBn.out⟩
      case measure => simp [intOf]; omega
    · obtain rfl : k = p.nH := by omega
      have HM0 := Lib.hid ((HM.out.congr (f' := fun _ => -1) (fun i hi => if_pos hi)).rowC)
      clear HM HM3 HM2 Hb2
      have hnn : ¬ ((p.nH : Nat) : Int) < p.nH := by omega
      go_wp2
      go_loopg [3, 6] (msr p (fun _ => 0) + 1) (fun gk v b wo => ∃ (gm cM : Nat) (mm aa : Nat → Int) (bb : Bool), v = .slice (some ⟨gm, 0, none⟩) p.nH cM ∧ b = .bool bb ∧ RowC wo gm cM p.nH mm ∧ RowI wo ga p.nH aa ∧ gm ≠ ga ∧ W.heap.size ≤ gm ∧ DaR p mm aa ∧ ((bb = true ∧ gk = msr p aa + 1) ∨ (bb = false ∧ gk = 0 ∧ DaEnd p mm aa)) ∧ Below W.heap.size W wo)
      case atStart => exact ⟨gm, p.nH, _, _, true, rfl, rfl, HM0.out, HA.out, hgg, hWgm, DaR.start, .inl ⟨rfl, rfl⟩, Hbel.out⟩
      case round =>
        clear HM0 HA Hbel
        obtain ⟨gm, cM, mm, aa, bb, rfl, rfl, hRm, hRa, hgg, hWgm, hDa, hcs, hbel⟩ := hrel
        have HRm := Lib.hid hRm
        have HRa := Lib.hid hRa
        have HDa := Lib.hid hDa
        have Hbel := Lib.hid hbel
        clear hRm hRa hDa hbel
        rcases hcs with ⟨rfl, hgk⟩ | ⟨rfl, hgk, hend⟩
        · obtain ⟨M, hM⟩ : ∃ M, M = msr p aa := ⟨_, rfl⟩
          have HMm := Lib.hid hM
          rw [← hM] at hgk
          have HGk := Lib.hid hgk
          clear hM hgk
          go_wp2_with fail
          go_loopw [3, 6, 29] (fun v b i wi => ∃ (h gm cM : Nat) (mm aa : Nat → Int) (bb : Bool), h ≤ p.nH ∧ i = .int .i64 h ∧ v = .slice (some ⟨gm, 0, none⟩) p.nH cM ∧ b = .bool bb ∧ RowC wi gm cM p.nH mm ∧ RowI wi ga p.nH aa ∧ gm ≠ ga ∧ W.heap.size ≤ gm ∧ DaR p mm aa ∧ ((bb = true ∧ msr p aa < M) ∨ (bb = false ∧ msr p aa = M ∧ NoneLt (wtP p mm aa) h)) ∧ Below W.heap.size W wi) (fun _ _ i _ => p.nH - (intOf i).toNat)
          case atStart => exact ⟨0, gm, cM, mm, aa, false, Nat.zero_le _, rfl, rfl, rfl, HRm.out, HRa.out, hgg, hWgm, HDa.out, .inr ⟨rfl, HMm.out.symm, NoneLt.zero⟩, Hbel.out⟩
          case round =>
            clear HRm HRa HDa Hbel HMm hgg hWgm
            obtain ⟨h, gm, cM, mm, aa, bb, hh, rfl, rfl, rfl, hRm, hRa, hgg, hWgm, hDa, hcs, hbel⟩ := hrel
            have HRm := Lib.hid hRm
            have HRa := Lib.hid hRa
            have HDa := Lib.hid hDa
            have Hbel := Lib.hid hbel
            have HCs := Lib.hid hcs
            clear hRm hRa hDa hbel hcs
            by_cases hlt : h < p.nH
            · have hI := HDa.out.daI HOk.out
              have ha0 := (hI.ask h hlt).1
              obtain ⟨j, hj⟩ : ∃ j : Nat, aa h = j := ⟨(aa h).toNat, by omega⟩
              have hhi : (h : Int) < p.nH := by omega
              have cm := HRm.out.cell hlt
              have ca := HRa.out.cell hlt
              obtain ⟨bH, oH, eH, hcH⟩ := (HP.out.keep Hbel.out).hands.2.2.2 (by omega)
              subst eH
              obtain ⟨RH, kH, hcR, hAR⟩ := hcH h hlt
              have hL9 := (HR7.out h hlt).1
              obtain ⟨y0, y1, y2⟩ := HB0.out.keep Hbel.out
              have hInv := HDa.out.inv.2 h
              rw [hj] at ca
              have HJ := Lib.hid hj
              clear hI hj hcH
              rcases hInv with hx | ⟨-, hx⟩
              · rw [hx] at cm
                by_cases hjl : j < p.LH h
                · have d1 : decide ((p.LH h : Int) ≤ j) = false := decide_eq_false (by omega)
                  have HX := Lib.hid hx
                  have hji : (j : Int) < p.LH h := by omega
                  obtain ⟨bR, oR, eR, cR⟩ := hAR.2.2.2.at hjl
                  subst eR
                  have hja : (j : Int) ≤ 9 := by omega
                  clear hx hAR
                  go_wp2_with fail
                  go_quiet (fail)
                  have hDq := (Dn.refl wr).drewN nq
                  have hbq := hDq.below wr.heap.size
                  have HRm2 := Lib.hid (HRm.out.dn hDq)
                  have HRa2 := Lib.hid (HRa.out.dn hDq)
                  have HBq := Lib.hid (Hbel.out.trans (hbq.mono Hbel.out.size))
                  have y0 := old_cell y0 hbq
                  have y1 := old_cell y1 hbq
                  have y2 := old_cell y2 hbq
                  have hcR := old_cell hcR hbq
                  have cR := old_cell cR hbq
                  have ca := old_cell ca hbq
                  have fa := HRa2.out.frozen h
                  clear hDq hbq cm
                  generalize wr.drewN nq = wq at *
                  obtain ⟨sv, hsv⟩ : ∃ sv, sv = p.vH h j := ⟨_, rfl⟩
                  rw [← hsv] at cR
                  have HSv := Lib.hid hsv
                  clear hsv
                  go_wp2_with fail
                  go_quiet (fail)
                  have hDr := (Dn.refl wq).drewN nq
                  have HRm3 := Lib.hid (HRm2.out.dn hDr)
                  have HRa3 := Lib.hid (HRa2.out.dn hDr)
                  have HBr := Lib.hid (HBq.out.trans ((hDr.below wq.heap.size).mono HBq.out.size))
                  have ca := HRa3.out.cell hlt
                  rw [HJ.out] at ca
                  have fa := HRa3.out.frozen h
                  clear hDr HRm2 HRa2 HBq cR hcR y0 y1 y2
                  generalize wq.drewN nq = wa at *
                  have HRm4 := Lib.hid (HRm3.out.setOther (a := ⟨ga, h, none⟩) hgg (.int .i64 ((j : Int) + 1)))
                  have HRa4 := Lib.hid (HRa3.out.set h ((j : Int) + 1))
                  have HB4 := Lib.hid (HBr.out.setCell (p := ⟨ga, h, none⟩) hWga (.int .i64 ((j : Int) + 1)))
                  obtain ⟨y0, y1, y2⟩ := HB0.out.keep HB4.out
                  have hpp := HP.out.keep HB4.out
                  have HPo := Lib.hid (rpossible_any (some ⟨bH, oH, none⟩) AS AP cH cS cP p h sv _ hpp.hands.rows hpp.shifts.rows HOk.out hlt)
                  have HMl := Lib.hid (HMs.out aa h hlt (by rw [HJ.out]; omega) (by rw [HJ.out]; omega))
                  rw [HJ.out] at HMl
                  have HMb : Hid (msr p (upd aa h ((j : Int) + 1)) < M) := Lib.hid (by
                    have := HMl.out
                    rcases HCs.out with ⟨-, h1⟩ | ⟨-, h1, -⟩ <;> omega)
                  clear hpp HRm3 HRa3 HBr HMl
                  have HSk : Hid (possB p h sv = false → DaR p mm (upd aa h ((j : Int) + 1))) := Lib.hid (fun e => by
                    have h1 := HDa.out.skip hlt HX.out (by rw [HJ.out]; omega) (by rw [HJ.out, Int.toNat_natCast, ← HSv.out]; exact e)
                    rwa [HJ.out] at h1)
                  cases hpo : possB p h sv with
                  | false =>
                    rw [hpo] at HPo
                    have HPf := Lib.hid hpo
                    clear hpo
                    go_wp2_with fail
                    refine Lr.use HPo.out ?_
                    intro w5 hb5
                    have HRm5 := Lib.hid (HRm4.out.keep hb5)
                    have HRa5 := Lib.hid (HRa4.out.keep hb5)
                    have HB5 := Lib.hid (HB4.out.trans (hb5.mono HB4.out.size))
                    clear hb5 y0 y1 y2
                    go_wp2
                    go_roundw
                    case rel => exact ⟨h + 1, gm, cM, mm, _, true, by omega, by go_num, rfl, rfl, HRm5.out, HRa5.out, hgg, hWgm, HSk.out HPf.out, .inl ⟨rfl, HMb.out⟩, HB5.out⟩
                    case measure => simp [intOf]; omega
                  | true =>
                    have hrg := poss_rg2 HOk.out hlt hpo
                    obtain ⟨s, hs⟩ : ∃ s : Nat, sv = (s : Int) := ⟨sv.toNat, by omega⟩
                    subst hs
                    have hsS : s < p.nS := by omega
                    have HPt := Lib.hid hpo
                    have HLd : Hid (LsdS p s (upd mm h (s : Int))) := Lib.hid (fun x hx2 e => by
                      unfold upd at e
                      split at e
                      · rename_i e2
                        subst e2
                        exact (poss_if2.1 hpo).2
                      · exact HDa.out.lstd x s hx2 e)
                    rw [hpo] at HPo
                    clear hpo hrg
                    go_wp2_with fail
                    refine Lr.use HPo.out ?_
                    intro w5 hb5
                    have HRm5 := Lib.hid (HRm4.out.keep hb5)
                    have HRa5 := Lib.hid (HRa4.out.keep hb5)
                    have HB5 := Lib.hid (HB4.out.trans (hb5.mono HB4.out.size))
                    clear hb5 y0 y1 y2
                    have cm5 := HRm5.out.cell hlt
                    have fm5 := HRm5.out.frozen h
                    have HRm6 := Lib.hid (HRm5.out.set h (s : Int))
                    have HRa6 := Lib.hid (HRa5.out.setOther (a := ⟨gm, h, none⟩) hgg.symm (.int .i64 (s : Int)))
                    have HB6 := Lib.hid (HB5.out.setCell (p := ⟨gm, h, none⟩) hWgm (.int .i64 (s : Int)))
                    obtain ⟨z0, z1, z2⟩ := HB0.out.keep HB6.out
                    have HTr := Lib.hid (trimmed_any (some ⟨bH, oH, none⟩) AS AP (some ⟨gm, 0, none⟩) cH cS cP cM s p (upd mm h (s : Int)) _ (HP.out.keep HB6.out) HOk.out hsS HRm6.out.ints HLd.out)
                    go_wp2_with fail
                    refine HTr.out.mono ?_
                    rintro e w7 ⟨v, m', rfl, hO, hb7, hcase⟩
                    obtain ⟨g', c', rfl, hg', hRr⟩ := hO.rowC a1
                    have HRm7 := Lib.hid hRr
                    have HRa7 := Lib.hid (HRa6.out.keep hb7)
                    have HB7 := Lib.hid (HB6.out.trans (hb7.mono HB6.out.size))
                    have hgg7 : g' ≠ ga := by have := HRa6.out.lt; omega
                    have hWg7 : W.heap.size ≤ g' := Nat.le_trans HB6.out.size hg'
                    have HD7 : Hid (DaR p m' (upd aa h ((j : Int) + 1))) := Lib.hid (by
                      have hv : p.vH h (aa h).toNat = (s : Int) := by rw [HJ.out, Int.toNat_natCast, ← HSv.out]
                      rcases hcase with ⟨h1, rfl⟩ | ⟨h1, z, h2, h3, h4, rfl⟩
                      · have h5 := HDa.out.take hlt HX.out (by rw [HJ.out]; omega) hv HPt.out h1
                        rwa [HJ.out] at h5
                      · have h5 := HDa.out.swap hlt HX.out (by rw [HJ.out]; omega) hv HPt.out h1 h2 h3 h4
                        rwa [HJ.out] at h5)
                    clear hO hb7 hcase hRr hg' z0 z1 z2 cm5 fm5
                    go_wp2
                    go_roundw
                    case rel => exact ⟨h + 1, g', c', m', _, true, by omega, by go_num, rfl, rfl, HRm7.out, HRa7.out, hgg7, hWg7, HD7.out, .inl ⟨rfl, HMb.out⟩, HB7.out⟩
                    case measure => simp [intOf]; omega
                · have d1 : decide ((p.LH h : Int) ≤ j) = true := decide_eq_true (by omega)
                  have hwt : wtP p mm aa h = false := by
                    unfold wtP
                    rw [HJ.out, decide_eq_false (show ¬ (j : Int) < (p.LH h : Int) by omega), Bool.and_false]
                  clear hx
                  have HNx : Hid ((bb = true ∧ msr p aa < M) ∨ (bb = false ∧ msr p aa = M ∧ NoneLt (wtP p mm aa) (h + 1))) := Lib.hid (by
                    rcases HCs.out with h1 | ⟨h1, h2, h3⟩
                    · exact .inl h1
                    · exact .inr ⟨h1, h2, h3.succ hwt⟩)
                  clear hwt
                  go_wp2_with fail
                  go_quiet (fail)
                  have hDq := (Dn.refl wr).drewN nq
                  have HRm2 := Lib.hid (HRm.out.dn hDq)
                  have HRa2 := Lib.hid (HRa.out.dn hDq)
                  have HBq := Lib.hid (Hbel.out.trans ((hDq.below wr.heap.size).mono Hbel.out.size))
                  clear hDq cm ca y0 y1 y2 hcR hAR
                  generalize wr.drewN nq = wq at *
                  go_wp2
                  go_roundw
                  case rel => exact ⟨h + 1, gm, cM, mm, aa, bb, by omega, by go_num, rfl, rfl, HRm2.out, HRa2.out, hgg, hWgm, HDa.out, HNx.out, HBq.out⟩
                  case measure => simp [intOf]; omega
              · have d0 : decide (0 ≤ mm h) = true := decide_eq_true hx
                have hwt : wtP p mm aa h = false := by
                  unfold wtP
                  rw [decide_eq_false (show ¬ mm h = -1 by omega), Bool.false_and]
                clear hx
                have HNx : Hid ((bb = true ∧ msr p aa < M) ∨ (bb = false ∧ msr p aa = M ∧ NoneLt (wtP p mm aa) (h + 1))) := Lib.hid (by
                  rcases HCs.out with h1 | ⟨h1, h2, h3⟩
                  · exact .inl h1
                  · exact .inr ⟨h1, h2, h3.succ hwt⟩)
                clear hwt
                go_wp2_with fail
                go_quiet (fail)
                have hDq := (Dn.refl wr).drewN nq
                have HRm2 := Lib.hid (HRm.out.dn hDq)
                have HRa2 := Lib.hid (HRa.out.dn hDq)
                have HBq := Lib.hid (Hbel.out.trans ((hDq.below wr.heap.size).mono Hbel.out.size))
                clear hDq cm ca y0 y1 y2 hcR hAR
                generalize wr.drewN nq = wq at *
                go_wp2
                go_roundw
                case rel => exact ⟨h + 1, gm, cM, mm, aa, bb, by omega, by go_num, rfl, rfl, HRm2.out, HRa2.out, hgg, hWgm, HDa.out, HNx.out, HBq.out⟩
                case measure => simp [intOf]; omega
            · obtain rfl : h = p.nH := by omega
              have hnh : ¬ (((p.nH : Nat) : Int) < p.nH) := by omega
              go_wp2
              rcases HCs.out with ⟨rfl, h2⟩ | ⟨rfl, h2, h3⟩
              · have H2 := Lib.hid h2
                clear h2
                go_roundg (msr p aa + 1)
                case rel => exact ⟨gm, cM, mm, aa, true, rfl, rfl, HRm.out, HRa.out, hgg, hWgm, HDa.out, .inl ⟨rfl, rfl⟩, Hbel.out⟩
                case measure => rw [HGk.out]; have := H2.out; omega
              · have H3 := Lib.hid h3
                clear h2 h3
                go_roundg 0
                case rel => exact ⟨gm, cM, mm, aa, false, rfl, rfl, HRm.out, HRa.out, hgg, hWgm, HDa.out, .inr ⟨rfl, rfl, H3.out⟩, Hbel.out⟩
                case measure => rw [HGk.out]; omega
        · have HEd : Hid (DaEnd p mm aa) := Lib.hid hend
          clear hend hgk
          go_wp2
          go_ret
          exact ⟨_, _, mm, aa, rfl, HRm.out.ints, HDa.out, HEd.out, Hb0.out.trans (Hbel.out.mono Hb0.out.size)⟩
end Go.Proofs.Ytiigcjcolpmafaa

/- The reference's taken and Gains. -/
namespace Go.Proofs.Ytiigcjcolpmafaa
open Go.RowKit

def padL (l : List Int) (k : Nat) : List Int := l ++ lst k (fun _ => 9)
theorem padL_succ (l : List Int) (k : Nat) : padL l (k + 1) = padL l k ++ [9] := by
  unfold padL
  rw [lst_succ, List.append_assoc]
theorem padL_len (l : List Int) (k : Nat) : (padL l k).length = l.length + k := by
  unfold padL
  rw [List.length_append, lst_len]
def lenV : Value → Nat
  | .slice _ n _ => n
  | _ => 0
theorem tk_len {p : PlanD} (s : Nat) (m : Nat → Int) : (tkL p s m).length ≤ p.LS s := by
  unfold tkL
  rw [hndL_len]
  exact cnt_le _ _ _
theorem ownL_rebase {w : World} {base base' : Nat} {v : Value} {xs : List Int} (h : OwnL w base v xs) (hb : base' ≤ base) : OwnL w base' v xs := by
  refine ⟨h.1, ?_⟩
  rcases h.2 with hn | ⟨g, cap, cur, e, hg, r⟩
  · exact .inl hn
  · exact .inr ⟨g, cap, cur, e, Nat.le_trans hb hg, r⟩
theorem way_bel {w w' : World} {B g cap : Nat} {x : Value} {X : List Int} (h : OwnL w B x X) (hB : B ≤ w.heap.size) (hk : (x = .slice (some ⟨g, 0, none⟩) X.length cap ∧ w.grownBy w' (some g)) ∨ (g = w.heap.size ∧ w.grownBy w' none)) : Below B w w' := by
  rcases hk with ⟨rfl, hk⟩ | ⟨rfl, hk⟩
  · exact Exc.below hk (World.ownsRow.lt h g rfl).1 hB
  · exact (Kp.of_none (bs := []) hk).below (by simp) hB
set_option maxHeartbeats 4000000 in
set_option maxRecDepth 1000000 in
theorem taken_any (AH AS AP DM : Option Addr) (cH cS cP cM s : Nat) (p : PlanD) (m : Nat → Int) (w : World) (hp : PlanArg w AH AS AP cH cS cP p) (hok : okPlan p = true) (hs : s < p.nS) (hm : Ints w DM p.nH m) (hcap : ((tkL p s m).length : Int) ≤ p.pl s) :
    Calls Try.prog 108 #[.agg #[.slice AH p.nH cH, .slice AS p.nS cS, .slice AP p.nP cP], .int .i64 s, .slice DM p.nH cM] w fun e w' => ∃ v, e = .returned v ∧ OwnL w' w.heap.size v (padL (tkL p s m) ((p.pl s).toNat - (tkL p s m).length)) ∧ Below w.heap.size w w' := by
  obtain ⟨⟨a1, a2, a3, a4, a5⟩, a6, -, a8⟩ := okPlan_of hok
  have hpl := a6 s (by omega)
  have hrow := a8 s hs
  have hLS := hrow.1
  have Hb0 := Lib.hid (below_box w (.cells #[.slice AH p.nH cH, .slice AS p.nS cS, .slice AP p.nP cP] 25))
  have HB0 := Lib.hid (BoxP.newR w AH AS AP p.nH p.nS p.nP cH cS cP)
  have HP := Lib.hid (hp.keep Hb0.out)
  have HM := Lib.hid (hm.keep Hb0.out)
  have HRow := Lib.hid hrow
  have HT : Hid (tkL p s m = hndL (fun r => m (p.vS s r).toNat) (s : Int) (p.LS s)) := Lib.hid rfl
  obtain ⟨P, hP⟩ : ∃ P : Nat, p.pl s = (P : Int) := ⟨(p.pl s).toNat, by omega⟩
  have hP3 : P ≤ 3 := by omega
  rw [hP] at hcap ⊢
  have HPl := Lib.hid hP
  have hss : (s : Int) < p.nS := by omega
  have hsp : (s : Int) < p.nP := by omega
  have hspn : s < p.nP := by omega
  obtain ⟨W, hW⟩ : ∃ W, W = w.alloc (.cells #[.slice AH p.nH cH, .slice AS p.nS cS, .slice AP p.nP cP] 25) := ⟨_, rfl⟩
  rw [← hW] at Hb0 HB0 HP HM
  have HWW := Lib.hid hW.symm
  obtain ⟨bS, oS, eS, hcS⟩ := HP.out.shifts.2.2.2 (by omega)
  subst eS
  obtain ⟨RS, kS, hcR, hAR⟩ := hcS s hs
  have HIR := Lib.hid hAR.2.2.2
  rw [hW] at hcR
  clear hp hm hok hW a5 a6 a8 hrow hpl hP hcS hAR
  go_enter Try.func108, Try.ntmps108
  go_wp2_with fail
  rw [HWW.out]
  clear HWW hcR
  go_loopw [7, 16] (fun v x wr => ∃ k : Nat, k ≤ p.LS s ∧ x = .int .i64 k ∧ OwnL wr W.heap.size v (hndL (fun r => m (p.vS s r).toNat) (s : Int) k) ∧ Below W.heap.size W wr) (fun _ x _ => p.LS s - (intOf x).toNat)
  case atStart => exact ⟨0, Nat.zero_le _, rfl, OwnL.nil_ _ _, Below.refl _ _⟩
  case round =>
    obtain ⟨k, hk, rfl, hown, hbel⟩ := hrel
    have HOwn := Lib.hid hown
    have HBel := Lib.hid hbel
    have hsz := hbel.size
    have hszw := (Hb0.out.trans (hbel.mono Hb0.out.size)).size
    clear hown hbel
    by_cases hlt : k < p.LS s
    · obtain ⟨b, o, rfl, hc⟩ := (HIR.out.keep HBel.out).at hlt
      obtain ⟨r1, r2, -⟩ := HRow.out.2 k hlt
      obtain ⟨h, hh⟩ : ∃ h : Nat, p.vS s k = (h : Int) := ⟨(p.vS s k).toNat, by omega⟩
      have hhn : h < p.nH := by omega
      obtain ⟨b2, o2, rfl, hc2⟩ := (HM.out.keep HBel.out).at hhn
      have HSu : Hid (hndL (fun r => m (p.vS s r).toNat) (s : Int) (k + 1) = if m h = (s : Int) then hndL (fun r => m (p.vS s r).toNat) (s : Int) k ++ [(k : Int)] else hndL (fun r => m (p.vS s r).toNat) (s : Int) k) := Lib.hid (by
        show (if m (p.vS s k).toNat = (s : Int) then _ else _) = _
        rw [hh, Int.toNat_natCast])
      rw [hh] at hc
      have hhi : (h : Int) < p.nH := by omega
      have hki : (k : Int) < p.LS s := by omega
      have hKk : (hndL (fun r => m (p.vS s r).toNat) (s : Int) k).length ≤ k := by rw [hndL_len]; exact cnt_le _ _ _
      generalize hndL (fun r => m (p.vS s r).toNat) (s : Int) k = K at *
      clear r1 r2 hh
      by_cases e : m h = (s : Int)
      · have hB := beq_t e
        rw [if_pos e] at HSu
        clear e
        go_wp2_with (at_builtin; go_loud (refine wpList_append_way rfl _ _ rfl W.heap.size _ _ rfl (HOwn.out.below (below_box _ _)) ⟨wr.heap.size, 0, none⟩ rfl (k : Int) (by simp [World.cell?_alloc_at]) (by omega) (by simp; omega) ?_))
        intro g1 cap1 v1 hO hk2
        have hbx := below_box wr (.cells #[.int .i64 (k : Int)] 3)
        have hbv : Below W.heap.size (wr.alloc (.cells #[.int .i64 (k : Int)] 3)) v1 := way_bel (HOwn.out.below hbx) (by simp; omega) (by rw [World.size_alloc]; exact hk2)
        have HO2 := Lib.hid hO
        have HB2 := Lib.hid ((HBel.out.trans (hbx.mono HBel.out.size)).trans hbv)
        clear hO hk2 hbx hbv hc hc2
        go_wp2
        go_roundw
        case rel => exact ⟨k + 1, by omega, by go_num, by rw [HSu.out]; exact HO2.out, HB2.out⟩
        case measure => simp [intOf]; omega
      · have hB := beq_f e
        rw [if_neg e] at HSu
        clear e
        go_wp2
        go_roundw
        case rel => exact ⟨k + 1, by omega, by go_num, by rw [HSu.out]; exact HOwn.out, HBel.out⟩
        case measure => simp [intOf]; omega
    · obtain rfl : k = p.LS s := by omega
      rw [← HT.out] at HOwn
      have htl := tk_len (p := p) s m
      go_wp2_with fail
      go_loopw [7] (fun v wr => ∃ d : Nat, (tkL p s m).length + d ≤ P ∧ OwnL wr W.heap.size v (padL (tkL p s m) d) ∧ Below W.heap.size W wr) (fun v _ => P - lenV v)
      case atStart => exact ⟨0, by omega, by rw [show padL (tkL p s m) 0 = tkL p s m from List.append_nil _]; exact HOwn.out, HBel.out⟩
      case round =>
        clear HOwn HBel
        obtain ⟨d, hd, hown, hbel⟩ := hrel
        have HOwn := Lib.hid hown
        have HBel := Lib.hid hbel
        have hsz := hbel.size
        obtain ⟨q0, q1, q2⟩ := HB0.out.keep hbel
        obtain ⟨b, o, eP, hc⟩ := (HP.out.keep hbel).places.2.2.2.at hspn
        subst eP
        rw [HPl.out] at hc
        obtain ⟨A1, c1, rfl, -⟩ := OwnL.form hown
        have HSu := Lib.hid (padL_succ (tkL p s m) d)
        have HL := Lib.hid (padL_len (tkL p s m) d)
        have hl9 := padL_len (tkL p s m) d
        clear hown hbel
        by_cases hlt : (tkL p s m).length + d < P
        · have hlti : ((padL (tkL p s m) d).length : Int) < P := by omega
          have hKb : (padL (tkL p s m) d).length ≤ 9 := by omega
          clear hl9 HL
          generalize padL (tkL p s m) d = K at *
          go_wp2_with (at_builtin; go_loud (refine wpList_append_way rfl _ _ rfl W.heap.size _ _ rfl (HOwn.out.below (below_box _ _)) ⟨wr.heap.size, 0, none⟩ rfl (9 : Int) (by simp [World.cell?_alloc_at]) (by omega) (by simp; omega) ?_))
          intro g1 cap1 v1 hO hk2
          have hbx := below_box wr (.cells #[.int .i64 9] 3)
          have hbv : Below W.heap.size (wr.alloc (.cells #[.int .i64 9] 3)) v1 := way_bel (HOwn.out.below hbx) (by simp; omega) (by
            rw [World.size_alloc]
            rcases hk2 with ⟨⟨rfl, rfl⟩, h⟩ | h
            · exact .inl ⟨rfl, h⟩
            · exact .inr h)
          have HO2 := Lib.hid hO
          have HB2 := Lib.hid ((HBel.out.trans (hbx.mono HBel.out.size)).trans hbv)
          clear hO hk2 hbx hbv hc q0 q1 q2
          go_wp2
          go_roundw
          case rel => exact ⟨d + 1, by omega, by rw [HSu.out]; exact HO2.out, HB2.out⟩
          case measure => simp [lenV]; omega
        · have hnl : ¬ (((padL (tkL p s m) d).length : Int) < P) := by omega
          have he : padL (tkL p s m) d = padL (tkL p s m) (P - (tkL p s m).length) := by rw [show P - (tkL p s m).length = d by omega]
          have HO : Hid (OwnL wr w.heap.size (.slice A1 (padL (tkL p s m) d).length c1) (padL (tkL p s m) (P - (tkL p s m).length))) := Lib.hid (by rw [← he]; exact ownL_rebase HOwn.out Hb0.out.size)
          clear he hl9 HL
          go_wp2
          go_ret
          exact ⟨_, rfl, HO.out, Hb0.out.trans (HBel.out.mono Hb0.out.size)⟩
end Go.Proofs.Ytiigcjcolpmafaa

/- The reference's Gains. -/
namespace Go.Proofs.Ytiigcjcolpmafaa
open Go.RowKit

def gRB (X Y : Nat → Int) (P : Nat) : Bool := allB (fun i => decide (X i ≤ Y i)) P && anyB (fun i => decide (X i < Y i)) P
theorem tk_lt {p : PlanD} {s : Nat} {m : Nat → Int} (hok : okPlan p = true) (hs : s < p.nS) {i : Nat} (hi : i < (tkL p s m).length) : 0 ≤ (tkL p s m).getD i 0 ∧ (tkL p s m).getD i 0 < 9 := by
  obtain ⟨⟨-, a2, -, -, -⟩, -, -, a8⟩ := okPlan_of hok
  have hrow := a8 s hs
  have hm : (tkL p s m).getD i 0 ∈ tkL p s m := by
    rw [List.getD_eq_getElem?_getD, List.getElem?_eq_getElem hi, Option.getD_some]
    exact List.getElem_mem _
  generalize (tkL p s m).getD i 0 = z at *
  unfold tkL at hm
  obtain ⟨r, hr, -, rfl⟩ := hndL_mem.1 hm
  have := hrow.1
  omega
theorem pad_lo {l : List Int} {k i : Nat} (hi : i < l.length) : (padL l k).getD i 0 = l.getD i 0 := by
  unfold padL
  simp only [List.getD_eq_getElem?_getD]
  rw [List.getElem?_append_left hi]
theorem pad_hi {l : List Int} {k i : Nat} (h1 : l.length ≤ i) (h2 : i < l.length + k) : (padL l k).getD i 0 = 9 := by
  unfold padL
  rw [List.getD_eq_getElem?_getD, List.getElem?_append_right h1, lst_get _ _ _ (by omega)]
  rfl
theorem gR_gn {p : PlanD} {s : Nat} {m m' : Nat → Int} {P : Nat} (hok : okPlan p = true) (hs : s < p.nS) (h1 : (tkL p s m).length ≤ P) (h2 : (tkL p s m').length ≤ P) :
    gRB (fun i => (padL (tkL p s m') (P - (tkL p s m').length)).getD i 0) (fun i => (padL (tkL p s m) (P - (tkL p s m).length)).getD i 0) P = gnB p s m m' := by
  have b1 := fun i (hi : i < (tkL p s m).length) => tk_lt (m := m) hok hs hi
  have b2 := fun i (hi : i < (tkL p s m').length) => tk_lt (m := m') hok hs hi
  unfold gnB
  generalize tkL p s m = t at *
  generalize tkL p s m' = t' at *
  have vX : ∀ i, i < P → (i < t'.length → (padL t' (P - t'.length)).getD i 0 = t'.getD i 0) ∧ (t'.length ≤ i → (padL t' (P - t'.length)).getD i 0 = 9) := fun i hi => ⟨fun h => pad_lo h, fun h => pad_hi h (by omega)⟩
  have vY : ∀ i, i < P → (i < t.length → (padL t (P - t.length)).getD i 0 = t.getD i 0) ∧ (t.length ≤ i → (padL t (P - t.length)).getD i 0 = 9) := fun i hi => ⟨fun h => pad_lo h, fun h => pad_hi h (by omega)⟩
  unfold gRB
  rw [Bool.eq_iff_iff, Bool.and_eq_true, Bool.and_eq_true, Bool.and_eq_true, allB_iff, anyB_iff, allB_iff, Bool.not_eq_true', Bool.not_eq_true', decide_eq_false_iff_not, decide_eq_false_iff_not]
  constructor
  · rintro ⟨hle, i, hi, hlt⟩
    have hle : ∀ i, i < P → (padL t' (P - t'.length)).getD i 0 ≤ (padL t (P - t.length)).getD i 0 := fun i hi => of_decide_eq_true (hle i hi)
    have hlt : (padL t' (P - t'.length)).getD i 0 < (padL t (P - t.length)).getD i 0 := of_decide_eq_true hlt
    have hln : t.length ≤ t'.length := by
      rcases Nat.lt_or_ge t'.length t.length with g | g
      · have h := hle t'.length (by omega)
        rw [(vX t'.length (by omega)).2 (Nat.le_refl _), (vY t'.length (by omega)).1 g] at h
        have := b1 t'.length g
        omega
      · exact g
    refine ⟨⟨fun e => ?_, by omega⟩, fun k hk => decide_eq_true ?_⟩
    · subst e; omega
    · have h := hle k (by omega)
      rw [(vX k (by omega)).1 (by omega), (vY k (by omega)).1 hk] at h
      exact h
  · rintro ⟨⟨hne, hln⟩, hle⟩
    have hle : ∀ k, k < t.length → t'.getD k 0 ≤ t.getD k 0 := fun k hk => of_decide_eq_true (hle k hk)
    have hall : ∀ i, i < P → (padL t' (P - t'.length)).getD i 0 ≤ (padL t (P - t.length)).getD i 0 := fun i hi => by
      rcases Nat.lt_or_ge i t.length with g | g
      · rw [(vX i hi).1 (by omega), (vY i hi).1 g]; exact hle i g
      · rw [(vY i hi).2 g]
        rcases Nat.lt_or_ge i t'.length with g2 | g2
        · rw [(vX i hi).1 g2]; have := b2 i g2; omega
        · rw [(vX i hi).2 g2]; exact Int.le_refl _
    refine ⟨fun i hi => decide_eq_true (hall i hi), ?_⟩
    by_cases hex : ∃ i, i < P ∧ (padL t' (P - t'.length)).getD i 0 < (padL t (P - t.length)).getD i 0
    · obtain ⟨i, hi, h⟩ := hex
      exact ⟨i, hi, decide_eq_true h⟩
    · exfalso
      have heq : ∀ i, i < P → (padL t' (P - t'.length)).getD i 0 = (padL t (P - t.length)).getD i 0 := fun i hi => by
        have h1 := hall i hi
        have h2 : ¬ (padL t' (P - t'.length)).getD i 0 < (padL t (P - t.length)).getD i 0 := fun h => hex ⟨i, hi, h⟩
        omega
      have hl2 : t'.length = t.length := by
        rcases Nat.lt_or_ge t.length t'.length with g | g
        · have h := heq t.length (by omega)
          rw [(vX t.length (by omega)).1 g, (vY t.length (by omega)).2 (Nat.le_refl _)] at h
          have := b2 t.length g
          omega
        · omega
      apply hne
      apply List.ext_getElem hl2.symm
      intro i hi1 hi2
      have h := heq i (by omega)
      rw [(vX i (by omega)).1 hi2, (vY i (by omega)).1 hi1] at h
      simpa only [List.getD_eq_getElem?_getD, List.getElem?_eq_getElem hi1, List.getElem?_eq_getElem hi2, Option.getD_some] using h.symm
set_option maxHeartbeats 4000000 in
set_option maxRecDepth 1000000 in
theorem gainsR_any (AH AS AP DA DB : Option Addr) (cH cS cP ca cb s : Nat) (p : PlanD) (m m' : Nat → Int) (w : World) (hp : PlanArg w AH AS AP cH cS cP p) (hok : okPlan p = true) (hs : s < p.nS)
    (ha : Ints w DA p.nH m') (hb : Ints w DB p.nH m) (h1 : ((tkL p s m).length : Int) ≤ p.pl s) (h2 : ((tkL p s m').length : Int) ≤ p.pl s) :
    Lr 71 #[.agg #[.slice AH p.nH cH, .slice AS p.nS cS, .slice AP p.nP cP], .int .i64 s, .slice DA p.nH ca, .slice DB p.nH cb] w (.bool (gnB p s m m')) := by
  have Hb0 := Lib.hid (below_box w (.cells #[.slice AH p.nH cH, .slice AS p.nS cS, .slice AP p.nP cP] 25))
  have HB0 := Lib.hid (BoxP.newR w AH AS AP p.nH p.nS p.nP cH cS cP)
  have HP := Lib.hid (hp.keep Hb0.out)
  have HA := Lib.hid (ha.keep Hb0.out)
  have HB := Lib.hid (hb.keep Hb0.out)
  have HOk := Lib.hid hok
  have H1 := Lib.hid h1
  have H2 := Lib.hid h2
  obtain ⟨⟨-, -, -, -, a5⟩, a6, -, -⟩ := okPlan_of hok
  have hpl := a6 s (by omega)
  obtain ⟨P, hP⟩ : ∃ P : Nat, p.pl s = (P : Int) := ⟨(p.pl s).toNat, by omega⟩
  have hP3 : P ≤ 3 := by omega
  rw [hP] at h1 h2
  have HGn := Lib.hid (gR_gn (p := p) (s := s) (m := m) (m' := m') (P := P) hok hs (by omega) (by omega))
  have HPn : Hid ((p.pl s).toNat = P) := Lib.hid (by omega)
  have HLx := Lib.hid (padL_len (tkL p s m') (P - (tkL p s m').length))
  have HLy := Lib.hid (padL_len (tkL p s m) (P - (tkL p s m).length))
  have HLx : Hid ((padL (tkL p s m') (P - (tkL p s m').length)).length = P) := Lib.hid (by rw [HLx.out]; omega)
  have HLy : Hid ((padL (tkL p s m) (P - (tkL p s m).length)).length = P) := Lib.hid (by rw [HLy.out]; omega)
  obtain ⟨W, hW⟩ : ∃ W, W = w.alloc (.cells #[.slice AH p.nH cH, .slice AS p.nS cS, .slice AP p.nP cP] 25) := ⟨_, rfl⟩
  rw [← hW] at Hb0 HB0 HP HA HB
  have HWW := Lib.hid hW.symm
  obtain ⟨R, hR⟩ : ∃ R, R = gnB p s m m' := ⟨_, rfl⟩
  rw [← hR] at HGn ⊢
  clear hp ha hb hok hW hR a5 a6 hpl hP h1 h2
  show Calls _ _ _ _ _
  go_enter Try.func71, Try.ntmps71
  go_wp2_with fail
  rw [HWW.out]
  clear HWW
  have hBc : Below W.heap.size W W.drew := (Dn.refl W).drew.below _
  go_region_held3 (fun w' => w'.cell? ⟨w.heap.size, 0, none⟩ = some (.slice AH p.nH cH) ∧ w'.cell? ⟨w.heap.size, 1, none⟩ = some (.slice AS p.nS cS) ∧ w'.cell? ⟨w.heap.size, 2, none⟩ = some (.slice AP p.nP cP))
    (first | exact (HB0.out.keep hBc))
    (first
      | (go_at_call_of 108 DA; refine (taken_any AH AS AP DA cH cS cP ca s p m' _ (HP.out.keep hBc) HOk.out hs (HA.out.keep hBc) H2.out).mono ?_; rintro e w1 ⟨v1, rfl, hv1, hb1⟩; have hBc := hBc.trans (hb1.mono hBc.size))
      | (go_at_call_of 108 DB; refine (taken_any AH AS AP DB cH cS cP cb s p m _ (HP.out.keep hBc) HOk.out hs (HB.out.keep hBc) H1.out).mono ?_; rintro e w2 ⟨v2, rfl, hv2, hb2⟩; have hBc := hBc.trans (hb2.mono hBc.size))
      | fail)
  have hv1 := hv1.below hb2
  rw [HPn.out] at hv1 hv2
  obtain ⟨A1, c1, rfl, -, hI1, -⟩ := OwnL.form hv1
  obtain ⟨A2, c2, rfl, -, hI2, -⟩ := OwnL.form hv2
  rw [HLx.out] at hI1 ⊢
  rw [HLy.out] at hI2 ⊢
  obtain ⟨X, hX⟩ : ∃ X : Nat → Int, X = fun i => (padL (tkL p s m') (P - (tkL p s m').length)).getD i 0 := ⟨_, rfl⟩
  obtain ⟨Y, hY⟩ : ∃ Y : Nat → Int, Y = fun i => (padL (tkL p s m) (P - (tkL p s m).length)).getD i 0 := ⟨_, rfl⟩
  rw [← hX] at hI1 HGn
  rw [← hY] at hI2 HGn
  have HI1 := Lib.hid hI1
  have HI2 := Lib.hid hI2
  have HbC := Lib.hid (Hb0.out.trans (hBc.mono Hb0.out.size))
  have HDf : Hid (gRB X Y P = (allB (fun i => decide (X i ≤ Y i)) P && anyB (fun i => decide (X i < Y i)) P)) := Lib.hid rfl
  clear hv1 hv2 hI1 hI2 hX hY hb1 hb2 hBc HLx HLy
  rename World => wz
  go_wp2
  go_loopw [11, 23] (fun o x wr => ∃ k : Nat, k ≤ P ∧ x = .int .i64 k ∧ o = .bool (anyB (fun i => decide (X i < Y i)) k) ∧ (∀ i, i < k → X i ≤ Y i) ∧ Dn wz wr) (fun _ x _ => P - (intOf x).toNat)
  case atStart => exact ⟨0, Nat.zero_le _, rfl, rfl, fun i h => absurd h (Nat.not_lt_zero _), Dn.refl _⟩
  case round =>
    obtain ⟨k, hk, rfl, rfl, hle, hD⟩ := hrel
    have HLe := Lib.hid hle
    have HD := Lib.hid hD
    clear hle hD
    by_cases hlt : k < P
    · obtain ⟨b1, o1, rfl, hc1⟩ := (HI1.out.dn HD.out).at hlt
      obtain ⟨b2, o2, rfl, hc2⟩ := (HI2.out.dn HD.out).at hlt
      have hki : (k : Int) < P := by omega
      have HNx : Hid (X k ≤ Y k → ∀ i, i < k + 1 → X i ≤ Y i) := Lib.hid (fun h i hi => by
        rcases Nat.lt_succ_iff_lt_or_eq.1 hi with g | g
        · exact HLe.out i g
        · rw [g]; exact h)
      have HFa : Hid (Y k < X k → R = false) := Lib.hid (fun h => by
        rw [← HGn.out, HDf.out, allB_f hlt (decide_eq_false (by omega))]
        rfl)
      have HAn : Hid (anyB (fun i => decide (X i < Y i)) (k + 1) = (anyB (fun i => decide (X i < Y i)) k || decide (X k < Y k))) := Lib.hid (by
        rw [Bool.eq_iff_iff, Bool.or_eq_true, anyB_iff, anyB_iff]
        constructor
        · rintro ⟨i, hi, h⟩
          rcases Nat.lt_succ_iff_lt_or_eq.1 hi with g | g
          · exact .inl ⟨i, g, h⟩
          · right; rw [← g]; exact h
        · rintro (⟨i, hi, h⟩ | h)
          · exact ⟨i, by omega, h⟩
          · exact ⟨k, by omega, h⟩)
      obtain ⟨an1, h1⟩ : ∃ z, z = anyB (fun i => decide (X i < Y i)) (k + 1) := ⟨_, rfl⟩
      rw [← h1] at HAn
      have H1 := Lib.hid h1
      clear h1
      generalize anyB (fun i => decide (X i < Y i)) k = an at *
      obtain ⟨x, hx⟩ : ∃ z, z = X k := ⟨_, rfl⟩
      obtain ⟨y, hy⟩ : ∃ z, z = Y k := ⟨_, rfl⟩
      rw [← hx] at hc1 HNx HFa HAn
      rw [← hy] at hc2 HNx HFa HAn
      have HXx := Lib.hid hx
      have HYy := Lib.hid hy
      clear hx hy
      by_cases hgt : y < x
      · have d : decide (y < x) = true := decide_eq_true hgt
        have E := Lib.hid (HFa.out hgt)
        clear hgt
        go_wp2_with fail
        go_quiet (fail)
        have HDq := Lib.hid (HD.out.drewN nq)
        go_wp2
        go_ret
        exact ⟨ret_bool E.out.symm, HbC.out.trans ((HDq.out.below _).mono HbC.out.size)⟩
      · have d : decide (y < x) = false := decide_eq_false hgt
        have HLn := Lib.hid (HNx.out (by omega))
        clear hgt
        go_wp2_with fail
        go_quiet (fail)
        have HDq := Lib.hid (HD.out.drewN nq)
        generalize wr.drewN nq = wq at *
        have hi1 := HI1.out.dn HDq.out
        have hi2 := HI2.out.dn HDq.out
        have hc1 := hi1.cell hlt
        have hc2 := hi2.cell hlt
        rw [← HXx.out] at hc1
        rw [← HYy.out] at hc2
        clear hi1 hi2
        cases han : an with
        | true =>
          rw [han] at HAn
          clear han
          go_wp2_with fail
          go_quiet (fail)
          have HDr := Lib.hid (HDq.out.drewN nq)
          go_wp2
          go_roundw
          case rel => exact ⟨k + 1, by omega, by go_num, by rw [← H1.out, HAn.out]; rfl, HLn.out, HDr.out⟩
          case measure => simp [intOf]; omega
        | false =>
          rw [han] at HAn
          clear han
          go_wp2_with fail
          go_quiet (fail)
          have HDr := Lib.hid (HDq.out.drewN nq)
          go_wp2
          go_roundw
          case rel => exact ⟨k + 1, by omega, by go_num, by rw [← H1.out, HAn.out]; rfl, HLn.out, HDr.out⟩
          case measure => simp [intOf]; omega
    · obtain rfl : k = P := by omega
      have E : Hid (anyB (fun i => decide (X i < Y i)) k = R) := Lib.hid (by
        rw [← HGn.out, HDf.out, allB_t (fun i hi => decide_eq_true (HLe.out i hi))]
        rfl)
      rw [E.out]
      go_wp2
      go_ret
      exact ⟨rfl, HbC.out.trans ((HD.out.below _).mono HbC.out.size)⟩
end Go.Proofs.Ytiigcjcolpmafaa

/- The reference's With: another list of one shift. -/
namespace Go.Proofs.Ytiigcjcolpmafaa
open Go.RowKit

/-- A block of three values, in the reference's type. -/
def B3R (w : World) (g : Nat) (a b c : Value) : Prop := w.rowIs g 25 3 (fun i => if i = 0 then a else if i = 1 then b else c)
theorem B3R.new (w : World) (a b c : Value) : B3R (w.alloc (.cells #[a, b, c] 25)) w.heap.size a b c :=
  World.rowIs_alloc w #[a, b, c] 25 _ (fun i hi => by
    have : i = 0 ∨ i = 1 ∨ i = 2 := by have : i < 3 := hi; omega
    rcases this with rfl | rfl | rfl <;> rfl)
theorem B3R.cells {w : World} {g : Nat} {a b c : Value} (h : B3R w g a b c) : w.cell? ⟨g, 0, none⟩ = some a ∧ w.cell? ⟨g, 1, none⟩ = some b ∧ w.cell? ⟨g, 2, none⟩ = some c :=
  ⟨World.rowIs.cell h (i := 0) (by omega), World.rowIs.cell h (i := 1) (by omega), World.rowIs.cell h (i := 2) (by omega)⟩
theorem B3R.frozen {w : World} {g : Nat} {a b c : Value} (h : B3R w g a b c) (i : Nat) : w.frozen? ⟨g, i, none⟩ = false := World.rowIs.frozen h i
theorem B3R.lt {w : World} {g : Nat} {a b c : Value} (h : B3R w g a b c) : g < w.heap.size := World.rowIs.lt h
theorem B3R.keep {w w' : World} {g : Nat} {a b c : Value} (h : B3R w g a b c) (hb : Below w.heap.size w w') : B3R w' g a b c := World.rowIs.of_block h (hb.block _ h.lt)
theorem B3R.grown {w w' : World} {g k : Nat} {a b c : Value} (h : B3R w g a b c) (hk : w.grownBy w' (some k)) (hne : g ≠ k) : B3R w' g a b c := World.rowIs.of_block h (hk.block _ h.lt (fun e => hne (by injection e)))
theorem B3R.far {w : World} {g : Nat} {a b c : Value} (h : B3R w g a b c) {p : Addr} (hp : g ≠ p.block) (v : Value) : B3R (w.setCell p v) g a b c := World.rowIs.setOther h hp v
theorem B3R.zw {w : World} {g : Nat} {a b c : Value} (h : B3R w g a b c) (x y z : Value) : B3R (((w.setCell ⟨g, 0, none⟩ x).setCell ⟨g, 1, none⟩ y).setCell ⟨g, 2, none⟩ z) g x y z :=
  World.rowIs.congr (World.rowIs.set (World.rowIs.set (World.rowIs.set h 0 x) 1 y) 2 z) (fun i hi => by
    have : i = 0 ∨ i = 1 ∨ i = 2 := by omega
    rcases this with rfl | rfl | rfl <;> rfl)
theorem row3_far {w : World} {base G g n cap : Nat} {T : TypeId} {vals : List Value} {a b c : Value} (h : w.ownsRow base T 1 (.slice (some ⟨G, 0, none⟩) n cap) n vals) (hne : G ≠ g) : (((w.setCell ⟨g, 0, none⟩ a).setCell ⟨g, 1, none⟩ b).setCell ⟨g, 2, none⟩ c).ownsRow base T 1 (.slice (some ⟨G, 0, none⟩) n cap) n vals :=
  World.ownsRow.kept h ((((Exc.refl g w).set 0 a).set 1 b).set 2 c) (.inr (fun e => hne (Option.some.inj e)))
theorem none_row (w : World) (base : Nat) (hb : base ≤ w.heap.size) : (w.alloc (.cells #[] 23)).ownsRow base 23 1 (.slice (some ⟨w.heap.size, 0, none⟩) 0 0) 0 [] :=
  ⟨rfl, .inr ⟨w.heap.size, 0, #[], rfl, hb, heap_alloc_new w _, Nat.le_refl _, by unfold maxLen; omega, rfl, rfl⟩⟩
theorem wp_rows {w : World} {o : Oper} {a : Act} {K : Act → World → Prop} {Q : Exit → Act → World → Prop} (s x : Operand)
    (ho : o.op = .call { callee := .builtin .append, args := #[s, x], argTypes := #[22, 22] })
    (base g0 : Nat) (hown : w.ownsRow base 23 1 (.slice (some ⟨g0, 0, none⟩) 0 0) 0 []) (hs : a.eval s = .slice (some ⟨g0, 0, none⟩) 0 0) (ad : Addr) (n c : Nat) (hx : a.eval x = .slice (some ad) n c) (vals : List Value) (hl : vals.length = n)
    (h : ∀ j u, vals[j]? = some u → w.cell? (ad.add j) = some u) (hone : ∀ u ∈ vals, u.oneCell' = true) (hn : n ≤ 10000) (hbase : base ≤ w.heap.size)
    (hK : ∀ v' w', w'.ownsRow base 23 1 v' n vals → w.grownBy w' (some g0) → (v'.ownBlock = some g0 ∨ v'.ownBlock = some w.heap.size) → K (a.put o.dst v') w') : Oper.wp Try.prog o a w K Q := by
  obtain ⟨i1, hi1, hz01, hz11, hz21⟩ := info_parts infoInts
  obtain ⟨v', w', hr, h2, h3, -, h5⟩ := run_append_own_at (P := Try.prog) w base 22 o.type 23 i1 (.slice none 0 0) 1 24 Try.underlying22 hi1 hz01 hz11 hz21 rfl (by decide) _ 0 _ hown ad n c vals (by simp [hl]) h hone (by unfold maxLen; omega) (by omega) hbase
  unfold Oper.wp execOp
  simp only [ho, resolve, invoke, builtin, Sem.run_bind, Sem.run_pure, Result.andThen_ok, List.map_toArray, List.map_cons, List.map_nil, hs, hx, hr]
  exact hK v' w' (by simpa using h2) h3 h5
set_option maxHeartbeats 8000000 in
set_option maxRecDepth 1000000 in
theorem with_any (AH AS AP DL : Option Addr) (cH cS cP s L c : Nat) (f : Nat → Int) (p : PlanD) (w : World) (hp : PlanArg w AH AS AP cH cS cP p) (hs : s < p.nS) (hS9 : p.nS ≤ 9) (hI : ArgI w DL L c f) :
    Calls Try.prog 73 #[.agg #[.slice AH p.nH cH, .slice AS p.nS cS, .slice AP p.nP cP], .int .i64 s, .slice DL L c] w fun e w' => ∃ G cap, e = .returned (.agg #[.slice AH p.nH cH, .slice (some ⟨G, 0, none⟩) p.nS cap, .slice AP p.nP cP]) ∧ PlanArg w' AH (some ⟨G, 0, none⟩) AP cH cap cP (setS p s L f) ∧ Below w.heap.size w w' := by
  obtain ⟨bS, oS, eS, hcS⟩ := hp.shifts.2.2.2 (by omega)
  subst eS
  have hcell : ∀ i, ∃ x, i < p.nS → w.cell? ⟨bS, oS + i, none⟩ = some x ∧ ∃ A' c', x = .slice A' (p.LS i) c' ∧ ArgI w A' (p.LS i) c' (p.vS i) := fun i => by
    by_cases hi : i < p.nS
    · obtain ⟨A', c', k1, k2⟩ := hcS i hi
      exact ⟨_, fun _ => ⟨k1, A', c', rfl, k2⟩⟩
    · exact ⟨.int .i64 0, fun e => absurd e hi⟩
  obtain ⟨X, hX⟩ := Classical.axiomOfChoice hcell
  obtain ⟨vals, hvs⟩ : ∃ vals, vals = (List.range p.nS).map X := ⟨_, rfl⟩
  have hvl : vals.length = p.nS := by rw [hvs]; simp
  have hvg : ∀ j, j < p.nS → vals[j]? = some (X j) := fun j hj => by rw [hvs, List.getElem?_map, List.getElem?_range hj]; rfl
  obtain ⟨W, hW⟩ : ∃ W, W = (w.alloc (.cells #[.slice AH p.nH cH, .slice (some ⟨bS, oS, none⟩) p.nS cS, .slice AP p.nP cP] 25)).alloc (.cells #[.slice none 0 0, .slice none 0 0, .slice none 0 0] 25) := ⟨_, rfl⟩
  have hbW : Below w.heap.size w W := by
    rw [hW]
    exact (below_box w _).trans ((below_box _ _).mono (by simp))
  have hB : B3R W w.heap.size (.slice AH p.nH cH) (.slice (some ⟨bS, oS, none⟩) p.nS cS) (.slice AP p.nP cP) := by
    rw [hW]
    exact (B3R.new w _ _ _).keep (below_box _ _)
  have hZ : B3R W (w.heap.size + 1) (.slice none 0 0) (.slice none 0 0) (.slice none 0 0) := by
    rw [hW]
    have := B3R.new (w.alloc (.cells #[.slice AH p.nH cH, .slice (some ⟨bS, oS, none⟩) p.nS cS, .slice AP p.nP cP] 25)) (.slice none 0 0) (.slice none 0 0) (.slice none 0 0)
    simpa using this
  have hWs : W.heap.size = w.heap.size + 2 := by rw [hW]; simp
  have HOn : Hid (∀ u ∈ vals, u.oneCell' = true) := Lib.hid (fun u hu => by
    rw [hvs] at hu
    obtain ⟨j, hj, rfl⟩ := List.mem_map.1 hu
    obtain ⟨-, A', c', e, -⟩ := hX j (List.mem_range.1 hj)
    rw [e]
    rfl)
  have HVw : Hid (∀ w', Below W.heap.size W w' → ∀ j u, vals[j]? = some u → w'.cell? ((⟨bS, oS, none⟩ : Addr).add j) = some u) := Lib.hid (fun w' hb j u hu => by
    have hj : j < p.nS := by
      have := (List.getElem?_eq_some_iff.1 hu).1
      omega
    rw [hvg j hj] at hu
    injection hu with hu
    rw [Addr.add_lit, ← hu]
    exact old_cell (hX j hj).1 (hbW.trans (hb.mono hbW.size)))
  have HX := Lib.hid hX
  have HVg := Lib.hid hvg
  have HP := Lib.hid hp
  have HI := Lib.hid hI
  have HB := Lib.hid hB
  have HZ := Lib.hid hZ
  have HbW := Lib.hid hbW
  have HWW := Lib.hid hW.symm
  have hss : (s : Int) < p.nS := by omega
  clear hp hI hB hZ hbW hW hcS hcell hX hvs hvg
  go_enter Try.func73, Try.ntmps73
  go_wp2_with fail
  rw [HWW.out]
  clear HWW
  go_cut [7] (fun s7 wx => ∃ g7 G cap, s7 = .pointer (some ⟨g7, 0, none⟩) ∧ B3R wx g7 (.slice AH p.nH cH) (.slice (some ⟨G, 0, none⟩) p.nS cap) (.slice AP p.nP cP) ∧ wx.ownsRow W.drew.heap.size 23 1 (.slice (some ⟨G, 0, none⟩) p.nS cap) p.nS vals ∧ g7 ≠ G ∧ W.drew.heap.size ≤ g7 ∧ Below W.heap.size W wx)
  case first =>
    refine wp_region_held (S := fun w' => B3R w' w.heap.size (.slice AH p.nH cH) (.slice (some ⟨bS, oS, none⟩) p.nS cS) (.slice AP p.nP cP)) (by kernel_rfl) ?_
    change wpAnyH _ _ _ _ _ _ _ _ W.drew
    have HbX := Lib.hid (show Below W.heap.size W W.drew from (Dn.refl W).drew.below _)
    generalize W.drew = u0 at *
    have HK := Lib.hid (fun w' (hb : Below u0.heap.size u0 w') => HB.out.keep (HbX.out.trans (hb.mono HbX.out.size)))
    have HVc := Lib.hid (fun w' (hb : Below u0.heap.size u0 w') => HVw.out w' (HbX.out.trans (hb.mono HbX.out.size)))
    have HBu0 := Lib.hid (Below.refl u0.heap.size u0)
    refine wpAnyH_take (i := 0) (v := .pointer (some ⟨w.heap.size, 0, none⟩)) rfl (by kernel_rfl) (by kernel_rfl) (by kernel_rfl) (fun _ _ _ h => h) (Or.inl ⟨by rfl, fun w' hS => by (try dsimp only at hS); go_simp⟩) (HK.out _ HBu0.out) ?_
    try simp only [Act.put, List.getElem_toArray, List.getElem_cons_zero, List.getElem_cons_succ, List.setIfInBounds_toArray, List.set_cons_zero, List.set_cons_succ]
    refine wpAnyH_take (i := 1) (v := .slice AH p.nH cH) rfl (by kernel_rfl) (by kernel_rfl) (by kernel_rfl) (fun _ _ _ h => h) (Or.inl ⟨by rfl, fun w' hS => by (try dsimp only at hS); obtain ⟨h0, h1, h2⟩ := B3R.cells hS; go_simp⟩) (HK.out _ HBu0.out) ?_
    try simp only [Act.put, List.getElem_toArray, List.getElem_cons_zero, List.getElem_cons_succ, List.setIfInBounds_toArray, List.set_cons_zero, List.set_cons_succ]
    refine wpAnyH_take (i := 2) (v := .pointer (some ⟨w.heap.size, 2, none⟩)) rfl (by kernel_rfl) (by kernel_rfl) (by kernel_rfl) (fun _ _ _ h => h) (Or.inl ⟨by rfl, fun w' hS => by (try dsimp only at hS); go_simp⟩) (HK.out _ HBu0.out) ?_
    try simp only [Act.put, List.getElem_toArray, List.getElem_cons_zero, List.getElem_cons_succ, List.setIfInBounds_toArray, List.set_cons_zero, List.set_cons_succ]
    refine wpAnyH_take (i := 3) (v := .slice AP p.nP cP) rfl (by kernel_rfl) (by kernel_rfl) (by kernel_rfl) (fun _ _ _ h => h) (Or.inl ⟨by rfl, fun w' hS => by (try dsimp only at hS); obtain ⟨h0, h1, h2⟩ := B3R.cells hS; go_simp⟩) (HK.out _ HBu0.out) ?_
    try simp only [Act.put, List.getElem_toArray, List.getElem_cons_zero, List.getElem_cons_succ, List.setIfInBounds_toArray, List.set_cons_zero, List.set_cons_succ]
    refine wpAnyH_take (i := 5) (v := .pointer (some ⟨w.heap.size, 1, none⟩)) rfl (by kernel_rfl) (by kernel_rfl) (by kernel_rfl) (fun _ _ _ h => h) (Or.inl ⟨by rfl, fun w' hS => by (try dsimp only at hS); go_simp⟩) (HK.out _ HBu0.out) ?_
    try simp only [Act.put, List.getElem_toArray, List.getElem_cons_zero, List.getElem_cons_succ, List.setIfInBounds_toArray, List.set_cons_zero, List.set_cons_succ]
    refine wpAnyH_take (i := 6) (v := .slice (some ⟨bS, oS, none⟩) p.nS cS) rfl (by kernel_rfl) (by kernel_rfl) (by kernel_rfl) (fun _ _ _ h => h) (Or.inl ⟨by rfl, fun w' hS => by (try dsimp only at hS); obtain ⟨h0, h1, h2⟩ := B3R.cells hS; go_simp⟩) (HK.out _ HBu0.out) ?_
    try simp only [Act.put, List.getElem_toArray, List.getElem_cons_zero, List.getElem_cons_succ, List.setIfInBounds_toArray, List.set_cons_zero, List.set_cons_succ]
    refine wpAnyH_all (rs := [4, 9]) (by kernel_rfl) (by simp) (fun i hi => ?_)
    rcases (show i = 4 ∨ i = 9 by simpa using hi) with rfl | rfl
    · refine wpOp_ofW (by rfl) (by rfl) ?_
      go_simp
      obtain ⟨n1, hn1⟩ : ∃ z, z = World.alloc u0 (.cells #[] 23) := ⟨_, rfl⟩
      rw [← hn1]
      have hb : Below u0.heap.size u0 n1 := by rw [hn1]; exact below_box _ _
      have HBn1 := Lib.hid (HBu0.out.trans (hb.mono HBu0.out.size))
      have HSn1 := Lib.hid (show n1.heap.size = u0.heap.size + 1 by rw [hn1]; simp)
      have HEn1 := Lib.hid (show n1.ownsRow u0.heap.size 23 1 (.slice (some ⟨u0.heap.size, 0, none⟩) 0 0) 0 [] by rw [hn1]; exact none_row _ _ HBu0.out.size)
      clear hn1 hb
      refine ⟨HK.out _ HBn1.out, ?_⟩
      try simp only [Act.put, List.getElem_toArray, List.getElem_cons_zero, List.getElem_cons_succ, List.setIfInBounds_toArray, List.set_cons_zero, List.set_cons_succ]
      refine wpAnyH_all (rs := [7, 9]) (by kernel_rfl) (by simp) (fun i hi => ?_)
      rcases (show i = 7 ∨ i = 9 by simpa using hi) with rfl | rfl
      · refine wpOp_ofW (by rfl) (by rfl) ?_
        refine wp_rows _ _ rfl u0.heap.size _ HEn1.out rfl ⟨bS, oS, none⟩ p.nS cS rfl vals hvl (HVc.out n1 HBn1.out) HOn.out (by omega) HBn1.out.size ?_
        intro v7 n2 hO hGr hG7
        have hO0 := hO
        rcases hO0.2 with ⟨-, h00⟩ | ⟨G, cap, cur, rfl, hGb, hGg, -⟩
        · omega
        have HRn2 := Lib.hid hO
        have hge := (World.ownsRow.lt HEn1.out _ rfl).1
        have HBn2 := Lib.hid (HBn1.out.trans (Exc.below hGr hge HBn1.out.size))
        clear hO hGr hG7 hge
        refine ⟨HK.out _ HBn2.out, ?_⟩
        try simp only [Act.put, List.getElem_toArray, List.getElem_cons_zero, List.getElem_cons_succ, List.setIfInBounds_toArray, List.set_cons_zero, List.set_cons_succ]
        refine wpAnyH_take (i := 8) (v := .agg #[.slice AH p.nH cH, .slice (some ⟨G, 0, none⟩) p.nS cap, .slice AP p.nP cP]) rfl (by kernel_rfl) (by kernel_rfl) (by kernel_rfl) (fun _ _ _ h => h) (Or.inl ⟨by rfl, fun w' hS => by (try dsimp only at hS); go_simp⟩) (HK.out _ HBn2.out) ?_
        try simp only [Act.put, List.getElem_toArray, List.getElem_cons_zero, List.getElem_cons_succ, List.setIfInBounds_toArray, List.set_cons_zero, List.set_cons_succ]
        refine wpAnyH_all (rs := [9]) (by kernel_rfl) (by simp) (fun i hi => ?_)
        obtain rfl : i = 9 := by simpa using hi
        refine wpOp_ofW (by rfl) (by rfl) ?_
        go_simp
        obtain ⟨n3, hn3⟩ : ∃ z, z = World.alloc n2 (.cells #[.slice none 0 0, .slice none 0 0, .slice none 0 0] 25) := ⟨_, rfl⟩
        rw [← hn3]
        have hb : Below n2.heap.size n2 n3 := by rw [hn3]; exact below_box _ _
        have HBn3 := Lib.hid (HBn2.out.trans (hb.mono HBn2.out.size))
        have HSn3 := Lib.hid (show n3.heap.size = n2.heap.size + 1 by rw [hn3]; simp)
        have HZn3 := Lib.hid (show B3R n3 n2.heap.size (.slice none 0 0) (.slice none 0 0) (.slice none 0 0) by rw [hn3]; exact B3R.new _ _ _ _)
        have HLn3 := Lib.hid HBn2.out.size
        have HRn3 := Lib.hid (ownsRow_below HRn2.out hb)
        have HNn3 := Lib.hid (show n2.heap.size ≠ G from fun e => by have := (World.ownsRow.lt HRn2.out G rfl).2; omega)
        clear hn3 hb
        refine ⟨HK.out _ HBn3.out, ?_⟩
        try simp only [Act.put, List.getElem_toArray, List.getElem_cons_zero, List.getElem_cons_succ, List.setIfInBounds_toArray, List.set_cons_zero, List.set_cons_succ]
        have r0 := HZn3.out.frozen 0
        have r1 := HZn3.out.frozen 1
        have r2 := HZn3.out.frozen 2
        obtain ⟨z0, z1, z2⟩ := HZn3.out.cells
        refine wpAnyH_all (rs := [10]) (by kernel_rfl) (by simp) (fun i hi => ?_)
        obtain rfl : i = 10 := by simpa using hi
        refine wpOp_ofW (by rfl) (by rfl) ?_
        go_simp
        have hzz := HZn3.out.zw (.slice AH p.nH cH) (.slice (some ⟨G, 0, none⟩) p.nS cap) (.slice AP p.nP cP)
        obtain ⟨n4, hn4⟩ : ∃ z, z = ((n3.setCell ⟨n2.heap.size, 0, none⟩ (.slice AH p.nH cH)).setCell ⟨n2.heap.size, 1, none⟩ (.slice (some ⟨G, 0, none⟩) p.nS cap)).setCell ⟨n2.heap.size, 2, none⟩ (.slice AP p.nP cP) := ⟨_, rfl⟩
        rw [← hn4] at hzz
        have hle : u0.heap.size ≤ n2.heap.size := HLn3.out
        have hbb : Below u0.heap.size u0 n4 := by rw [hn4]; exact ((HBn3.out.setCell (p := ⟨n2.heap.size, 0, none⟩) hle _).setCell (p := ⟨n2.heap.size, 1, none⟩) hle _).setCell (p := ⟨n2.heap.size, 2, none⟩) hle _
        have HBn4 := Lib.hid hbb
        have hgg : n2.heap.size ≠ G := HNn3.out
        have hrr : n4.ownsRow u0.heap.size 23 1 (.slice (some ⟨G, 0, none⟩) p.nS cap) p.nS vals := by
          have hr0 := HRn3.out
          rw [hn4]
          exact row3_far hr0 hgg.symm
        rw [← hn4]
        refine ⟨HK.out _ hbb, ?_⟩
        refine wpAnyH_done (by kernel_rfl) ?_ _
        clear r0 r1 r2 z0 z1 z2
        go_wp2_with fail
        go_meet
        exact ⟨n2.heap.size, G, cap, rfl, hzz, hrr, hgg, hle, HbX.out.trans (hbb.mono HbX.out.size)⟩
      · refine wpOp_ofW (by rfl) (by rfl) ?_
        go_simp
        obtain ⟨n5, hn5⟩ : ∃ z, z = World.alloc n1 (.cells #[.slice none 0 0, .slice none 0 0, .slice none 0 0] 25) := ⟨_, rfl⟩
        rw [← hn5]
        have hb : Below n1.heap.size n1 n5 := by rw [hn5]; exact below_box _ _
        have HBn5 := Lib.hid (HBn1.out.trans (hb.mono HBn1.out.size))
        have HSn5 := Lib.hid (show n5.heap.size = n1.heap.size + 1 by rw [hn5]; simp)
        have HZn5 := Lib.hid (show B3R n5 n1.heap.size (.slice none 0 0) (.slice none 0 0) (.slice none 0 0) by rw [hn5]; exact B3R.new _ _ _ _)
        have HLn5 := Lib.hid HBn1.out.size
        have HEn5 := Lib.hid (ownsRow_below HEn1.out hb)
        clear hn5 hb
        refine ⟨HK.out _ HBn5.out, ?_⟩
        try simp only [Act.put, List.getElem_toArray, List.getElem_cons_zero, List.getElem_cons_succ, List.setIfInBounds_toArray, List.set_cons_zero, List.set_cons_succ]
        refine wpAnyH_all (rs := [7]) (by kernel_rfl) (by simp) (fun i hi => ?_)
        obtain rfl : i = 7 := by simpa using hi
        refine wpOp_ofW (by rfl) (by rfl) ?_
        refine wp_rows _ _ rfl u0.heap.size _ HEn5.out rfl ⟨bS, oS, none⟩ p.nS cS rfl vals hvl (HVc.out n5 HBn5.out) HOn.out (by omega) HBn5.out.size ?_
        intro v7 n6 hO hGr hG7
        have hO0 := hO
        rcases hO0.2 with ⟨-, h00⟩ | ⟨G, cap, cur, rfl, hGb, hGg, -⟩
        · omega
        have HRn6 := Lib.hid hO
        have hge := (World.ownsRow.lt HEn5.out _ rfl).1
        have HBn6 := Lib.hid (HBn5.out.trans (Exc.below hGr hge HBn5.out.size))
        have hne49 : n1.heap.size ≠ u0.heap.size := by
          have := HSn1.out; have := HSn5.out
          omega
        have hne9 : n1.heap.size ≠ G := by
          rcases hG7 with h | h
          · have h : G = u0.heap.size := Option.some.inj h
            omega
          · have h : G = n5.heap.size := Option.some.inj h
            have := HZn5.out.lt
            omega
        have HZn6 := Lib.hid (HZn5.out.grown hGr hne49)
        have HLn6 := HLn5
        have HNn6 := Lib.hid hne9
        clear hO hGr hG7 hge
        refine ⟨HK.out _ HBn6.out, ?_⟩
        try simp only [Act.put, List.getElem_toArray, List.getElem_cons_zero, List.getElem_cons_succ, List.setIfInBounds_toArray, List.set_cons_zero, List.set_cons_succ]
        refine wpAnyH_take (i := 8) (v := .agg #[.slice AH p.nH cH, .slice (some ⟨G, 0, none⟩) p.nS cap, .slice AP p.nP cP]) rfl (by kernel_rfl) (by kernel_rfl) (by kernel_rfl) (fun _ _ _ h => h) (Or.inl ⟨by rfl, fun w' hS => by (try dsimp only at hS); go_simp⟩) (HK.out _ HBn6.out) ?_
        try simp only [Act.put, List.getElem_toArray, List.getElem_cons_zero, List.getElem_cons_succ, List.setIfInBounds_toArray, List.set_cons_zero, List.set_cons_succ]
        have r0 := HZn6.out.frozen 0
        have r1 := HZn6.out.frozen 1
        have r2 := HZn6.out.frozen 2
        obtain ⟨z0, z1, z2⟩ := HZn6.out.cells
        refine wpAnyH_all (rs := [10]) (by kernel_rfl) (by simp) (fun i hi => ?_)
        obtain rfl : i = 10 := by simpa using hi
        refine wpOp_ofW (by rfl) (by rfl) ?_
        go_simp
        have hzz := HZn6.out.zw (.slice AH p.nH cH) (.slice (some ⟨G, 0, none⟩) p.nS cap) (.slice AP p.nP cP)
        obtain ⟨n7, hn7⟩ : ∃ z, z = ((n6.setCell ⟨n1.heap.size, 0, none⟩ (.slice AH p.nH cH)).setCell ⟨n1.heap.size, 1, none⟩ (.slice (some ⟨G, 0, none⟩) p.nS cap)).setCell ⟨n1.heap.size, 2, none⟩ (.slice AP p.nP cP) := ⟨_, rfl⟩
        rw [← hn7] at hzz
        have hle : u0.heap.size ≤ n1.heap.size := HLn6.out
        have hbb : Below u0.heap.size u0 n7 := by rw [hn7]; exact ((HBn6.out.setCell (p := ⟨n1.heap.size, 0, none⟩) hle _).setCell (p := ⟨n1.heap.size, 1, none⟩) hle _).setCell (p := ⟨n1.heap.size, 2, none⟩) hle _
        have HBn7 := Lib.hid hbb
        have hgg : n1.heap.size ≠ G := HNn6.out
        have hrr : n7.ownsRow u0.heap.size 23 1 (.slice (some ⟨G, 0, none⟩) p.nS cap) p.nS vals := by
          have hr0 := HRn6.out
          rw [hn7]
          exact row3_far hr0 hgg.symm
        rw [← hn7]
        refine ⟨HK.out _ hbb, ?_⟩
        refine wpAnyH_done (by kernel_rfl) ?_ _
        clear r0 r1 r2 z0 z1 z2
        go_wp2_with fail
        go_meet
        exact ⟨n1.heap.size, G, cap, rfl, hzz, hrr, hgg, hle, HbX.out.trans (hbb.mono HbX.out.size)⟩
    · refine wpOp_ofW (by rfl) (by rfl) ?_
      go_simp
      obtain ⟨n8, hn8⟩ : ∃ z, z = World.alloc u0 (.cells #[.slice none 0 0, .slice none 0 0, .slice none 0 0] 25) := ⟨_, rfl⟩
      rw [← hn8]
      have hb : Below u0.heap.size u0 n8 := by rw [hn8]; exact below_box _ _
      have HBn8 := Lib.hid (HBu0.out.trans (hb.mono HBu0.out.size))
      have HSn8 := Lib.hid (show n8.heap.size = u0.heap.size + 1 by rw [hn8]; simp)
      have HZn8 := Lib.hid (show B3R n8 u0.heap.size (.slice none 0 0) (.slice none 0 0) (.slice none 0 0) by rw [hn8]; exact B3R.new _ _ _ _)
      have HLn8 := Lib.hid HBu0.out.size
      clear hn8 hb
      refine ⟨HK.out _ HBn8.out, ?_⟩
      try simp only [Act.put, List.getElem_toArray, List.getElem_cons_zero, List.getElem_cons_succ, List.setIfInBounds_toArray, List.set_cons_zero, List.set_cons_succ]
      refine wpAnyH_all (rs := [4]) (by kernel_rfl) (by simp) (fun i hi => ?_)
      obtain rfl : i = 4 := by simpa using hi
      refine wpOp_ofW (by rfl) (by rfl) ?_
      go_simp
      obtain ⟨n9, hn9⟩ : ∃ z, z = World.alloc n8 (.cells #[] 23) := ⟨_, rfl⟩
      rw [← hn9]
      have hb : Below n8.heap.size n8 n9 := by rw [hn9]; exact below_box _ _
      have HBn9 := Lib.hid (HBn8.out.trans (hb.mono HBn8.out.size))
      have HSn9 := Lib.hid (show n9.heap.size = n8.heap.size + 1 by rw [hn9]; simp)
      have HEn9 := Lib.hid (show n9.ownsRow u0.heap.size 23 1 (.slice (some ⟨n8.heap.size, 0, none⟩) 0 0) 0 [] by rw [hn9]; exact none_row _ _ HBn8.out.size)
      have HZn9 := Lib.hid (HZn8.out.keep hb)
      have HLn9 := HLn8
      clear hn9 hb
      refine ⟨HK.out _ HBn9.out, ?_⟩
      try simp only [Act.put, List.getElem_toArray, List.getElem_cons_zero, List.getElem_cons_succ, List.setIfInBounds_toArray, List.set_cons_zero, List.set_cons_succ]
      refine wpAnyH_all (rs := [7]) (by kernel_rfl) (by simp) (fun i hi => ?_)
      obtain rfl : i = 7 := by simpa using hi
      refine wpOp_ofW (by rfl) (by rfl) ?_
      refine wp_rows _ _ rfl u0.heap.size _ HEn9.out rfl ⟨bS, oS, none⟩ p.nS cS rfl vals hvl (HVc.out n9 HBn9.out) HOn.out (by omega) HBn9.out.size ?_
      intro v7 n10 hO hGr hG7
      have hO0 := hO
      rcases hO0.2 with ⟨-, h00⟩ | ⟨G, cap, cur, rfl, hGb, hGg, -⟩
      · omega
      have HRn10 := Lib.hid hO
      have hge := (World.ownsRow.lt HEn9.out _ rfl).1
      have HBn10 := Lib.hid (HBn9.out.trans (Exc.below hGr hge HBn9.out.size))
      have hne49 : u0.heap.size ≠ n8.heap.size := by
        have := HSn8.out; have := HSn9.out
        omega
      have hne9 : u0.heap.size ≠ G := by
        rcases hG7 with h | h
        · have h : G = n8.heap.size := Option.some.inj h
          omega
        · have h : G = n9.heap.size := Option.some.inj h
          have := HZn9.out.lt
          omega
      have HZn10 := Lib.hid (HZn9.out.grown hGr hne49)
      have HLn10 := HLn9
      have HNn10 := Lib.hid hne9
      clear hO hGr hG7 hge
      refine ⟨HK.out _ HBn10.out, ?_⟩
      try simp only [Act.put, List.getElem_toArray, List.getElem_cons_zero, List.getElem_cons_succ, List.setIfInBounds_toArray, List.set_cons_zero, List.set_cons_succ]
      refine wpAnyH_take (i := 8) (v := .agg #[.slice AH p.nH cH, .slice (some ⟨G, 0, none⟩) p.nS cap, .slice AP p.nP cP]) rfl (by kernel_rfl) (by kernel_rfl) (by kernel_rfl) (fun _ _ _ h => h) (Or.inl ⟨by rfl, fun w' hS => by (try dsimp only at hS); go_simp⟩) (HK.out _ HBn10.out) ?_
      try simp only [Act.put, List.getElem_toArray, List.getElem_cons_zero, List.getElem_cons_succ, List.setIfInBounds_toArray, List.set_cons_zero, List.set_cons_succ]
      have r0 := HZn10.out.frozen 0
      have r1 := HZn10.out.frozen 1
      have r2 := HZn10.out.frozen 2
      obtain ⟨z0, z1, z2⟩ := HZn10.out.cells
      refine wpAnyH_all (rs := [10]) (by kernel_rfl) (by simp) (fun i hi => ?_)
      obtain rfl : i = 10 := by simpa using hi
      refine wpOp_ofW (by rfl) (by rfl) ?_
      go_simp
      have hzz := HZn10.out.zw (.slice AH p.nH cH) (.slice (some ⟨G, 0, none⟩) p.nS cap) (.slice AP p.nP cP)
      obtain ⟨n11, hn11⟩ : ∃ z, z = ((n10.setCell ⟨u0.heap.size, 0, none⟩ (.slice AH p.nH cH)).setCell ⟨u0.heap.size, 1, none⟩ (.slice (some ⟨G, 0, none⟩) p.nS cap)).setCell ⟨u0.heap.size, 2, none⟩ (.slice AP p.nP cP) := ⟨_, rfl⟩
      rw [← hn11] at hzz
      have hle : u0.heap.size ≤ u0.heap.size := HLn10.out
      have hbb : Below u0.heap.size u0 n11 := by rw [hn11]; exact ((HBn10.out.setCell (p := ⟨u0.heap.size, 0, none⟩) hle _).setCell (p := ⟨u0.heap.size, 1, none⟩) hle _).setCell (p := ⟨u0.heap.size, 2, none⟩) hle _
      have HBn11 := Lib.hid hbb
      have hgg : u0.heap.size ≠ G := HNn10.out
      have hrr : n11.ownsRow u0.heap.size 23 1 (.slice (some ⟨G, 0, none⟩) p.nS cap) p.nS vals := by
        have hr0 := HRn10.out
        rw [hn11]
        exact row3_far hr0 hgg.symm
      rw [← hn11]
      refine ⟨HK.out _ hbb, ?_⟩
      refine wpAnyH_done (by kernel_rfl) ?_ _
      clear r0 r1 r2 z0 z1 z2
      go_wp2_with fail
      go_meet
      exact ⟨u0.heap.size, G, cap, rfl, hzz, hrr, hgg, hle, HbX.out.trans (hbb.mono HbX.out.size)⟩

  case rest =>
    obtain ⟨g7, G, cap, rfl, hz7, hrow, hne, hge, hbx⟩ := hcut
    have hWd : W.drew.heap.size = W.heap.size := rfl
    rw [hWd] at hge hrow
    have hrow0 := hrow
    rcases hrow0.2 with ⟨-, h00⟩ | ⟨G', cap', cur, eG, hGb, hGg, hnc, hcm, -⟩
    · omega
    injection eG with eG1 eG2 eG3
    injection eG1 with eG1
    injection eG1 with eG1
    subst eG1 eG3
    have hb0 : Below w.heap.size w wc := HbW.out.trans (hbx.mono HbW.out.size)
    obtain ⟨z0, z1, z2⟩ := hz7.cells
    have fG : wc.frozen? ⟨G, s, none⟩ = false := by simp [World.frozen?, hGg]
    have cG := World.ownsRow.cellAt hrow s (by omega)
    rw [HVg.out s (by omega)] at cG
    have hz8 := hz7.far (p := ⟨G, s, none⟩) hne (.slice DL L c)
    have hZc := (HZ.out.keep hbx).far (p := ⟨G, s, none⟩) (show w.heap.size + 1 ≠ G by omega) (.slice DL L c)
    obtain ⟨c0, c1, c2⟩ := hz8.cells
    obtain ⟨d0, d1, d2⟩ := hZc.cells
    have g0 := hZc.frozen 0
    have g1 := hZc.frozen 1
    have g2 := hZc.frozen 2
    obtain ⟨XF, hXF⟩ : ∃ XF, XF = (((wc.setCell ⟨G, s, none⟩ (.slice DL L c)).setCell ⟨w.heap.size + 1, 0, none⟩ (.slice AH p.nH cH)).setCell ⟨w.heap.size + 1, 1, none⟩ (.slice (some ⟨G, 0, none⟩) p.nS cap)).setCell ⟨w.heap.size + 1, 2, none⟩ (.slice AP p.nP cP) := ⟨_, rfl⟩
    have hgz : G ≠ w.heap.size + 1 := by omega
    have hbF := (((hb0.setCell (p := ⟨G, s, none⟩) (show w.heap.size ≤ G by omega) (.slice DL L c)).setCell (p := ⟨w.heap.size + 1, 0, none⟩) (Nat.le_succ _) (.slice AH p.nH cH)).setCell (p := ⟨w.heap.size + 1, 1, none⟩) (Nat.le_succ _) (.slice (some ⟨G, 0, none⟩) p.nS cap)).setCell (p := ⟨w.heap.size + 1, 2, none⟩) (Nat.le_succ _) (.slice AP p.nP cP)
    have hZF := hZc.zw (.slice AH p.nH cH) (.slice (some ⟨G, 0, none⟩) p.nS cap) (.slice AP p.nP cP)
    have hcell : ∀ i, i < p.nS → XF.cell? ⟨G, i, none⟩ = some (if i = s then .slice DL L c else X i) := fun i hi => by
      rw [hXF, World.cell?_setCell_far _ _ _ _ hgz.symm, World.cell?_setCell_far _ _ _ _ hgz.symm, World.cell?_setCell_far _ _ _ _ hgz.symm]
      by_cases e : i = s
      · subst e
        rw [if_pos rfl, World.cell?_setCell_same _ _ _ cG]
      · rw [if_neg e, World.cell?_setCell_other _ _ _ _ (fun e2 => e (by injection e2 with _ e3 _; omega))]
        have h1 := World.ownsRow.cellAt hrow i (by omega)
        rw [HVg.out i hi] at h1
        exact h1
    rw [← hXF] at hbF hZF
    have HXF := Lib.hid hXF.symm
    have HPl : Hid (PlanArg XF AH (some ⟨G, 0, none⟩) AP cH cap cP (setS p s L f)) := Lib.hid (by
      have hq := HP.out.keep hbF
      refine ⟨hq.hands, ⟨show p.nS ≤ cap from hnc, hcm, (fun e => by cases e), fun _ => ⟨G, 0, rfl, fun i hi => ?_⟩⟩, hq.places⟩
      have hi : i < p.nS := hi
      rw [Nat.zero_add]
      by_cases e : i = s
      · subst e
        refine ⟨DL, c, ?_, ?_⟩
        · rw [setS_Ls, hcell i hi, if_pos rfl]
        · rw [setS_Ls, setS_vs]; exact HI.out.below hbF
      · obtain ⟨-, A', c', e1, k1⟩ := HX.out i hi
        refine ⟨A', c', ?_, ?_⟩
        · rw [setS_L e, hcell i hi, if_neg e, e1]
        · rw [setS_L e, setS_v e]; exact k1.below hbF)
    have HbF := Lib.hid hbF
    have HZF := Lib.hid hZF
    obtain ⟨-, As, cs, eXs, -⟩ := HX.out s (by omega)
    rw [eXs] at cG
    clear hXF hbF hZF hcell hz7 hz8 hZc hrow hrow0 hGg hbx hb0 hnc hcm eXs hGb
    go_wp2_with fail
    rw [HXF.out]
    clear HXF d0 d1 d2 g0 g1 g2 c0 c1 c2 z0 z1 z2 cG fG
    obtain ⟨z0, z1, z2⟩ := HZF.out.cells
    refine bodyPost_ret (v := .agg #[.slice AH p.nH cH, .slice (some ⟨G, 0, none⟩) p.nS cap, .slice AP p.nP cP]) (by simp [results, Try.results73, go_sem, z0, z1, z2]) rfl ?_
    exact ⟨G, cap, rfl, HPl.out, HbF.out⟩
end Go.Proofs.Ytiigcjcolpmafaa

/- The reference's before. -/
namespace Go.Proofs.Ytiigcjcolpmafaa
open Go.RowKit

set_option maxHeartbeats 2000000 in
set_option maxRecDepth 1000000 in
theorem before_any (A B : Option Addr) (ca cb : Nat) (a b : List Int) (w : World) (ha : Ints w A a.length (fun k => a.getD k 0)) (hb : Ints w B b.length (fun k => b.getD k 0)) (hla : a.length ≤ 100) (hlb : b.length ≤ 100) :
    Ro 107 #[.slice A a.length ca, .slice B b.length cb] w (.bool (bfL a b)) := by
  refine Ro.of ?_
  have HA := Lib.hid ha
  have HB := Lib.hid hb
  obtain ⟨R, hR⟩ : ∃ R, R = bfL a b := ⟨_, rfl⟩
  have HR0 : Hid (bfL (a.drop 0) (b.drop 0) = R) := Lib.hid (by rw [hR]; rfl)
  rw [← hR]
  have HDa : Hid (∀ k, k < a.length → a.drop k = a.getD k 0 :: a.drop (k + 1)) := Lib.hid (fun k hk => by
    rw [List.getD_eq_getElem?_getD, List.getElem?_eq_getElem hk, Option.getD_some]
    exact List.drop_eq_getElem_cons hk)
  have HDb : Hid (∀ k, k < b.length → b.drop k = b.getD k 0 :: b.drop (k + 1)) := Lib.hid (fun k hk => by
    rw [List.getD_eq_getElem?_getD, List.getElem?_eq_getElem hk, Option.getD_some]
    exact List.drop_eq_getElem_cons hk)
  have HEb : Hid (∀ k, b.length ≤ k → b.drop k = []) := Lib.hid (fun k hk => List.drop_eq_nil_of_le hk)
  have HEa : Hid (a.drop a.length = []) := Lib.hid (List.drop_eq_nil_of_le (Nat.le_refl _))
  have HLb : Hid (∀ k, (b.drop k).length = b.length - k) := Lib.hid (fun k => List.length_drop)
  obtain ⟨n, hn⟩ : ∃ n, n = a.length := ⟨_, rfl⟩
  obtain ⟨m, hm⟩ : ∃ m, m = b.length := ⟨_, rfl⟩
  rw [← hn] at HA HDa hla HEa ⊢
  rw [← hm] at HB HDb hlb HEb HLb ⊢
  clear ha hb hR hn hm
  go_enter Try.func107, Try.ntmps107
  go_wp2
  go_loopw [9] (fun x wr => ∃ k : Nat, k ≤ n ∧ x = .int .i64 k ∧ bfL (a.drop k) (b.drop k) = R ∧ Dn w wr) (fun x _ => n - (intOf x).toNat)
  case atStart => exact ⟨0, Nat.zero_le _, rfl, HR0.out, Dn.refl _⟩
  case round =>
    obtain ⟨k, hk, rfl, hr, hD⟩ := hrel
    have HR := Lib.hid hr
    have HD := Lib.hid hD
    clear hr hD
    by_cases hlt : k < n
    · obtain ⟨b1, o1, rfl, hc1⟩ := (HA.out.dn HD.out).at hlt
      have hki : (k : Int) < n := by omega
      by_cases hkb : k < m
      · obtain ⟨b2, o2, rfl, hc2⟩ := (HB.out.dn HD.out).at hkb
        have hkm : (k : Int) < m := by omega
        have d0 : decide ((m : Int) ≤ k) = false := decide_eq_false (by omega)
        have HS := Lib.hid HR.out
        rw [HDa.out k hlt, HDb.out k hkb, bf_cons] at HS
        generalize a.getD k 0 = x at *
        generalize b.getD k 0 = y at *
        by_cases h1 : y < x
        · rw [if_pos h1] at HS
          have d1 : decide (y < x) = true := decide_eq_true h1
          clear h1
          go_wp2
          go_ret
          exact ⟨ret_bool HS.out, HD.out⟩
        · rw [if_neg h1] at HS
          have d1 : decide (y < x) = false := decide_eq_false h1
          by_cases h2 : x < y
          · rw [if_pos h2] at HS
            have d2 : decide (x < y) = true := decide_eq_true h2
            clear h1 h2
            go_wp2
            go_ret
            exact ⟨ret_bool HS.out, HD.out⟩
          · rw [if_neg h2] at HS
            have d2 : decide (x < y) = false := decide_eq_false h2
            clear h1 h2
            go_wp2
            go_roundw
            case rel => exact ⟨k + 1, by omega, by go_num, HS.out, HD.out⟩
            case measure => simp [intOf]; omega
      · have d0 : decide ((m : Int) ≤ k) = true := decide_eq_true (by omega)
        have HS := Lib.hid HR.out
        rw [HDa.out k hlt, HEb.out k (by omega)] at HS
        have HS2 : Hid (false = R) := Lib.hid HS.out
        go_wp2
        go_ret
        exact ⟨ret_bool HS2.out, HD.out⟩
    · obtain rfl : k = n := by omega
      have HS := Lib.hid HR.out
      rw [HEa.out] at HS
      have HS2 : Hid (decide (k < m) = R) := Lib.hid (by
        rw [← HS.out]
        show _ = decide (0 < (b.drop k).length)
        rw [HLb.out]
        exact decide_eq_decide.2 (by omega))
      go_wp2
      go_ret
      exact ⟨ret_bool HS2.out, HD.out⟩
end Go.Proofs.Ytiigcjcolpmafaa

/- The reference's lists: memory. -/
set_option maxRecDepth 1000000
set_option maxHeartbeats 2000000
namespace Go.Proofs.Ytiigcjcolpmafaa
open Go.RowKit

theorem wp_splice {ops : Array Oper} {o : Oper} {a : Act} {w : World} {K : Act → World → Prop} {Q : Exit → Act → World → Prop} (hgd : o.guard = none) (d s : Operand) (dT sT : TypeId)
    (ho : o.op = .call { callee := .builtin .copy, args := #[d, s], argTypes := #[dT, sT] }) (elem : TypeId) (hu : Try.prog.underlying dT = some (.slice elem)) (hsz : (Try.prog.info? elem).map (·.size) = some 1)
    (dp sp : Option Addr) (dLen dCap sLen sCap : Nat) (hd : a.eval d = .slice dp dLen dCap) (hs : a.eval s = .slice sp sLen sCap)
    (g off : Nat) (cur : List Value) (t : TypeId) (hg : w.heap[g]? = some (.cells cur.toArray t (0, 0))) (cs : List Value) (hn : cs.length = Nat.min sLen dLen)
    (hpos : 0 < cs.length → dp = some ⟨g, off, none⟩ ∧ ∃ ad, sp = some ad ∧ ∀ j v, cs[j]? = some v → w.cell? (ad.add j) = some v)
    (hfit : off + cs.length ≤ cur.length) (h1 : ∀ v ∈ cs, v.oneCell' = true) (B : Nat) (w0 : World) (hb : Below B w0 w) (hBg : B ≤ g)
    (h : ∀ w', Hid (w'.heap[g]? = some (.cells (splice cur off cs).toArray t (0, 0))) → Below B w0 w' → K (a.put o.dst (goInt cs.length)) w') : Oper.wp Try.prog o a w K Q := by
  have hw : Region.wanted o (yielded ops a.tmps) = true := by simp [Region.wanted, hgd]
  have h2 := step_copy_splice (P := Try.prog) (ops := ops) (K := K) (Q := Q) (E := True) hgd d s dT sT ho elem hu hsz dp sp dLen dCap sLen sCap hd hs g off cur t hg cs hn hpos hfit h1 B w0 hb hBg h
  rw [if_pos hw] at h2
  exact h2
/-- The cells of a row behind an insertion. -/
theorem ins_cells {vals cur : List Value} {x z : Value} {a n : Nat} (hn : vals.length = n) (ha : a ≤ n) (hc : cur.take (n + 1) = vals ++ [z]) :
    ((splice cur (a + 1) (vals.drop a)).set a x).take (n + 1) = vals.take a ++ x :: vals.drop a ∧ (splice cur (a + 1) (vals.drop a)).length = cur.length := by
  have hl : n + 1 ≤ cur.length := by
    have h1 := congrArg List.length hc
    rw [List.length_take, List.length_append, hn] at h1
    simp at h1
    omega
  have hcur : cur = (vals ++ [z]) ++ cur.drop (n + 1) := by rw [← hc, List.take_append_drop]
  have hlen : (splice cur (a + 1) (vals.drop a)).length = cur.length := length_splice _ _ _ (by rw [List.length_drop, hn]; omega)
  refine ⟨?_, hlen⟩
  apply List.ext_getElem?
  intro i
  rw [List.getElem?_take]
  have hsp : ∀ k, k < a → (splice cur (a + 1) (vals.drop a))[k]? = vals[k]? := fun k hk => by
    unfold splice
    rw [List.getElem?_append_left (by rw [List.length_take]; omega), List.getElem?_take, if_pos (by omega), hcur, List.append_assoc, List.getElem?_append_left (by omega)]
  have hsp2 : ∀ k, a < k → k ≤ n → (splice cur (a + 1) (vals.drop a))[k]? = vals[k - 1]? := fun k hk hk2 => by
    unfold splice
    rw [List.getElem?_append_right (by rw [List.length_take]; omega), List.length_take, show min (a + 1) cur.length = a + 1 by omega, List.getElem?_append_left (by rw [List.length_drop]; omega), List.getElem?_drop]
    congr 1
    omega
  rcases Nat.lt_or_ge i (n + 1) with hi | hi
  · rw [if_pos hi]
    rcases Nat.lt_trichotomy i a with g | g | g
    · rw [List.getElem?_set_ne (by omega), hsp i g, List.getElem?_append_left (by rw [List.length_take]; omega), List.getElem?_take, if_pos g]
    · subst g
      rw [List.getElem?_set_self (by omega), List.getElem?_append_right (by rw [List.length_take]; omega), List.length_take, show i - min i vals.length = 0 by omega]
      rfl
    · rw [List.getElem?_set_ne (by omega), hsp2 i g (by omega), List.getElem?_append_right (by rw [List.length_take]; omega), List.length_take, show i - min a vals.length = (i - a - 1) + 1 by omega, List.getElem?_cons_succ, List.getElem?_drop]
      congr 1
      omega
  · rw [if_neg (by omega), List.getElem?_eq_none]
    rw [List.length_append, List.length_take, List.length_cons, List.length_drop]
    omega
def srtN (ls : List (List Int)) : Nat → List (List Int)
  | 0 => []
  | j + 1 => insB (srtN ls j) (ls.getD j [])
theorem sortB_snoc (l : List Int) : ∀ (a acc : List (List Int)), sortB acc (a ++ [l]) = insB (sortB acc a) l := by
  intro a
  induction a with
  | nil => intro acc; rfl
  | cons x a ih => intro acc; exact ih (insB acc x)
theorem srtN_eq (ls : List (List Int)) : ∀ j, j ≤ ls.length → srtN ls j = sortB [] (ls.take j) := by
  intro j
  induction j with
  | zero => intro _; rfl
  | succ j ih =>
    intro hj
    show insB (srtN ls j) (ls.getD j []) = _
    rw [ih (by omega), ← sortB_snoc]
    congr 1
    rw [List.take_add_one, List.getD_eq_getElem?_getD, List.getElem?_eq_getElem (by omega : j < ls.length)]
    rfl
theorem srtN_all (ls : List (List Int)) : srtN ls ls.length = sortB [] ls := by
  rw [srtN_eq ls _ (Nat.le_refl _), List.take_length]
theorem insB_len (l : List Int) (ls : List (List Int)) : (insB ls l).length = ls.length + 1 := by
  unfold insB
  rw [List.length_append, List.length_take, List.length_cons, List.length_drop]
  have : atB l ls ≤ ls.length := by
    induction ls with
    | nil => exact Nat.le_refl _
    | cons y ls ih =>
      show (if _ then _ else _) ≤ _
      split
      · exact Nat.succ_le_succ ih
      · exact Nat.zero_le _
  omega
theorem srtN_len (ls : List (List Int)) : ∀ j, (srtN ls j).length = j := by
  intro j
  induction j with
  | zero => rfl
  | succ j ih =>
    show (insB _ _).length = _
    rw [insB_len, ih]
theorem atB_is {l : List Int} : ∀ {ls : List (List Int)} {a : Nat}, a ≤ ls.length → (∀ i, i < a → bfL (ls.getD i []) l = true) → (a < ls.length → bfL (ls.getD a []) l = false) → atB l ls = a := by
  intro ls
  induction ls with
  | nil => intro a h _ _; exact (Nat.le_zero.1 h).symm
  | cons y ls ih =>
    intro a h1 h2 h3
    cases a with
    | zero =>
      have h4 : bfL y l = false := h3 (Nat.succ_pos _)
      show (if _ then _ else _) = _
      rw [if_neg (by rw [h4]; decide)]
    | succ a =>
      have h4 : bfL y l = true := h2 0 (Nat.succ_pos _)
      show (if _ then _ else _) = _
      rw [if_pos h4]
      exact congrArg (· + 1) (ih (Nat.le_of_succ_le_succ h1) (fun i hi => h2 (i + 1) (Nat.succ_lt_succ hi)) (fun h => h3 (Nat.succ_lt_succ h)))
end Go.Proofs.Ytiigcjcolpmafaa

/- The reference's lists. -/
namespace Go.Proofs.Ytiigcjcolpmafaa
open Go.RowKit

/-- Block g behind an insertion. -/
theorem ins_row {w w' : World} {base g n cap a : Nat} {cur : Array Value} {vals : List Value} {x z : Value} (hn : vals.length = n) (ha : a ≤ n) (hcap : n + 1 ≤ cap) (hcm : cap ≤ maxLen) (hcs : cur.size = cap) (hb : base ≤ g) (hc : cur.toList.take (n + 1) = vals ++ [z])
    (hg : w.heap[g]? = some (.cells (splice cur.toList (a + 1) (vals.drop a)).toArray 23 (0, 0))) (hw : w' = w.setCell ⟨g, a, none⟩ x) : w'.ownsRow base 23 1 (.slice (some ⟨g, 0, none⟩) (n + 1) cap) (n + 1) (vals.take a ++ x :: vals.drop a) := by
  obtain ⟨h1, h2⟩ := ins_cells (x := x) hn ha hc
  have hR : w.rowIs g 23 cap (fun i => (splice cur.toList (a + 1) (vals.drop a)).toArray[i]?.getD (.int .i64 0)) := ⟨_, hg, by simp [h2, hcs], fun i hi => by
    have hi' : i < (splice cur.toList (a + 1) (vals.drop a)).toArray.size := by simp [h2, hcs]; exact hi
    simp [Array.getElem?_eq_getElem hi']⟩
  have hS := World.rowIs.set hR a x
  rw [← hw] at hS
  obtain ⟨cs, hc1, hc2, hc3⟩ := hS
  refine ⟨by rw [List.length_append, List.length_take, List.length_cons, List.length_drop]; omega, .inr ⟨g, cap, cs, rfl, hb, hc1, hcap, hcm, by omega, ?_⟩⟩
  rw [← h1, Nat.mul_one]
  apply List.ext_getElem?
  intro i
  rw [List.getElem?_take, List.getElem?_take]
  by_cases hi : i < n + 1
  · rw [if_pos hi, if_pos hi]
    have h3 := hc3 i (by omega)
    have hlen : i < (splice cur.toList (a + 1) (vals.drop a)).length := by rw [h2]; simp [hcs]; omega
    rw [Array.getElem?_toList, h3]
    dsimp only
    by_cases e : i = a
    · subst e
      rw [if_pos rfl, List.getElem?_set_self hlen]
    · rw [if_neg e, List.getElem?_set_ne (fun h => e h.symm), List.getElem?_eq_getElem hlen]
      simp [List.getElem?_eq_getElem hlen]
  · rw [if_neg hi, if_neg hi]
theorem rows_ins {w : World} {b a : Nat} {vals : List Value} {S : List (List Int)} {lv : Value} {l : List Int} (hl : vals.length = S.length) (ha : a ≤ S.length) (hv : ∀ i z, vals[i]? = some z → OwnL w b z (S.getD i [])) (hx : OwnL w b lv l) :
    ∀ i z, (vals.take a ++ lv :: vals.drop a)[i]? = some z → OwnL w b z ((S.take a ++ l :: S.drop a).getD i []) := by
  intro i z hz
  rw [List.getD_eq_getElem?_getD]
  rcases Nat.lt_trichotomy i a with g | g | g
  · rw [List.getElem?_append_left (by rw [List.length_take]; omega), List.getElem?_take, if_pos g] at hz
    rw [List.getElem?_append_left (by rw [List.length_take]; omega), List.getElem?_take, if_pos g, ← List.getD_eq_getElem?_getD]
    exact hv i z hz
  · subst g
    rw [List.getElem?_append_right (by rw [List.length_take]; omega), List.length_take, show i - min i vals.length = 0 by omega] at hz
    rw [List.getElem?_append_right (by rw [List.length_take]; omega), List.length_take, show i - min i S.length = 0 by omega]
    injection hz with hz
    subst hz
    exact hx
  · rw [List.getElem?_append_right (by rw [List.length_take]; omega), List.length_take, show i - min a vals.length = (i - a - 1) + 1 by omega, List.getElem?_cons_succ, List.getElem?_drop, show a + (i - a - 1) = i - 1 by omega] at hz
    rw [List.getElem?_append_right (by rw [List.length_take]; omega), List.length_take, show i - min a S.length = (i - a - 1) + 1 by omega, List.getElem?_cons_succ, List.getElem?_drop, show a + (i - a - 1) = i - 1 by omega, ← List.getD_eq_getElem?_getD]
    exact hv (i - 1) z hz
theorem row_form {w : World} {base n : Nat} {y : Value} {vals : List Value} (h : w.ownsRow base 23 1 y n vals) : ∃ A c, y = .slice A n c ∧ (0 < n → ∃ g, A = some ⟨g, 0, none⟩) := by
  rcases h.2 with ⟨rfl, rfl⟩ | ⟨g, cap, cur, rfl, -⟩
  · exact ⟨none, 0, rfl, fun h => absurd h (Nat.lt_irrefl _)⟩
  · exact ⟨_, cap, rfl, fun _ => ⟨g, rfl⟩⟩
theorem len_chL {f : Nat → Int} {L k : Nat} (hL : L ≤ 6) (hk : k ≤ 7) : (alL f L k).length ≤ 55987 := alL_len f L hL k hk
set_option maxHeartbeats 16000000 in
set_option maxRecDepth 1000000 in
theorem lists_ref (A : Option Addr) (L c : Nat) (f : Nat → Int) (hL : L ≤ 6) (w : World) (hI : Ints w A L f) :
    Calls Try.prog 70 #[.slice A L c] w fun e w' => ∃ x, e = .returned x ∧ OwnLL w' w.heap.size x (sortB [] (alL f L (L + 1))) ∧ Below w.heap.size w w' := by
  obtain ⟨i0, hi, hz0, hz1, hz2⟩ := info_parts infoInts
  have hi0 := hi
  have HI := Lib.hid hI
  have hL7 : ((L + 1 : Nat) : Int) ≤ 7 := by omega
  have HCh := Lib.hid (fun k w' (hk : k ≤ 6) (hb : Below w.heap.size w w') => chosen_any A L c f hL k w' hk (hI.keep hb))
  have HLn := Lib.hid (fun k hk => alL_len f L hL k hk)
  have HCl := Lib.hid (fun k => chL_len f L hL k)
  have HSu : Hid (∀ k, alL f L (k + 1) = alL f L k ++ chL f L k) := Lib.hid (fun _ => rfl)
  have HLl : Hid (∀ l, l ∈ alL f L (L + 1) → l.length ≤ 6) := Lib.hid (fun l hl => by
    obtain ⟨i, hi, h⟩ := alL_mem.1 hl
    rw [chL_l i l h]
    omega)
  clear hI
  go_enter Try.func70, Try.ntmps70
  go_wp2
  go_loopw [3, 12] (fun y x wr => ∃ k : Nat, k ≤ L + 1 ∧ x = .int .i64 k ∧ OwnLL wr w.heap.size y (alL f L k) ∧ Below w.heap.size w wr) (fun _ x _ => L + 1 - (intOf x).toNat)
  case atStart => exact ⟨0, Nat.zero_le _, rfl, OwnLL.nil_ _ _, Below.refl _ _⟩
  case round =>
    obtain ⟨k, hk, rfl, hY, hbel⟩ := hrel
    have HY := Lib.hid hY
    have Hbel := Lib.hid hbel
    clear hY hbel
    by_cases hlt : k < L + 1
    · have hki : (k : Int) < (L : Int) + 1 := by omega
      have HC := Lib.hid (HCh.out k wr (by omega) Hbel.out)
      have hn : (alL f L k).length + (chL f L k).length ≤ 100000 := by
        have h1 := HLn.out (k + 1) (by omega)
        rw [HSu.out, List.length_append] at h1
        omega
      have HSk := Lib.hid (HSu.out k)
      obtain ⟨X1, h1⟩ : ∃ z, z = alL f L (k + 1) := ⟨_, rfl⟩
      rw [← h1] at HSk
      have H1 := Lib.hid h1
      clear h1
      generalize alL f L k = E at *
      generalize chL f L k = C at *
      have hz : w.heap.size ≤ wr.heap.size := Hbel.out.size
      go_wp2_with fail
      refine HC.out.mono ?_
      rintro e w2 ⟨x, rfl, hO, hb2⟩
      obtain ⟨G, cG, eG⟩ := hO.form
      subst eG
      have HO := Lib.hid hO
      have HY2 := Lib.hid (HY.out.below hb2)
      have hz2w : w.heap.size ≤ w2.heap.size := Nat.le_trans hz hb2.size
      have Hb2 := Lib.hid hb2
      clear hO hb2
      go_wp2_with (at_builtin; go_loud (refine wpList_lls rfl _ _ rfl w.heap.size wr.heap.size _ _ E C rfl HY2.out rfl HO.out hz hn hz2w ?_))
      intro v3 w3 hO3 hB3
      have HO3 := Lib.hid (show OwnLL w3 w.heap.size v3 X1 by rw [HSk.out]; exact hO3)
      have HB3 := Lib.hid ((Hbel.out.trans (Hb2.out.mono hz)).trans hB3)
      clear hO3 hB3
      go_wp2
      go_roundw
      case rel => exact ⟨k + 1, by omega, by go_num, by rw [← H1.out]; exact HO3.out, HB3.out⟩
      case measure => simp [intOf]; omega
    · have ek : alL f L k = alL f L (L + 1) := by rw [show k = L + 1 by omega]
      have hk1 : ((k : Nat) : Int) = (L : Int) + 1 := by omega
      have hkn : ¬ ((k : Int) < (L : Int) + 1) := by omega
      rw [ek] at HY
      have hall := HLn.out (L + 1) (by omega)
      have HW1 := Hbel
      clear Hbel ek HCh HSu HCl
      obtain ⟨AL, hAL⟩ : ∃ z, z = alL f L (L + 1) := ⟨_, rfl⟩
      rw [← hAL] at HY hall HLl
      have HAL := Lib.hid hAL
      clear hAL
      obtain ⟨n, hn⟩ : ∃ n, n = AL.length := ⟨_, rfl⟩
      have HNn := Lib.hid hn
      rw [← hn] at hall
      obtain ⟨G, cG, eG⟩ := HY.out.form
      rw [← hn] at eG
      subst eG
      have HSn := Lib.hid (srtN_len AL)
      have HSs : Hid (∀ j, srtN AL (j + 1) = insB (srtN AL j) (AL.getD j [])) := Lib.hid (fun _ => rfl)
      have HFin : Hid (srtN AL n = sortB [] AL) := Lib.hid (by rw [hn]; exact srtN_all AL)
      clear hn hk1
      rename World => w1
      go_wp2
      go_loopw [5, 23] (fun y x wr => ∃ (j : Nat) (vals : List Value), j ≤ n ∧ x = .int .i64 j ∧ vals.length = j ∧ wr.ownsRow w1.heap.size 23 1 y j vals ∧ (∀ i z, vals[i]? = some z → OwnL w1 w.heap.size z ((srtN AL j).getD i [])) ∧ Below w1.heap.size w1 wr) (fun _ x _ => n - (intOf x).toNat)
      case atStart => exact ⟨0, [], Nat.zero_le _, rfl, rfl, World.ownsRow_nil _ _ _ 1, fun i z h => by simp at h, Below.refl _ _⟩
      case round =>
        obtain ⟨j, vals, hj, rfl, hvl, hown, hvs, hbel⟩ := hrel
        have HOwn := Lib.hid hown
        have HVs := Lib.hid hvs
        have Hbel := Lib.hid hbel
        have HVl := Lib.hid hvl
        obtain ⟨Ay, cy, ey, hAy⟩ := row_form hown
        subst ey
        clear hown hvs hbel hvl
        by_cases hlt : j < n
        · obtain ⟨G', c', Al, cl, eG, hc, hrow⟩ := HY.out.rowAt (j := j) (by have := HNn.out; omega)
          injection eG with e1 e2 e3
          subst e1 e3
          have hc := old_cell hc Hbel.out
          have hji : (j : Int) < n := by omega
          have HL := Lib.hid hrow
          have HSj := Lib.hid (HSs.out j)
          have hSl := HSn.out j
          have hl6 : (AL.getD j []).length ≤ 6 := HLl.out _ (by
            rw [List.getD_eq_getElem?_getD, List.getElem?_eq_getElem (by have := HNn.out; omega), Option.getD_some]
            exact List.getElem_mem _)
          have HS6 : Hid (∀ i, i < j → ((srtN AL j).getD i []).length ≤ 6) := Lib.hid (fun i hi => HLl.out _ (by
            have hm : (srtN AL j).getD i [] ∈ srtN AL j := by
              rw [List.getD_eq_getElem?_getD, List.getElem?_eq_getElem (by omega), Option.getD_some]
              exact List.getElem_mem _
            generalize (srtN AL j).getD i [] = z at hm ⊢
            rw [srtN_eq AL j (by have := HNn.out; omega), sortB_mem] at hm
            rcases hm with h | h
            · cases h
            · exact List.mem_of_mem_take h))
          obtain ⟨S1, h1⟩ : ∃ z, z = srtN AL (j + 1) := ⟨_, rfl⟩
          rw [← h1] at HSj
          have H1 := Lib.hid h1
          clear h1 hrow e2
          generalize srtN AL j = S at *
          generalize AL.getD j [] = l at *
          have HSl := Lib.hid hSl
          clear hSl
          go_wp2_with fail
          rename World => wj
          go_loopw [8] (fun x wi => ∃ a : Nat, a ≤ j ∧ x = .int .i64 a ∧ (∀ i, i < a → bfL (S.getD i []) l = true) ∧ Dn wj wi) (fun x _ => j - (intOf x).toNat)
          case atStart => exact ⟨0, Nat.zero_le _, rfl, fun i h => absurd h (Nat.not_lt_zero _), Dn.refl _⟩
          case round =>
            obtain ⟨a, ha, rfl, hpre, hD⟩ := hrel
            have HPre := Lib.hid hpre
            have HD := Lib.hid hD
            clear hpre hD
            rename World => wq
            by_cases hlt2 : a < j
            · obtain ⟨g0, eg⟩ := hAy (by omega)
              subst eg
              have hown := ownsRow_dn HOwn.out HD.out
              have hcz := World.ownsRow.cellAt hown a (by omega)
              obtain ⟨z, hz⟩ : ∃ z, vals[a]? = some z := ⟨_, List.getElem?_eq_getElem (by have := HVl.out; omega)⟩
              have hzr := HVs.out a z hz
              rw [hz] at hcz
              obtain ⟨Az, cz, rfl, -⟩ := hzr.form
              have hza := hzr
              have hzi : Ints wq Az (S.getD a []).length (fun k => (S.getD a []).getD k 0) := by
                obtain ⟨A3, c3, e3, -, h3, -⟩ := hzr.form
                injection e3 with e4 e5 e6
                rw [e4]; exact (h3.keep Hbel.out).dn HD.out
              have hli : Ints wq Al l.length (fun k => l.getD k 0) := by
                obtain ⟨A3, c3, e3, -, h3, -⟩ := HL.out.form
                injection e3 with e4 e5 e6
                rw [e4]; exact (h3.keep Hbel.out).dn HD.out
              have hz6 := HS6.out a hlt2
              have HBf := Lib.hid (before_any Az Al cz cl (S.getD a []) l wq hzi hli (by omega) (by omega))
              have haj : (a : Int) < j := by omega
              cases hbf : bfL (S.getD a []) l with
              | true =>
                rw [hbf] at HBf
                have HPn : Hid (∀ i, i < a + 1 → bfL (S.getD i []) l = true) := Lib.hid (fun i hi => by
                  rcases Nat.lt_succ_iff_lt_or_eq.1 hi with g | g
                  · exact HPre.out i g
                  · rw [g]; exact hbf)
                clear hzi hli hzr hza hz hown hbf
                go_wp2_with fail
                refine Ro.use HBf.out ?_
                intro w5 hd5
                have HD5 := Lib.hid (HD.out.trans hd5)
                clear hd5
                go_wp2
                go_roundw
                case rel => exact ⟨a + 1, by omega, by go_num, HPn.out, HD5.out⟩
                case measure => simp [intOf]; omega
              | false =>
                rw [hbf] at HBf
                have HAt : Hid (atB l S = a) := Lib.hid (atB_is (by have := HSl.out; omega) HPre.out (fun _ => hbf))
                clear hzi hli hzr hza hz hown hbf
                go_wp2_with fail
                refine Ro.use HBf.out ?_
                intro w5 hd5
                have hd6 := HD.out.trans hd5
                have HOq := Lib.hid (ownsRow_dn HOwn.out hd6)
                have HBq := Lib.hid (Hbel.out.trans ((hd6.below _).mono Hbel.out.size))
                clear hd5 hd6
                have hlv := HL.out
                have HIns : Hid (insB S l = S.take a ++ l :: S.drop a) := Lib.hid (by unfold insB; rw [HAt.out])
                have hsz := HBq.out.size
                have hj9 : j ≤ 60000 := by omega
                go_wp2_with (at_builtin; go_loud (refine wpList_append_own _ rfl _ _ 22 rfl w1.heap.size 23 i0 (.slice none 0 0) 1 24 Try.underlying22 hi hz0 hz1 hz2 rfl (by decide) _ _ _ rfl (World.ownsRow.alloc HOq.out _) ⟨w5.heap.size, 0, none⟩ 1 1 [.slice none 0 0] rfl rfl (news1 _ _ _) (one1 rfl) (by unfold maxLen; omega) (by omega) (by simp; omega) ?_))
                intro v2 w2 hown2 hgrow2 _
                have hb2 : Below w1.heap.size w1 w2 := (HBq.out.alloc hsz _).grown hgrow2 (by simp; omega) (fun g hg => (World.ownsRow.lt HOq.out g hg).1)
                have hown20 := hown2
                rcases hown20.2 with ⟨-, h0⟩ | ⟨g, cap, cur, rfl, hgb, hgh, hnc, hcm, hcs, ht⟩
                · omega
                rw [Nat.mul_one] at hcs ht
                have HB2 := Lib.hid hb2
                have HOw2 := Lib.hid hown2
                have HGh := Lib.hid hgh
                have HT := Lib.hid ht
                have hwr : IntKind.i64.wrap ((a : Int) + 1) = (a : Int) + 1 := IntWalk.i64_in _ ⟨by omega, by omega⟩
                have hca : ¬ cap = a := by omega
                have hai : (a : Int) ≤ j := by omega
                have haj1 : (a : Int) ≤ (j : Int) + 1 := by omega
                have haj2 : (a : Int) + 1 ≤ (j : Int) + 1 := by omega
                have hjc : (j : Int) + 1 ≤ cap := by omega
                have hac : (a : Int) ≤ cap := by omega
                have hac1 : (a : Int) + 1 ≤ cap := by omega
                have ha0 : (0 : Int) ≤ a := by omega
                have ha1 : (0 : Int) ≤ (a : Int) + 1 := by omega
                obtain ⟨oa, hoa⟩ : ∃ o : Nat, (cap = a + 1 ∧ o = 0) ∨ (cap ≠ a + 1 ∧ o = a + 1) := by
                  by_cases e : cap = a + 1
                  · exact ⟨0, .inl ⟨e, rfl⟩⟩
                  · exact ⟨a + 1, .inr ⟨e, rfl⟩⟩
                have HOa := Lib.hid hoa
                clear hoa hown2 hown20 hgrow2 hb2 hgh ht hsz
                go_wp2_with fail
                refine wp_region_held (S := fun _ => True) (by kernel_rfl) ?_
                change wpAnyH _ _ _ _ _ _ _ _ w2.drew
                have HB2 := Lib.hid (HB2.out.trans (((Dn.refl w2).drew.below _).mono HB2.out.size))
                have HOw2 : Hid (w2.drew.ownsRow w1.heap.size 23 1 (.slice (some ⟨g, 0, none⟩) (j + 1) cap) (j + 1) (vals ++ [.slice none 0 0])) := Lib.hid HOw2.out
                have HGh : Hid (w2.drew.heap[g]? = some (.cells cur 23 (0, 0))) := Lib.hid HGh.out
                generalize w2.drew = w3 at *
                refine wpAnyH_take (i := 0) (v := .slice (some ⟨g, 0, none⟩) (j + 1) cap) rfl (by kernel_rfl) (by kernel_rfl) (by kernel_rfl) (fun _ _ _ h => h) (Or.inl ⟨by rfl, fun w' hS => by go_simp⟩) trivial ?_
                try simp only [Act.put, List.getElem_toArray, List.getElem_cons_zero, List.getElem_cons_succ, List.setIfInBounds_toArray, List.set_cons_zero, List.set_cons_succ]
                refine wpAnyH_take (i := 1) (v := .int .i64 a) rfl (by kernel_rfl) (by kernel_rfl) (by kernel_rfl) (fun _ _ _ h => h) (Or.inl ⟨by rfl, fun w' hS => by go_simp⟩) trivial ?_
                try simp only [Act.put, List.getElem_toArray, List.getElem_cons_zero, List.getElem_cons_succ, List.setIfInBounds_toArray, List.set_cons_zero, List.set_cons_succ]
                refine wpAnyH_take (i := 2) (v := .int .i64 ((a : Int) + 1)) rfl (by kernel_rfl) (by kernel_rfl) (by kernel_rfl) (fun _ _ _ h => h) (Or.inl ⟨by rfl, fun w' hS => by go_simp⟩) trivial ?_
                try simp only [Act.put, List.getElem_toArray, List.getElem_cons_zero, List.getElem_cons_succ, List.setIfInBounds_toArray, List.set_cons_zero, List.set_cons_succ]
                refine wpAnyH_take (i := 3) (v := .slice (some ⟨g, oa, none⟩) (j - a) (cap - (a + 1))) rfl (by kernel_rfl) (by kernel_rfl) (by kernel_rfl) (fun _ _ _ h => h) (Or.inl ⟨by rfl, fun w' hS => by (rcases HOa.out with ⟨g1, g2⟩ | ⟨g1, g2⟩ <;> (rw [g2]; go_simp; try omega))⟩) trivial ?_
                try simp only [Act.put, List.getElem_toArray, List.getElem_cons_zero, List.getElem_cons_succ, List.setIfInBounds_toArray, List.set_cons_zero, List.set_cons_succ]
                refine wpAnyH_take (i := 4) (v := .slice (some ⟨g, 0, none⟩) (j + 1) cap) rfl (by kernel_rfl) (by kernel_rfl) (by kernel_rfl) (fun _ _ _ h => h) (Or.inl ⟨by rfl, fun w' hS => by go_simp⟩) trivial ?_
                try simp only [Act.put, List.getElem_toArray, List.getElem_cons_zero, List.getElem_cons_succ, List.setIfInBounds_toArray, List.set_cons_zero, List.set_cons_succ]
                refine wpAnyH_take (i := 5) (v := .int .i64 a) rfl (by kernel_rfl) (by kernel_rfl) (by kernel_rfl) (fun _ _ _ h => h) (Or.inl ⟨by rfl, fun w' hS => by go_simp⟩) trivial ?_
                try simp only [Act.put, List.getElem_toArray, List.getElem_cons_zero, List.getElem_cons_succ, List.setIfInBounds_toArray, List.set_cons_zero, List.set_cons_succ]
                refine wpAnyH_take (i := 6) (v := .slice (some ⟨g, a, none⟩) (j + 1 - a) (cap - a)) rfl (by kernel_rfl) (by kernel_rfl) (by kernel_rfl) (fun _ _ _ h => h) (Or.inl ⟨by rfl, fun w' hS => by go_simp⟩) trivial ?_
                try simp only [Act.put, List.getElem_toArray, List.getElem_cons_zero, List.getElem_cons_succ, List.setIfInBounds_toArray, List.set_cons_zero, List.set_cons_succ]
                refine wpAnyH_all (rs := [7]) (by kernel_rfl) (by simp) (fun i hi => ?_)
                obtain rfl : i = 7 := by simpa using hi
                refine wpOp_ofW (by rfl) (by rfl) ?_
                have hvlj := HVl.out
                have hcut : (vals.drop a).length = j - a := by rw [List.length_drop, hvlj]
                refine wp_splice (ops := #[]) rfl (.tmp 47) (.tmp 50) 22 22 rfl 23 Try.underlying22 (by rw [hi0]; simp [hz1]) (some ⟨g, oa, none⟩) (some ⟨g, a, none⟩) (j - a) (cap - (a + 1)) (j + 1 - a) (cap - a) rfl rfl g (a + 1) cur.toList 23 (by rw [Array.toArray_toList]; exact HGh.out) (vals.drop a) (by rw [hcut]; show j - a = min (j + 1 - a) (j - a); omega) (fun h0 => ⟨by rw [hcut] at h0; rcases HOa.out with ⟨g1, g2⟩ | ⟨-, g2⟩; (exfalso; omega); rw [g2], ⟨g, a, none⟩, rfl, fun k v hv => by
                  have hk : k < j - a := by have := (List.getElem?_eq_some_iff.1 hv).1; omega
                  rw [Addr.add_lit, World.ownsRow.cellAt HOw2.out (a + k) (by omega), List.getElem?_append_left (by omega)]
                  rw [List.getElem?_drop] at hv
                  exact hv⟩) (by rw [hcut, Array.length_toList]; omega) (fun v hv => by
                  obtain ⟨i, hi, rfl⟩ := List.mem_iff_getElem.1 (List.mem_of_mem_drop hv)
                  exact (HVs.out i _ (List.getElem?_eq_getElem hi)).one) w1.heap.size w1 HB2.out hgb ?_
                intro w4 hg4 hb4
                refine ⟨trivial, ?_⟩
                try simp only [Act.put, List.getElem_toArray, List.getElem_cons_zero, List.getElem_cons_succ, List.setIfInBounds_toArray, List.set_cons_zero, List.set_cons_succ]
                refine wpAnyH_done (by kernel_rfl) ?_ _
                have hsl : (splice cur.toList (a + 1) (vals.drop a)).length = cap := by rw [length_splice _ _ _ (by rw [hcut, Array.length_toList]; omega), Array.length_toList, hcs]
                have f4 : w4.frozen? ⟨g, a, none⟩ = false := by simp [World.frozen?, hg4.out]
                obtain ⟨c4, hc4⟩ : ∃ v, w4.cell? ⟨g, a, none⟩ = some v := ⟨(splice cur.toList (a + 1) (vals.drop a))[a]'(by omega), by
                  simp [World.cell?, hg4.out, List.getElem?_eq_getElem (show a < (splice cur.toList (a + 1) (vals.drop a)).length by omega)]⟩
                have hRw := ins_row (w := w4) (base := w1.heap.size) (x := .slice Al l.length cl) (a := a) hvlj (by omega) (by omega) hcm hcs hgb HT.out hg4.out rfl
                have HRw := Lib.hid hRw
                have HBw := Lib.hid (hb4.setCell (p := ⟨g, a, none⟩) hgb (.slice Al l.length cl))
                have HRi := Lib.hid (rows_ins (a := a) (by rw [hvlj, HSl.out]) (by rw [HSl.out]; omega) HVs.out hlv)
                have HVn : Hid ((vals.take a ++ Value.slice Al l.length cl :: vals.drop a).length = j + 1) := Lib.hid (by rw [List.length_append, List.length_take, List.length_cons, hcut]; omega)
                clear hg4 hb4 hsl hRw hlv hcut hvlj hcs hcm hgb hnc hwr
                go_wp2
                go_roundw
                case rel => exact ⟨j + 1, _, by omega, by go_num, HVn.out, HRw.out, fun i z hz => by rw [← H1.out, HSj.out, HIns.out]; exact HRi.out i z hz, HBw.out⟩
                case measure => simp [intOf]; omega
            · have HAt : Hid (atB l S = a) := Lib.hid (atB_is (by have := HSl.out; omega) HPre.out (fun h => by have := HSl.out; omega))
              have HOq := Lib.hid (ownsRow_dn HOwn.out HD.out)
              have HBq := Lib.hid (Hbel.out.trans ((HD.out.below _).mono Hbel.out.size))
              have hna : ¬ ((a : Int) < j) := by omega
              have hlv := HL.out
              have HIns : Hid (insB S l = S.take a ++ l :: S.drop a) := Lib.hid (by unfold insB; rw [HAt.out])
              have hsz := HBq.out.size
              have hj9 : j ≤ 60000 := by omega
              go_wp2_with (at_builtin; go_loud (refine wpList_append_own _ rfl _ _ 22 rfl w1.heap.size 23 i0 (.slice none 0 0) 1 24 Try.underlying22 hi hz0 hz1 hz2 rfl (by decide) _ _ _ rfl (World.ownsRow.alloc HOq.out _) ⟨wq.heap.size, 0, none⟩ 1 1 [.slice none 0 0] rfl rfl (news1 _ _ _) (one1 rfl) (by unfold maxLen; omega) (by omega) (by simp; omega) ?_))
              intro v2 w2 hown2 hgrow2 _
              have hb2 : Below w1.heap.size w1 w2 := (HBq.out.alloc hsz _).grown hgrow2 (by simp; omega) (fun g hg => (World.ownsRow.lt HOq.out g hg).1)
              have hown20 := hown2
              rcases hown20.2 with ⟨-, h0⟩ | ⟨g, cap, cur, rfl, hgb, hgh, hnc, hcm, hcs, ht⟩
              · omega
              rw [Nat.mul_one] at hcs ht
              have HB2 := Lib.hid hb2
              have HOw2 := Lib.hid hown2
              have HGh := Lib.hid hgh
              have HT := Lib.hid ht
              have hwr : IntKind.i64.wrap ((a : Int) + 1) = (a : Int) + 1 := IntWalk.i64_in _ ⟨by omega, by omega⟩
              have hca : ¬ cap = a := by omega
              have hai : (a : Int) ≤ j := by omega
              have haj1 : (a : Int) ≤ (j : Int) + 1 := by omega
              have haj2 : (a : Int) + 1 ≤ (j : Int) + 1 := by omega
              have hjc : (j : Int) + 1 ≤ cap := by omega
              have hac : (a : Int) ≤ cap := by omega
              have hac1 : (a : Int) + 1 ≤ cap := by omega
              have ha0 : (0 : Int) ≤ a := by omega
              have ha1 : (0 : Int) ≤ (a : Int) + 1 := by omega
              obtain ⟨oa, hoa⟩ : ∃ o : Nat, (cap = a + 1 ∧ o = 0) ∨ (cap ≠ a + 1 ∧ o = a + 1) := by
                by_cases e : cap = a + 1
                · exact ⟨0, .inl ⟨e, rfl⟩⟩
                · exact ⟨a + 1, .inr ⟨e, rfl⟩⟩
              have HOa := Lib.hid hoa
              clear hoa hown2 hown20 hgrow2 hb2 hgh ht hsz
              go_wp2_with fail
              refine wp_region_held (S := fun _ => True) (by kernel_rfl) ?_
              change wpAnyH _ _ _ _ _ _ _ _ w2.drew
              have HB2 := Lib.hid (HB2.out.trans (((Dn.refl w2).drew.below _).mono HB2.out.size))
              have HOw2 : Hid (w2.drew.ownsRow w1.heap.size 23 1 (.slice (some ⟨g, 0, none⟩) (j + 1) cap) (j + 1) (vals ++ [.slice none 0 0])) := Lib.hid HOw2.out
              have HGh : Hid (w2.drew.heap[g]? = some (.cells cur 23 (0, 0))) := Lib.hid HGh.out
              generalize w2.drew = w3 at *
              refine wpAnyH_take (i := 0) (v := .slice (some ⟨g, 0, none⟩) (j + 1) cap) rfl (by kernel_rfl) (by kernel_rfl) (by kernel_rfl) (fun _ _ _ h => h) (Or.inl ⟨by rfl, fun w' hS => by go_simp⟩) trivial ?_
              try simp only [Act.put, List.getElem_toArray, List.getElem_cons_zero, List.getElem_cons_succ, List.setIfInBounds_toArray, List.set_cons_zero, List.set_cons_succ]
              refine wpAnyH_take (i := 1) (v := .int .i64 a) rfl (by kernel_rfl) (by kernel_rfl) (by kernel_rfl) (fun _ _ _ h => h) (Or.inl ⟨by rfl, fun w' hS => by go_simp⟩) trivial ?_
              try simp only [Act.put, List.getElem_toArray, List.getElem_cons_zero, List.getElem_cons_succ, List.setIfInBounds_toArray, List.set_cons_zero, List.set_cons_succ]
              refine wpAnyH_take (i := 2) (v := .int .i64 ((a : Int) + 1)) rfl (by kernel_rfl) (by kernel_rfl) (by kernel_rfl) (fun _ _ _ h => h) (Or.inl ⟨by rfl, fun w' hS => by go_simp⟩) trivial ?_
              try simp only [Act.put, List.getElem_toArray, List.getElem_cons_zero, List.getElem_cons_succ, List.setIfInBounds_toArray, List.set_cons_zero, List.set_cons_succ]
              refine wpAnyH_take (i := 3) (v := .slice (some ⟨g, oa, none⟩) (j - a) (cap - (a + 1))) rfl (by kernel_rfl) (by kernel_rfl) (by kernel_rfl) (fun _ _ _ h => h) (Or.inl ⟨by rfl, fun w' hS => by (rcases HOa.out with ⟨g1, g2⟩ | ⟨g1, g2⟩ <;> (rw [g2]; go_simp; try omega))⟩) trivial ?_
              try simp only [Act.put, List.getElem_toArray, List.getElem_cons_zero, List.getElem_cons_succ, List.setIfInBounds_toArray, List.set_cons_zero, List.set_cons_succ]
              refine wpAnyH_take (i := 4) (v := .slice (some ⟨g, 0, none⟩) (j + 1) cap) rfl (by kernel_rfl) (by kernel_rfl) (by kernel_rfl) (fun _ _ _ h => h) (Or.inl ⟨by rfl, fun w' hS => by go_simp⟩) trivial ?_
              try simp only [Act.put, List.getElem_toArray, List.getElem_cons_zero, List.getElem_cons_succ, List.setIfInBounds_toArray, List.set_cons_zero, List.set_cons_succ]
              refine wpAnyH_take (i := 5) (v := .int .i64 a) rfl (by kernel_rfl) (by kernel_rfl) (by kernel_rfl) (fun _ _ _ h => h) (Or.inl ⟨by rfl, fun w' hS => by go_simp⟩) trivial ?_
              try simp only [Act.put, List.getElem_toArray, List.getElem_cons_zero, List.getElem_cons_succ, List.setIfInBounds_toArray, List.set_cons_zero, List.set_cons_succ]
              refine wpAnyH_take (i := 6) (v := .slice (some ⟨g, a, none⟩) (j + 1 - a) (cap - a)) rfl (by kernel_rfl) (by kernel_rfl) (by kernel_rfl) (fun _ _ _ h => h) (Or.inl ⟨by rfl, fun w' hS => by go_simp⟩) trivial ?_
              try simp only [Act.put, List.getElem_toArray, List.getElem_cons_zero, List.getElem_cons_succ, List.setIfInBounds_toArray, List.set_cons_zero, List.set_cons_succ]
              refine wpAnyH_all (rs := [7]) (by kernel_rfl) (by simp) (fun i hi => ?_)
              obtain rfl : i = 7 := by simpa using hi
              refine wpOp_ofW (by rfl) (by rfl) ?_
              have hvlj := HVl.out
              have hcut : (vals.drop a).length = j - a := by rw [List.length_drop, hvlj]
              refine wp_splice (ops := #[]) rfl (.tmp 47) (.tmp 50) 22 22 rfl 23 Try.underlying22 (by rw [hi0]; simp [hz1]) (some ⟨g, oa, none⟩) (some ⟨g, a, none⟩) (j - a) (cap - (a + 1)) (j + 1 - a) (cap - a) rfl rfl g (a + 1) cur.toList 23 (by rw [Array.toArray_toList]; exact HGh.out) (vals.drop a) (by rw [hcut]; show j - a = min (j + 1 - a) (j - a); omega) (fun h0 => ⟨by rw [hcut] at h0; rcases HOa.out with ⟨g1, g2⟩ | ⟨-, g2⟩; (exfalso; omega); rw [g2], ⟨g, a, none⟩, rfl, fun k v hv => by
                have hk : k < j - a := by have := (List.getElem?_eq_some_iff.1 hv).1; omega
                rw [Addr.add_lit, World.ownsRow.cellAt HOw2.out (a + k) (by omega), List.getElem?_append_left (by omega)]
                rw [List.getElem?_drop] at hv
                exact hv⟩) (by rw [hcut, Array.length_toList]; omega) (fun v hv => by
                obtain ⟨i, hi, rfl⟩ := List.mem_iff_getElem.1 (List.mem_of_mem_drop hv)
                exact (HVs.out i _ (List.getElem?_eq_getElem hi)).one) w1.heap.size w1 HB2.out hgb ?_
              intro w4 hg4 hb4
              refine ⟨trivial, ?_⟩
              try simp only [Act.put, List.getElem_toArray, List.getElem_cons_zero, List.getElem_cons_succ, List.setIfInBounds_toArray, List.set_cons_zero, List.set_cons_succ]
              refine wpAnyH_done (by kernel_rfl) ?_ _
              have hsl : (splice cur.toList (a + 1) (vals.drop a)).length = cap := by rw [length_splice _ _ _ (by rw [hcut, Array.length_toList]; omega), Array.length_toList, hcs]
              have f4 : w4.frozen? ⟨g, a, none⟩ = false := by simp [World.frozen?, hg4.out]
              obtain ⟨c4, hc4⟩ : ∃ v, w4.cell? ⟨g, a, none⟩ = some v := ⟨(splice cur.toList (a + 1) (vals.drop a))[a]'(by omega), by
                simp [World.cell?, hg4.out, List.getElem?_eq_getElem (show a < (splice cur.toList (a + 1) (vals.drop a)).length by omega)]⟩
              have hRw := ins_row (w := w4) (base := w1.heap.size) (x := .slice Al l.length cl) (a := a) hvlj (by omega) (by omega) hcm hcs hgb HT.out hg4.out rfl
              have HRw := Lib.hid hRw
              have HBw := Lib.hid (hb4.setCell (p := ⟨g, a, none⟩) hgb (.slice Al l.length cl))
              have HRi := Lib.hid (rows_ins (a := a) (by rw [hvlj, HSl.out]) (by rw [HSl.out]; omega) HVs.out hlv)
              have HVn : Hid ((vals.take a ++ Value.slice Al l.length cl :: vals.drop a).length = j + 1) := Lib.hid (by rw [List.length_append, List.length_take, List.length_cons, hcut]; omega)
              clear hg4 hb4 hsl hRw hlv hcut hvlj hcs hcm hgb hnc hwr
              go_wp2
              go_roundw
              case rel => exact ⟨j + 1, _, by omega, by go_num, HVn.out, HRw.out, fun i z hz => by rw [← H1.out, HSj.out, HIns.out]; exact HRi.out i z hz, HBw.out⟩
              case measure => simp [intOf]; omega
        · have hln := HNn.out
          have ej : srtN AL j = sortB [] AL := by rw [← HFin.out, show j = n by omega]
          have ejl : (sortB [] AL).length = j := by rw [← ej]; exact HSn.out j
          rw [ej] at HVs
          have HFn : Hid (OwnLL wr w.heap.size (.slice Ay j cy) (sortB [] AL)) := Lib.hid ⟨vals, by rw [HVl.out, ejl], by
            rw [ejl]
            refine ⟨HOwn.out.1, ?_⟩
            rcases HOwn.out.2 with hn | ⟨g, cap, cur, e, hg, r⟩
            · exact .inl hn
            · exact .inr ⟨g, cap, cur, e, Nat.le_trans HW1.out.size hg, r⟩, fun i z hz => (HVs.out i z hz).below Hbel.out⟩
          have hnj : ¬ ((j : Int) < n) := by omega
          clear hln ej ejl
          go_wp2
          go_ret
          exact ⟨_, rfl, by rw [← HAL.out]; exact HFn.out, HW1.out.trans (Hbel.out.mono HW1.out.size)⟩
end Go.Proofs.Ytiigcjcolpmafaa

/- The reference's Lie. -/
namespace Go.Proofs.Ytiigcjcolpmafaa
open Go.RowKit

theorem cnt_ge {m : Nat → Int} {s : Int} : ∀ (n : Nat) (l : List Nat), l.Nodup → (∀ x, x ∈ l → x < n ∧ m x = s) → l.length ≤ cnt m s n := by
  intro n
  induction n with
  | zero =>
    intro l _ h
    cases l with
    | nil => exact Nat.le_refl _
    | cons x l => exact absurd (h x (List.mem_cons_self ..)).1 (Nat.not_lt_zero _)
  | succ n ih =>
    intro l hl h
    by_cases hn : n ∈ l
    · have h1 := ih (l.erase n) (hl.erase n) (fun x hx => by
        have h2 := h x (List.mem_of_mem_erase hx)
        refine ⟨?_, h2.2⟩
        have : x ≠ n := fun e => by
          subst e
          exact (List.Nodup.not_mem_erase hl) hx
        omega)
      rw [List.length_erase_of_mem hn] at h1
      have h3 := (h n hn).2
      simp only [cnt]
      rw [if_pos h3]
      omega
    · have h1 := ih l hl (fun x hx => by
        have h2 := h x hx
        refine ⟨?_, h2.2⟩
        have : x ≠ n := fun e => by
          subst e
          exact hn hx
        omega)
      simp only [cnt]
      split <;> omega
theorem tk_cnt {p : PlanD} {s : Nat} {m : Nat → Int} (hok : okPlan p = true) (hs : s < p.nS) : (tkL p s m).length ≤ cnt m (s : Int) p.nH := by
  have hrow := (okPlan_of hok).2.2.2 s hs
  have h := cnt_ge (m := m) (s := (s : Int)) p.nH ((tkL p s m).map (fun r => (p.vS s r.toNat).toNat)) (by
    rw [List.nodup_iff_pairwise_ne, List.pairwise_map]
    refine List.Pairwise.imp_of_mem ?_ (hndL_srt (fun r => m (p.vS s r).toNat) (s : Int) (p.LS s))
    intro a b ha hb hab e
    obtain ⟨i, hi, -, rfl⟩ := hndL_mem.1 ha
    obtain ⟨j, hj, -, rfl⟩ := hndL_mem.1 hb
    rw [Int.toNat_natCast, Int.toNat_natCast] at e
    obtain ⟨g1, -, -⟩ := hrow.2 i hi
    obtain ⟨g2, -, -⟩ := hrow.2 j hj
    have e2 : p.vS s i = p.vS s j := by omega
    have h1 := idxI_self hrow hi
    have h2 := idxI_self hrow hj
    rw [e2, h2] at h1
    omega) (fun x hx => by
    obtain ⟨r, hr, rfl⟩ := List.mem_map.1 hx
    unfold tkL at hr
    obtain ⟨i, hi, e, rfl⟩ := hndL_mem.1 hr
    rw [Int.toNat_natCast]
    obtain ⟨g1, g2, -⟩ := hrow.2 i hi
    exact ⟨by omega, e⟩)
  rwa [List.length_map] at h
theorem find_idx {P : List Int → Bool} : ∀ {ls : List (List Int)} {j : Nat}, j < ls.length → (∀ i, i < j → P (ls.getD i []) = false) → P (ls.getD j []) = true → ls.find? P = some (ls.getD j []) := by
  intro ls
  induction ls with
  | nil => intro j h; exact absurd h (Nat.not_lt_zero _)
  | cons y ls ih =>
    intro j h h1 h2
    cases j with
    | zero => exact List.find?_cons_of_pos h2
    | succ j =>
      have h3 : P y = false := h1 0 (Nat.succ_pos _)
      rw [List.find?_cons_of_neg (by rw [h3]; decide)]
      exact ih (Nat.lt_of_succ_lt_succ h) (fun i hi => h1 (i + 1) (Nat.succ_lt_succ hi)) h2
theorem find_no {P : List Int → Bool} {ls : List (List Int)} (h : ∀ i, i < ls.length → P (ls.getD i []) = false) : ls.find? P = none := by
  refine List.find?_eq_none.2 (fun x hx => ?_)
  obtain ⟨i, hi, e⟩ := List.mem_iff_getElem.1 hx
  have h1 := h i hi
  rw [List.getD_eq_getElem?_getD, List.getElem?_eq_getElem hi, Option.getD_some, e] at h1
  rw [h1]
  decide
theorem deferredL_any (AH AG AP : Option Addr) (cH cG cP s : Nat) (l : List Int) (p : PlanD) (w : World) (hp : PlanArg w AH AG AP cH cG cP (setS p s l.length (fun k => l.getD k 0))) (hok : okPlan p = true) (hs : s < p.nS) (hl : LstOk p s l) :
    Calls Try.prog 72 #[.agg #[.slice AH p.nH cH, .slice AG p.nS cG, .slice AP p.nP cP]] w fun e w' => ∃ A c m, e = .returned (.slice A p.nH c) ∧ Ints w' A p.nH m ∧ (∀ m0, gnB p s m0 m = gnL p s m0 l) ∧ ((tkL p s m).length : Int) ≤ p.pl s ∧ Below w.heap.size w w' := by
  refine (deferred_any AH AG AP cH cG cP (setL p s l) w hp (hl.ok hok)).mono ?_
  rintro e w' ⟨A, c, m, a, rfl, hI, hD, hE, hb⟩
  refine ⟨A, c, m, rfl, hI, fun m0 => gnB_cg hok hs (fun _ _ => rfl) (frM_eq (hl.ok hok) hD hE), ?_, hb⟩
  have h1 := tk_cnt (m := m) hok hs
  have h2 : ((cnt m (s : Int) p.nH : Nat) : Int) ≤ p.pl s := (hD.stb (hl.ok hok) hE).cap s hs
  omega
set_option maxHeartbeats 8000000 in
set_option maxRecDepth 1000000 in
theorem lieR_any (AH AS AP : Option Addr) (cH cS cP s : Nat) (p : PlanD) (w : World) (hp : PlanArg w AH AS AP cH cS cP p) (hok : okPlan p = true) (hs : s < p.nS) :
    Calls Try.prog 39 #[.agg #[.slice AH p.nH cH, .slice AS p.nS cS, .slice AP p.nP cP], .int .i64 s] w fun e w' => ∃ a b, e = .returned (.tuple #[a, b]) ∧ LieS (lieP p s) a b w' ∧ Below w.heap.size w w' := by
  obtain ⟨⟨a1, a2, a3, a4, a5⟩, a6, -, a8⟩ := okPlan_of hok
  have hrow := a8 s hs
  have hLS := hrow.1
  obtain ⟨m0, aq, hD, hE⟩ := da_ex hok
  have hst := hD.stb hok hE
  have hbe : ∀ u, Stb p u → ∀ x, x < p.nH → rHd p x (m0 x) ≤ rHd p x (u x) := fun u hu x hx => hD.best hok hE (hu.unb hok) hx
  have hcap0 : ((tkL p s m0).length : Int) ≤ p.pl s := by
    have h1 := tk_cnt (m := m0) hok hs
    have h2 := hst.cap s hs
    omega
  have HCap := Lib.hid hcap0
  have HGf : Hid (∀ l, gnL p s m0 l = gnL p s (frM p) l) := Lib.hid (fun l => gnB_cg hok hs (frM_eq hok hD hE) (fun _ _ => rfl))
  have HLr : Hid (lieP p s = (lsL p s).find? (gnL p s (frM p))) := Lib.hid (lie_ref hok hs)
  have HLs : Hid (∀ j, j < (lsL p s).length → LstOk p s ((lsL p s).getD j [])) := Lib.hid (fun j hj => by
    have hm : (lsL p s).getD j [] ∈ lsL p s := by
      rw [List.getD_eq_getElem?_getD, List.getElem?_eq_getElem hj, Option.getD_some]
      exact List.getElem_mem _
    generalize (lsL p s).getD j [] = z at *
    unfold lsL at hm
    rw [sortB_mem] at hm
    rcases hm with h | h
    · cases h
    · exact (all_ok hok hs z).1 h)
  have HLd : Hid (lsL p s = sortB [] (alL (p.vS s) (p.LS s) (p.LS s + 1))) := Lib.hid rfl
  have hlb : (lsL p s).length ≤ 55987 := by
    unfold lsL
    rw [← srtN_all, srtN_len]
    exact alL_len _ _ (by omega) _ (by omega)
  have HSt := Lib.hid hst
  have HBe := Lib.hid hbe
  have HOk := Lib.hid hok
  have Hb0 := Lib.hid (below_box w (.cells #[.slice AH p.nH cH, .slice AS p.nS cS, .slice AP p.nP cP] 25))
  have HB0 := Lib.hid (BoxP.newR w AH AS AP p.nH p.nS p.nP cH cS cP)
  have HP := Lib.hid (hp.keep Hb0.out)
  have hss : (s : Int) < p.nS := by omega
  obtain ⟨W, hW⟩ : ∃ W, W = w.alloc (.cells #[.slice AH p.nH cH, .slice AS p.nS cS, .slice AP p.nP cP] 25) := ⟨_, rfl⟩
  rw [← hW] at Hb0 HB0 HP
  have HWW := Lib.hid hW.symm
  clear hp hok hW a5 a6 a8 hrow hD hE hst hbe hcap0
  go_enter Try.func39, Try.ntmps39
  go_wp2_with fail
  rw [HWW.out]
  clear HWW
  refine (rFirst_any AH AS AP cH cS cP p m0 W HP.out HOk.out HSt.out HBe.out).mono ?_
  rintro e w1 ⟨A1, c1, rfl, hI1, hb1⟩
  have HI1 := Lib.hid hI1
  have Hb1 := Lib.hid hb1
  obtain ⟨y0, y1, y2⟩ := HB0.out.keep hb1
  obtain ⟨bS, oS, eS, hcS⟩ := (HP.out.keep hb1).shifts.2.2.2 (by omega)
  subst eS
  obtain ⟨RS, kS, hcR, hAR⟩ := hcS s hs
  have HLi := Lib.hid (lists_ref RS (p.LS s) kS (p.vS s) (by omega) w1 hAR.2.2.2)
  rw [← HLd.out] at HLi
  clear hI1 hb1 hcS hAR
  go_wp2_with fail
  refine HLi.out.mono ?_
  rintro e w2 ⟨x2, rfl, hO, hb2⟩
  obtain ⟨G, cG, eG⟩ := hO.form
  subst eG
  have HO := Lib.hid hO
  have Hb2 := Lib.hid (Hb1.out.trans (hb2.mono Hb1.out.size))
  have HI2 := Lib.hid (HI1.out.keep hb2)
  clear hO hb2 y0 y1 y2 hcR HLi
  go_wp2
  go_loopw [18] (fun x wr => ∃ j : Nat, j ≤ (lsL p s).length ∧ x = .int .i64 j ∧ (∀ i, i < j → gnL p s (frM p) ((lsL p s).getD i []) = false) ∧ Below w2.heap.size w2 wr) (fun x _ => (lsL p s).length - (intOf x).toNat)
  case atStart => exact ⟨0, Nat.zero_le _, rfl, fun i h => absurd h (Nat.not_lt_zero _), Below.refl _ _⟩
  case round =>
    obtain ⟨j, hj, rfl, hno, hbel⟩ := hrel
    have HNo := Lib.hid hno
    have Hbel := Lib.hid hbel
    clear hno hbel
    by_cases hlt : j < (lsL p s).length
    · have HLo := Lib.hid (HLs.out j hlt)
      obtain ⟨G', c', Al, cl, eG, hc, hrow⟩ := HO.out.rowAt hlt
      injection eG with e1 e2 e3
      subst e1 e3
      have hc := old_cell hc Hbel.out
      have hrow := hrow.below Hbel.out
      have harg : ArgI wr Al ((lsL p s).getD j []).length cl (fun k => ((lsL p s).getD j []).getD k 0) := by
        rcases hrow.2 with ⟨e, h0⟩ | ⟨g, cap, cur, e, -, -, hnc, hcm, -⟩
        · injection e with e4 e5 e6
          subst e4 e6
          refine ⟨by omega, by unfold maxLen; omega, fun _ => rfl, ?_⟩
          rw [h0]; exact Ints.zero
        · obtain ⟨A3, c3, e3, -, h3, -⟩ := hrow.form
          injection e3 with e7 e8 e9
          injection e with e4 e5 e6
          rw [e6]
          refine ⟨hnc, hcm, ?_, ?_⟩
          · intro h
            rw [e4] at h
            cases h
          · rw [e7]; exact h3
      have HIns : Hid (gnL p s (frM p) ((lsL p s).getD j []) = true → lieP p s = some ((lsL p s).getD j [])) := Lib.hid (fun h => by rw [HLr.out]; exact find_idx hlt HNo.out h)
      have HNx : Hid (gnL p s (frM p) ((lsL p s).getD j []) = false → ∀ i, i < j + 1 → gnL p s (frM p) ((lsL p s).getD i []) = false) := Lib.hid (fun h i hi => by
        rcases Nat.lt_succ_iff_lt_or_eq.1 hi with g | g
        · exact HNo.out i g
        · rw [g]; exact h)
      have hji : (j : Int) < (lsL p s).length := by omega
      have HArg := Lib.hid harg
      have HGl := Lib.hid (HGf.out ((lsL p s).getD j []))
      generalize (lsL p s).getD j [] = l at *
      clear harg hrow e2
      have Hb3 := Lib.hid (Hb2.out.trans (Hbel.out.mono Hb2.out.size))
      go_wp2_with fail
      clear hc
      have hBc : Below wr.heap.size wr wr.drew := (Dn.refl wr).drew.below _
      have HBx := Lib.hid (HB0.out.keep Hb3.out)
      have HPx := Lib.hid (HP.out.keep Hb3.out)
      have HIx := Lib.hid (HI2.out.keep Hbel.out)
      go_region_held3 (fun w' => w'.cell? ⟨w.heap.size, 0, none⟩ = some (.slice AH p.nH cH) ∧ w'.cell? ⟨w.heap.size, 1, none⟩ = some (.slice (some ⟨bS, oS, none⟩) p.nS cS) ∧ w'.cell? ⟨w.heap.size, 2, none⟩ = some (.slice AP p.nP cP))
        (first | exact (HBx.out.keep hBc))
        (first
          | (go_at_call 73; refine (with_any AH (some ⟨bS, oS, none⟩) AP Al cH cS cP s l.length cl (fun k => l.getD k 0) p _ (HPx.out.keep hBc) hs (by omega) (HArg.out.below hBc)).mono ?_; rintro e w5 ⟨G5, cG5, rfl, hpl5, hb5⟩; have hBc := hBc.trans (hb5.mono hBc.size))
          | (go_at_call 72; refine (deferredL_any AH (some ⟨G5, 0, none⟩) AP cH cG5 cP s l p _ hpl5 HOk.out hs HLo.out).mono ?_; rintro e w6 ⟨A6, c6, m6, rfl, hI6, hg6, hc6, hb6⟩; have hBc := hBc.trans (hb6.mono hBc.size))
          | (go_at_call 71; have hG := gainsR_any AH (some ⟨bS, oS, none⟩) AP A6 A1 cH cS cP c6 c1 s p m0 m6 _ (HPx.out.keep hBc) HOk.out hs hI6 (HIx.out.keep hBc) HCap.out hc6; rw [hg6 m0, HGl.out] at hG; refine Lr.use hG ?_; intro w7 hb7; have hBc := hBc.trans (hb7.mono hBc.size))
          | fail)
      have HBy := Lib.hid (Hbel.out.trans (hBc.mono Hbel.out.size))
      have HArg2 := Lib.hid (HArg.out.below hBc)
      have HBw := Lib.hid (Hb3.out.trans (hBc.mono Hb3.out.size))
      clear hBc hpl5 hb5 hI6 hg6 hc6 hb6 hb7
      cases hgn : gnL p s (frM p) l with
      | true =>
        have HE := Lib.hid (HIns.out hgn)
        clear hgn
        go_wp2
        go_returns
        exact ⟨_, _, rfl, by rw [HE.out]; exact ⟨Al, cl, rfl, rfl, HArg2.out.2.2.2, HArg2.out.1⟩, Hb0.out.trans (HBw.out.mono Hb0.out.size)⟩
      | false =>
        have HN := Lib.hid (HNx.out hgn)
        clear hgn
        go_wp2
        go_roundw
        case rel => exact ⟨j + 1, by omega, by go_num, HN.out, HBy.out⟩
        case measure => simp [intOf]; omega
    · have HE : Hid (lieP p s = none) := Lib.hid (by rw [HLr.out]; exact find_no (fun i hi => HNo.out i (by omega)))
      have hnj : ¬ ((j : Int) < (lsL p s).length) := by omega
      go_wp2
      go_returns
      exact ⟨_, _, rfl, by rw [HE.out]; exact ⟨rfl, rfl⟩, Hb0.out.trans ((Hb2.out.trans (Hbel.out.mono Hb2.out.size)).mono Hb0.out.size)⟩
end Go.Proofs.Ytiigcjcolpmafaa

