/- The rows from a to b among all rows are those between them (theory). -/
import Derived.Test.YtnobbklnnkpdfaaOn
namespace Go.Proofs.Ytnobbklnnkpdfaa
open Go.RowKit

theorem flatMap_filter_if {α β : Type} (q : α → Bool) (f : α → List β) : ∀ l : List α, (l.filter q).flatMap f = l.flatMap (fun x => if q x then f x else []) := by
  intro l
  induction l with
  | nil => rfl
  | cons x l ih =>
    by_cases h : q x = true
    · rw [List.filter_cons_of_pos h, List.flatMap_cons, List.flatMap_cons, ih, if_pos h]
    · rw [List.filter_cons_of_neg h, List.flatMap_cons, ih, if_neg h]
      rfl
theorem filter_flatMap' {α β : Type} (q : β → Bool) (f : α → List β) : ∀ l : List α, (l.flatMap f).filter q = l.flatMap (fun x => (f x).filter q) := by
  intro l
  induction l with
  | nil => rfl
  | cons x l ih => rw [List.flatMap_cons, List.filter_append, ih, List.flatMap_cons]
theorem flatMap_congr' {α β : Type} {f g : α → List β} : ∀ {l : List α}, (∀ x ∈ l, f x = g x) → l.flatMap f = l.flatMap g := by
  intro l
  induction l with
  | nil => intro _; rfl
  | cons x l ih => intro h; rw [List.flatMap_cons, List.flatMap_cons, h x (by simp), ih (fun y hy => h y (List.mem_cons_of_mem _ hy))]
theorem map_flatMap' {α β γ : Type} (g : β → γ) (f : α → List β) : ∀ l : List α, (l.flatMap f).map g = l.flatMap (fun x => (f x).map g) := by
  intro l
  induction l with
  | nil => rfl
  | cons x l ih => rw [List.flatMap_cons, List.map_append, ih, List.flatMap_cons]
/-- Does the row end with b? -/
def endB (b : Nat) (p : List Nat) : Bool := decide (p.getLast? = some b)
theorem flat_one {b : Nat} : ∀ (T : List Nat), T.Nodup → b ∈ T → T.flatMap (fun x => if x = b then [x] else []) = [b] := by
  intro T
  induction T with
  | nil => intro _ h; cases h
  | cons y T ih =>
    intro hn hb
    rw [List.flatMap_cons]
    obtain ⟨h1, h2⟩ := List.nodup_cons.1 hn
    by_cases e : y = b
    · subst e
      rw [if_pos rfl]
      have : T.flatMap (fun x => if x = y then [x] else []) = [] := by
        rw [List.flatMap_eq_nil_iff]
        intro x hx
        rw [if_neg (fun e : x = y => h1 (by rw [← e]; exact hx))]
      rw [this]
      rfl
    · rw [if_neg e, ih h2 ((List.mem_cons.1 hb).resolve_left (fun h => e h.symm))]
      rfl
/-- Those that end with b. -/
theorem ordL_last (T : List Nat) (b : Nat) (hn : T.Nodup) (hb : b ∈ T) : ∀ (s : Nat) (pre : List Nat), b ∉ pre → (ordL T (s + 1) pre).filter (endB b) = (ordL (T.filter (fun x => !(x == b))) s pre).map (fun p => p ++ [b]) := by
  intro s
  induction s with
  | zero =>
    intro pre hp
    show ((T.filter (fun x => !pre.contains x)).flatMap (fun x => [pre ++ [x]])).filter (endB b) = [pre ++ [b]]
    rw [filter_flatMap']
    have e1 : (T.filter (fun x => !pre.contains x)).flatMap (fun x => [pre ++ [x]].filter (endB b)) = ((T.filter (fun x => !pre.contains x)).flatMap (fun x => if x = b then [x] else [])).map (fun x => pre ++ [x]) := by
      rw [map_flatMap']
      refine flatMap_congr' (fun x _ => ?_)
      by_cases e : x = b
      · subst e
        simp [endB]
      · simp [endB, e]
    rw [e1, flat_one _ (hn.filter _) (List.mem_filter.2 ⟨hb, by simpa using hp⟩)]
    rfl
  | succ s ih =>
    intro pre hp
    show ((T.filter (fun x => !pre.contains x)).flatMap (fun x => ordL T (s + 1) (pre ++ [x]))).filter (endB b) = (((T.filter (fun x => !(x == b))).filter (fun x => !pre.contains x)).flatMap (fun x => ordL (T.filter (fun x => !(x == b))) s (pre ++ [x]))).map (fun p => p ++ [b])
    rw [filter_flatMap', map_flatMap']
    rw [show (T.filter (fun x => !(x == b))).filter (fun x => !pre.contains x) = (T.filter (fun x => !pre.contains x)).filter (fun x => !(x == b)) from by rw [List.filter_filter, List.filter_filter]; congr 1; funext x; rw [Bool.and_comm]]
    rw [flatMap_filter_if (fun x => !(x == b)) (fun x => (ordL (T.filter (fun x => !(x == b))) s (pre ++ [x])).map (fun p => p ++ [b]))]
    refine flatMap_congr' (fun x hx => ?_)
    by_cases e : x = b
    · subst e
      simp only [beq_self_eq_true, Bool.not_true, Bool.false_eq_true, if_false]
      rw [List.filter_eq_nil_iff]
      intro p hp'
      obtain ⟨suf, rfl, h1, h2, h3⟩ := (mem_ordL T (s + 1) (pre ++ [x]) p).1 hp'
      unfold endB
      have hne : suf ≠ [] := fun e => by rw [e] at h1; simp at h1
      rw [List.getLast?_append, List.getLast?_eq_some_getLast hne]
      simp only [Option.some_or, Option.some.injEq, decide_eq_true_eq]
      intro e2
      have := (h2 _ (List.getLast_mem hne)).2
      rw [e2] at this
      simp at this
    · have hxe : (!(x == b)) = true := by simp [e]
      rw [if_pos hxe]
      exact ih (pre ++ [x]) (by simp [hp]; exact fun h => e h.symm)
/-- Those that begin with a. -/
theorem ordL_cons (T : List Nat) (a : Nat) : ∀ (s : Nat) (pre : List Nat), ordL T s (a :: pre) = (ordL (T.filter (fun x => !(x == a))) s pre).map (fun p => a :: p) := by
  intro s
  induction s with
  | zero => intro pre; rfl
  | succ s ih =>
    intro pre
    show (T.filter (fun x => !(a :: pre).contains x)).flatMap (fun x => ordL T s (a :: (pre ++ [x]))) = (((T.filter (fun x => !(x == a))).filter (fun x => !pre.contains x)).flatMap (fun x => ordL (T.filter (fun x => !(x == a))) s (pre ++ [x]))).map (fun p => a :: p)
    rw [map_flatMap', show (T.filter (fun x => !(a :: pre).contains x)) = (T.filter (fun x => !(x == a))).filter (fun x => !pre.contains x) from by
      rw [List.filter_filter]
      congr 1
      funext x
      rw [List.contains_cons]
      cases (x == a) <;> cases pre.contains x <;> rfl]
    exact flatMap_congr' (fun x _ => ih _)
theorem ordL_first (T : List Nat) (a : Nat) (hn : T.Nodup) (ha : a ∈ T) (s : Nat) : (ordL T (s + 1) []).filter (fun p => decide (p.head? = some a)) = ordL T s [a] := by
  show ((T.filter (fun x => !([] : List Nat).contains x)).flatMap (fun x => ordL T s ([] ++ [x]))).filter _ = _
  rw [filter_flatMap', show T.filter (fun x => !([] : List Nat).contains x) = T from by simp]
  have e1 : T.flatMap (fun x => (ordL T s ([] ++ [x])).filter (fun p => decide (p.head? = some a))) = (T.flatMap (fun x => if x = a then [x] else [])).flatMap (fun x => ordL T s [x]) := by
    rw [List.flatMap_assoc]
    refine flatMap_congr' (fun x _ => ?_)
    have hh : ∀ p ∈ ordL T s ([] ++ [x]), p.head? = some x := fun p hp => by
      obtain ⟨suf, rfl, -⟩ := (mem_ordL T s ([] ++ [x]) p).1 hp
      rfl
    by_cases e : x = a
    · subst e
      rw [if_pos rfl, List.filter_eq_self.2 (fun p hp => by simp [hh p hp])]
      simp
    · rw [if_neg e, List.filter_eq_nil_iff.2 (fun p hp => by simp [hh p hp, e])]
      rfl
  rw [e1, flat_one T hn ha]
  simp
/-- The rows from a to b. -/
theorem ordL_between {c a b : Nat} (ha : a < c) (hb : b < c) (hab : a ≠ b) (s : Nat) :
    (ordL (List.range c) (s + 2) []).filter (fun p => decide (p.head? = some a) && endB b p) = (ordL (((List.range c).filter (fun x => !(x == a))).filter (fun x => !(x == b))) s []).map (fun m => a :: (m ++ [b])) := by
  have hn : (List.range c).Nodup := List.nodup_range
  have e1 : (ordL (List.range c) (s + 2) []).filter (fun p => decide (p.head? = some a) && endB b p) = ((ordL (List.range c) (s + 1 + 1) []).filter (fun p => decide (p.head? = some a))).filter (endB b) := by
    rw [List.filter_filter]
    congr 1
    funext p
    rw [Bool.and_comm]
  rw [e1, ordL_first _ a hn (List.mem_range.2 ha), ordL_cons, List.filter_map]
  have e2 : (ordL ((List.range c).filter (fun x => !(x == a))) (s + 1) []).filter (endB b ∘ fun p => a :: p) = (ordL ((List.range c).filter (fun x => !(x == a))) (s + 1) []).filter (endB b) := by
    refine List.filter_congr (fun p hp => ?_)
    obtain ⟨suf, e, h1, -⟩ := (mem_ordL _ (s + 1) [] p).1 hp
    have e' : p = suf := e
    subst e'
    cases p with
    | nil => simp at h1
    | cons x p => simp [endB, List.getLast?_cons_cons]
  rw [e2, ordL_last _ b (hn.filter _) (List.mem_filter.2 ⟨List.mem_range.2 hb, by simp [Ne.symm hab]⟩) s [] (by simp), List.map_map]
  rfl
end Go.Proofs.Ytnobbklnnkpdfaa
