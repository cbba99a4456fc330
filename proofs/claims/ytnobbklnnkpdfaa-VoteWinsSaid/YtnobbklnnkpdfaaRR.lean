/- Part of the proof: RR. -/
import Derived.Test.YtnobbklnnkpdfaaSw
import Derived.Test.YtnobbklnnkpdfaaOn
import Derived.Test.YtnobbklnnkpdfaaLl
import Derived.Test.YtnobbklnnkpdfaaRv
import Derived.Test.YtnobbklnnkpdfaaRl
import Derived.Test.YtnobbklnnkpdfaaDa
import Derived.Test.YtnobbklnnkpdfaaKo
import Derived.Test.YtnobbklnnkpdfaaWl
import Derived.Test.YtnobbklnnkpdfaaLi
/- The width of two candidates is the greatest strength of a path between them (theory). -/
namespace Go.Proofs.Ytnobbklnnkpdfaa
open Go.RowKit

/-- The strength of a path: the least margin of one of it over the next; 99 where there is none. -/
def stL (T : Nat → Int) : List Nat → Int
  | [] => 99
  | x :: r => match r with
    | [] => 99
    | y :: _ => min (T (5 * x + y)) (stL T r)
theorem stL_one (T : Nat → Int) (x : Nat) : stL T [x] = 99 := rfl
theorem stL_two (T : Nat → Int) (x y : Nat) (r : List Nat) : stL T (x :: y :: r) = min (T (5 * x + y)) (stL T (y :: r)) := rfl
theorem stL_le (T : Nat → Int) : ∀ p, stL T p ≤ 99 := by
  intro p
  induction p with
  | nil => exact Int.le_refl _
  | cons x r ih =>
    cases r with
    | nil => exact Int.le_refl _
    | cons y r => rw [stL_two]; omega
/-- Two paths in a row. -/
theorem stL_app (T : Nat → Int) (t : Nat) (q : List Nat) : ∀ p : List Nat, stL T (p ++ t :: q) = min (stL T (p ++ [t])) (stL T (t :: q)) := by
  intro p
  induction p with
  | nil => have := stL_le T (t :: q); simp only [List.nil_append, stL_one]; omega
  | cons x p ih =>
    cases p with
    | nil =>
      simp only [List.cons_append, List.nil_append, stL_two, stL_one] at ih ⊢
      have := stL_le T (t :: q)
      omega
    | cons y p =>
      simp only [List.cons_append, stL_two] at ih ⊢
      rw [ih]
      omega
theorem wT_ge {T : Nat → Int} {c : Nat} (hc : c ≤ 5) (h0 : ∀ a, a < c → T (5 * a + a) = 0) : ∀ k, k ≤ c → ∀ x y, x < c → y < c → T (5 * x + y) ≤ wT c T k (5 * x + y) := by
  intro k
  induction k with
  | zero => intro _ x y _ _; exact Int.le_refl _
  | succ k ih =>
    intro hk x y hx hy
    have h1 := ih (by omega) x y hx hy
    have h2 := (wT_cls hc h0 k (by omega)).dia k (by omega)
    show _ ≤ wA k c (wT c T k) c (5 * x + y)
    rw [wA_at hc h2 (by omega) hx hy]
    unfold phW
    split <;> omega
/-- A path from a to b, of more than one, below c. -/
structure WayL (c a b : Nat) (p : List Nat) : Prop where
  fst : p.head? = some a
  lst : p.getLast? = some b
  two : 2 ≤ p.length
  rng : ∀ x ∈ p, x < c
/-- No path without repetition is stronger than the width. -/
theorem stL_width {T : Nat → Int} {c : Nat} (hc : c ≤ 5) (h0 : ∀ a, a < c → T (5 * a + a) = 0) {b : Nat} : ∀ (p : List Nat) (a : Nat), WayL c a b p → p.Nodup → stL T p ≤ wT c T c (5 * a + b) := by
  have hcls := wT_cls hc h0 c (Nat.le_refl _)
  intro p
  induction p with
  | nil => intro a h _; have := h.two; simp at this
  | cons x r ih =>
    intro a h hn
    have e : x = a := by have := h.fst; simpa using this
    subst e
    cases r with
    | nil => have := h.two; simp at this
    | cons y r =>
      have hx := h.rng x (by simp)
      have hy := h.rng y (by simp)
      have hxy : x ≠ y := fun e => by rw [e] at hn; simp at hn
      have hge := wT_ge hc h0 c (Nat.le_refl _) x y hx hy
      rw [stL_two]
      cases r with
      | nil =>
        have e : y = b := by have := h.lst; simpa using this
        subst e
        omega
      | cons z r =>
        have hb : b ∈ y :: z :: r := by
          have := h.lst
          rw [List.getLast?_cons_cons] at this
          exact List.mem_of_getLast? this
        have hxb : x ≠ b := fun e => by rw [← e] at hb; exact (List.nodup_cons.1 hn).1 hb
        have h1 := ih y ⟨rfl, by have := h.lst; rwa [List.getLast?_cons_cons] at this, by simp, fun q hq => h.rng q (List.mem_cons_of_mem _ hq)⟩ (List.nodup_cons.1 hn).2
        have h2 := hcls.cls x b y hx (h.rng b (List.mem_cons_of_mem _ hb)) hy hxb
        omega
/-- Some path is as strong as the width. -/
theorem wT_way {T : Nat → Int} {c : Nat} (hc : c ≤ 5) (h0 : ∀ a, a < c → T (5 * a + a) = 0) (h99 : ∀ a b, a < c → b < c → T (5 * a + b) ≤ 99) : ∀ k, k ≤ c → ∀ a b, a < c → b < c → ∃ p, WayL c a b p ∧ wT c T k (5 * a + b) ≤ stL T p := by
  intro k
  induction k with
  | zero =>
    intro _ a b ha hb
    refine ⟨[a, b], ⟨rfl, rfl, by simp, fun x hx => by simp at hx; rcases hx with rfl | rfl <;> assumption⟩, ?_⟩
    rw [stL_two, stL_one]
    have := h99 a b ha hb
    show T (5 * a + b) ≤ _
    omega
  | succ k ih =>
    intro hk a b ha hb
    have h2 := (wT_cls hc h0 k (by omega)).dia k (by omega)
    show ∃ p, WayL c a b p ∧ wA k c (wT c T k) c (5 * a + b) ≤ stL T p
    rw [wA_at hc h2 (by omega) ha hb]
    obtain ⟨p0, w0, s0⟩ := ih (by omega) a b ha hb
    unfold phW
    split
    · exact ⟨p0, w0, s0⟩
    · obtain ⟨p1, w1, s1⟩ := ih (by omega) a k ha (by omega)
      obtain ⟨p2, w2, s2⟩ := ih (by omega) k b (by omega) hb
      by_cases hm : min (wT c T k (5 * a + k)) (wT c T k (5 * k + b)) ≤ wT c T k (5 * a + b)
      · exact ⟨p0, w0, by omega⟩
      · obtain ⟨q1, rfl⟩ : ∃ q, p1 = q ++ [k] := by
          obtain ⟨q, hq⟩ := List.getLast?_eq_some_iff.1 w1.lst
          exact ⟨q, hq⟩
        obtain ⟨q2, rfl⟩ : ∃ q, p2 = k :: q := by
          obtain ⟨q, hq⟩ := List.head?_eq_some_iff.1 w2.fst
          exact ⟨q, hq⟩
        have t1 := w1.two
        have t2 := w2.two
        refine ⟨q1 ++ k :: q2, ⟨?_, ?_, by simp at t1 t2 ⊢; omega, fun x hx => ?_⟩, ?_⟩
        · have := w1.fst
          cases q1 with
          | nil => simp at t1
          | cons z q1 => simpa using this
        · have := w2.lst
          rw [List.getLast?_append, this]
          rfl
        · rcases List.mem_append.1 hx with h | h
          · exact w1.rng x (by simp [h])
          · exact w2.rng x h
        · rw [stL_app]
          omega
theorem split_rep {α : Type} [DecidableEq α] : ∀ (p : List α), ¬ p.Nodup → ∃ x u m r, p = u ++ x :: m ++ x :: r := by
  intro p
  induction p with
  | nil => intro h; exact absurd List.nodup_nil h
  | cons y p ih =>
    intro h
    by_cases hy : y ∈ p
    · obtain ⟨m, r, e⟩ := List.append_of_mem hy
      exact ⟨y, [], m, r, by rw [e]; simp⟩
    · obtain ⟨x, u, m, r, e⟩ := ih (fun hn => h (List.nodup_cons.2 ⟨hy, hn⟩))
      exact ⟨x, y :: u, m, r, by rw [e]; simp⟩
/-- Cut the circles out. -/
theorem way_cut {T : Nat → Int} {c a b : Nat} (hab : a ≠ b) : ∀ (l : Nat) (p : List Nat), p.length ≤ l → WayL c a b p → ∃ p', WayL c a b p' ∧ p'.Nodup ∧ stL T p ≤ stL T p' := by
  intro l
  induction l with
  | zero => intro p hp h; have := h.two; omega
  | succ l ih =>
    intro p hp h
    by_cases hn : p.Nodup
    · exact ⟨p, h, hn, Int.le_refl _⟩
    · obtain ⟨x, u, m, r, rfl⟩ := split_rep p hn
      have hs : stL T (u ++ x :: m ++ x :: r) ≤ stL T (u ++ x :: r) := by
        have e1 : u ++ x :: m ++ x :: r = u ++ x :: (m ++ x :: r) := by simp
        rw [e1, stL_app T x (m ++ x :: r) u, stL_app T x r u]
        have e2 := stL_app T x r (x :: m)
        simp only [List.cons_append] at e2
        rw [e2]
        omega
      have hh : (u ++ x :: r).head? = some a := by
        have := h.fst
        cases u with
        | nil => simpa using this
        | cons z u => simpa using this
      have hl : (u ++ x :: r).getLast? = some b := by
        have := h.lst
        rw [List.getLast?_append] at this ⊢
        cases e : (x :: r).getLast? with
        | none => simp at e
        | some y => rw [e] at this; simpa using this
      have h2 : 2 ≤ (u ++ x :: r).length := by
        rcases Nat.lt_or_ge (u ++ x :: r).length 2 with h3 | h3
        · cases u with
          | cons z u => simp at h3; omega
          | nil =>
            cases r with
            | cons z r => simp at h3; omega
            | nil =>
              simp at hh hl
              exact absurd (hh.symm.trans hl) hab
        · exact h3
      obtain ⟨p', w', n', s'⟩ := ih (u ++ x :: r) (by simp at hp ⊢; omega) ⟨hh, hl, h2, fun y hy => h.rng y (by simp at hy ⊢; rcases hy with h | h | h <;> simp [h])⟩
      exact ⟨p', w', n', by omega⟩
theorem nodupW_len : ∀ (n : Nat) (l : List Nat), l.Nodup → (∀ x, x ∈ l → x < n) → l.length ≤ n := by
  intro n
  induction n with
  | zero =>
    intro l _ h
    cases l with
    | nil => simp
    | cons x l => exact absurd (h x (by simp)) (by omega)
  | succ n ih =>
    intro l hl h
    have h1 := ih (l.erase n) (hl.erase n) (fun x hx => by
      have h2 := (hl.mem_erase_iff).1 hx
      have := h x h2.2
      omega)
    have h2 : l.length ≤ (l.erase n).length + 1 := by
      by_cases hm : n ∈ l
      · rw [List.length_erase_of_mem hm]; omega
      · rw [List.erase_of_not_mem hm]; omega
    omega

/-- The width is reached by a path without repetition. -/
theorem width_path {T : Nat → Int} {c : Nat} (hc : c ≤ 5) (h0 : ∀ a, a < c → T (5 * a + a) = 0) (h99 : ∀ a b, a < c → b < c → T (5 * a + b) ≤ 99) {a b : Nat} (ha : a < c) (hb : b < c) (hab : a ≠ b) :
    ∃ p, WayL c a b p ∧ p.Nodup ∧ p.length ≤ c ∧ stL T p = wT c T c (5 * a + b) := by
  obtain ⟨p, h1, h2⟩ := wT_way hc h0 h99 c (Nat.le_refl _) a b ha hb
  obtain ⟨p', g1, g2, g3⟩ := way_cut (T := T) hab p.length p (Nat.le_refl _) h1
  have := stL_width hc h0 p' a g1 g2
  refine ⟨p', g1, g2, ?_, by omega⟩
  exact nodupW_len c p' g2 g1.rng
end Go.Proofs.Ytnobbklnnkpdfaa

/- The reference's Some. -/
namespace Go.Proofs.Ytnobbklnnkpdfaa
open Go.RowKit

def intL (l : List Nat) : List Int := List.map (fun x : Nat => (x : Int)) l
def intLL (ls : List (List Nat)) : List (List Int) := ls.map intL
theorem intL_len (l : List Nat) : (intL l).length = l.length := by simp [intL]
theorem intLL_len (ls : List (List Nat)) : (intLL ls).length = ls.length := by simp [intLL]
theorem intL_lst (l : List Nat) : lst l.length (rowF l) = intL l := by
  apply List.ext_getElem?
  intro j
  rcases Nat.lt_or_ge j l.length with h | h
  · rw [lst_get _ _ _ h]
    simp [intL, rowF, List.getD, h]
  · rw [List.getElem?_eq_none (by rw [lst_len]; exact h), List.getElem?_eq_none (by simp [intL]; exact h)]
theorem intLL_at {ls : List (List Nat)} {i : Nat} (h : i < ls.length) : (intLL ls).getD i [] = intL ls[i] := by simp [intLL, List.getD, h]
theorem intL_at (l : List Nat) (k : Nat) : (intL l).getD k 0 = rowF l k := by
  unfold intL rowF
  rcases Nat.lt_or_ge k l.length with h | h
  · simp [List.getD, h]
  · simp [List.getD, List.getElem?_eq_none h]
theorem intLL_app (a b : List (List Nat)) : intLL (a ++ b) = intLL a ++ intLL b := by simp [intLL]
theorem intLL_one (l : List Nat) (x : Nat) : intLL [l ++ [x]] = [lst l.length (rowF l) ++ lst 1 (fun _ => (x : Int))] := by
  rw [intL_lst]
  simp [intLL, intL, lst]
/-- The rows that l and one below x give. -/
def exT (l : List Nat) (x : Nat) : List (List Nat) := ((List.range x).filter (fun y => !l.contains y)).map (fun y => l ++ [y])
theorem exT_in {l : List Nat} {x : Nat} (h : l.contains x = true) : exT l (x + 1) = exT l x := by
  unfold exT
  rw [List.range_succ, List.filter_append]
  simp at h
  simp [h]
theorem exT_out {l : List Nat} {x : Nat} (h : l.contains x = false) : exT l (x + 1) = exT l x ++ [l ++ [x]] := by
  unfold exT
  rw [List.range_succ, List.filter_append]
  simp at h
  simp [h]
theorem idx_has {l : List Nat} {x : Nat} : idxI (rowF l) (x : Int) l.length < 0 ↔ l.contains x = false := by
  rcases idxI_cases (rowF l) (x : Int) l.length with ⟨e, h⟩ | ⟨k, hk, e, h, -⟩
  · rw [e]
    refine ⟨fun _ => ?_, fun _ => by omega⟩
    cases hc : l.contains x with
    | false => rfl
    | true =>
      obtain ⟨j, hj, e2⟩ := List.getElem_of_mem (by simpa using hc)
      exact absurd (show rowF l j = (x : Int) by simp [rowF, List.getD, hj, e2]) (h j hj)
  · rw [e]
    refine ⟨fun h2 => by omega, fun h2 => ?_⟩
    have e3 : l[k] = x := by
      have : ((l.getD k 0 : Nat) : Int) = (x : Int) := h
      rw [show l.getD k 0 = l[k] by simp [List.getD, hk]] at this
      omega
    have : x ∈ l := e3 ▸ List.getElem_mem hk
    simp [this] at h2
theorem some_len {T : List Nat} {k : Nat} {l : List Nat} (h : l ∈ someL T k) : l.length = k := by
  rw [← ordL_some] at h
  obtain ⟨suf, e, h1, -⟩ := (mem_ordL _ _ _ _).1 h
  rw [e]
  simpa using h1
theorem flat_len {α β : Type} (f : α → List β) (B : Nat) : ∀ (L : List α), (∀ x ∈ L, (f x).length ≤ B) → (L.flatMap f).length ≤ B * L.length := by
  intro L
  induction L with
  | nil => intro _; simp
  | cons a L ih =>
    intro h
    have h1 := h a (by simp)
    have h2 := ih (fun x hx => h x (by simp [hx]))
    rw [List.flatMap_cons, List.length_append, List.length_cons, Nat.mul_add]
    omega
theorem exT_len (l : List Nat) (x : Nat) : (exT l x).length ≤ x := by
  unfold exT
  rw [List.length_map]
  exact Nat.le_trans (List.length_filter_le _ _) (by simp)
theorem some_count (N : Nat) : ∀ k, (someL (List.range N) k).length ≤ N ^ k := by
  intro k
  induction k with
  | zero => simp [someL]
  | succ k ih =>
    have h := flat_len (extL (List.range N)) N (someL (List.range N) k) (fun x _ => exT_len x N)
    have : N * (someL (List.range N) k).length ≤ N * N ^ k := Nat.mul_le_mul_left _ ih
    show ((someL (List.range N) k).flatMap (extL (List.range N))).length ≤ _
    rw [Nat.pow_succ, Nat.mul_comm (N ^ k)]
    omega
theorem count_small {N k : Nat} (hN : N ≤ 5) (hk : k ≤ 5) : N ^ k ≤ 3125 := by
  have h1 : N ^ k ≤ 5 ^ k := Nat.pow_le_pow_left hN k
  have h2 : 5 ^ k ≤ 5 ^ 5 := Nat.pow_le_pow_right (by omega) hk
  have h3 : 5 ^ 5 = 3125 := by decide
  omega
theorem take_flat {α β : Type} (f : α → List β) (L : List α) {i : Nat} (h : i < L.length) : (L.take (i + 1)).flatMap f = (L.take i).flatMap f ++ f L[i] := by
  rw [List.take_add_one, List.flatMap_append]
  simp [h]

theorem OwnL.alloc1 {w : World} {base : Nat} {y : Value} {l : List Int} (h : OwnL w base y l) (o : Obj) : OwnL (w.alloc o) base y l := World.ownsRow.alloc h o
theorem OwnLL.alloc1 {w : World} {base : Nat} {x : Value} {ls : List (List Int)} (h : OwnLL w base x ls) (o : Obj) : OwnLL (w.alloc o) base x ls := by
  obtain ⟨vals, h1, h2, h3⟩ := h
  exact ⟨vals, h1, World.ownsRow.alloc h2 o, fun i y hy => World.ownsRow.alloc (h3 i y hy) o⟩
theorem OwnLL.low {w : World} {base : Nat} {x : Value} {ls : List (List Int)} (h : OwnLL w base x ls) (g : Nat) (hg : x.ownBlock = some g) : base ≤ g := by
  obtain ⟨vals, h1, h2, h3⟩ := h
  exact (World.ownsRow.lt h2 g hg).1
theorem OwnLL.cell_eq {w W : World} {base p n c : Nat} {G : Nat} {v : Value} {ls : List (List Int)} (h : OwnLL w base (.slice (some ⟨G, 0, none⟩) n c) ls) (hb : Below w.heap.size w W) (hc : W.cell? ⟨G, p, none⟩ = some v) : w.cell? ⟨G, p, none⟩ = some v := by
  obtain ⟨vals, h1, h2, h3⟩ := h
  have := (World.ownsRow.lt h2 G rfl).2
  rw [← hc]
  exact (hb.cell this).symm

set_option maxHeartbeats 2000000 in
set_option maxRecDepth 1000000 in
theorem some_any (N : Nat) (hN : N ≤ 5) : ∀ (k : Nat), k ≤ N → ∀ w : World,
    Calls Try.prog 41 #[.int .i64 N, .int .i64 k] w fun e w' => ∃ x, e = .returned x ∧ OwnLL w' w.heap.size x (intLL (someL (List.range N) k)) ∧ Below w.heap.size w w' := by
  intro k
  induction k with
  | zero =>
    intro _ w
    have hb := (Below.refl w.heap.size w).alloc (Nat.le_refl _) (.cells #[.slice none 0 0] 23)
    have hh := heap_alloc_new w (.cells #[.slice none 0 0] 23)
    go_enter Try.func41, Try.ntmps41
    go_wp2
    go_ret
    refine ⟨_, rfl, ⟨[.slice none 0 0], rfl, ⟨rfl, .inr ⟨w.heap.size, 1, _, rfl, Nat.le_refl _, hh, Nat.le_refl _, by unfold maxLen; omega, rfl, rfl⟩⟩, fun i y hy => ?_⟩, hb⟩
    rcases i with _ | i
    · simp at hy
      subst hy
      exact OwnL.nil_ _ _
    · simp at hy
  | succ k ih =>
    intro hk w
    have HIh := Lib.hid (ih (by omega) w)
    have hk1 : ((k + 1 : Nat) : Int) - 1 = (k : Int) := by omega
    have HE : Hid (someL (List.range N) (k + 1) = (someL (List.range N) k).flatMap (fun l => exT l N)) := Lib.hid rfl
    have HLen : Hid (∀ l ∈ someL (List.range N) k, l.length = k) := Lib.hid (fun l hl => some_len hl)
    have hcnt := Nat.le_trans (some_count N k) (count_small hN (by omega))
    clear ih
    go_enter Try.func41, Try.ntmps41
    go_wp2_with fail
    refine HIh.out.mono ?_
    rintro e w1 ⟨x, rfl, hx, hb1⟩
    have HX := Lib.hid hx
    have Hb1 := Lib.hid hb1
    obtain ⟨A1, c1, rfl⟩ := hx.form
    rw [intLL_len]
    rw [intLL_len] at HX
    generalize someL (List.range N) k = R at *
    obtain ⟨M, hM⟩ : ∃ M, M = R.length := ⟨_, rfl⟩
    rw [← hM] at HX hcnt ⊢
    have HM := Lib.hid hM
    clear hx hb1 HIh hM
    go_wp2_with fail
    go_loopw [5, 17] (fun s i wr => ∃ j : Nat, j ≤ M ∧ i = .int .i64 j ∧ OwnLL wr w1.heap.size s (intLL ((R.take j).flatMap (fun l => exT l N))) ∧ Below w1.heap.size w1 wr) (fun _ i _ => M - (intOf i).toNat)
    case atStart => exact ⟨0, Nat.zero_le _, rfl, OwnLL.nil_ _ _, Below.refl _ _⟩
    case round =>
      obtain ⟨j, hj, rfl, hO, hB⟩ := hrel
      have HO := Lib.hid hO
      have HB := Lib.hid hB
      clear hO hB
      by_cases hlt : j < M
      · have hjR : j < R.length := by rw [← HM.out]; exact hlt
        obtain ⟨G, cG, cp, Ap, eG, hcell, hArg⟩ := (HX.out.below HB.out).at (p := j) (by rw [intLL_len]; exact hjR)
        injection eG with eG1 eG2 eG3
        subst eG1 eG3
        rw [intLL_at hjR, intL_len] at hcell hArg
        have hll := HLen.out R[j] (List.getElem_mem hjR)
        rw [hll] at hcell hArg
        simp only [intL_at] at hArg
        have HTk : Hid ((R.take (j + 1)).flatMap (fun l => exT l N) = (R.take j).flatMap (fun l => exT l N) ++ exT R[j] N) := Lib.hid (take_flat _ R hjR)
        have HTl : Hid (((R.take j).flatMap (fun l => exT l N)).length ≤ 15625) := Lib.hid (by
          have h1 := flat_len (fun l => exT l N) N (R.take j) (fun x _ => exT_len x N)
          have h2 : (R.take j).length ≤ 3125 := by rw [List.length_take]; omega
          have h3 : N * (R.take j).length ≤ 5 * 3125 := Nat.mul_le_mul hN h2
          omega)
        have HLl := Lib.hid hll
        have HArgK : Hid (∀ W : World, Below w1.heap.size w1 W → ArgI W Ap k cp (rowF R[j])) := Lib.hid (fun W hW => by
          obtain ⟨G', cG', cp', Ap', eG', hcell', hArg'⟩ := (HX.out.below hW).at (p := j) (by rw [intLL_len]; exact hjR)
          injection eG' with eG1 eG2 eG3
          injection eG1 with eG1
          injection eG1 with eG1 eG4
          subst eG1 eG3
          rw [intLL_at hjR, intL_len, hll] at hcell' hArg'
          simp only [intL_at] at hArg'
          have h1 := HX.out.cell_eq HB.out hcell
          have h2 := HX.out.cell_eq hW hcell'
          rw [h1] at h2
          injection h2 with h2
          injection h2 with h3 h4 h5
          rw [h3, h5]
          exact hArg')
        have HArg := Lib.hid hArg
        generalize R[j] = l at *
        generalize (R.take j).flatMap (fun l => exT l N) = P at *
        clear hll hArg eG2 hjR
        have hNp : N ≤ 1000 := by omega
        obtain ⟨Y, rfl⟩ : ∃ Y, Y = wr := ⟨wr, rfl⟩
        go_wp2_with fail
        go_loopw [5, 22] (fun s i wx => ∃ x : Nat, x ≤ N ∧ i = .int .i64 x ∧ OwnLL wx w1.heap.size s (intLL (P ++ exT l x)) ∧ Below w1.heap.size w1 wx) (fun _ i _ => N - (intOf i).toNat)
        case atStart => exact ⟨0, Nat.zero_le _, rfl, (by simpa [exT] using HO.out), HB.out⟩
        case round =>
          obtain ⟨x, hx, rfl, hO, hB⟩ := hrel
          have HOx := Lib.hid hO
          have HBx := Lib.hid hB
          clear hO hB
          by_cases hlx : x < N
          · have HRk := Lib.hid (rank_any Ap k cp (rowF l) (x : Int) wr (HArgK.out _ HBx.out))
            have hbd := idxI_bdV (rowF l) (x : Int) k
            have hidx := idx_has (l := l) (x := x)
            rw [HLl.out] at hidx
            generalize idxI (rowF l) (x : Int) k = r at *
            go_wp2_with fail
            refine Ro.use HRk.out ?_
            intro w3 hd3
            have HO3 := Lib.hid (HOx.out.below (hd3.below _))
            have HB3 := Lib.hid (HBx.out.trans (hd3.below _))
            have HA3 := Lib.hid (HArgK.out _ HB3.out)
            clear hd3 HRk
            cases hc : l.contains x with
            | true =>
              have hr : ¬ r < 0 := fun h => by rw [hidx.1 h] at hc; cases hc
              have HN := Lib.hid (exT_in hc)
              clear hc hidx
              go_wp2
              go_roundw
              case rel => exact ⟨x + 1, by omega, by go_num, by rw [HN.out]; exact HO3.out, HB3.out⟩
              case measure => simp [intOf]; omega
            | false =>
              have hr : r < 0 := hidx.2 hc
              have HN := Lib.hid (exT_out hc)
              clear hc hidx
              have hb0 : Below w3.heap.size w3 (w3.alloc (.cells #[] 3)) := (Below.refl _ _).alloc (Nat.le_refl _) _
              have Hb0 := Lib.hid hb0
              have hs3 := HB3.out.size
              clear hb0
              go_wp2_with (at_builtin; go_loud (refine wpList_append_ints rfl (.tmp 30) (.tmp 31) rfl w3.heap.size (.slice (some ⟨w3.heap.size, 0, none⟩) 0 0) [] rfl (nil_lst2 w3 w3.heap.size (Nat.le_refl _)) Ap k cp (rowF l) rfl (HA3.out.2.2.2.keep Hb0.out) (by simp; omega) (by simp) ?_))
              intro v4 w4 hv4 hg4 _
              replace hv4 : OwnL w4 w3.heap.size v4 (lst k (rowF l)) := hv4
              have hbw4 : Below w3.heap.size w3 w4 := Hb0.out.grown hg4 (by simp) (fun g hg => by
                simp [Value.ownBlock] at hg
                omega)
              obtain ⟨A4, N4, c4, rfl⟩ := hv4.shape
              have HV4 := Lib.hid hv4
              have HB4 := Lib.hid hbw4
              have hs4 := hbw4.size
              clear hv4 hg4 hbw4
              go_wp2_with (at_builtin; go_loud (refine wpList_append_ints rfl (.tmp 32) (.tmp 34) rfl w3.heap.size (.slice A4 N4 c4) (lst k (rowF l)) rfl (World.ownsRow.alloc HV4.out _) (some ⟨w4.heap.size, 0, none⟩) 1 1 (fun _ => (x : Int)) rfl (row1 rfl _).ints (by simp [lst_len]; omega) (by simp; omega) ?_))
              intro v5 w5 hv5 hg5 _
              have hbw5 : Below w3.heap.size w3 w5 := (HB4.out.alloc hs4 _).grown hg5 (by simp; omega) (fun g hg => (World.ownsRow.lt HV4.out g hg).1)
              obtain ⟨A5, N5, c5, rfl⟩ := hv5.shape
              have HV5 := Lib.hid hv5
              have HB5 := Lib.hid hbw5
              have hs5 := hbw5.size
              have HO5 := Lib.hid (HO3.out.below hbw5)
              clear hv5 hg5 hbw5
              go_wp2_with (at_builtin; go_loud (refine wpList_append_ll rfl (.tmp 29) (.tmp 36) rfl w1.heap.size u5 (.slice A5 N5 c5) (intLL (P ++ exT l x)) (lst k (rowF l) ++ lst 1 (fun _ => (x : Int))) rfl (HO5.out.alloc1 _) ⟨w5.heap.size, 0, none⟩ 1 rfl (news1 _ _ _) ((HV5.out.rebase hs3).alloc1 _) (by rw [intLL_len, List.length_append]; have := HTl.out; have := exT_len l x; omega) (by simp; omega) ?_))
              intro v6 w6 hv6 hg6
              have HV6 := Lib.hid hv6
              have hb6 : Below w1.heap.size w1 w6 := ((HB3.out.trans (HB5.out.mono hs3)).alloc (by omega) _).grown hg6 (by simp; omega) (fun g hg => HO5.out.low g hg)
              have HB6 := Lib.hid hb6
              have HE6 := Lib.hid (show intLL (P ++ exT l (x + 1)) = intLL (P ++ exT l x) ++ [lst k (rowF l) ++ lst 1 (fun _ => (x : Int))] by rw [HN.out, ← List.append_assoc, intLL_app (P ++ exT l x), intLL_one, HLl.out])
              clear hv6 hg6 hb6
              go_wp2
              go_roundw
              case rel => exact ⟨x + 1, by omega, by go_num, by rw [HE6.out]; exact HV6.out, HB6.out⟩
              case measure => simp [intOf]; omega
          · have hxn : x = N := by omega
            rw [hxn] at HOx
            have HN := Lib.hid (show OwnLL wr w1.heap.size u5 (intLL ((R.take (j + 1)).flatMap (fun l => exT l N))) by rw [HTk.out]; exact HOx.out)
            go_wp2
            go_roundw
            case rel => exact ⟨j + 1, by omega, by go_num, HN.out, HBx.out⟩
            case measure => simp [intOf]; omega
      · have hjm : j = M := by omega
        have HN := Lib.hid (show intLL (someL (List.range N) (k + 1)) = intLL ((R.take j).flatMap (fun l => exT l N)) by rw [HE.out, List.take_of_length_le (by rw [← HM.out]; omega)])
        have HBw := Lib.hid (Hb1.out.trans (HB.out.mono Hb1.out.size))
        clear hjm
        go_wp2
        go_ret
        exact ⟨_, rfl, by rw [HN.out]; exact HO.out.rebase Hb1.out.size, HBw.out⟩
end Go.Proofs.Ytnobbklnnkpdfaa

/- The reference's strength and width (theory). -/
namespace Go.Proofs.Ytnobbklnnkpdfaa
open Go.RowKit

theorem stL_take (T : Nat → Int) (p : List Nat) {i : Nat} (h1 : 1 ≤ i) (hi : i < p.length) : stL T (p.take (i + 1)) = min (stL T (p.take i)) (T (5 * p.getD (i - 1) 0 + p.getD i 0)) := by
  obtain ⟨m, rfl⟩ : ∃ m, i = m + 1 := ⟨i - 1, by omega⟩
  have e1 : p.take (m + 1) = p.take m ++ [p.getD m 0] := by
    rw [List.take_add_one]; simp [List.getD, show m < p.length by omega]
  have e2 : p.take (m + 1 + 1) = p.take m ++ p.getD m 0 :: [p.getD (m + 1) 0] := by
    rw [List.take_add_one, e1]; simp [List.getD, hi]
  have h9 := stL_le T (p.take m ++ [p.getD m 0])
  rw [e2, e1, stL_app, stL_two, stL_one]
  simp only [Nat.add_sub_cancel]
  omega
theorem stL_take1 (T : Nat → Int) (p : List Nat) : stL T (p.take 1) = 99 := by
  cases p with
  | nil => rfl
  | cons x p => rfl
/-- Does the path go from a to b? -/
def hlB (a b k : Nat) (p : List Nat) : Bool := decide (p.getD 0 0 = a) && decide (p.getD (k - 1) 0 = b)
def mxL (T : Nat → Int) (a b k : Nat) : List (List Nat) → Int → Int
  | [], m => m
  | p :: l, m => mxL T a b k l (if hlB a b k p then max m (stL T p) else m)
theorem mxL_snoc (T : Nat → Int) (a b k : Nat) (p : List Nat) : ∀ (l : List (List Nat)) (m : Int), mxL T a b k (l ++ [p]) m = if hlB a b k p then max (mxL T a b k l m) (stL T p) else mxL T a b k l m := by
  intro l
  induction l with
  | nil => intro m; rfl
  | cons q l ih => intro m; exact ih _
theorem mxL_ge (T : Nat → Int) (a b k : Nat) : ∀ (l : List (List Nat)) (m : Int), m ≤ mxL T a b k l m ∧ ∀ p ∈ l, hlB a b k p = true → stL T p ≤ mxL T a b k l m := by
  intro l
  induction l with
  | nil => intro m; exact ⟨Int.le_refl _, by simp⟩
  | cons q l ih =>
    intro m
    obtain ⟨h1, h2⟩ := ih (if hlB a b k q then max m (stL T q) else m)
    have h3 : m ≤ (if hlB a b k q then max m (stL T q) else m) := by split <;> omega
    refine ⟨Int.le_trans h3 h1, fun p hp hh => ?_⟩
    rcases List.mem_cons.1 hp with rfl | hp
    · rw [if_pos hh] at h1 h3
      show _ ≤ mxL T a b k l (if hlB a b k p then max m (stL T p) else m)
      rw [if_pos hh]
      omega
    · exact h2 p hp hh
theorem mxL_le (T : Nat → Int) (a b k : Nat) {B : Int} : ∀ (l : List (List Nat)) (m : Int), m ≤ B → (∀ p ∈ l, hlB a b k p = true → stL T p ≤ B) → mxL T a b k l m ≤ B := by
  intro l
  induction l with
  | nil => intro m h _; exact h
  | cons q l ih =>
    intro m h hl
    refine ih _ ?_ (fun p hp => hl p (List.mem_cons_of_mem _ hp))
    split
    · rename_i hq
      have := hl q (by simp) hq
      omega
    · exact h
/-- The width over the paths of 2 to s + 1 candidates. -/
def wdL (T : Nat → Int) (c a b : Nat) : Nat → Int
  | 0 => -99
  | s + 1 => mxL T a b (s + 2) (someL (List.range c) (s + 2)) (wdL T c a b s)
theorem mem_some {c k : Nat} {p : List Nat} : p ∈ someL (List.range c) k ↔ p.length = k ∧ (∀ x ∈ p, x < c) ∧ p.Nodup := by
  rw [← ordL_some, mem_ordL]
  constructor
  · rintro ⟨suf, e, h1, h2, h3⟩
    have e' : p = suf := e
    subst e'
    exact ⟨h1, fun x hx => List.mem_range.1 (h2 x hx).1, h3⟩
  · rintro ⟨h1, h2, h3⟩
    exact ⟨p, by simp, h1, fun x hx => ⟨List.mem_range.2 (h2 x hx), by simp⟩, h3⟩
theorem way_hl {c a b k : Nat} {p : List Nat} (hk : 2 ≤ k) (hp : p.length = k) (hr : ∀ x ∈ p, x < c) : hlB a b k p = true ↔ WayL c a b p := by
  have e0 : p.head? = some (p.getD 0 0) := by
    cases p with
    | nil => simp at hp; omega
    | cons x p => rfl
  have e1 : p.getLast? = some (p.getD (k - 1) 0) := by
    rw [List.getLast?_eq_getElem?, hp]
    simp [List.getD, show k - 1 < p.length by omega]
  unfold hlB
  simp only [Bool.and_eq_true, decide_eq_true_eq]
  constructor
  · rintro ⟨h1, h2⟩
    exact ⟨by rw [e0, h1], by rw [e1, h2], by omega, hr⟩
  · intro h
    have h1 := h.fst
    have h2 := h.lst
    rw [e0] at h1
    rw [e1] at h2
    injection h1 with h1
    injection h2 with h2
    exact ⟨h1, h2⟩
theorem wdL_mono (T : Nat → Int) (c a b : Nat) (s : Nat) : wdL T c a b s ≤ wdL T c a b (s + 1) := (mxL_ge T a b (s + 2) _ _).1
theorem wdL_mono' (T : Nat → Int) (c a b : Nat) {s : Nat} : ∀ t, s ≤ t → wdL T c a b s ≤ wdL T c a b t := by
  intro t
  induction t with
  | zero => intro h; rw [show s = 0 by omega]; exact Int.le_refl _
  | succ t ih =>
    intro h
    by_cases e : s = t + 1
    · rw [e]; exact Int.le_refl _
    · exact Int.le_trans (ih (by omega)) (wdL_mono T c a b t)
/-- The reference's width is the width. -/
theorem wdL_width {T : Nat → Int} {c : Nat} (hc : c ≤ 5) (h0 : ∀ a, a < c → T (5 * a + a) = 0) (hT : ∀ a b, a < c → b < c → -99 ≤ T (5 * a + b) ∧ T (5 * a + b) ≤ 99) {a b : Nat} (ha : a < c) (hb : b < c) (hab : a ≠ b) :
    wdL T c a b (c - 1) = wT c T c (5 * a + b) := by
  have hge := wT_ge hc h0 c (Nat.le_refl _) a b ha hb
  have hle : ∀ s, wdL T c a b s ≤ wT c T c (5 * a + b) := by
    intro s
    induction s with
    | zero => have := (hT a b ha hb).1; show (-99 : Int) ≤ _; omega
    | succ s ih =>
      refine mxL_le T a b (s + 2) _ _ ih (fun p hp hh => ?_)
      obtain ⟨h1, h2, h3⟩ := mem_some.1 hp
      exact stL_width hc h0 p a ((way_hl (by omega) h1 h2).1 hh) h3
  obtain ⟨p, h1, h2, h3, h4⟩ := width_path hc h0 (fun a b ha hb => (hT a b ha hb).2) ha hb hab
  have h5 := h1.two
  have h6 : stL T p ≤ wdL T c a b (p.length - 2 + 1) := (mxL_ge T a b (p.length - 2 + 2) _ _).2 p (mem_some.2 ⟨by omega, h1.rng, h2⟩) ((way_hl (by omega) (by omega) h1.rng).2 h1)
  have h7 := wdL_mono' T c a b (s := p.length - 2 + 1) (c - 1) (by omega)
  have h8 := hle (c - 1)
  omega
end Go.Proofs.Ytnobbklnnkpdfaa

/- The reference's Disagreement. -/
namespace Go.Proofs.Ytnobbklnnkpdfaa
open Go.RowKit

/-- How many of the first ballots have b before a. -/
def bhN (v : Nat → Nat → Int) (c a b : Nat) : Nat → Nat
  | 0 => 0
  | i + 1 => bhN v c a b i + (if idxI (v i) (b : Int) c < idxI (v i) (a : Int) c then 1 else 0)
theorem idx_ne {c a b : Nat} {f : Nat → Int} (h : Ord c f) (ha : a < c) (hab : a ≠ b) : idxI f (a : Int) c ≠ idxI f (b : Int) c := by
  intro e
  rcases idxI_cases f (a : Int) c with ⟨-, h1⟩ | ⟨k, hk, e1, h1, -⟩
  · obtain ⟨p, hp, e2, -⟩ := h.place ha
    exact h1 p hp e2
  · rcases idxI_cases f (b : Int) c with ⟨e2, -⟩ | ⟨j, hj, e2, h2, -⟩
    · omega
    · have : k = j := by omega
      subst this
      omega
theorem mrg_bh {v : Nat → Nat → Int} {c a b : Nat} (ha : a < c) (hab : a ≠ b) : ∀ n : Nat, (∀ i, i < n → Ord c (v i)) → mrg v c a b n = (n : Int) - 2 * bhN v c a b n := by
  intro n
  induction n with
  | zero => intro _; rfl
  | succ n ih =>
    intro h
    have h1 := ih (fun i hi => h i (by omega))
    have h2 := idx_ne (h n (by omega)) ha hab
    simp only [mrg, bhN, sg]
    rw [h1]
    generalize idxI (v n) (a : Int) c = x at *
    generalize idxI (v n) (b : Int) c = y at *
    rcases Int.lt_or_le x y with hl | hl
    · rw [if_pos hl, if_neg (by omega)]
      push_cast
      omega
    · rw [if_neg (by omega), if_pos (by omega), if_pos (by omega)]
      push_cast
      omega
theorem bh_bd (v : Nat → Nat → Int) (c a b : Nat) : ∀ n : Nat, bhN v c a b n ≤ n := by
  intro n
  induction n with
  | zero => exact Nat.le_refl _
  | succ n ih => simp only [bhN]; split <;> omega
theorem dG_bh {n c : Nat} {L : Nat → Nat} {v : Nat → Nat → Int} (hok : okBal n L v = true) {o : Nat → Int} (ho : Ord (L 0) o) {i j a b : Nat} (hij : i < j) (hj : j < L 0) (ea : o i = a) (eb : o j = b) (_hc : c = L 0) : dG n (mAll v (L 0) n) o i j = bhN v (L 0) a b n := by
  obtain ⟨h1, ⟨h2, h3⟩, h4⟩ := okBal_iff.1 hok
  have hi := ho.rng i (by omega)
  have hj2 := ho.rng j hj
  have hne := ho.inj i j hij hj
  have ha : a < L 0 := by omega
  have hb : b < L 0 := by omega
  have hab : a ≠ b := fun e => hne (by rw [ea, eb, e])
  have hbd := bh_bd v (L 0) a b n
  unfold dG
  have e1 : (o i).toNat = a := by omega
  have e2 : (o j).toNat = b := by omega
  rw [e1, e2, mAll_at h3 ha hb n (fun i hi => (h4 i hi).2), mrg_bh ha hab n (fun i hi => (h4 i hi).2), Int.tdiv_eq_ediv_of_nonneg (by omega)]
  omega

theorem bal_bdR {n : Nat} {L : Nat → Nat} {v : Nat → Nat → Int} (hok : okBal n L v = true) : ∀ a b, a < L 0 → b < L 0 → -(n : Int) ≤ mAll v (L 0) n (5 * a + b) ∧ mAll v (L 0) n (5 * a + b) ≤ n := by
  obtain ⟨⟨hn1, hn9⟩, ⟨hc1, hc5⟩, hO⟩ := okBal_iff.1 hok
  intro a b ha hb
  rw [mAll_at hc5 ha hb n (fun i hi => (hO i hi).2)]
  exact mrg_bd v (L 0) a b n
set_option maxHeartbeats 1000000 in
set_option maxRecDepth 1000000 in
theorem disR_any (A D : Option Addr) (n cA cap : Nat) (L : Nat → Nat) (v : Nat → Nat → Int) (o : Nat → Int) (w : World) {cR : Nat} (h : ArgR w A n cR L v) (hok : okBal n L v = true) (ho : Ord (L 0) o) (hD : Ints w D (L 0) o) (hcap : L 0 ≤ cap) :
    Ro 69 #[.slice A n cA, .slice D (L 0) cap] w (.int .i64 (disS n (mAll v (L 0) n) o (L 0))) := by
  refine Ro.of ?_
  obtain ⟨⟨hn1, hn9⟩, ⟨hc1, hc5⟩, hO4⟩ := okBal_iff.1 hok
  have H := Lib.hid h
  have HL : Hid (∀ i, i < n → L i = L 0) := Lib.hid (fun i hi => (hO4 i hi).1)
  have HI0 := Lib.hid hD
  have HOr := Lib.hid ho
  have HBh : Hid (∀ i j a b, i < j → j < L 0 → o i = ((a : Nat) : Int) → o j = ((b : Nat) : Int) → dG n (mAll v (L 0) n) o i j = bhN v (L 0) a b n) := Lib.hid (fun i j a b hij hj ea eb => dG_bh hok ho hij hj ea eb rfl)
  have HDs : Hid (disS n (mAll v (L 0) n) o (L 0) = triS (dG n (mAll v (L 0) n) o) (L 0) (L 0)) := Lib.hid rfl
  have hT := bal_bdR hok
  have HBd : Hid (∀ k j, k < L 0 → j < L 0 → 0 ≤ dG n (mAll v (L 0) n) o k j ∧ dG n (mAll v (L 0) n) o k j ≤ 9) := Lib.hid (fun k j hk hj => dG_bd hn9 hT ho hk hj)
  have HRb : Hid (∀ k j, k < L 0 → k + 1 + j ≤ L 0 → 0 ≤ rowS (dG n (mAll v (L 0) n) o) k j ∧ rowS (dG n (mAll v (L 0) n) o) k j ≤ 45) := Lib.hid (fun k j hk hj => by
    have h1 := rowS_bd (g := dG n (mAll v (L 0) n) o) (k := k) (B := 9) (j := j) (fun i hi => HBd.out k (k + 1 + i) hk (by omega))
    omega)
  have HTb : Hid (∀ k, k ≤ L 0 → 0 ≤ triS (dG n (mAll v (L 0) n) o) (L 0) k ∧ triS (dG n (mAll v (L 0) n) o) (L 0) k ≤ 45 * k) := Lib.hid (by
    intro k
    induction k with
    | zero => intro _; simp [triS]
    | succ k ih =>
      intro hk
      have h1 := ih (by omega)
      have h2 := HRb.out k (L 0 - (k + 1)) (by omega) (by omega)
      simp only [triS]
      omega)
  clear h hok ho hD hO4 hT HBd
  generalize disS n (mAll v (L 0) n) o (L 0) = dd at *
  generalize dG n (mAll v (L 0) n) o = gg at *
  generalize hC : L 0 = c at *
  clear hC
  go_enter Try.func69, Try.ntmps69
  go_wp2
  go_loopw [5, 14] (fun s i wr => ∃ k : Nat, k ≤ c ∧ i = .int .i64 k ∧ s = .int .i64 (triS gg c k) ∧ Dn w wr) (fun _ i _ => c - (intOf i).toNat)
  case atStart => exact ⟨0, Nat.zero_le _, rfl, rfl, Dn.refl _⟩
  case round =>
    obtain ⟨k, hk, rfl, rfl, hD⟩ := hrel
    have HD := Lib.hid hD
    clear hD
    by_cases hlt : k < c
    · obtain ⟨bA, oA, rfl, hcA⟩ := (HI0.out.dn HD.out).at hlt
      obtain ⟨x, hx, hx5⟩ : ∃ x : Nat, o k = (x : Int) ∧ x < c := by
        have := HOr.out.rng k hlt
        exact ⟨(o k).toNat, by omega, by omega⟩
      have HX := Lib.hid hx
      rw [hx] at hcA
      clear hx
      have HN : Hid (triS gg c (k + 1) = triS gg c k + rowS gg k (c - (k + 1))) := Lib.hid rfl
      have hS := HTb.out k hk
      generalize triS gg c k = S at *
      obtain ⟨hS1, hS2⟩ := hS
      by_cases hcut : k + 1 = cap
      · have hend : c - (k + 1) = 0 := by omega
        have HN2 : Hid (triS gg c (k + 1) = S) := Lib.hid (by rw [HN.out, hend]; simp [rowS])
        obtain ⟨Y, rfl⟩ : ∃ Y, Y = wr := ⟨wr, rfl⟩
        go_wp2
        go_loopw [5, 24] (fun s i wx => i = .int .i64 0 ∧ s = .int .i64 S ∧ Y = wx) (fun _ _ _ => 0)
        case atStart => exact ⟨rfl, rfl, rfl⟩
        case round =>
          obtain ⟨rfl, rfl, rfl⟩ := hrel
          go_wp2
          go_roundw
          case rel => exact ⟨k + 1, by omega, by go_num, by rw [HN2.out], HD.out⟩
          case measure => simp [intOf]; omega
      · obtain ⟨Y, rfl⟩ : ∃ Y, Y = wr := ⟨wr, rfl⟩
        go_wp2
        go_loopw [5, 24] (fun s i wx => ∃ q : Nat, q ≤ c - (k + 1) ∧ i = .int .i64 q ∧ s = .int .i64 (S + rowS gg k q) ∧ Dn Y wx) (fun _ i _ => c - (intOf i).toNat)
        case atStart => exact ⟨0, Nat.zero_le _, rfl, by simp [rowS], Dn.refl _⟩
        case round =>
          obtain ⟨q, hq, rfl, rfl, hD⟩ := hrel
          have HDq := Lib.hid (HD.out.trans hD)
          have HDy := Lib.hid hD
          clear hD
          by_cases hlq : q < c - (k + 1)
          · have hcB := (HI0.out.dn HDq.out).cell (show k + 1 + q < c by omega)
            obtain ⟨y, hy, hy5⟩ : ∃ y : Nat, o (k + 1 + q) = (y : Int) ∧ y < c := by
              have := HOr.out.rng (k + 1 + q) (by omega)
              exact ⟨(o (k + 1 + q)).toNat, by omega, by omega⟩
            have HG := Lib.hid (HBh.out k (k + 1 + q) x y (by omega) (by omega) HX.out hy)
            rw [hy, ← Nat.add_assoc oA (k + 1) q] at hcB
            have hr1 := HRb.out k q hlt (by omega)
            have HNr : Hid (rowS gg k (q + 1) = rowS gg k q + gg k (k + 1 + q)) := Lib.hid rfl
            clear hy
            generalize rowS gg k q = R at *
            obtain ⟨hr1, hr2⟩ := hr1
            obtain ⟨Z, rfl⟩ : ∃ Z, Z = wr := ⟨wr, rfl⟩
            go_wp2
            go_loopw [5, 30] (fun s i wx => ∃ u : Nat, u ≤ n ∧ i = .int .i64 u ∧ s = .int .i64 (S + R + bhN v c x y u) ∧ Dn Z wx) (fun _ i _ => n - (intOf i).toNat)
            case atStart => exact ⟨0, Nat.zero_le _, rfl, by simp [bhN], Dn.refl _⟩
            case round =>
              obtain ⟨u, hu, rfl, rfl, hD⟩ := hrel
              have HDu := Lib.hid (HDq.out.trans hD)
              have HDz := Lib.hid hD
              clear hD
              by_cases hlu : u < n
              · obtain ⟨bb, oo, A', c', rfl, hc', hAI⟩ := (H.out.below (HDu.out.below _)).at hlu
                rw [HL.out u hlu] at hc' hAI
                have HRa : Hid (∀ w', Dn wr w' → Ro 42 #[.slice A' c c', .int .i64 x] w' (.int .i64 (idxI (v u) x c))) := Lib.hid (fun w' hd => rank_any A' c c' (v u) x w' (hAI.below (hd.below _)))
                have HRy : Hid (∀ w', Dn wr w' → Ro 42 #[.slice A' c c', .int .i64 y] w' (.int .i64 (idxI (v u) y c))) := Lib.hid (fun w' hd => rank_any A' c c' (v u) y w' (hAI.below (hd.below _)))
                have hm := bh_bd v c x y u
                have HM : Hid (bhN v c x y (u + 1) = bhN v c x y u + (if idxI (v u) (y : Int) c < idxI (v u) (x : Int) c then 1 else 0)) := Lib.hid rfl
                clear hAI
                generalize bhN v c x y u = M at *
                generalize idxI (v u) (x : Int) c = ra at *
                generalize idxI (v u) (y : Int) c = ry at *
                go_wp2_with fail
                refine Ro.use (HRy.out _ (Dn.refl _)) ?_
                intro w1 hd1
                go_wp2_with fail
                refine Ro.use (HRa.out _ hd1) ?_
                intro w2 hd2
                have HDn := Lib.hid (HDz.out.trans (hd1.trans hd2))
                clear hd1 hd2
                rcases Int.lt_or_le ry ra with hl | hl
                · have HS : Hid (bhN v c x y (u + 1) = M + 1) := Lib.hid (by rw [HM.out, if_pos hl])
                  go_wp2
                  go_roundw
                  case rel => exact ⟨u + 1, by omega, by go_num, (by rw [HS.out]; exact val_int (by push_cast; omega)), HDn.out⟩
                  case measure => simp [intOf]; omega
                · have HS : Hid (bhN v c x y (u + 1) = M) := Lib.hid (by rw [HM.out, if_neg (by omega)]; rfl)
                  go_wp2
                  go_roundw
                  case rel => exact ⟨u + 1, by omega, by go_num, by rw [HS.out], HDn.out⟩
                  case measure => simp [intOf]; omega
              · have hun : u = n := by omega
                rw [hun]
                clear hun hlu hu
                have HDn := Lib.hid (HDy.out.trans HDz.out)
                go_wp2
                go_roundw
                case rel => exact ⟨q + 1, by omega, by go_num, (by rw [HNr.out, HG.out]; exact val_int (by omega)), HDn.out⟩
                case measure => simp [intOf]; omega
          · have hqc : q = c - (k + 1) := by omega
            rw [hqc]
            clear hqc hlq hq
            go_wp2
            go_roundw
            case rel => exact ⟨k + 1, by omega, by go_num, by rw [HN.out], HDq.out⟩
            case measure => simp [intOf]; omega
    · have hkc : k = c := by omega
      rw [hkc]
      clear hkc hlt hk
      go_wp2
      go_ret
      exact ⟨ret_int (by rw [HDs.out]), HD.out⟩
theorem dis_bd {n c : Nat} {T : Nat → Int} {o : Nat → Int} (hc : c ≤ 5) (hn : n ≤ 9) (hT : ∀ a b, a < c → b < c → -(n : Int) ≤ T (5 * a + b) ∧ T (5 * a + b) ≤ n) (ho : Ord c o) : 0 ≤ disS n T o c ∧ disS n T o c ≤ 225 := by
  have HBd : ∀ k j, k < c → j < c → 0 ≤ dG n T o k j ∧ dG n T o k j ≤ 9 := fun k j hk hj => dG_bd hn hT ho hk hj
  have HRb : ∀ k j, k < c → k + 1 + j ≤ c → 0 ≤ rowS (dG n T o) k j ∧ rowS (dG n T o) k j ≤ 45 := fun k j hk hj => by
    have h1 := rowS_bd (g := dG n T o) (k := k) (B := 9) (j := j) (fun i hi => HBd k (k + 1 + i) hk (by omega))
    omega
  have HTb : ∀ k, k ≤ c → 0 ≤ triS (dG n T o) c k ∧ triS (dG n T o) c k ≤ 45 * k := by
    intro k
    induction k with
    | zero => intro _; simp [triS]
    | succ k ih =>
      intro hk
      have h1 := ih (by omega)
      have h2 := HRb k (c - (k + 1)) (by omega) (by omega)
      simp only [triS]
      omega
  have := HTb c (Nat.le_refl _)
  unfold disS
  omega
end Go.Proofs.Ytnobbklnnkpdfaa

/- The reference's strength and Width. -/
namespace Go.Proofs.Ytnobbklnnkpdfaa
open Go.RowKit

set_option maxHeartbeats 1000000 in
set_option maxRecDepth 1000000 in
theorem strengthR_any (A D : Option Addr) (n cA cap : Nat) (L : Nat → Nat) (v : Nat → Nat → Int) (p : List Nat) (w : World) {cR : Nat} (h : ArgR w A n cR L v) (hok : okBal n L v = true) (h1 : 1 ≤ p.length) (h9 : p.length ≤ 9) (hp : ∀ x ∈ p, x < L 0) (hD : Ints w D p.length (rowF p)) (_hcap : p.length ≤ cap) :
    Lr 52 #[.slice A n cA, .slice D p.length cap] w (.int .i64 (stL (mAll v (L 0) n) p)) := by
  obtain ⟨⟨hn1, hn9⟩, ⟨hc1, hc5⟩, hO⟩ := okBal_iff.1 hok
  have HD := Lib.hid hD
  have HM : Hid (∀ w', Below w.heap.size w w' → ∀ a b : Nat, a < L 0 → b < L 0 → Lr 72 #[.slice A n cA, .int .i64 a, .int .i64 b] w' (.int .i64 (mAll v (L 0) n (5 * a + b)))) := Lib.hid (fun w' hd a b ha hb => by
    rw [mAll_at hc5 ha hb n (fun i hi => (hO i hi).2)]
    exact (Ro.use (margin_any A n cA (L 0) a b L v w' (h.below hd) hn9 (fun i hi => (hO i hi).1)) (fun w'' hd => ⟨rfl, hd.below _⟩)))
  have HB : Hid (∀ a b, a < L 0 → b < L 0 → -(n : Int) ≤ mAll v (L 0) n (5 * a + b) ∧ mAll v (L 0) n (5 * a + b) ≤ n) := Lib.hid (bal_bdR hok)
  have HP : Hid (∀ k, k < p.length → p.getD k 0 < L 0) := Lib.hid (fun k hk => by
    have : p.getD k 0 = p[k] := by simp [List.getD, hk]
    rw [this]
    exact hp _ (List.getElem_mem hk))
  have HS : Hid (∀ k, 1 ≤ k → k < p.length → stL (mAll v (L 0) n) (p.take (k + 1)) = min (stL (mAll v (L 0) n) (p.take k)) (mAll v (L 0) n (5 * p.getD (k - 1) 0 + p.getD k 0))) := Lib.hid (fun k h1 h2 => stL_take _ p h1 h2)
  have HE : Hid (stL (mAll v (L 0) n) (p.take p.length) = stL (mAll v (L 0) n) p) := Lib.hid (by rw [List.take_length])
  have HS1 : Hid (stL (mAll v (L 0) n) (p.take 1) = 99) := Lib.hid (stL_take1 _ p)
  have H99 : Hid (∀ k, stL (mAll v (L 0) n) (p.take k) ≤ 99) := Lib.hid (fun k => stL_le _ _)
  clear h hok hO hD hp
  generalize mAll v (L 0) n = T at *
  rw [← HE.out]
  clear HE
  generalize p.length = M at *
  show Calls _ _ _ _ _
  go_enter Try.func52, Try.ntmps52
  go_wp2_with fail
  go_loopw [5, 6] (fun s i wr => ∃ k : Nat, 1 ≤ k ∧ k ≤ M ∧ i = .int .i64 k ∧ s = .int .i64 (stL T (p.take k)) ∧ Below w.heap.size w wr) (fun _ i _ => M - (intOf i).toNat)
  case atStart => exact ⟨1, by omega, h1, rfl, by rw [HS1.out], Below.refl _ _⟩
  case round =>
    obtain ⟨k, hk1, hk, rfl, rfl, hbel⟩ := hrel
    have Hbel := Lib.hid hbel
    clear hbel
    by_cases hlt : k < M
    · obtain ⟨bD, oD, rfl, hc1'⟩ := HD.out.at hlt
      obtain ⟨bD2, oD2, eD, hc2'⟩ := HD.out.at (show k - 1 < M by omega)
      injection eD with eD
      injection eD with e1 e2 e3
      subst e1 e2
      have k1 : ∀ q : Later wr, q.to.cell? ⟨bD, oD + k, none⟩ = some (.int .i64 (rowF p k)) := fun q => (Below.cell (Hbel.out.trans (q.below.mono Hbel.out.size)) (World.block_lt_of_cell? _ _ hc1')).trans hc1'
      obtain ⟨r, hr⟩ : ∃ r : Nat, r = k - 1 := ⟨_, rfl⟩
      have hwr : IntKind.i64.wrap ((k : Int) - 1) = (r : Int) := by
        rw [IntKind.wrap_i64]
        omega
      have hrM : (r : Int) < (M : Int) := by omega
      have hr0 : (0 : Int) ≤ (r : Int) := by omega
      have k2 : ∀ q : Later wr, q.to.cell? ⟨bD, oD + r, none⟩ = some (.int .i64 (rowF p (k - 1))) := fun q => by
        rw [hr]
        exact (Below.cell (Hbel.out.trans (q.below.mono Hbel.out.size)) (World.block_lt_of_cell? _ _ hc2')).trans hc2'
      have HMc : ∀ q : Later wr, Hid (Lr 72 #[.slice A n cA, .int .i64 (rowF p (k - 1)), .int .i64 (rowF p k)] q.to (.int .i64 (T (5 * p.getD (k - 1) 0 + p.getD k 0)))) := fun q => Lib.hid (HM.out q.to (Hbel.out.trans (q.below.mono Hbel.out.size)) _ _ (HP.out _ (by omega)) (HP.out _ hlt))
      have hb := HB.out _ _ (HP.out (k - 1) (by omega)) (HP.out k hlt)
      have HSk := Lib.hid (HS.out k hk1 hlt)
      have h99 := H99.out k
      clear hc1' hc2' hr
      generalize T (5 * p.getD (k - 1) 0 + p.getD k 0) = t at *
      generalize stL T (p.take k) = m at *
      generalize rowF p (k - 1) = x at *
      generalize rowF p k = y at *
      obtain ⟨hb1, hb2⟩ := hb
      go_wp2_with fail
      refine wp_region_later (by kernel_rfl) (by kernel_rfl) ?_
      repeat
        (with_reducible refine wpQuiet_step ?_
         intro K hK
         go_simp
         first
           | (refine hK _ ?_; clear hK K)
           | (apply Exists.intro
              refine ⟨fun _ => ?_, hK _ ?_⟩
              (go_at_call 72; exact Lr.later (HMc _).out)
              clear hK K))
      with_reducible refine wpQuiet_nil ?_
      intro _ hw'
      obtain ⟨q, hw''⟩ := hw'
      subst hw''
      have Hb2 := Lib.hid (Hbel.out.trans (q.below.mono Hbel.out.size))
      clear k1 k2 HMc
      generalize q.to = w2 at *
      clear q
      go_wp2
      go_roundw
      case rel => exact ⟨k + 1, by omega, by omega, by go_num, by rw [HSk.out]; go_num, Hb2.out⟩
      case measure => simp [intOf]; omega
    · have e : k = M := by omega
      rw [e]
      clear e hlt
      go_wp2
      go_ret
      exact ⟨rfl, Hbel.out⟩

set_option maxHeartbeats 2000000 in
set_option maxRecDepth 1000000 in
theorem widthR_any (A : Option Addr) (n cA a b : Nat) (L : Nat → Nat) (v : Nat → Nat → Int) (w : World) {cR : Nat} (h : ArgR w A n cR L v) (hok : okBal n L v = true) (ha : a < L 0) (hb : b < L 0) :
    Lr 44 #[.slice A n cA, .int .i64 a, .int .i64 b] w (.int .i64 (wdL (mAll v (L 0) n) (L 0) a b (L 0 - 1))) := by
  obtain ⟨⟨hn1, hn9⟩, ⟨hc1, hc5⟩, hO4⟩ := okBal_iff.1 hok
  have H := Lib.hid h
  have HK := Lib.hid hok
  obtain ⟨b0, o0, A0, c0, rfl, hc0, hA0⟩ := h.at (show 0 < n by omega)
  have hc0' : w.cell? ⟨b0, o0, none⟩ = some (.slice A0 (L 0) c0) := hc0
  have HCl := Lib.hid hc0'
  have hcount := some_count (L 0)
  have HSm := Lib.hid (some_any (L 0) hc5)
  have HStr : Hid (∀ (W : World), Below w.heap.size w W → ∀ (k : Nat) (x : List Nat) (Ax : Option Addr) (cx : Nat), 1 ≤ k → k ≤ L 0 → x ∈ someL (List.range (L 0)) k → ArgI W Ax k cx (rowF x) → Lr 52 #[.slice (some ⟨b0, o0, none⟩) n cA, .slice Ax k cx] W (.int .i64 (stL (mAll v (L 0) n) x))) := Lib.hid (fun W hW k x Ax cx h1 h2 hx hA => by
    obtain ⟨e1, e2, e3⟩ := mem_some.1 hx
    have := strengthR_any (some ⟨b0, o0, none⟩) Ax n cA cx L v x W (H.out.below hW) HK.out (by omega) (by omega) e2 (by rw [e1]; exact hA.2.2.2) (by rw [e1]; exact hA.1)
    rwa [e1] at this)
  have HLen : Hid (∀ k x, x ∈ someL (List.range (L 0)) k → x.length = k) := Lib.hid (fun k x hx => some_len hx)
  have HBd : Hid (∀ x, stL (mAll v (L 0) n) x ≤ 99) := Lib.hid (fun x => stL_le _ x)
  have HW0 : Hid (wdL (mAll v (L 0) n) (L 0) a b 0 = -99) := Lib.hid rfl
  have HWs : Hid (∀ s, wdL (mAll v (L 0) n) (L 0) a b (s + 1) = mxL (mAll v (L 0) n) a b (s + 2) (someL (List.range (L 0)) (s + 2)) (wdL (mAll v (L 0) n) (L 0) a b s)) := Lib.hid (fun s => rfl)
  have HCnt : Hid (∀ k, k ≤ L 0 → (someL (List.range (L 0)) k).length ≤ 3125) := Lib.hid (fun k hk => Nat.le_trans (hcount k) (count_small hc5 (by omega)))
  have HWb : Hid (∀ s, -99 ≤ wdL (mAll v (L 0) n) (L 0) a b s ∧ wdL (mAll v (L 0) n) (L 0) a b s ≤ 99) := Lib.hid (fun s => by
    refine ⟨wdL_mono' _ _ _ _ (s := 0) s (Nat.zero_le _), ?_⟩
    induction s with
    | zero => show (-99 : Int) ≤ 99; omega
    | succ s ih => exact mxL_le _ a b (s + 2) _ _ ih (fun p _ _ => stL_le _ p))
  have HMb : Hid (∀ k l m, -99 ≤ m → m ≤ 99 → -99 ≤ mxL (mAll v (L 0) n) a b k l m ∧ mxL (mAll v (L 0) n) a b k l m ≤ 99) := Lib.hid (fun k l m h1 h2 => ⟨Int.le_trans h1 (mxL_ge _ a b k l m).1, mxL_le _ a b k l m h2 (fun p _ _ => stL_le _ p)⟩)
  have hlt0 := World.block_lt_of_cell? _ _ hc0'
  clear h hok hc0 hA0 hO4 hc0' hcount
  have hnI : (0 : Int) < (n : Int) := by omega
  have hnN : 0 < n := by omega
  generalize mAll v (L 0) n = T at *
  generalize L 0 = c at *
  show Calls _ _ _ _ _
  go_enter Try.func44, Try.ntmps44
  go_wp2_with fail
  go_loopw [7, 8] (fun m i wr => ∃ s K : Nat, K = s + 2 ∧ s + 1 ≤ c ∧ i = .int .i64 K ∧ m = .int .i64 (wdL T c a b s) ∧ Below w.heap.size w wr) (fun _ i _ => c + 1 - (intOf i).toNat)
  case atStart => exact ⟨0, 2, rfl, by omega, rfl, by rw [HW0.out], Below.refl _ _⟩
  case round =>
    obtain ⟨s, K, hK, hs, rfl, rfl, hbel⟩ := hrel
    have Hbel := Lib.hid hbel
    have hcl : wr.cell? ⟨b0, o0, none⟩ = some (.slice A0 c c0) := (hbel.cell hlt0).trans HCl.out
    clear hbel
    by_cases hlt : K ≤ c
    · have HSl := Lib.hid (HSm.out K hlt)
      have HLk := Lib.hid (HLen.out K)
      have HMk := Lib.hid (HMb.out K (someL (List.range c) K))
      have hcn := HCnt.out K hlt
      have HWk : Hid (wdL T c a b (s + 1) = mxL T a b K (someL (List.range c) K) (wdL T c a b s)) := Lib.hid (by rw [HWs.out s, hK])
      have HStk := Lib.hid (fun W hW x Ax cx => HStr.out W hW K x Ax cx (by omega) hlt)
      have HSn : Hid (∀ j, ∀ hj : j < (someL (List.range c) K).length, mxL T a b K ((someL (List.range c) K).take (j + 1)) (wdL T c a b s) = if hlB a b K (someL (List.range c) K)[j] then max (mxL T a b K ((someL (List.range c) K).take j) (wdL T c a b s)) (stL T (someL (List.range c) K)[j]) else mxL T a b K ((someL (List.range c) K).take j) (wdL T c a b s)) := Lib.hid (fun j hj => by
        rw [← mxL_snoc, List.take_add_one]
        simp [hj])
      have HMj := Lib.hid (fun l => HMb.out K l (wdL T c a b s) (HWb.out s).1 (HWb.out s).2)
      have hK1 : 2 ≤ K := by omega
      have HKs := Lib.hid hK
      generalize hSe : someL (List.range c) K = S at *
      clear hSe
      generalize wdL T c a b s = m0 at *
      obtain ⟨M, hM⟩ : ∃ M, M = S.length := ⟨_, rfl⟩
      have HM := Lib.hid hM
      rw [← hM] at hcn
      clear hM hK hs
      go_wp2_with fail
      refine (HSl.out _).mono ?_
      rintro e w1 ⟨x, rfl, hx, hb1⟩
      obtain ⟨A1, c1, rfl⟩ := hx.form
      rw [intLL_len, ← HM.out]
      have HX := Lib.hid hx
      have HB1 := Lib.hid (Hbel.out.trans (hb1.mono Hbel.out.size))
      clear hx hb1 hcl
      go_wp2
      go_loopw [7, 26] (fun m i wr => ∃ j : Nat, j ≤ M ∧ i = .int .i64 j ∧ m = .int .i64 (mxL T a b K (S.take j) m0) ∧ Below w1.heap.size w1 wr) (fun _ i _ => M - (intOf i).toNat)
      case atStart => exact ⟨0, Nat.zero_le _, rfl, rfl, Below.refl _ _⟩
      case round =>
        obtain ⟨j, hj, rfl, rfl, hbel⟩ := hrel
        have Hb := Lib.hid hbel
        clear hbel
        by_cases hlj : j < M
        · have hjS : j < S.length := by rw [← HM.out]; exact hlj
          obtain ⟨G, cG, cp, Ap, eG, hcell, hArg⟩ := (HX.out.below Hb.out).at (p := j) (by rw [intLL_len]; exact hjS)
          injection eG with eG1 eG2 eG3
          subst eG1 eG3
          clear eG2
          rw [intLL_at hjS, intL_len, HLk.out S[j] (List.getElem_mem hjS)] at hcell hArg
          simp only [intL_at] at hArg
          have HStr2 := Lib.hid (HStk.out wr (HB1.out.trans (Hb.out.mono HB1.out.size)) S[j] Ap cp (List.getElem_mem hjS) hArg)
          have hb9 := HMj.out (S.take j)
          have h99 := HBd.out S[j]
          have HNx := Lib.hid (HSn.out j hjS)
          obtain ⟨r, hr⟩ : ∃ r : Nat, r = K - 1 := ⟨_, rfl⟩
          have hwr : IntKind.i64.wrap ((K : Int) - 1) = (r : Int) := by
            rw [IntKind.wrap_i64]
            omega
          have hrK : (r : Int) < (K : Int) := by omega
          have hrK' : r < K := by omega
          obtain ⟨bp, op, rfl, hp0⟩ := hArg.2.2.2.at (show 0 < K by omega)
          obtain ⟨bp2, op2, e2, hp1⟩ := hArg.2.2.2.at hrK'
          injection e2 with e2
          injection e2 with e2 e3 e4
          subst e2 e3
          clear e4
          have hp0 : wr.cell? ⟨bp, op, none⟩ = some (.int .i64 (rowF S[j] 0)) := hp0
          have hcn' := hcn
          clear hArg
          have hHl : hlB a b K S[j] = (decide (rowF S[j] 0 = (a : Int)) && decide (rowF S[j] r = (b : Int))) := by
            unfold hlB rowF
            rw [hr]
            congr 1 <;> simp only [Int.natCast_inj]
          rw [hHl] at HNx
          clear hHl hr
          generalize stL T S[j] = t at *
          generalize rowF S[j] 0 = x0 at *
          generalize rowF S[j] r = x1 at *
          generalize mxL T a b K (S.take j) m0 = m1 at *
          obtain ⟨hb9, hb10⟩ := hb9
          by_cases h0 : x0 = (a : Int)
          · have q0 := beq_t h0
            by_cases h1 : x1 = (b : Int)
            · have q1 := beq_t h1
              have HN2 : Hid (mxL T a b K (S.take (j + 1)) m0 = max m1 t) := Lib.hid (by rw [HNx.out, h0, h1]; simp)
              clear h0 h1 HNx
              go_wp2_with fail
              refine Lr.use HStr2.out ?_
              intro w3 hb3
              have Hb3 := Lib.hid (Hb.out.trans (hb3.mono Hb.out.size))
              clear hb3 HStr2 hcell hp0 hp1
              rcases Int.lt_or_le m1 t with hl | hl
              · have HN3 : Hid (mxL T a b K (S.take (j + 1)) m0 = t) := Lib.hid (by rw [HN2.out]; omega)
                go_wp2
                go_roundw
                case rel => exact ⟨j + 1, by omega, by go_num, by rw [HN3.out], Hb3.out⟩
                case measure => simp [intOf]; omega
              · have HN3 : Hid (mxL T a b K (S.take (j + 1)) m0 = m1) := Lib.hid (by rw [HN2.out]; omega)
                go_wp2
                go_roundw
                case rel => exact ⟨j + 1, by omega, by go_num, by rw [HN3.out], Hb3.out⟩
                case measure => simp [intOf]; omega
            · have q1 := beq_f h1
              have HN2 : Hid (mxL T a b K (S.take (j + 1)) m0 = m1) := Lib.hid (by rw [HNx.out]; simp [h1])
              clear h0 h1 HNx
              go_wp2
              go_roundw
              case rel => exact ⟨j + 1, by omega, by go_num, by rw [HN2.out], Hb.out⟩
              case measure => simp [intOf]; omega
          · have q0 := beq_f h0
            have HN2 : Hid (mxL T a b K (S.take (j + 1)) m0 = m1) := Lib.hid (by rw [HNx.out]; simp [h0])
            clear h0 HNx
            go_wp2
            go_roundw
            case rel => exact ⟨j + 1, by omega, by go_num, by rw [HN2.out], Hb.out⟩
            case measure => simp [intOf]; omega
        · have e : S.take j = S := List.take_of_length_le (by rw [← HM.out]; omega)
          rw [e]
          have Hb3 := Lib.hid (HB1.out.trans (Hb.out.mono HB1.out.size))
          rw [← HWk.out]
          clear e
          go_wp2
          go_roundw
          case rel => exact ⟨s + 1, K + 1, by have := HKs.out; omega, by have := HKs.out; omega, by go_num, rfl, Hb3.out⟩
          case measure => simp [intOf]; omega
    · have e : s = c - 1 := by omega
      rw [e]
      clear e hK hs
      go_wp2
      go_ret
      exact ⟨rfl, Hbel.out⟩
end Go.Proofs.Ytnobbklnnkpdfaa

/- The reference's Kemeny. -/
namespace Go.Proofs.Ytnobbklnnkpdfaa
open Go.RowKit

theorem someL_head {c : Nat} (hc : c ≤ 5) : ∃ R, someL (List.range c) c = List.range c :: R := by
  have h := ordL_head c (by omega)
  rw [ordL_some] at h
  cases hr : someL (List.range c) c with
  | nil => rw [hr] at h; cases h
  | cons a R =>
    rw [hr] at h
    injection h with h
    exact ⟨R, by rw [h]⟩

set_option maxHeartbeats 1000000 in
set_option maxRecDepth 1000000 in
theorem kemenyR_any (A : Option Addr) (n cA : Nat) (L : Nat → Nat) (v : Nat → Nat → Int) (w : World) {cR : Nat} (h : ArgR w A n cR L v) (hok : okBal n L v = true) :
    Calls Try.prog 43 #[.slice A n cA] w fun e w' => ∃ A' c', e = .returned (.tuple #[.slice A' (L 0) c', .int .i64 (disS n (mAll v (L 0) n) (rowF (kemL n (mAll v (L 0) n) (L 0))) (L 0))]) ∧
      Ints w' A' (L 0) (rowF (kemL n (mAll v (L 0) n) (L 0))) ∧ Below w.heap.size w w' := by
  obtain ⟨⟨hn1, hn9⟩, ⟨hc1, hc5⟩, hO4⟩ := okBal_iff.1 hok
  have H := Lib.hid h
  have HK := Lib.hid hok
  obtain ⟨b0, o0, A0, c0, rfl, hc0, hA0⟩ := h.at (show 0 < n by omega)
  have hc0' : w.cell? ⟨b0, o0, none⟩ = some (.slice A0 (L 0) c0) := hc0
  obtain ⟨R, hR⟩ := someL_head hc5
  have HSm := Lib.hid (some_any (L 0) hc5 (L 0) (Nat.le_refl _))
  have hcnt := Nat.le_trans (some_count (L 0) (L 0)) (count_small hc5 hc5)
  have HKm : Hid (kemL n (mAll v (L 0) n) (L 0) = minF (fun x => disS n (mAll v (L 0) n) (rowF x) (L 0)) (List.range (L 0)) (someL (List.range (L 0)) (L 0))) := Lib.hid (by unfold kemL; rw [ordL_some])
  have HOrd : Hid (∀ x ∈ someL (List.range (L 0)) (L 0), x.length = L 0 ∧ Ord (L 0) (rowF x)) := Lib.hid (fun x hx => ord_of_mem (by rw [ordL_some]; exact hx))
  have HBd : Hid (∀ x ∈ someL (List.range (L 0)) (L 0), 0 ≤ disS n (mAll v (L 0) n) (rowF x) (L 0) ∧ disS n (mAll v (L 0) n) (rowF x) (L 0) ≤ 225) := Lib.hid (fun x hx => dis_bd hc5 hn9 (bal_bdR hok) (HOrd.out x hx).2)
  have HHead : Hid (someL (List.range (L 0)) (L 0) = List.range (L 0) :: R) := Lib.hid hR
  clear h hok hc0 hA0 hO4 hR
  have hcd : w.drew.cell? ⟨b0, o0, none⟩ = some (.slice A0 (L 0) c0) := hc0'
  have hbd0 : Below w.heap.size w w.drew := (Dn.refl w).drew.below _
  have hlt0 := World.block_lt_of_cell? _ _ hc0'
  have hnI : (0 : Int) < (n : Int) := by omega
  have hnN : 0 < n := by omega
  generalize hS : someL (List.range (L 0)) (L 0) = S at *
  clear hS
  obtain ⟨M, hM⟩ : ∃ M, M = S.length := ⟨_, rfl⟩
  have HM := Lib.hid hM
  rw [← hM] at hcnt
  clear hM
  obtain ⟨D, hD⟩ : ∃ D : List Nat → Int, D = fun x => disS n (mAll v (L 0) n) (rowF x) (L 0) := ⟨_, rfl⟩
  have HDd : Hid (∀ x, disS n (mAll v (L 0) n) (rowF x) (L 0) = D x) := Lib.hid (fun x => by rw [hD])
  have HKm2 : Hid (kemL n (mAll v (L 0) n) (L 0) = minF D (List.range (L 0)) S) := Lib.hid (by rw [hD]; exact HKm.out)
  have HCall : Hid (∀ (W : World), Below w.heap.size w W → ∀ (x : List Nat) (Ax : Option Addr) (cx : Nat), x ∈ S → ArgI W Ax (L 0) cx (rowF x) → Ro 69 #[.slice (some ⟨b0, o0, none⟩) n cA, .slice Ax (L 0) cx] W (.int .i64 (D x))) := Lib.hid (fun W hW x Ax cx hx hA => by
    rw [← HDd.out]
    exact disR_any (some ⟨b0, o0, none⟩) Ax n cA cx L v (rowF x) W (H.out.below hW) HK.out (HOrd.out x hx).2 hA.2.2.2 hA.1)
  have HBd2 : Hid (∀ x ∈ S, 0 ≤ D x ∧ D x ≤ 225) := Lib.hid (fun x hx => by rw [← HDd.out]; exact HBd.out x hx)
  rw [HDd.out, HKm2.out]
  clear HKm HKm2 HDd hD HBd H HK
  generalize L 0 = c at *
  go_enter Try.func43, Try.ntmps43
  go_wp2_with fail
  go_region_held3 (fun w' => w'.cell? ⟨b0, o0, none⟩ = some (.slice A0 c c0)) (first | exact hcd | exact (hbd0.cell hlt0).trans hc0')
    (first
      | (go_at_call 41; refine (HSm.out _).mono ?_; rintro e w1 ⟨x, rfl, hx, hb1⟩; obtain ⟨A1, c1, rfl⟩ := hx.form; rw [intLL_len, ← HM.out]; have hbd0 := hbd0.trans (hb1.mono hbd0.size); have hX := hx)
      | fail)
  have HX := Lib.hid hX
  have HB1 := Lib.hid hbd0
  clear hX hx hb1 hbd0 hcd hc0' HSm
  have HRow : Hid (∀ (W : World), Below w1.heap.size w1 W → ∀ j (hj : j < S.length), ∃ (G c' cp : Nat) (Ap : Option Addr), A1 = some ⟨G, 0, none⟩ ∧ W.cell? ⟨G, j, none⟩ = some (.slice Ap c cp) ∧ ArgI W Ap c cp (rowF S[j])) := Lib.hid (fun W hW j hj => by
    obtain ⟨G, cG, cp, Ap, eG, hcell, hArg⟩ := (HX.out.below hW).at (p := j) (by rw [intLL_len]; exact hj)
    injection eG with eG1
    rw [intLL_at hj, intL_len, (HOrd.out S[j] (List.getElem_mem hj)).1] at hcell hArg
    simp only [intL_at] at hArg
    exact ⟨G, cG, cp, Ap, eG1, hcell, hArg⟩)
  clear HX
  go_wp2
  go_loopw [4, 5, 19] (fun s d i wr => ∃ j : Nat, j ≤ M ∧ i = .int .i64 j ∧ ((j = 0 ∧ s = .slice none 0 0 ∧ d = .int .i64 1073741824) ∨ (0 < j ∧ ∃ A' c', s = .slice A' c c' ∧ Ints wr A' c (rowF (minF D (List.range c) (S.take j))) ∧ d = .int .i64 (D (minF D (List.range c) (S.take j))))) ∧ Dn w1 wr) (fun _ _ i _ => M - (intOf i).toNat)
  case atStart => exact ⟨0, Nat.zero_le _, rfl, .inl ⟨rfl, rfl, rfl⟩, Dn.refl _⟩
  case round =>
    obtain ⟨j, hj, rfl, hor, hDn⟩ := hrel
    have HDn := Lib.hid hDn
    clear hDn
    by_cases hlt : j < M
    · have hjS : j < S.length := by rw [← HM.out]; exact hlt
      obtain ⟨G, cG, cp, Ap, rfl, hcell, hArg⟩ := HRow.out wr (HDn.out.below _) j hjS
      have HC := Lib.hid (HCall.out wr (HB1.out.trans ((HDn.out.below _).mono HB1.out.size)) S[j] Ap cp (List.getElem_mem hjS) hArg)
      have hb := HBd2.out S[j] (List.getElem_mem hjS)
      have HI := Lib.hid hArg.2.2.2
      have HTk : Hid (S.take (j + 1) = S.take j ++ [S[j]]) := Lib.hid (by rw [List.take_add_one]; simp [hjS])
      have HMn : Hid (minF D (List.range c) (S.take (j + 1)) = if D S[j] < D (minF D (List.range c) (S.take j)) then S[j] else minF D (List.range c) (S.take j)) := Lib.hid (by rw [HTk.out]; exact minF_append D S[j] _ _)
      have HZ : Hid (j = 0 → minF D (List.range c) (S.take (j + 1)) = S[j]) := Lib.hid (fun e => by
        subst e
        rw [HTk.out]
        have e1 : S[0] = List.range c := by simp [HHead.out]
        simp [minF, e1])
      clear hArg HTk
      obtain ⟨hb1, hb2⟩ := hb
      rcases hor with ⟨rfl, rfl, rfl⟩ | ⟨hj0, A', c', rfl, hI, rfl⟩
      · have HE := Lib.hid (HZ.out rfl)
        generalize S[0] = x at *
        generalize hdx : D x = dx at *
        have HDx := Lib.hid hdx
        clear hdx
        go_wp2_with fail
        refine Ro.use HC.out ?_
        intro w3 hd3
        have HI3 := Lib.hid (HI.out.dn hd3)
        have HD3 := Lib.hid (HDn.out.trans hd3)
        clear hd3
        go_wp2
        go_roundw
        case rel => exact ⟨1, by omega, by go_num, .inr ⟨by omega, _, _, rfl, by rw [HE.out]; exact HI3.out, by rw [HE.out, HDx.out]⟩, HD3.out⟩
        case measure => simp [intOf]; omega
      · have HIb := Lib.hid hI
        clear hI HZ
        generalize S[j] = x at *
        generalize minF D (List.range c) (S.take j) = m at *
        generalize hdx : D x = dx at *
        generalize hdm : D m = dm at *
        have HDx := Lib.hid hdx
        have HDm := Lib.hid hdm
        clear hdx hdm
        go_wp2_with fail
        refine Ro.use HC.out ?_
        intro w3 hd3
        have HI3 := Lib.hid (HI.out.dn hd3)
        have HIb3 := Lib.hid (HIb.out.dn hd3)
        have HD3 := Lib.hid (HDn.out.trans hd3)
        clear hd3
        rcases Int.lt_or_le dx dm with hl | hl
        · have HE : Hid (minF D (List.range c) (S.take (j + 1)) = x) := Lib.hid (by rw [HMn.out, if_pos hl])
          go_wp2
          go_roundw
          case rel => exact ⟨j + 1, by omega, by go_num, .inr ⟨by omega, _, _, rfl, by rw [HE.out]; exact HI3.out, by rw [HE.out, HDx.out]⟩, HD3.out⟩
          case measure => simp [intOf]; omega
        · have HE : Hid (minF D (List.range c) (S.take (j + 1)) = m) := Lib.hid (by rw [HMn.out, if_neg (by omega)])
          go_wp2
          go_roundw
          case rel => exact ⟨j + 1, by omega, by go_num, .inr ⟨by omega, _, _, rfl, by rw [HE.out]; exact HIb3.out, by rw [HE.out, HDm.out]⟩, HD3.out⟩
          case measure => simp [intOf]; omega
    · have hM0 : 0 < M := by rw [HM.out, HHead.out]; simp
      rcases hor with ⟨rfl, -, -⟩ | ⟨hj0, A', c', rfl, hI, rfl⟩
      · omega
      · have e : S.take j = S := List.take_of_length_le (by rw [← HM.out]; omega)
        rw [e] at hI ⊢
        have HI := Lib.hid hI
        have HBw := Lib.hid (HB1.out.trans ((HDn.out.below _).mono HB1.out.size))
        clear e hI
        go_wp2
        go_ret2
        exact ⟨_, _, rfl, HI.out, HBw.out⟩
end Go.Proofs.Ytnobbklnnkpdfaa

/- The reference's Win. -/
namespace Go.Proofs.Ytnobbklnnkpdfaa
open Go.RowKit

set_option maxHeartbeats 2000000 in
set_option maxRecDepth 1000000 in
theorem winR_3 (A : Option Addr) (n cA : Nat) (L : Nat → Nat) (v : Nat → Nat → Int) (w : World) {cR : Nat} (h : ArgR w A n cR L v) (hok : okBal n L v = true) :
    Lr 18 #[.slice A n cA, .int .i64 3] w (.int .i64 (winF 3 n (L 0) v)) := by
  obtain ⟨⟨hn1, hn9⟩, ⟨hc1, hc5⟩, hO4⟩ := okBal_iff.1 hok
  have H := Lib.hid h
  have HK := Lib.hid hok
  obtain ⟨b0, o0, A0, c0, rfl, hc0, hA0⟩ := h.at (show 0 < n by omega)
  have hc0' : w.cell? ⟨b0, o0, none⟩ = some (.slice A0 (L 0) c0) := hc0
  have HKr := Lib.hid (kemenyR_any _ n cA L v w h hok)
  have h0 := kem0 (n := n) (T := mAll v (L 0) n) hc1
  have HE : Hid (((winF 3 n (L 0) v : Nat) : Int) = rowF (kemL n (mAll v (L 0) n) (L 0)) 0) := Lib.hid (by
    show (((rowF (kemL n (mAll v (L 0) n) (L 0)) 0).toNat : Nat) : Int) = _
    omega)
  clear h hok hc0 hA0 hO4 h0
  have hnI : (0 : Int) < (n : Int) := by omega
  have hnN : 0 < n := by omega
  rw [HE.out]
  show Calls _ _ _ _ _
  go_enter Try.func18, Try.ntmps18
  go_wp2_with fail
  refine HKr.out.mono ?_
  rintro e w1 ⟨A1, c1, rfl, hI, hb1⟩
  obtain ⟨bk, ok, rfl, hck⟩ := hI.at (show 0 < L 0 by omega)
  have hck' : w1.cell? ⟨bk, ok, none⟩ = some (.int .i64 (rowF (kemL n (mAll v (L 0) n) (L 0)) 0)) := hck
  have Hb1 := Lib.hid hb1
  have hcI : (0 : Int) < ((L 0 : Nat) : Int) := by omega
  have hcN : 0 < L 0 := by omega
  clear hb1 hI hck hc0'
  go_wp2
  go_ret
  exact ⟨rfl, Hb1.out⟩

set_option maxHeartbeats 2000000 in
set_option maxRecDepth 1000000 in
theorem winR_2 (A : Option Addr) (n cA : Nat) (L : Nat → Nat) (v : Nat → Nat → Int) (w : World) {cR : Nat} (h : ArgR w A n cR L v) (hok : okBal n L v = true) :
    Lr 18 #[.slice A n cA, .int .i64 2] w (.int .i64 (winF 2 n (L 0) v)) := by
  obtain ⟨⟨hn1, hn9⟩, ⟨hc1, hc5⟩, hO4⟩ := okBal_iff.1 hok
  have hdia := mAll_dia hok
  have hbd := bal_bdR hok
  have hcls := wT_cls (T := mAll v (L 0) n) hc5 hdia (L 0) (Nat.le_refl _)
  obtain ⟨kk, hkk, hst, hno⟩ := str_exists hc1 hcls
  have HF : Hid (∀ a, a < L 0 → strB (wT (L 0) (mAll v (L 0) n) (L 0)) (L 0) a = true → (∀ a', a' < a → strB (wT (L 0) (mAll v (L 0) n) (L 0)) (L 0) a' = false) → winF 2 n (L 0) v = a) := Lib.hid (fun a ha h1 h2 => by
    obtain ⟨g1, g2, g3, g4⟩ := fstF_spec (strB (wT (L 0) (mAll v (L 0) n) (L 0)) (L 0)) (L 0) 0 ⟨a, by omega, by omega, h1⟩
    show fstF (strB (wT (L 0) (mAll v (L 0) n) (L 0)) (L 0)) (L 0) 0 = a
    rcases Nat.lt_trichotomy (fstF (strB (wT (L 0) (mAll v (L 0) n) (L 0)) (L 0)) (L 0) 0) a with hl | hl | hl
    · rw [h2 _ hl] at g3; cases g3
    · exact hl
    · rw [g4 a (by omega) hl] at h1; cases h1)
  have HX : Hid (strB (wT (L 0) (mAll v (L 0) n) (L 0)) (L 0) kk = true) := Lib.hid hst
  have HWd : Hid (∀ W, Below w.heap.size w W → ∀ a b : Nat, a < L 0 → b < L 0 → a ≠ b → Lr 44 #[.slice A n cA, .int .i64 a, .int .i64 b] W (.int .i64 (wT (L 0) (mAll v (L 0) n) (L 0) (5 * a + b)))) := Lib.hid (fun W hW a b ha hb hab => by
    rw [← wdL_width hc5 hdia (fun a b ha hb => by have := hbd a b ha hb; omega) ha hb hab]
    exact widthR_any A n cA a b L v W (h.below hW) hok ha hb)
  obtain ⟨b0, o0, A0, c0, rfl, hc0, hA0⟩ := h.at (show 0 < n by omega)
  have hc0' : w.cell? ⟨b0, o0, none⟩ = some (.slice A0 (L 0) c0) := hc0
  clear h hok hc0 hA0 hO4 hdia hbd hcls hst hno
  have hnI : (0 : Int) < (n : Int) := by omega
  have hnN : 0 < n := by omega
  generalize wT (L 0) (mAll v (L 0) n) (L 0) = W at *
  generalize winF 2 n (L 0) v = z at *
  generalize L 0 = c at *
  show Calls _ _ _ _ _
  go_enter Try.func18, Try.ntmps18
  go_wp2_with fail
  clear hc0'
  go_loopw [34] (fun i wr => ∃ a : Nat, a ≤ c ∧ i = .int .i64 a ∧ (∀ a', a' < a → strB W c a' = false) ∧ Below w.heap.size w wr) (fun i _ => c - (intOf i).toNat)
  case atStart => exact ⟨0, Nat.zero_le _, rfl, fun a' h => absurd h (by omega), Below.refl _ _⟩
  case round =>
    obtain ⟨a, ha, rfl, hno, hbel⟩ := hrel
    have HNo := Lib.hid hno
    have Hbel := Lib.hid hbel
    clear hno hbel
    by_cases hlt : a < c
    · obtain ⟨X, rfl⟩ : ∃ X, X = wr := ⟨wr, rfl⟩
      have HSB : Hid (strB W c a = allB (strP W a) c) := Lib.hid rfl
      go_wp2
      go_loopw [9, 38] (fun s i wx => ∃ b : Nat, b ≤ c ∧ i = .int .i64 b ∧ s = .bool (allB (strP W a) b) ∧ Below X.heap.size X wx) (fun _ i _ => c - (intOf i).toNat)
      case atStart => exact ⟨0, Nat.zero_le _, rfl, rfl, Below.refl _ _⟩
      case round =>
        obtain ⟨b, hb, rfl, rfl, hbel⟩ := hrel
        have HBb := Lib.hid hbel
        clear hbel
        by_cases hlb : b < c
        · have HS : Hid (allB (strP W a) (b + 1) = (allB (strP W a) b && strP W a b)) := Lib.hid rfl
          cases hq : allB (strP W a) b with
          | false =>
            have HS2 : Hid (allB (strP W a) (b + 1) = false) := Lib.hid (by rw [HS.out, hq]; rfl)
            clear hq HS
            go_wp2
            go_roundw
            case rel => exact ⟨b + 1, by omega, by go_num, by rw [HS2.out], HBb.out⟩
            case measure => simp [intOf]; omega
          | true =>
            by_cases hab : a = b
            · have HS2 : Hid (allB (strP W a) (b + 1) = true) := Lib.hid (by rw [HS.out, hq, hab]; simp [strP])
              have q0 := beq_t (show (a : Int) = (b : Int) by omega)
              clear hq HS hab
              go_wp2
              go_roundw
              case rel => exact ⟨b + 1, by omega, by go_num, by rw [HS2.out], HBb.out⟩
              case measure => simp [intOf]; omega
            · have q0 := beq_f (fun e => hab (by omega) : ¬ (a : Int) = (b : Int))
              have HW1 := Lib.hid (HWd.out wr (Hbel.out.trans (HBb.out.mono Hbel.out.size)) a b hlt hlb hab)
              have HS2 : Hid (allB (strP W a) (b + 1) = !decide (W (5 * a + b) < W (5 * b + a))) := Lib.hid (by rw [HS.out, hq]; rfl)
              go_wp2_with fail
              refine Lr.use HW1.out ?_
              intro w2 hb2
              have HBb2 := Lib.hid (HBb.out.trans (hb2.mono HBb.out.size))
              have HW2 := Lib.hid (HWd.out w2 (Hbel.out.trans (HBb2.out.mono Hbel.out.size)) b a hlb hlt (fun e => hab e.symm))
              clear hq HS hab hb2 HW1
              generalize W (5 * a + b) = x at *
              generalize W (5 * b + a) = y at *
              go_wp2_with fail
              refine Lr.use HW2.out ?_
              intro w3 hb3
              have HBb3 := Lib.hid (HBb2.out.trans (hb3.mono HBb2.out.size))
              clear hb3 HW2
              rcases Int.lt_or_le x y with hl | hl
              · have HS3 : Hid (allB (strP W a) (b + 1) = false) := Lib.hid (by rw [HS2.out, decide_eq_true hl]; rfl)
                have d1 : decide (y ≤ x) = false := decide_eq_false (by omega)
                go_wp2
                go_roundw
                case rel => exact ⟨b + 1, by omega, by go_num, by rw [HS3.out], HBb3.out⟩
                case measure => simp [intOf]; omega
              · have HS3 : Hid (allB (strP W a) (b + 1) = true) := Lib.hid (by rw [HS2.out, decide_eq_false (by omega)]; rfl)
                have d1 : decide (y ≤ x) = true := decide_eq_true hl
                go_wp2
                go_roundw
                case rel => exact ⟨b + 1, by omega, by go_num, by rw [HS3.out], HBb3.out⟩
                case measure => simp [intOf]; omega
        · have e : b = c := by omega
          rw [e, ← HSB.out]
          have Hb3 := Lib.hid (Hbel.out.trans (HBb.out.mono Hbel.out.size))
          clear e hlb hb
          cases hq : strB W c a with
          | true =>
            have HR : Hid (z = a) := Lib.hid (HF.out a hlt hq HNo.out)
            clear hq
            go_wp2
            go_ret
            exact ⟨ret_int (by rw [HR.out]), Hb3.out⟩
          | false =>
            have HNo2 : Hid (∀ a', a' < a + 1 → strB W c a' = false) := Lib.hid (fun a' h => by
              by_cases e : a' = a
              · rw [e]; exact hq
              · exact HNo.out a' (by omega))
            clear hq
            go_wp2
            go_roundw
            case rel => exact ⟨a + 1, by omega, by go_num, HNo2.out, Hb3.out⟩
            case measure => simp [intOf]; omega
    · exfalso
      have := HNo.out kk (by omega)
      rw [HX.out] at this
      cases this

set_option maxHeartbeats 2000000 in
set_option maxRecDepth 1000000 in
theorem winR_1 (A : Option Addr) (n cA : Nat) (L : Nat → Nat) (v : Nat → Nat → Int) (w : World) {cR : Nat} (h : ArgR w A n cR L v) (hok : okBal n L v = true) :
    Lr 18 #[.slice A n cA, .int .i64 1] w (.int .i64 (winF 1 n (L 0) v)) := by
  obtain ⟨⟨hn1, hn9⟩, ⟨hc1, hc5⟩, hO4⟩ := okBal_iff.1 hok
  have H := Lib.hid h
  have HO := Lib.hid hO4
  obtain ⟨b0, o0, A0, c0, rfl, hc0, hA0⟩ := h.at (show 0 < n by omega)
  have hc0' : w.cell? ⟨b0, o0, none⟩ = some (.slice A0 (L 0) c0) := hc0
  have HBd : Hid (∀ x k, x < L 0 → k ≤ n → 0 ≤ bdN v (L 0) x k ∧ bdN v (L 0) x k ≤ 45) := Lib.hid (fun x k hx hk => by
    have := bdN_bd hx (n := k) (fun i hi => (hO4 i (by omega)).2)
    have h2 : (k : Int) * (L 0 : Nat) ≤ 9 * 5 := by
      have : k * L 0 ≤ 9 * 5 := Nat.mul_le_mul (by omega) hc5
      omega
    omega)
  have HE : Hid (winF 1 n (L 0) v = topF (fun x => bdN v (L 0) x n) (L 0)) := Lib.hid rfl
  have HT : Hid (∀ a, topF (fun x => bdN v (L 0) x n) (a + 1) = if bdN v (L 0) (topF (fun x => bdN v (L 0) x n) a) n < bdN v (L 0) a n then a else topF (fun x => bdN v (L 0) x n) a) := Lib.hid (fun a => rfl)
  have HTl : Hid (∀ a, 1 ≤ a → topF (fun x => bdN v (L 0) x n) a < a) := Lib.hid (fun a ha => (topF_top _ a ha).1)
  have HS : Hid (∀ a k, bdN v (L 0) a (k + 1) = bdN v (L 0) a k + (((L 0 : Nat) : Int) - 1 - idxI (v k) (a : Int) (L 0))) := Lib.hid (fun a k => rfl)
  clear h hok hc0 hA0 hO4
  have hnI : (0 : Int) < (n : Int) := by omega
  have hnN : 0 < n := by omega
  rw [HE.out]
  clear HE
  generalize hfe : (fun x => bdN v (L 0) x n) = f at *
  have Hf : Hid (∀ x, f x = bdN v (L 0) x n) := Lib.hid (fun x => by rw [← hfe])
  clear hfe
  show Calls _ _ _ _ _
  go_enter Try.func18, Try.ntmps18
  go_wp2_with fail
  clear hc0'
  go_loopw [11, 12, 63] (fun s m i wr => ∃ a : Nat, a ≤ L 0 ∧ i = .int .i64 a ∧ s = .int .i64 (topF f a) ∧ m = .int .i64 (if a = 0 then -1 else bdN v (L 0) (topF f a) n) ∧ Below w.heap.size w wr) (fun _ _ i _ => L 0 - (intOf i).toNat)
  case atStart => exact ⟨0, Nat.zero_le _, rfl, rfl, rfl, Below.refl _ _⟩
  case round =>
    obtain ⟨a, ha, rfl, rfl, rfl, hbel⟩ := hrel
    have Hbel := Lib.hid hbel
    clear hbel
    by_cases hlt : a < L 0
    · obtain ⟨X, rfl⟩ : ∃ X, X = wr := ⟨wr, rfl⟩
      obtain ⟨m0, hm0⟩ : ∃ m0 : Int, m0 = (if a = 0 then -1 else bdN v (L 0) (topF f a) n) := ⟨_, rfl⟩
      have HM0 := Lib.hid hm0
      rw [← hm0]
      clear hm0
      go_wp2
      go_loopw [14, 68] (fun s i wx => ∃ k : Nat, k ≤ n ∧ i = .int .i64 k ∧ s = .int .i64 (bdN v (L 0) a k) ∧ Below X.heap.size X wx) (fun _ i _ => n - (intOf i).toNat)
      case atStart => exact ⟨0, Nat.zero_le _, rfl, rfl, Below.refl _ _⟩
      case round =>
        obtain ⟨k, hk, rfl, rfl, hbel⟩ := hrel
        have HBb := Lib.hid hbel
        clear hbel
        by_cases hlk : k < n
        · obtain ⟨bb, oo, A', c', eA, hc', hAI⟩ := (H.out.below (Hbel.out.trans (HBb.out.mono Hbel.out.size))).at hlk
          injection eA with eA
          injection eA with e1 e2 e3
          subst e1 e2
          clear e3
          rw [(HO.out k hlk).1] at hc' hAI
          have HR := Lib.hid (fun w' (hd : Dn wr w') => rank_any A' (L 0) c' (v k) (a : Int) w' (hAI.below (hd.below _)))
          have HSk := Lib.hid (HS.out a k)
          have hb1 := HBd.out a k hlt (by omega)
          have hb2 := idxI_bdV (v k) (a : Int) (L 0)
          clear hAI
          generalize bdN v (L 0) a k = x at *
          generalize idxI (v k) (a : Int) (L 0) = y at *
          obtain ⟨hb1, hb1'⟩ := hb1
          obtain ⟨hb2, hb2'⟩ := hb2
          go_wp2_with fail
          refine Ro.use (HR.out _ (Dn.refl _)) ?_
          intro w2 hd2
          have HB2 := Lib.hid (HBb.out.trans (hd2.below _))
          clear hd2 HR hc'
          go_wp2
          go_roundw
          case rel => exact ⟨k + 1, by omega, by go_num, by rw [HSk.out], HB2.out⟩
          case measure => simp [intOf]; omega
        · have e : k = n := by omega
          rw [e]
          have Hb3 := Lib.hid (Hbel.out.trans (HBb.out.mono Hbel.out.size))
          have hT := HT.out a
          have hT1 := HTl.out
          have hbn := HBd.out a n hlt (Nat.le_refl _)
          clear e hlk hk
          by_cases h0 : a = 0
          · subst h0
            have e1 : topF f 1 = 0 := by
              have := hT1 1 (by omega)
              omega
            have HE1 := Lib.hid e1
            have hm1 : m0 = -1 := by rw [HM0.out, if_pos rfl]
            subst hm1
            clear hT hT1 e1 HM0
            have Hz : Hid (bdN v (L 0) 0 n = bdN v (L 0) (topF f 1) n) := Lib.hid (by rw [HE1.out])
            generalize bdN v (L 0) 0 n = x at *
            obtain ⟨hx0, hx1⟩ := hbn
            go_wp2
            go_roundw
            case rel => exact ⟨1, by omega, by go_num, by rw [HE1.out], by rw [if_neg (by omega), ← Hz.out], Hb3.out⟩
            case measure => simp [intOf]; omega
          · have hm1 : m0 = bdN v (L 0) (topF f a) n := by rw [HM0.out, if_neg h0]
            have hbm := HBd.out (topF f a) n (by have := hT1 a (by omega); omega) (Nat.le_refl _)
            rw [← hm1] at hbm hT
            have HM1 := Lib.hid hm1
            clear hT1 HM0 hm1
            obtain ⟨x, hx⟩ : ∃ x, x = bdN v (L 0) a n := ⟨_, rfl⟩
            rw [← hx] at hbn hT ⊢
            have HX := Lib.hid hx
            clear hx
            obtain ⟨hx0, hx1⟩ := hbn
            obtain ⟨hy0, hy1⟩ := hbm
            rcases Int.lt_or_le m0 x with hl | hl
            · have HT2 : Hid (topF f (a + 1) = a) := Lib.hid (by rw [hT, if_pos hl])
              clear hT
              go_wp2
              go_roundw
              case rel => exact ⟨a + 1, by omega, by go_num, by rw [HT2.out], by rw [if_neg (by omega), HT2.out, ← HX.out], Hb3.out⟩
              case measure => simp [intOf]; omega
            · have HT2 : Hid (topF f (a + 1) = topF f a) := Lib.hid (by rw [hT, if_neg (by omega)])
              clear hT
              go_wp2
              go_roundw
              case rel => exact ⟨a + 1, by omega, by go_num, by rw [HT2.out], by rw [if_neg (by omega), HT2.out, ← HM1.out], Hb3.out⟩
              case measure => simp [intOf]; omega
    · have e : a = L 0 := by omega
      rw [e]
      clear e hlt ha
      go_wp2
      go_ret
      exact ⟨rfl, Hbel.out⟩
set_option maxHeartbeats 2000000 in
set_option maxRecDepth 1000000 in
theorem winR_0 (A : Option Addr) (n cA : Nat) (L : Nat → Nat) (v : Nat → Nat → Int) (w : World) {cR : Nat} (h : ArgR w A n cR L v) (hok : okBal n L v = true) :
    Lr 18 #[.slice A n cA, .int .i64 0] w (.int .i64 (winF 0 n (L 0) v)) := by
  obtain ⟨⟨hn1, hn9⟩, ⟨hc1, hc5⟩, hO4⟩ := okBal_iff.1 hok
  have H := Lib.hid h
  have HO := Lib.hid hO4
  obtain ⟨b0, o0, A0, c0, rfl, hc0, hA0⟩ := h.at (show 0 < n by omega)
  have hc0' : w.cell? ⟨b0, o0, none⟩ = some (.slice A0 (L 0) c0) := hc0
  have HBd : Hid (∀ x k, k ≤ n → (0 : Int) ≤ ((fpN v x k : Nat) : Int) ∧ ((fpN v x k : Nat) : Int) ≤ 45) := Lib.hid (fun x k hk => by
    have := fpN_le v x k
    omega)
  have HE : Hid (winF 0 n (L 0) v = topF (fun x => (fpN v x n : Int)) (L 0)) := Lib.hid rfl
  have HT : Hid (∀ a, topF (fun x => (fpN v x n : Int)) (a + 1) = if (fpN v (topF (fun x => (fpN v x n : Int)) a) n : Int) < (fpN v a n : Int) then a else topF (fun x => (fpN v x n : Int)) a) := Lib.hid (fun a => rfl)
  have HTl : Hid (∀ a, 1 ≤ a → topF (fun x => (fpN v x n : Int)) a < a) := Lib.hid (fun a ha => (topF_top _ a ha).1)
  have HS : Hid (∀ a k, fpN v a (k + 1) = fpN v a k + (if v k 0 = (a : Int) then 1 else 0)) := Lib.hid (fun a k => rfl)
  clear h hok hc0 hA0 hO4
  have hnI : (0 : Int) < (n : Int) := by omega
  have hnN : 0 < n := by omega
  rw [HE.out]
  clear HE
  generalize hfe : (fun x => (fpN v x n : Int)) = f at *
  have Hf : Hid (∀ x, f x = (fpN v x n : Int)) := Lib.hid (fun x => by rw [← hfe])
  clear hfe
  show Calls _ _ _ _ _
  go_enter Try.func18, Try.ntmps18
  go_wp2_with fail
  clear hc0'
  go_loopw [11, 12, 63] (fun s m i wr => ∃ a : Nat, a ≤ L 0 ∧ i = .int .i64 a ∧ s = .int .i64 (topF f a) ∧ m = .int .i64 (if a = 0 then -1 else ((fpN v (topF f a) n : Nat) : Int)) ∧ Below w.heap.size w wr) (fun _ _ i _ => L 0 - (intOf i).toNat)
  case atStart => exact ⟨0, Nat.zero_le _, rfl, rfl, rfl, Below.refl _ _⟩
  case round =>
    obtain ⟨a, ha, rfl, rfl, rfl, hbel⟩ := hrel
    have Hbel := Lib.hid hbel
    clear hbel
    by_cases hlt : a < L 0
    · obtain ⟨X, rfl⟩ : ∃ X, X = wr := ⟨wr, rfl⟩
      obtain ⟨m0, hm0⟩ : ∃ m0 : Int, m0 = (if a = 0 then -1 else ((fpN v (topF f a) n : Nat) : Int)) := ⟨_, rfl⟩
      have HM0 := Lib.hid hm0
      rw [← hm0]
      clear hm0
      go_wp2
      go_loopw [14, 68] (fun s i wx => ∃ k : Nat, k ≤ n ∧ i = .int .i64 k ∧ s = .int .i64 (((fpN v a k : Nat) : Int)) ∧ Below X.heap.size X wx) (fun _ i _ => n - (intOf i).toNat)
      case atStart => exact ⟨0, Nat.zero_le _, rfl, rfl, Below.refl _ _⟩
      case round =>
        obtain ⟨k, hk, rfl, rfl, hbel⟩ := hrel
        have HBb := Lib.hid hbel
        clear hbel
        by_cases hlk : k < n
        · obtain ⟨bb, oo, A', c', eA, hc', hAI⟩ := (H.out.below (Hbel.out.trans (HBb.out.mono Hbel.out.size))).at hlk
          injection eA with eA
          injection eA with e1 e2 e3
          subst e1 e2
          clear e3
          rw [(HO.out k hlk).1] at hc' hAI
          obtain ⟨bx, ox, rfl, hx0⟩ := hAI.2.2.2.at (show 0 < L 0 by omega)
          have hx0 : wr.cell? ⟨bx, ox, none⟩ = some (.int .i64 (v k 0)) := hx0
          have hcI : (0 : Int) < ((L 0 : Nat) : Int) := by omega
          have hcN : 0 < L 0 := by omega
          have HSk := Lib.hid (HS.out a k)
          have hb1 := HBd.out a k (by omega)
          clear hAI
          generalize fpN v a k = x at *
          obtain ⟨hb1, hb1'⟩ := hb1
          by_cases hxa : v k 0 = (a : Int)
          · have q0 := beq_t hxa
            have HS2 : Hid (fpN v a (k + 1) = x + 1) := Lib.hid (by rw [HSk.out, if_pos hxa])
            clear hxa HSk
            go_wp2
            go_roundw
            case rel => exact ⟨k + 1, by omega, by go_num, by rw [HS2.out]; go_num, HBb.out⟩
            case measure => simp [intOf]; omega
          · have q0 := beq_f hxa
            have HS2 : Hid (fpN v a (k + 1) = x) := Lib.hid (by rw [HSk.out, if_neg hxa]; rfl)
            clear hxa HSk
            go_wp2
            go_roundw
            case rel => exact ⟨k + 1, by omega, by go_num, by rw [HS2.out], HBb.out⟩
            case measure => simp [intOf]; omega
        · have e : k = n := by omega
          rw [e]
          have Hb3 := Lib.hid (Hbel.out.trans (HBb.out.mono Hbel.out.size))
          have hT := HT.out a
          have hT1 := HTl.out
          have hbn := HBd.out a n (Nat.le_refl _)
          clear e hlk hk
          by_cases h0 : a = 0
          · subst h0
            have e1 : topF f 1 = 0 := by
              have := hT1 1 (by omega)
              omega
            have HE1 := Lib.hid e1
            have hm1 : m0 = -1 := by rw [HM0.out, if_pos rfl]
            subst hm1
            clear hT hT1 e1 HM0
            have Hz : Hid (((fpN v 0 n : Nat) : Int) = ((fpN v (topF f 1) n : Nat) : Int)) := Lib.hid (by rw [HE1.out])
            generalize ((fpN v 0 n : Nat) : Int) = x at *
            obtain ⟨hx0, hx1⟩ := hbn
            go_wp2
            go_roundw
            case rel => exact ⟨1, by omega, by go_num, by rw [HE1.out], by rw [if_neg (by omega), ← Hz.out], Hb3.out⟩
            case measure => simp [intOf]; omega
          · have hm1 : m0 = ((fpN v (topF f a) n : Nat) : Int) := by rw [HM0.out, if_neg h0]
            have hbm := HBd.out (topF f a) n (Nat.le_refl _)
            rw [← hm1] at hbm hT
            have HM1 := Lib.hid hm1
            clear hT1 HM0 hm1
            obtain ⟨x, hx⟩ : ∃ x, x = ((fpN v a n : Nat) : Int) := ⟨_, rfl⟩
            rw [← hx] at hbn hT ⊢
            have HX := Lib.hid hx
            clear hx
            obtain ⟨hx0, hx1⟩ := hbn
            obtain ⟨hy0, hy1⟩ := hbm
            rcases Int.lt_or_le m0 x with hl | hl
            · have HT2 : Hid (topF f (a + 1) = a) := Lib.hid (by rw [hT, if_pos hl])
              clear hT
              go_wp2
              go_roundw
              case rel => exact ⟨a + 1, by omega, by go_num, by rw [HT2.out], by rw [if_neg (by omega), HT2.out, ← HX.out], Hb3.out⟩
              case measure => simp [intOf]; omega
            · have HT2 : Hid (topF f (a + 1) = topF f a) := Lib.hid (by rw [hT, if_neg (by omega)])
              clear hT
              go_wp2
              go_roundw
              case rel => exact ⟨a + 1, by omega, by go_num, by rw [HT2.out], by rw [if_neg (by omega), HT2.out, ← HM1.out], Hb3.out⟩
              case measure => simp [intOf]; omega
    · have e : a = L 0 := by omega
      rw [e]
      clear e hlt ha
      go_wp2
      go_ret
      exact ⟨rfl, Hbel.out⟩
theorem winR_any (r : Nat) (hr : r < 4) (A : Option Addr) (n cA : Nat) (L : Nat → Nat) (v : Nat → Nat → Int) (w : World) {cR : Nat} (h : ArgR w A n cR L v) (hok : okBal n L v = true) :
    Lr 18 #[.slice A n cA, .int .i64 (r : Int)] w (.int .i64 (winF r n (L 0) v)) := by
  obtain rfl | rfl | rfl | rfl : r = 0 ∨ r = 1 ∨ r = 2 ∨ r = 3 := by omega
  · exact winR_0 A n cA L v w h hok
  · exact winR_1 A n cA L v w h hok
  · exact winR_2 A n cA L v w h hok
  · exact winR_3 A n cA L v w h hok
end Go.Proofs.Ytnobbklnnkpdfaa

/- The reference's Lie. -/
namespace Go.Proofs.Ytnobbklnnkpdfaa
open Go.RowKit

/-- What the reference's Lie answers: the first voter who gains, and the first order by which they do, or that nobody gains. -/
def LieQ (w : World) (r n : Nat) (L : Nat → Nat) (v : Nat → Nat → Int) (e : Ending) (w' : World) : Prop :=
  ((∃ i x p q A' c', i < n ∧ (∀ i', i' < i → ∀ y ∈ ordL (List.range (L 0)) (L 0) [], gainB r n (L 0) v i' y = false) ∧ ordL (List.range (L 0)) (L 0) [] = p ++ x :: q ∧ (∀ y ∈ p, gainB r n (L 0) v i y = false) ∧ gainB r n (L 0) v i x = true ∧
      e = .returned (.tuple #[.int .i64 (i : Int), .slice A' (L 0) c', .int .i64 0]) ∧ Ints w' A' (L 0) (rowF x)) ∨
    ((∀ i, i < n → ∀ y ∈ ordL (List.range (L 0)) (L 0) [], gainB r n (L 0) v i y = false) ∧ e = .returned (.tuple #[.int .i64 0, .slice none 0 0, .int .i64 4]))) ∧ Below w.heap.size w w'

/-- A copy of the rows' slices, one of them replaced. -/
theorem argR_put {w0 W : World} {base G cap n i m : Nat} {L : Nat → Nat} {v : Nat → Nat → Int} {X : Nat → Value} {Ap : Option Addr} {cp : Nat} {f : Nat → Int} (hn9 : n ≤ 9) (hm : L i = m)
    (hX : ∀ k, k < n → ∃ A' c', X k = .slice A' (L k) c' ∧ ArgI w0 A' (L k) c' (v k)) (hp : ArgI w0 Ap m cp f)
    (hown : W.ownsRow base 23 1 (.slice (some ⟨G, 0, none⟩) n cap) n ((List.range n).map X)) (hb : Below w0.heap.size w0 (W.setCell ⟨G, i, none⟩ (.slice Ap m cp))) :
    ArgR (W.setCell ⟨G, i, none⟩ (.slice Ap m cp)) (some ⟨G, 0, none⟩) n n L (fun k => if k = i then f else v k) := by
  obtain ⟨hst, hg⟩ := World.ownsRow.stored hown i (.slice Ap m cp)
  refine ⟨Nat.le_refl _, by omega, (fun e => by cases e), fun _ => ⟨G, 0, rfl, fun k hk => ?_⟩⟩
  have hl : (((List.range n).map X).set i (.slice Ap m cp)).length = n := by simp
  have hc := World.ownsRow.cellAt hst k (by omega)
  rw [Nat.zero_add]
  by_cases e : k = i
  · subst e
    rw [List.getElem?_set_self (by simp; omega)] at hc
    exact ⟨Ap, cp, by rw [hm]; exact hc, by simp only [if_true]; rw [hm]; exact hp.below hb⟩
  · rw [List.getElem?_set_ne (fun h => e h.symm), List.getElem?_map, List.getElem?_range hk] at hc
    obtain ⟨A', c', e1, e2⟩ := hX k hk
    refine ⟨A', c', ?_, by simp only [if_neg e]; exact e2.below hb⟩
    rw [hc]
    show some (X k) = _
    rw [e1]

set_option maxHeartbeats 4000000 in
set_option maxRecDepth 1000000 in
theorem lieR_any (r : Nat) (hr : r < 4) (A : Option Addr) (n cA : Nat) (L : Nat → Nat) (v : Nat → Nat → Int) (w : World) {cR : Nat} (h : ArgR w A n cR L v) (hok : okBal n L v = true) :
    Calls Try.prog 17 #[.slice A n cA, .int .i64 (r : Int)] w fun e w' => LieQ w r n L v e w' := by
  obtain ⟨⟨hn1, hn9⟩, ⟨hc1, hc5⟩, hO4⟩ := okBal_iff.1 hok
  obtain ⟨i0, hii, hz0, hz1, hz2⟩ := info_parts infoInts
  have HO := Lib.hid hO4
  have HK := Lib.hid hok
  obtain ⟨b0, o0, A0, c0, rfl, hc0, hA0⟩ := h.at (show 0 < n by omega)
  have hc0' : w.cell? ⟨b0, o0, none⟩ = some (.slice A0 (L 0) c0) := hc0
  have HCl := Lib.hid hc0'
  have hlt0 := World.block_lt_of_cell? _ _ hc0'
  have hcell : ∀ k, ∃ x, k < n → w.cell? ⟨b0, o0 + k, none⟩ = some x ∧ ∃ A' c', x = .slice A' (L k) c' ∧ ArgI w A' (L k) c' (v k) := fun k => by
    by_cases hk : k < n
    · obtain ⟨b1, o1, A', c', e, k1, k2⟩ := h.at hk
      injection e with e
      injection e with e1 e2 e3
      subst e1 e2
      exact ⟨_, fun _ => ⟨k1, A', c', rfl, k2⟩⟩
    · exact ⟨.int .i64 0, fun e => absurd e hk⟩
  obtain ⟨X, hX⟩ := Classical.axiomOfChoice hcell
  have HX := Lib.hid hX
  have HW0 := Lib.hid (winR_any r hr _ n cA L v w h hok)
  have HSm := Lib.hid (some_any (L 0) hc5 (L 0) (Nat.le_refl _))
  have hcnt := Nat.le_trans (some_count (L 0) (L 0)) (count_small hc5 hc5)
  have HLen : Hid (∀ x ∈ someL (List.range (L 0)) (L 0), x.length = L 0 ∧ Ord (L 0) (rowF x)) := Lib.hid (fun x hx => ord_of_mem (by rw [ordL_some]; exact hx))
  clear h hok hc0 hA0 hO4 hcell hX
  have hnI : (0 : Int) < (n : Int) := by omega
  have hnN : 0 < n := by omega
  unfold LieQ
  rw [ordL_some]
  generalize hSe : someL (List.range (L 0)) (L 0) = S at *
  clear hSe
  obtain ⟨M, hM⟩ : ∃ M, M = S.length := ⟨_, rfl⟩
  have HM := Lib.hid hM
  rw [← hM] at hcnt
  clear hM
  go_enter Try.func17, Try.ntmps17
  go_wp2_with fail
  refine Lr.use HW0.out ?_
  intro w1 hb1
  have Hb1 := Lib.hid hb1
  clear hb1 hc0' HW0
  go_wp2_with fail
  go_loopw [17] (fun t wr => ∃ i : Nat, i ≤ n ∧ t = .int .i64 i ∧ (∀ i', i' < i → ∀ y ∈ S, gainB r n (L 0) v i' y = false) ∧ Below w.heap.size w wr) (fun t _ => n - (intOf t).toNat)
  case atStart => exact ⟨0, Nat.zero_le _, rfl, fun i' h => absurd h (by omega), Hb1.out⟩
  case round =>
    obtain ⟨i, hi, rfl, hno, hbel⟩ := hrel
    have HNo := Lib.hid hno
    have Hbel := Lib.hid hbel
    clear hno Hb1
    by_cases hlt : i < n
    · have hcd : wr.drew.cell? ⟨b0, o0, none⟩ = some (.slice A0 (L 0) c0) := (hbel.cell hlt0).trans HCl.out
      have hcw : wr.cell? ⟨b0, o0, none⟩ = some (.slice A0 (L 0) c0) := hcd
      have hltw := World.block_lt_of_cell? _ _ hcw
      have hbd0 : Below wr.heap.size wr wr.drew := (Dn.refl wr).drew.below _
      go_wp2_with fail
      go_region_held3 (fun w' => w'.cell? ⟨b0, o0, none⟩ = some (.slice A0 (L 0) c0)) (first | exact hcd | exact (hbd0.cell hltw).trans hcw)
        (first
          | (go_at_call 41; refine (HSm.out _).mono ?_; rintro e w2 ⟨x, rfl, hx, hb2⟩; obtain ⟨A1, c1, rfl⟩ := hx.form; rw [intLL_len, ← HM.out]; have hbd0 := hbd0.trans (hb2.mono hbd0.size); have hX := hx)
          | fail)
      have HXs := Lib.hid hX
      have HB2 := Lib.hid (Hbel.out.trans (hbd0.mono Hbel.out.size))
      have HXw : Hid (∀ k, k < n → w.cell? ⟨b0, o0 + k, none⟩ = some (X k) ∧ ∃ A' c', X k = .slice A' (L k) c' ∧ ArgI w A' (L k) c' (v k)) := HX
      clear hX hx hb2 hbd0 hcd hcw hbel
      clear HX
      go_wp2
      go_loopw [30] (fun t wx => ∃ j : Nat, j ≤ M ∧ t = .int .i64 j ∧ (∀ y ∈ S.take j, gainB r n (L 0) v i y = false) ∧ Below w2.heap.size w2 wx) (fun t _ => M - (intOf t).toNat)
      case atStart => exact ⟨0, Nat.zero_le _, rfl, by simp, Below.refl _ _⟩
      case round =>
        obtain ⟨j, hj, rfl, hnj, hbel⟩ := hrel
        have HNj := Lib.hid hnj
        have HBj := Lib.hid hbel
        clear hnj hbel
        by_cases hlj : j < M
        · have hjS : j < S.length := by rw [← HM.out]; exact hlj
          obtain ⟨G1, cG1, cp, Ap, eG, hcj, hArg⟩ := (HXs.out.below HBj.out).at (p := j) (by rw [intLL_len]; exact hjS)
          injection eG with eG1 eG2 eG3
          subst eG1 eG3
          clear eG2
          rw [intLL_at hjS, intL_len, (HLen.out S[j] (List.getElem_mem hjS)).1] at hcj hArg
          simp only [intL_at] at hArg
          have HArg := Lib.hid hArg
          have HBw := Lib.hid (HB2.out.trans (HBj.out.mono HB2.out.size))
          have HTk : Hid (S.take (j + 1) = S.take j ++ [S[j]]) := Lib.hid (by rw [List.take_add_one]; simp [hjS])
          have hxo := (HLen.out S[j] (List.getElem_mem hjS)).2
          have HSp : Hid (S = S.take j ++ S[j] :: S.drop (j + 1)) := Lib.hid (by rw [List.getElem_cons_drop]; simp)
          clear hArg
          generalize S[j] = x at *
          go_wp2_with (at_builtin; refine wpList_append_own _ rfl _ _ 22 rfl wr.heap.size 23 i0 (.slice none 0 0) 1 24 Try.underlying22 hii hz0 hz1 hz2 rfl (by decide) _ _ _ rfl (World.ownsRow_made wr #[] 0 (Nat.le_refl _) (Nat.zero_le _) rfl) ⟨b0, o0, none⟩ n cA ((List.range n).map X) rfl ?qc1 ?qc2 ?qc3 ?qc4 ?qc5 ?qc6 ?_)
          case qc1 => simp
          case qc2 =>
            intro k u hu
            have hk : k < n := by have := (List.getElem?_eq_some_iff.1 hu).1; simpa using this
            rw [List.getElem?_map, List.getElem?_range hk] at hu
            injection hu with hu
            rw [Addr.add_lit, ← hu]
            exact Lib.cell?_alloc_some _ ((HBw.out.cell (World.block_lt_of_cell? _ _ (HXw.out k hk).1)).trans (HXw.out k hk).1)
          case qc3 =>
            intro u hu
            obtain ⟨k, hk, rfl⟩ := List.mem_map.1 hu
            obtain ⟨-, A', c', e, -⟩ := HXw.out k (List.mem_range.1 hk)
            rw [e]
            rfl
          case qc4 => unfold maxLen; omega
          case qc5 => omega
          case qc6 => simp
          intro v3 w3 hown hgrow hnil
          have hb3 : Below wr.heap.size wr w3 := ((Below.refl _ wr).alloc (Nat.le_refl _) _).grown hgrow (by simp) (by intro k hk; simp [Value.ownBlock] at hk; omega)
          have hown0 := hown
          rcases hown0.2 with ⟨-, h0⟩ | ⟨G, cap, cur, rfl, hg, hh, hnc, hcm, hcs, ht⟩
          · omega
          obtain ⟨hXc, Ai, ci, hXe, hXA⟩ := HXw.out i hlt
          have hcG : w3.cell? ⟨G, i, none⟩ = some (.slice Ai (L i) ci) := by
            have := World.ownsRow.cellAt hown i (by omega)
            rw [this, List.getElem?_map, List.getElem?_range hlt, ← hXe]
            rfl
          have hfz := World.ownsRow.frozenAt hown i
          have HOw := Lib.hid hown
          have Hb3 := Lib.hid hb3
          have Hg := Lib.hid hg
          have hLi : L i = L 0 := (HO.out i hlt).1
          clear hown hgrow hnil hb3 hown0 hg hh hcm hcs ht
          go_wp2_with fail
          have hx4 : Exc G w3 (w3.setCell ⟨G, i, none⟩ (.slice Ap (L 0) cp)) := (Exc.refl _ _).set i _
          have hb4 : Below wr.heap.size wr (w3.setCell ⟨G, i, none⟩ (.slice Ap (L 0) cp)) := Hb3.out.trans (hx4.below Hg.out Hb3.out.size)
          have hAR := argR_put (w0 := wr) (v := v) (f := rowF x) hn9 hLi (fun k hk => by
            obtain ⟨-, A', c', e1, e2⟩ := HXw.out k hk
            exact ⟨A', c', e1, e2.below HBw.out⟩) HArg.out HOw.out hb4
          have hok4 : okBal n L (fun k => if k = i then rowF x else v k) = true := okBal_iff.2 ⟨⟨hn1, hn9⟩, ⟨hc1, hc5⟩, fun k hk => ⟨(HO.out k hk).1, by
            by_cases e : k = i
            · simp only [if_pos e]; exact hxo
            · simp only [if_neg e]; exact (HO.out k hk).2⟩⟩
          have Hb4 := Lib.hid hb4
          have HAR := Lib.hid hAR
          clear hx4 hb4 hAR hcG hfz HOw Hb3 Hg
          generalize w3.setCell ⟨G, i, none⟩ (.slice Ap (L 0) cp) = w4 at *
          have HWn : ∀ q : Later w4, Hid (Lr 18 #[.slice (some ⟨G, 0, none⟩) n cap, .int .i64 (r : Int)] q.to (.int .i64 ((winF r n (L 0) (fun k => if k = i then rowF x else v k) : Nat) : Int))) := fun q => Lib.hid (winR_any r hr _ n cap L _ q.to (HAR.out.below q.below) hok4)
          rw [hLi] at hXe hXA
          have hbw4 : Below w.heap.size w w4 := HBw.out.trans (Hb4.out.mono HBw.out.size)
          have k0 : ∀ q : Later w4, q.to.cell? ⟨b0, o0 + i, none⟩ = some (.slice Ai (L 0) ci) := fun q => by
            rw [← hXe]
            exact ((hbw4.trans (q.below.mono hbw4.size)).cell (World.block_lt_of_cell? _ _ hXc)).trans hXc
          have HR : ∀ (q : Later w4) (z : Int), Hid (Lr 42 #[.slice Ai (L 0) ci, .int .i64 z] q.to (.int .i64 (idxI (v i) z (L 0)))) := fun q z => Lib.hid (Ro.use (rank_any Ai (L 0) ci (v i) z q.to (hXA.below (hbw4.trans (q.below.mono hbw4.size)))) (fun w'' hd => ⟨rfl, hd.below _⟩))
          have HGn : Hid (gainB r n (L 0) v i x = decide (idxI (v i) ((winF r n (L 0) (fun k => if k = i then rowF x else v k) : Nat) : Int) (L 0) < idxI (v i) ((winF r n (L 0) v : Nat) : Int) (L 0))) := Lib.hid rfl
          have Hbw4 := Lib.hid hbw4
          clear hXc hXA hXe hok4 HAR hbw4
          obtain ⟨z1, hz1'⟩ : ∃ z1, z1 = winF r n (L 0) (fun k => if k = i then rowF x else v k) := ⟨_, rfl⟩
          obtain ⟨z0, hz0'⟩ : ∃ z0, z0 = winF r n (L 0) v := ⟨_, rfl⟩
          rw [← hz1', ← hz0'] at HGn
          rw [← hz1'] at HWn
          rw [← hz0']
          have HR1 := fun q => HR q (z1 : Int)
          have HR2 := fun q => HR q (z0 : Int)
          have HZ0 := Lib.hid hz0'
          clear hz1' hz0' HR
          generalize idxI (v i) (z1 : Int) (L 0) = p1 at *
          generalize idxI (v i) (z0 : Int) (L 0) = p2 at *
          go_wp2_with fail
          rcases Int.lt_or_le p1 p2 with hl | hl
          · have hd : decide (p1 < p2) = true := decide_eq_true hl
            have HGt : Hid (gainB r n (L 0) v i x = true) := Lib.hid (by rw [HGn.out, hd])
            refine wp_region_later (by kernel_rfl) (by kernel_rfl) ?_
            repeat
              (with_reducible refine wpQuiet_step ?_
               intro K hK
               go_simp
               first
                 | (refine hK _ ?_; clear hK K)
                 | (apply Exists.intro
                    refine ⟨fun _ => ?_, hK _ ?_⟩
                    (first
                      | (go_at_call 18; exact Lr.later (HWn _).out)
                      | (go_at_call_of 42 (z1 : Int); exact Lr.later (HR1 _).out)
                      | (go_at_call_of 42 (z0 : Int); exact Lr.later (HR2 _).out))
                    clear hK K))
            with_reducible refine wpQuiet_nil ?_
            intro _ hw'
            obtain ⟨q, hw''⟩ := hw'
            subst hw''
            have HBq := Lib.hid (HBj.out.trans ((Hb4.out.trans (q.below.mono Hb4.out.size)).mono HBj.out.size))
            have HAq := Lib.hid (HArg.out.2.2.2.keep (Hb4.out.trans (q.below.mono Hb4.out.size)))
            clear k0 HWn HR1 HR2
            generalize q.to = w5 at *
            clear q
            have Hfin := Lib.hid (HB2.out.trans (HBq.out.mono HB2.out.size))
            go_wp2
            refine bodyPost_ret (v := .tuple #[.int .i64 (i : Int), .slice Ap (L 0) cp, .int .i64 0]) (by simp [results, Try.results17, go_sem]) rfl ?_
            exact ⟨.inl ⟨i, x, S.take j, S.drop (j + 1), Ap, cp, hlt, HNo.out, HSp.out, HNj.out, HGt.out, rfl, HAq.out⟩, Hfin.out⟩
          · have hd : decide (p1 < p2) = false := decide_eq_false (by omega)
            have HGt : Hid (gainB r n (L 0) v i x = false) := Lib.hid (by rw [HGn.out, hd])
            refine wp_region_later (by kernel_rfl) (by kernel_rfl) ?_
            repeat
              (with_reducible refine wpQuiet_step ?_
               intro K hK
               go_simp
               first
                 | (refine hK _ ?_; clear hK K)
                 | (apply Exists.intro
                    refine ⟨fun _ => ?_, hK _ ?_⟩
                    (first
                      | (go_at_call 18; exact Lr.later (HWn _).out)
                      | (go_at_call_of 42 (z1 : Int); exact Lr.later (HR1 _).out)
                      | (go_at_call_of 42 (z0 : Int); exact Lr.later (HR2 _).out))
                    clear hK K))
            with_reducible refine wpQuiet_nil ?_
            intro _ hw'
            obtain ⟨q, hw''⟩ := hw'
            subst hw''
            have HBq := Lib.hid (HBj.out.trans ((Hb4.out.trans (q.below.mono Hb4.out.size)).mono HBj.out.size))
            have HAq := Lib.hid (HArg.out.2.2.2.keep (Hb4.out.trans (q.below.mono Hb4.out.size)))
            clear k0 HWn HR1 HR2
            generalize q.to = w5 at *
            clear q
            have HNj2 : Hid (∀ y ∈ S.take (j + 1), gainB r n (L 0) v i y = false) := Lib.hid (fun y hy => by
              rw [HTk.out] at hy
              rcases List.mem_append.1 hy with h | h
              · exact HNj.out y h
              · rw [List.mem_singleton] at h; rw [h]; exact HGt.out)
            rw [HZ0.out]
            go_wp2
            go_roundw
            case rel => exact ⟨j + 1, by omega, by go_num, HNj2.out, HBq.out⟩
            case measure => simp [intOf]; omega
        · have e : S.take j = S := List.take_of_length_le (by rw [← HM.out]; omega)
          have HNo2 : Hid (∀ i', i' < i + 1 → ∀ y ∈ S, gainB r n (L 0) v i' y = false) := Lib.hid (fun i' hi' y hy => by
            by_cases e2 : i' = i
            · rw [e2]; exact HNj.out y (by rw [e]; exact hy)
            · exact HNo.out i' (by omega) y hy)
          have Hb3 := Lib.hid (HB2.out.trans (HBj.out.mono HB2.out.size))
          clear e
          go_wp2
          go_roundw
          case rel => exact ⟨i + 1, by omega, by go_num, HNo2.out, Hb3.out⟩
          case measure => simp [intOf]; omega
    · have e : i = n := by omega
      rw [e] at HNo
      clear e
      go_wp2
      refine bodyPost_ret (v := .tuple #[.int .i64 0, .slice none 0 0, .int .i64 4]) (by simp [results, Try.results17, go_sem]) rfl ?_
      exact ⟨.inr ⟨HNo.out, rfl⟩, Hbel.out⟩
end Go.Proofs.Ytnobbklnnkpdfaa

