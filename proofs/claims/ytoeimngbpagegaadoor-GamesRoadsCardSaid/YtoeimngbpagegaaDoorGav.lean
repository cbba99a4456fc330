/- Orders level by level; what an order pays sums to the cost of all. -/
import Derived.Test.YtoeimngbpagegaaDoorGsh
namespace Go.Proofs.YtoeimngbpagegaaDoor
open Go.RowKit

/-- One longer, by the first x. -/
def exG (l : List Nat) (x : Nat) : List (List Nat) := ((List.range x).filter (fun y => !l.contains y)).map (fun y => l ++ [y])
theorem exG_in {l : List Nat} {x : Nat} (h : l.contains x = true) : exG l (x + 1) = exG l x := by
  unfold exG
  rw [List.range_succ, List.filter_append, List.map_append]
  simp
  simpa using h
theorem exG_out {l : List Nat} {x : Nat} (h : l.contains x = false) : exG l (x + 1) = exG l x ++ [l ++ [x]] := by
  unfold exG
  rw [List.range_succ, List.filter_append, List.map_append]
  simp
  simpa using h
theorem exG_len (l : List Nat) (x : Nat) : (exG l x).length ≤ x := by
  unfold exG
  rw [List.length_map]
  have := List.length_filter_le (fun y => !l.contains y) (List.range x)
  rw [List.length_range] at this
  exact this
/-- What one slice more at the end leaves. -/
theorem OL2.snoc {w w' : World} {base br : Nat} {x x' y : Value} {ls : List (List Int)} {l : List Int} {vals : List Value} (h1 : vals.length = ls.length) (h2 : w.ownsRow base 22 1 x ls.length vals)
    (h3 : ∀ i y, vals[i]? = some y → OwnL w br y (ls.getD i [])) (hy : OwnL w br y l) (hg : w.grownBy w' x.ownBlock) (h : w'.ownsRow base 22 1 x' (ls.length + 1) (vals ++ [y])) : OL2 w' base br x' (ls ++ [l]) := by
  refine ⟨vals ++ [y], by simp [h1], by simpa using h, fun i z hz => ?_⟩
  rcases Nat.lt_or_ge i vals.length with hl | hl
  · rw [List.getElem?_append_left hl] at hz
    have e : (ls ++ [l]).getD i [] = ls.getD i [] := by
      simp [List.getD, List.getElem?_append_left (show i < ls.length by omega)]
    rw [e]
    exact World.ownsRow.kept (h3 i z hz) hg (own_other (h3 i z hz) h2 (by decide))
  · rw [List.getElem?_append_right hl] at hz
    have hi : i - vals.length = 0 := by
      rcases Nat.eq_zero_or_pos (i - vals.length) with h | h
      · exact h
      · rw [List.getElem?_eq_none (by simp; omega)] at hz
        cases hz
    rw [hi] at hz
    simp at hz
    subst hz
    have e : (ls ++ [l]).getD i [] = l := by
      simp [List.getD, List.getElem?_append_right (show ls.length ≤ i by omega), show i - ls.length = 0 by omega]
    rw [e]
    exact World.ownsRow.kept hy hg (own_other hy h2 (by decide))

set_option maxRecDepth 1000000 in
theorem wpList_append_l2 {w : World} {ops : Array Oper} {rest : List Oper} {o : Oper} {a : Act} {Q : Exit → Act → World → Prop} (hgd : o.guard = none) (s x : Operand)
    (ho : o.op = .call { callee := .builtin .append, args := #[s, x], argTypes := #[63, 63] })
    (base br : Nat) (v y : Value) (ls : List (List Int)) (l : List Int) (hs : a.eval s = v) (hown : OL2 w base br v ls)
    (ad : Addr) (c : Nat) (hx : a.eval x = .slice (some ad) 1 c) (hc : ∀ j u, [y][j]? = some u → w.cell? (ad.add j) = some u) (hy : OwnL w br y l)
    (hsz : ls.length ≤ 100000) (hbase : base ≤ w.heap.size)
    (h : ∀ v' w', OL2 w' base br v' (ls ++ [l]) → w.grownBy w' v.ownBlock → wpList Tryd.prog ops Q rest (a.put o.dst v') w') : wpList Tryd.prog ops Q (o :: rest) a w := by
  obtain ⟨i0, hi, hz0, hz1, hz2⟩ := info_parts infoInts
  obtain ⟨vals, h1, h2, h3⟩ := hown
  obtain ⟨v', w', hrun, k1, k2, -, -⟩ := run_append_own_at (P := Tryd.prog) w base 63 o.type 22 i0 (.slice none 0 0) 1 24 Tryd.underlying63 hi hz0 hz1 hz2 rfl (by decide) v ls.length vals h2 ad 1 c [y] rfl hc (one1 hy.one) (by unfold maxLen; omega) (by omega) hbase
  refine wpList_plain hgd fun K hK => ?_
  unfold Oper.wp execOp
  simp only [ho, resolve, invoke, builtin, Sem.run_bind, Sem.run_pure, Result.andThen_ok, List.map_toArray, List.map_cons, List.map_nil, hs, hx, hrun]
  exact hK _ _ (h v' w' (OL2.snoc h1 h2 h3 hy k2 k1) k2)
theorem OL2.alloc4 {w : World} {b br : Nat} {x : Value} {ls : List (List Int)} (h : OL2 w b br x ls) (o : Obj) : OL2 (w.alloc o) b br x ls := by
  obtain ⟨vals, h1, h2, h3⟩ := h
  exact ⟨vals, h1, World.ownsRow.alloc h2 o, fun i y hy => World.ownsRow.alloc (h3 i y hy) o⟩
theorem OL2.ll2 {w : World} {bo b : Nat} {x : Value} {ls : List (List Int)} (h : OL2 w bo b x ls) (hb : b ≤ bo) : OwnLL w b x ls := by
  obtain ⟨vals, h1, h2, h3⟩ := h
  refine ⟨vals, h1, ⟨h2.1, ?_⟩, h3⟩
  rcases h2.2 with hn | ⟨g, cap, cur, e, hg, r⟩
  · exact .inl hn
  · exact .inr ⟨g, cap, cur, e, by omega, r⟩
theorem OL2.alloc3 {w : World} {b : Nat} {x : Value} {ls : List (List Int)} (h : OwnLL w b x ls) (o : Obj) : OwnLL (w.alloc o) b x ls := by
  obtain ⟨vals, h1, h2, h3⟩ := h
  exact ⟨vals, h1, World.ownsRow.alloc h2 o, fun i y hy => World.ownsRow.alloc (h3 i y hy) o⟩
def lvG (n : Nat) : Nat → List (List Nat)
  | 0 => [[]]
  | j + 1 => (lvG n j).flatMap (fun l => exG l n)
theorem lvG_all : ∀ n, n ≤ 4 → lvG n n = ordG n n [] := by decide +kernel
theorem lvG_len : ∀ n, n ≤ 4 → ∀ j, j ≤ n → (lvG n j).length ≤ 24 := by decide +kernel
theorem lvG_in : ∀ n, n ≤ 4 → ∀ j, j ≤ n → ∀ l ∈ lvG n j, l.length = j := by decide +kernel
theorem takeG {α β : Type} (f : α → List β) (L : List α) {i : Nat} (h : i < L.length) : (L.take (i + 1)).flatMap f = (L.take i).flatMap f ++ f L[i] := by
  rw [List.take_succ_eq_append_getElem h, List.flatMap_append]
  simp
/-- The sum of the first n. -/
def smG (f : Nat → Int) : Nat → Int
  | 0 => 0
  | n + 1 => smG f n + f n
theorem smG_upd (f : Nat → Int) (p : Nat) (x : Int) : ∀ n, smG (upd f p x) n = smG f n + if p < n then x - f p else 0 := by
  intro n
  induction n with
  | zero => simp [smG]
  | succ n ih =>
    simp only [smG, ih]
    unfold upd
    by_cases h1 : n = p
    · subst h1
      rw [if_pos rfl, if_neg (Nat.lt_irrefl n), if_pos (by omega)]; omega
    · rw [if_neg h1]
      by_cases h2 : p < n
      · rw [if_pos h2, if_pos (by omega)]; omega
      · rw [if_neg h2, if_neg (by omega)]; omega
theorem jnX_zero (C O : Nat → Int) (p : Nat) : ∀ j, (∀ i, i < j → 0 ≤ O i) → (∀ i, i < j → O i ≠ (p : Int)) → jnX C O j p = 0 := by
  intro j
  induction j with
  | zero => intro _ _; rfl
  | succ j ih =>
    intro h0 h
    rw [jnX]
    unfold upd
    have h1 := h j (by omega)
    have h2 := h0 j (by omega)
    rw [if_neg (by omega)]
    exact ih (fun i hi => h0 i (by omega)) (fun i hi => h i (by omega))
theorem jnX_sum {m n : Nat} {C O : Nat → Int} (h : isOr m O n = true) : ∀ j, j ≤ m → smG (jnX C O j) n = C (jnS O j) - C 0 := by
  obtain ⟨e, hr⟩ := isOr_rng h
  intro j
  induction j with
  | zero =>
    intro _
    have : ∀ n, smG (fun _ => 0) n = 0 := fun n => by
      induction n with
      | zero => rfl
      | succ n ih => simp [smG, ih]
    show smG (fun _ => 0) n = C 0 - C 0
    rw [this]; omega
  | succ j ih =>
    intro hj
    have hrj := hr j (by omega)
    have hz : jnX C O j (O j).toNat = 0 := by
      refine jnX_zero C O _ j (fun i hi => (hr i (by omega)).1) (fun i hi hc => ?_)
      have ho : orP O n j = true := by
        unfold isOr at h
        rw [Bool.and_eq_true] at h
        exact allB_iff.1 h.2 j (by omega)
      unfold orP at ho
      rw [Bool.and_eq_true] at ho
      have hh : hasB O (O j) j = true := (hasG_iff O (O j) j).2 ⟨i, hi, by omega⟩
      rw [hh] at ho
      cases ho.2
    rw [jnX, smG_upd, ih (by omega), hz, if_pos (by omega), jnS]
    unfold riF
    omega
theorem smG_bd {f : Nat → Int} (h : ∀ i, -1000 ≤ f i ∧ f i ≤ 1000) : ∀ n : Nat, -(1000 * (n : Int)) ≤ smG f n ∧ smG f n ≤ 1000 * n := by
  intro n
  induction n with
  | zero => simp [smG]
  | succ n ih =>
    have := h n
    simp only [smG]
    omega
theorem FrI.exc {w w' : World} {g G n : Nat} {F : Nat → Nat → Int} (h : FrI w g n F) (he : Exc G w w') (hne : g ≠ G) : FrI w' g n F := World.rowIs.of_block h (he.block g h.lt (fun e => hne (by injection e)))
theorem jnS_all : ∀ n, n ≤ 4 → ∀ o ∈ ordG n n [], jnS (oF o) n = 2 ^ n - 1 := by decide +kernel
theorem rowG_has (l : List Nat) (i : Nat) : hasB (oF l) (i : Int) l.length = l.contains i := hasG_list l i
theorem intG_lst (l : List Nat) : lst l.length (oF l) = intG l := by
  have := lst_of (intG l)
  rw [intG_len] at this
  exact this
theorem intG_at {ls : List (List Nat)} {i : Nat} (h : i < ls.length) : (ls.map intG).getD i [] = intG ls[i] := by simp [List.getD, h]
theorem intG_snoc (l : List Nat) (x : Nat) : intG (l ++ [x]) = lst l.length (oF l) ++ lst 1 (fun _ => (x : Int)) := by
  rw [intG_lst]
  simp [intG, lst]
end Go.Proofs.YtoeimngbpagegaaDoor
