import Derived.Test.YtoeimngbpagegaaDoorOwn
import Derived.Test.YtoeimngbpagegaaDoorRowI
namespace Go.Proofs.YtoeimngbpagegaaDoor
open Go.RowKit

theorem OwnL.sl0 {w : World} {base : Nat} {v : Value} {n : Nat} {f : Nat → Int} (h : OwnL w base v (lst n f)) : ∃ A c, v = .slice A n c ∧ Ints w A n f := by
  obtain ⟨A, c, e, hA, hI, -⟩ := h.form
  rw [lst_len] at e hI
  exact ⟨A, c, e, hI.congr fun k hk => lst_getD _ _ _ hk⟩
/-- A slice of integers as it may come in. -/
def ArgI (w : World) (A : Option Addr) (n c : Nat) (f : Nat → Int) : Prop := n ≤ c ∧ c ≤ maxLen ∧ (A = none → c = 0) ∧ Ints w A n f
theorem ArgI.below {w w' : World} {A : Option Addr} {n c : Nat} {f : Nat → Int} (h : ArgI w A n c f) (hb : Below w.heap.size w w') : ArgI w' A n c f := ⟨h.1, h.2.1, h.2.2.1, h.2.2.2.keep hb⟩

/-- A slice of slices of integers as it may come in. -/
def ArgR (w : World) (A : Option Addr) (n c : Nat) (L : Nat → Nat) (v : Nat → Nat → Int) : Prop :=
  n ≤ c ∧ c ≤ 17592186044416 ∧ (A = none → c = 0) ∧ (0 < n → ∃ b o, A = some ⟨b, o, none⟩ ∧ ∀ i, i < n → ∃ A' c', w.cell? ⟨b, o + i, none⟩ = some (.slice A' (L i) c') ∧ ArgI w A' (L i) c' (v i))
theorem ArgR.below {w w' : World} {A : Option Addr} {n c : Nat} {L : Nat → Nat} {v : Nat → Nat → Int} (h : ArgR w A n c L v) (hb : Below w.heap.size w w') : ArgR w' A n c L v := by
  obtain ⟨h1, h2, h3, h4⟩ := h
  refine ⟨h1, h2, h3, fun hn => ?_⟩
  obtain ⟨b, o, hA, hc⟩ := h4 hn
  refine ⟨b, o, hA, fun k hk => ?_⟩
  obtain ⟨A', c', h5, h6⟩ := hc k hk
  exact ⟨A', c', (hb.cell (World.block_lt_of_cell? _ _ h5)).trans h5, h6.below hb⟩
theorem ArgR.at {w : World} {A : Option Addr} {n c : Nat} {L : Nat → Nat} {v : Nat → Nat → Int} (h : ArgR w A n c L v) {i : Nat} (hi : i < n) :
    ∃ b o A' c', A = some ⟨b, o, none⟩ ∧ w.cell? ⟨b, o + i, none⟩ = some (.slice A' (L i) c') ∧ ArgI w A' (L i) c' (v i) := by
  obtain ⟨b, o, hA, hc⟩ := h.2.2.2 (by omega)
  obtain ⟨A', c', h1, h2⟩ := hc i hi
  exact ⟨b, o, A', c', hA, h1, h2⟩
theorem ArgR.rows {w : World} {A : Option Addr} {n c : Nat} {L : Nat → Nat} {v : Nat → Nat → Int} (h : ArgR w A n c L v) : Rows2 w A n L v := fun hn => by
  obtain ⟨b, o, hA, hc⟩ := h.2.2.2 hn
  refine ⟨b, o, hA, fun k hk => ?_⟩
  obtain ⟨A', c', h5, h6⟩ := hc k hk
  exact ⟨A', c', h5, h6.2.2.2⟩

/-- Rows of the call's own: value i is a slice of the call's own that holds v i. -/
def OwnVals (w : World) (base : Nat) (vals : List Value) (L : Nat → Nat) (v : Nat → Nat → Int) : Prop := ∀ i x, vals[i]? = some x → OwnL w base x (lst (L i) (v i))
def OwnR (w : World) (base : Nat) (x : Value) (n : Nat) (L : Nat → Nat) (v : Nat → Nat → Int) : Prop := ∃ vals : List Value, vals.length = n ∧ w.ownsRow base 22 1 x n vals ∧ OwnVals w base vals L v

theorem OwnVals.below {w w' : World} {base : Nat} {vals : List Value} {L : Nat → Nat} {v : Nat → Nat → Int} (h : OwnVals w base vals L v) (hb : Below w.heap.size w w') : OwnVals w' base vals L v :=
  fun i x hx => (h i x hx).below hb
theorem ownsRow_below {w w' : World} {base size n : Nat} {e : TypeId} {x : Value} {xs : List Value} (h : w.ownsRow base e size x n xs) (hb : Below w.heap.size w w') : w'.ownsRow base e size x n xs := by
  refine World.ownsRow.kept (row := none) h ⟨hb.os, hb.tape, hb.output, hb.size, fun k hk _ => hb.block k hk⟩ ?_
  cases x.ownBlock <;> simp
theorem OwnVals.snoc {w : World} {base : Nat} {vals : List Value} {L : Nat → Nat} {v : Nat → Nat → Int} {x : Value} {n : Nat} (h : OwnVals w base vals L v) (hn : vals.length = n) (hx : OwnL w base x (lst (L n) (v n))) : OwnVals w base (vals ++ [x]) L v := by
  intro i y hy
  rcases Nat.lt_or_ge i vals.length with hl | hl
  · rw [List.getElem?_append_left hl] at hy
    exact h i y hy
  · have hi : i = n := by
      have := (List.getElem?_eq_some_iff.1 hy).1
      simp at this
      omega
    subst hi
    rw [List.getElem?_append_right hl, hn] at hy
    simp at hy
    subst hy
    exact hx
theorem OwnR.rows {w : World} {base n : Nat} {x : Value} {L : Nat → Nat} {v : Nat → Nat → Int} (h : OwnR w base x n L v) : ∃ A c, x = .slice A n c ∧ Rows2 w A n L v ∧ n ≤ c := by
  obtain ⟨vals, hl, ho, hv⟩ := h
  have h0 := ho
  rcases h0.2 with ⟨rfl, hn⟩ | ⟨g, cap, cur, rfl, hg, hh, hnc, hcm, hcs, ht⟩
  · exact ⟨none, 0, by rw [hn], fun h => absurd h (by omega), by omega⟩
  · refine ⟨some ⟨g, 0, none⟩, cap, rfl, fun hp => ⟨g, 0, rfl, fun k hk => ?_⟩, hnc⟩
    have hx : vals[k]? = some vals[k] := List.getElem?_eq_getElem (by omega)
    obtain ⟨A', c', e, -, hI, -⟩ := (hv k _ hx).form
    rw [lst_len] at e hI
    refine ⟨A', c', ?_, hI.congr fun j hj => lst_getD _ _ _ hj⟩
    rw [Nat.zero_add, World.ownsRow.cellAt ho k (by omega), hx, e]

def updM (W : Nat → Nat → Int) (i g : Nat) (x : Int) : Nat → Nat → Int := fun i' => if i' = i then upd (W i') g x else W i'
/-- Later rows lie in later blocks. -/
def Sep (vals : List Value) : Prop := ∀ (i j : Nat) (x y : Value) (a b : Nat), i < j → vals[i]? = some x → vals[j]? = some y → x.ownBlock = some a → y.ownBlock = some b → a < b
theorem Sep.snoc {vals : List Value} {z : Value} {B : Nat} (h : Sep vals) (h1 : ∀ (i : Nat) (y : Value) (a : Nat), vals[i]? = some y → y.ownBlock = some a → a < B) (h2 : ∀ a, z.ownBlock = some a → B ≤ a) : Sep (vals ++ [z]) := by
  intro i j x y a b hij hx hy ha hb
  have hj : j < (vals ++ [z]).length := (List.getElem?_eq_some_iff.1 hy).1
  simp only [List.length_append, List.length_singleton] at hj
  rw [List.getElem?_append_left (by omega)] at hx
  rcases Nat.lt_or_ge j vals.length with hl | hl
  · rw [List.getElem?_append_left hl] at hy
    exact h i j x y a b hij hx hy ha hb
  · rw [List.getElem?_append_right hl, show j - vals.length = 0 by omega] at hy
    simp only [List.getElem?_cons_zero, Option.some.injEq] at hy
    subst hy
    have q1 := h1 i x a hx ha
    have q2 := h2 b hb
    omega
def OwnS (w : World) (base : Nat) (x : Value) (n : Nat) (L : Nat → Nat) (v : Nat → Nat → Int) : Prop := ∃ vals : List Value, vals.length = n ∧ w.ownsRow base 22 1 x n vals ∧ OwnVals w base vals L v ∧ Sep vals
theorem OwnS.own {w : World} {base n : Nat} {x : Value} {L : Nat → Nat} {v : Nat → Nat → Int} (h : OwnS w base x n L v) : OwnR w base x n L v := by
  obtain ⟨vals, h1, h2, h3, -⟩ := h
  exact ⟨vals, h1, h2, h3⟩
theorem OwnS.below {w w' : World} {base n : Nat} {x : Value} {L : Nat → Nat} {v : Nat → Nat → Int} (h : OwnS w base x n L v) (hb : Below w.heap.size w w') : OwnS w' base x n L v := by
  obtain ⟨vals, h1, h2, h3, h4⟩ := h
  exact ⟨vals, h1, ownsRow_below h2 hb, h3.below hb, h4⟩
theorem OwnS.congr {w : World} {base n : Nat} {x : Value} {L : Nat → Nat} {v v' : Nat → Nat → Int} (h : OwnS w base x n L v) (e : ∀ i g, i < n → g < L i → v i g = v' i g) : OwnS w base x n L v' := by
  obtain ⟨vals, h1, h2, h3, h4⟩ := h
  refine ⟨vals, h1, h2, fun i y hy => ?_, h4⟩
  have hi : i < vals.length := (List.getElem?_eq_some_iff.1 hy).1
  have := h3 i y hy
  rwa [lst_congr (fun g hg => e i g (by omega) hg)] at this
theorem lst_set (f : Nat → Int) (n g : Nat) (y : Int) : ((lst n f).map (Value.int .i64)).set g (.int .i64 y) = (lst n (upd f g y)).map (Value.int .i64) := by
  apply List.ext_getElem?
  intro k
  rw [List.getElem?_set, List.getElem?_map, List.getElem?_map]
  rcases Nat.lt_or_ge k n with hk | hk
  · rw [lst_get _ _ _ hk, lst_get _ _ _ hk]
    by_cases e : g = k
    · subst e
      simp [lst_len, hk, upd_at]
    · rw [if_neg e, upd_ne _ _ (fun e2 => e e2.symm)]
  · have e1 : (lst n f)[k]? = none := List.getElem?_eq_none (by rw [lst_len]; exact hk)
    have e2 : (lst n (upd f g y))[k]? = none := List.getElem?_eq_none (by rw [lst_len]; exact hk)
    rw [e1, e2]
    by_cases e : g = k
    · subst e
      simp [lst_len]; omega
    · rw [if_neg e]
/-- One row, to be written. -/
theorem OwnS.row {w : World} {base n : Nat} {x : Value} {L : Nat → Nat} {v : Nat → Nat → Int} (h : OwnS w base x n L v) {p : Nat} (hp : p < n) (hL : 0 < L p) :
    ∃ (G c blk cap : Nat), x = .slice (some ⟨G, 0, none⟩) n c ∧ w.cell? ⟨G, p, none⟩ = some (.slice (some ⟨blk, 0, none⟩) (L p) cap) ∧ base ≤ blk ∧ (∀ g, w.frozen? ⟨blk, g, none⟩ = false) ∧ (∀ g, g < L p → w.cell? ⟨blk, g, none⟩ = some (.int .i64 (v p g))) ∧
      ∀ g y, OwnS (w.setCell ⟨blk, g, none⟩ (.int .i64 y)) base x n L (updM v p g y) := by
  obtain ⟨vals, hl, hown, hv, hsep⟩ := h
  obtain ⟨r, hr⟩ : ∃ r, vals[p]? = some r := ⟨_, List.getElem?_eq_getElem (by omega)⟩
  have hrow := hv p r hr
  have hrow0 := hrow
  have hown0 := hown
  rcases hown0.2 with ⟨-, h0⟩ | ⟨G, c, cur, rfl, -⟩
  · omega
  rcases hrow0.2 with ⟨-, h0⟩ | ⟨blk, cap, cur2, rfl, hbb, -⟩
  · rw [lst_len] at h0; omega
  have hlen : (lst (L p) (v p)).length = L p := lst_len _ _
  refine ⟨G, c, blk, cap, rfl, ?_, hbb, fun g => World.ownsRow.frozenAt hrow g, fun g hg => ?_, fun g y => ?_⟩
  · have := World.ownsRow.cellAt hown p (by omega)
    rw [hr, hlen] at this
    exact this
  · have := World.ownsRow.cellAt hrow g (by rw [hlen]; omega)
    rw [List.getElem?_map, lst_get _ _ _ hg] at this
    exact this
  · have hst := World.ownsRow.stored hrow g (.int .i64 y)
    refine ⟨vals, hl, World.ownsRow.kept (row := some blk) hown hst.2 ?_, fun i z hz => ?_, hsep⟩
    · have := own_other hown hrow (by decide)
      simpa [Value.ownBlock] using this
    · by_cases e : i = p
      · subst e
        rw [hr] at hz
        injection hz with hz
        subst hz
        have h1 := hst.1
        rw [lst_set] at h1
        have e2 : updM v i g y i = upd (v i) g y := by simp [updM]
        rw [e2]
        unfold OwnL
        simpa [lst_len] using h1
      · have e2 : updM v p g y i = v i := by simp [updM, e]
        rw [e2]
        refine World.ownsRow.kept (row := some blk) (hv i z hz) hst.2 ?_
        cases hz2 : z.ownBlock with
        | none => exact .inl rfl
        | some a =>
          refine .inr (fun e3 => ?_)
          injection e3 with e3
          rcases Nat.lt_or_ge i p with hlt | hge
          · have := hsep i p z _ a blk hlt hz hr hz2 rfl
            omega
          · have := hsep p i _ z blk a (by omega) hr hz rfl hz2
            omega

theorem OwnS.arg {w : World} {base n : Nat} {x : Value} {L : Nat → Nat} {v : Nat → Nat → Int} (h : OwnS w base x n L v) {p : Nat} (hp : p < n) : ∃ (G c cp : Nat) (Ap : Option Addr), x = .slice (some ⟨G, 0, none⟩) n c ∧ w.cell? ⟨G, p, none⟩ = some (.slice Ap (L p) cp) ∧ ArgI w Ap (L p) cp (v p) := by
  obtain ⟨vals, hl, hown, hv, hsep⟩ := h
  obtain ⟨r, hr⟩ : ∃ r, vals[p]? = some r := ⟨_, List.getElem?_eq_getElem (by omega)⟩
  have hrow := hv p r hr
  have hown0 := hown
  rcases hown0.2 with ⟨-, h0⟩ | ⟨G, c, cur, rfl, -⟩
  · omega
  have hc := World.ownsRow.cellAt hown p (by omega)
  rw [hr] at hc
  rcases hrow.2 with ⟨rfl, h0⟩ | ⟨blk, cap, cur2, rfl, hbb, hh, hnc, hcm, -⟩
  · rw [lst_len] at h0
    refine ⟨G, c, 0, none, rfl, by rw [hc, h0], by omega, by unfold maxLen; omega, fun _ => rfl, by rw [h0]; exact Ints.zero⟩
  · obtain ⟨A, cA, e1, hI⟩ := OwnL.sl0 hrow
    injection e1 with e1 e2 e3
    rw [lst_len] at hc hnc
    exact ⟨G, c, cap, _, rfl, hc, hnc, hcm, (fun e => by cases e), by rw [e1]; exact hI⟩

end Go.Proofs.YtoeimngbpagegaaDoor
