import Derived.Test.YtoeimngbpagegaaDoorBase
import Derived.Lib.SliceRun
import Derived.Laws.OwnMore
import Derived.OwnWalk
namespace Go.Proofs.YtoeimngbpagegaaDoor
open Go.RowKit

theorem infoInt : (Tryd.prog.info? 3).map (fun i => (i.zero, i.size, i.bytes)) = some (some (.int .i64 0), 1, 8) := by kernel_rfl
theorem infoInts : (Tryd.prog.info? 22).map (fun i => (i.zero, i.size, i.bytes)) = some (some (.slice none 0 0), 1, 24) := by kernel_rfl

/-- A slice of integers of the call's own: the blocks from base on. -/
def OwnL (w : World) (base : Nat) (v : Value) (xs : List Int) : Prop := w.ownsRow base 3 1 v xs.length (xs.map (Value.int .i64))

/-- f 0 .. f (n-1). -/
def lst (n : Nat) (f : Nat → Int) : List Int := (List.range n).map f
theorem lst_zero (f : Nat → Int) : lst 0 f = [] := rfl
theorem lst_succ (n : Nat) (f : Nat → Int) : lst (n + 1) f = lst n f ++ [f n] := by simp [lst, List.range_succ]
theorem lst_len (n : Nat) (f : Nat → Int) : (lst n f).length = n := by simp [lst]
theorem lst_get (n : Nat) (f : Nat → Int) (k : Nat) (h : k < n) : (lst n f)[k]? = some (f k) := by simp [lst, h]
theorem lst_getD (n : Nat) (f : Nat → Int) (k : Nat) (h : k < n) : (lst n f).getD k 0 = f k := by simp [lst, List.getD, h]
theorem lst_congr {n : Nat} {f g : Nat → Int} (h : ∀ k, k < n → f k = g k) : lst n f = lst n g := by
  simp only [lst]
  exact List.map_congr_left fun k hk => h k (List.mem_range.1 hk)
theorem lst_of (xs : List Int) : lst xs.length (fun k => xs.getD k 0) = xs := by
  apply List.ext_getElem
  · simp [lst]
  · intro k h1 h2
    simp [lst, List.getD, List.getElem?_eq_getElem h2]

section
variable {w w' : World} {base : Nat} {v : Value} {xs : List Int}
theorem OwnL.nil_ (w : World) (base : Nat) : OwnL w base (.slice none 0 0) [] := World.ownsRow_nil w base _ 1
theorem OwnL.form (h : OwnL w base v xs) : ∃ A c, v = .slice A xs.length c ∧ (A = none → v = .slice none 0 0) ∧ Ints w A xs.length (fun k => xs.getD k 0) ∧ (∀ b o, A = some ⟨b, o, none⟩ → base ≤ b ∧ b < w.heap.size ∧ o = 0) ∧ xs.length ≤ c := by
  have h0 := h
  rcases h0.2 with ⟨rfl, hn⟩ | ⟨g, cap, cur, rfl, hg, hh, hnc, hcm, hcs, ht⟩
  · refine ⟨none, 0, by rw [hn], fun _ => rfl, ?_, by simp, by omega⟩
    rw [hn]
    exact Ints.zero
  · refine ⟨some ⟨g, 0, none⟩, cap, rfl, by simp, fun hp => ⟨g, 0, rfl, fun k hk => ?_⟩, ?_, hnc⟩
    · rw [Nat.zero_add, World.ownsRow.cellAt h k (by omega)]
      simp [List.getD, List.getElem?_eq_getElem hk]
    · intro b o e
      injection e with e
      injection e with e1 e2
      subst e1 e2
      exact ⟨hg, (Array.getElem?_eq_some_iff.1 hh).1, rfl⟩
theorem OwnL.below (h : OwnL w base v xs) (hb : Below w.heap.size w w') : OwnL w' base v xs := by
  refine World.ownsRow.kept (row := none) h ⟨hb.os, hb.tape, hb.output, hb.size, fun k hk _ => hb.block k hk⟩ ?_
  cases v.ownBlock <;> simp
theorem OwnL.rebase {base' : Nat} (h : OwnL w base v xs) (hb : base' ≤ base) : OwnL w base' v xs := by
  refine ⟨h.1, ?_⟩
  rcases h.2 with hn | ⟨g, cap, cur, e, hg, r⟩
  · exact .inl hn
  · exact .inr ⟨g, cap, cur, e, by omega, r⟩
end

theorem cells_of_ints {w : World} {b o n : Nat} {f : Nat → Int} (h : Ints w (some ⟨b, o, none⟩) n f) :
    ∀ j u, ((lst n f).map (Value.int .i64))[j]? = some u → w.cell? ((⟨b, o, none⟩ : Addr).add j) = some u := by
  intro j u hu
  have hj : j < n := by
    have := (List.getElem?_eq_some_iff.1 hu).1
    simpa [lst] using this
  rw [Addr.add_lit, h.cell hj]
  simpa [lst_get n f j hj] using hu
theorem one_of_ints (xs : List Int) : ∀ u ∈ xs.map (Value.int .i64), u.oneCell' = true := by
  intro u hu
  obtain ⟨x, _, rfl⟩ := List.mem_map.1 hu
  rfl

/-- Rows of different element types lie in different blocks. -/
theorem own_other {w : World} {base base' e e' size size' n n' : Nat} {x x' : Value} {xs xs' : List Value} (h : w.ownsRow base e size x n xs) (h' : w.ownsRow base' e' size' x' n' xs') (hne : e ≠ e') : x.ownBlock = none ∨ x.ownBlock ≠ x'.ownBlock := by
  rcases h.2 with ⟨rfl, _⟩ | ⟨g, cap, cur, rfl, _, hh, _⟩
  · exact .inl rfl
  · rcases h'.2 with ⟨rfl, _⟩ | ⟨g', cap', cur', rfl, _, hh', _⟩
    · exact .inr (by simp [Value.ownBlock])
    · refine .inr ?_
      simp only [Value.ownBlock, ne_eq, Option.some.injEq]
      rintro rfl
      rw [hh] at hh'
      injection hh' with hh'
      injection hh' with _ ht
      exact hne ht

theorem news1 (w : World) (x : Value) (T : TypeId) : ∀ j u, [x][j]? = some u → (w.alloc (.cells #[x] T)).cell? ((⟨w.heap.size, 0, none⟩ : Addr).add j) = some u := by
  intro j u hu
  rcases j with _ | j
  · simp at hu
    subst hu
    rw [Addr.add_lit]
    simp [World.cell?_alloc_at]
  · simp at hu
theorem one1 {x : Value} (h : x.oneCell' = true) : ∀ u ∈ [x], u.oneCell' = true := by
  intro u hu
  simp at hu
  subst hu
  exact h
theorem OwnL.one {w : World} {base : Nat} {v : Value} {xs : List Int} (h : OwnL w base v xs) : v.oneCell' = true := by
  obtain ⟨A', c', rfl, _⟩ := h.form
  rfl

/-- slices.Clone at []int. -/
theorem clone_some (a : Addr) (n c : Nat) (f : Nat → Int) (w : World) (h : ∀ j u, ((lst n f).map (Value.int .i64))[j]? = some u → w.cell? (a.add j) = some u) (hn : n ≤ 10000) :
    Calls Tryd.prog 52 #[.slice (some a) n c] w fun e w' => ∃ v', e = .returned v' ∧ OwnL w' w.heap.size v' (lst n f) ∧ v' ≠ .slice none 0 0 ∧ Below w.heap.size w w' := by
  have q := fun (w : World) (a : Option Addr) (n c n' c' : Nat) => Lib.run_eql_slice_nil (P := Tryd.prog) w 22 3 a n c n' c' Tryd.underlying22
  obtain ⟨i0, hi, hz0, hz1, hz2⟩ := info_parts infoInt
  have H := Lib.hid h
  clear h
  go_enter Tryd.func52, Tryd.ntmps52
  go_wp2_with (at_builtin; refine wpList_append_own _ rfl _ _ 22 rfl w.heap.size 3 i0 (.int .i64 0) 1 8 Tryd.underlying22 hi hz0 hz1 hz2 rfl (by decide) _ _ _ rfl (World.ownsRow_made w #[] 0 (Nat.le_refl _) (Nat.zero_le _) rfl) a n c ((lst n f).map (Value.int .i64)) rfl ?qc1 ?qc2 ?qc3 ?qc4 ?qc5 ?qc6 ?_)
  case qc1 => simp [lst_len]
  case qc2 => exact fun j u hu => Lib.cell?_alloc_some _ (H.out j u hu)
  case qc3 => exact one_of_ints _
  case qc4 => unfold maxLen; omega
  case qc5 => omega
  case qc6 => simp
  intro v' w1 hown hgrow hnil
  go_wp2
  go_ret
  refine ⟨v', rfl, ?_, ?_, ?_⟩
  · unfold OwnL; rw [lst_len]; simpa using hown
  · exact hnil
  · exact ((Below.refl _ w).alloc (Nat.le_refl _) _).grown hgrow (by simp) (by intro k hk; simp [Value.ownBlock] at hk; omega)

theorem clone_nil (n c : Nat) (w : World) : Calls Tryd.prog 52 #[.slice none n c] w fun e w' => e = .returned (.slice none 0 0) ∧ w = w' := by
  have q := fun (w : World) (a : Option Addr) (n c n' c' : Nat) => Lib.run_eql_slice_nil (P := Tryd.prog) w 22 3 a n c n' c' Tryd.underlying22
  go_enter Tryd.func52, Tryd.ntmps52
  go_wp2
  go_ret
  exact ⟨rfl, rfl⟩

theorem Ints.none_ {w : World} {n : Nat} {f : Nat → Int} (h : Ints w none n f) : n = 0 := by
  rcases Nat.eq_zero_or_pos n with h0 | h0
  · exact h0
  · obtain ⟨b, o, e, _⟩ := h h0
    cases e

/-- Either way: nil stays nil, and no other does. -/
theorem clone_any (A : Option Addr) (n c : Nat) (f : Nat → Int) (w : World) (h : Ints w A n f) (hn : n ≤ 10000) :
    Calls Tryd.prog 52 #[.slice A n c] w fun e w' => ∃ v', e = .returned v' ∧ OwnL w' w.heap.size v' (lst n f) ∧ (v' = .slice none 0 0 ↔ A = none) ∧ Below w.heap.size w w' := by
  rcases A with _ | a
  · obtain rfl := h.none_
    refine (clone_nil 0 c w).mono ?_
    rintro e w' ⟨rfl, rfl⟩
    exact ⟨_, rfl, OwnL.nil_ _ _, by simp, Below.refl _ _⟩
  · refine (clone_some a n c f w ?_ hn).mono ?_
    · intro j u hu
      have hj : 0 < n := by
        have := (List.getElem?_eq_some_iff.1 hu).1
        simp [lst] at this
        omega
      obtain ⟨b, o, e, _⟩ := h.at hj
      injection e with e
      subst e
      exact cells_of_ints h j u hu
    · rintro e w' ⟨v', rfl, h1, h2, h3⟩
      exact ⟨v', rfl, h1, by simp [h2], h3⟩

end Go.Proofs.YtoeimngbpagegaaDoor
