import Derived.Test.YtkgikehagkpmoaaNm
import Derived.Test.YtkgikehagkpmoaaGr1
namespace Go.Proofs.Ytkgikehagkpmoaa
open Go.RowKit

/-- A matrix of the call's own: the rows lie behind the block of their slices. -/
def MatO (w : World) (G n m : Nat) (W : Nat → Nat → Int) : Prop :=
  w.rowIs G 23 n (fun i => .slice (some ⟨G + 1 + i, 0, none⟩) m m) ∧ ∀ i, i < n → RowI w (G + 1 + i) m (W i)
theorem MatO.rows {w : World} {G n m : Nat} {W : Nat → Nat → Int} (h : MatO w G n m W) : Rows2 w (some ⟨G, 0, none⟩) n (fun _ => m) W := fun _ =>
  ⟨G, 0, rfl, fun i hi => ⟨_, _, by rw [Nat.zero_add]; exact World.rowIs.cell h.1 hi, (h.2 i hi).ints⟩⟩
theorem MatO.keep {w w' : World} {G n m : Nat} {W : Nat → Nat → Int} (h : MatO w G n m W) (hb : Below w.heap.size w w') : MatO w' G n m W :=
  ⟨World.rowIs.of_block h.1 (hb.block G (World.rowIs.lt h.1)), fun i hi => (h.2 i hi).keep hb⟩
theorem MatO.congr {w : World} {G n m : Nat} {W W' : Nat → Nat → Int} (h : MatO w G n m W) (e : ∀ i g, i < n → g < m → W i g = W' i g) : MatO w G n m W' :=
  ⟨h.1, fun i hi => (h.2 i hi).congr fun g hg => e i g hi hg⟩
def updM (W : Nat → Nat → Int) (i g : Nat) (x : Int) : Nat → Nat → Int := fun i' => if i' = i then upd (W i') g x else W i'
theorem updM_at (W : Nat → Nat → Int) (i g : Nat) (x : Int) : updM W i g x i g = x := by simp [updM, upd]
theorem updM_ne (W : Nat → Nat → Int) {i g i' g' : Nat} (x : Int) (h : ¬ (i' = i ∧ g' = g)) : updM W i g x i' g' = W i' g' := by
  unfold updM
  by_cases e : i' = i
  · rw [if_pos e]
    exact upd_ne _ _ (fun e2 => h ⟨e, e2⟩)
  · rw [if_neg e]
theorem MatO.set {w : World} {G n m : Nat} {W : Nat → Nat → Int} (h : MatO w G n m W) {i : Nat} (g : Nat) (x : Int) : MatO (w.setCell ⟨G + 1 + i, g, none⟩ (.int .i64 x)) G n m (updM W i g x) := by
  refine ⟨World.rowIs.setOther h.1 (by show G ≠ G + 1 + i; omega) _, fun i' hi' => ?_⟩
  by_cases e : i' = i
  · subst e
    have := (h.2 i' hi').set g x
    simpa [updM] using this
  · have := (h.2 i' hi').setOther (a := ⟨G + 1 + i, g, none⟩) (by show G + 1 + i' ≠ G + 1 + i; omega) (.int .i64 x)
    simpa [updM, e] using this
theorem MatO.other {w : World} {G n m : Nat} {W : Nat → Nat → Int} (h : MatO w G n m W) {b : Nat} (hb : b < G ∨ G + n < b) (i : Nat) (u : Value) : MatO (w.setCell ⟨b, i, none⟩ u) G n m W :=
  ⟨World.rowIs.setOther h.1 (by show G ≠ b; omega) _, fun i' hi' => (h.2 i' hi').setOther (by show G + 1 + i' ≠ b; omega) _⟩

theorem mk_rows (n : Nat) (hn : n ≤ 10000) (w : World) :
    (Instr.makeSlice 22 (.int .i64 (n : Int)) (.int .i64 (n : Int))).run Try.prog w = .ok (.slice (some ⟨w.heap.size, 0, none⟩) n n) (w.alloc (.cells (madeCells #[.slice none 0 0] n) 23)) := by
  obtain ⟨i0, hi, hz0, hz1, hz2⟩ := info_parts infoInts
  have := run_make_rowN (P := Try.prog) 22 23 i0 (.slice none 0 0) Try.underlying22 hi hz0 .i64 .i64 n n (Nat.le_refl _) (by rw [hz2]; omega) (by omega) w
  rw [hz1, Nat.mul_one] at this
  exact this

/-- The first k rows are made. -/
def MkI (w : World) (G n m k : Nat) : Prop :=
  w.rowIs G 23 n (fun i => if i < k then .slice (some ⟨G + 1 + i, 0, none⟩) m m else .slice none 0 0) ∧ (∀ i, i < k → RowI w (G + 1 + i) m (fun _ => 0)) ∧ w.heap.size = G + 1 + k
theorem MkI.start (w : World) (n m : Nat) : MkI (w.alloc (.cells (madeCells #[.slice none 0 0] n) 23)) w.heap.size n m 0 :=
  ⟨World.rowIs.congr (World.rowIs_made w _ n _) (fun i _ => by simp), fun i hi => absurd hi (by omega), by simp⟩
theorem MkI.next {w : World} {G n m k : Nat} (h : MkI w G n m k) (hk : k < n) : MkI ((w.alloc (.cells (madeCells #[.int .i64 0] m) 3)).setCell ⟨G, k, none⟩ (.slice (some ⟨w.heap.size, 0, none⟩) m m)) G n m (k + 1) := by
  obtain ⟨h1, h2, h3⟩ := h
  have hG := World.rowIs.lt h1
  refine ⟨World.rowIs.congr (World.rowIs.set (World.rowIs.alloc h1 _) k _) (fun i hi => ?_), fun i hi => ?_, by simp [h3]; omega⟩
  · by_cases e : i = k
    · subst e
      simp [h3]
    · by_cases e2 : i < k
      · simp [e, e2, show i < k + 1 by omega]
      · simp [e, e2, show ¬ i < k + 1 by omega]
  · refine RowI.setOther ?_ (by show G + 1 + i ≠ G; omega) _
    rcases Nat.lt_or_ge i k with hl | hl
    · exact (h2 i hl).alloc _
    · obtain rfl : i = k := by omega
      have := RowI.made w m
      rwa [h3] at this
theorem MkI.done {w : World} {G n m : Nat} (h : MkI w G n m n) : MatO w G n m (fun _ _ => 0) ∧ w.heap.size = G + 1 + n :=
  ⟨⟨World.rowIs.congr h.1 (fun i hi => by rw [if_pos hi]), h.2.1⟩, h.2.2⟩
end Go.Proofs.Ytkgikehagkpmoaa
