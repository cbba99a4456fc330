/- Route's tables: 64 cells, never opened. -/
import Derived.Test.YtclhamemlpbpiaaHc
import Derived.Deep.MidRow
import Derived.RegionTactic
namespace Go.Proofs.Ytclhamemlpbpiaa
open Go.RowKit

theorem infoTab : (Try.prog.info? 62).map (·.size) = some 64 := by kernel_rfl
def tabL (T : Nat → Int) : List Value := (List.range 64).map (fun i => Value.int .i64 (T i))
theorem tabL_len (T : Nat → Int) : (tabL T).length = 64 := by simp [tabL]
theorem tabL_get {T : Nat → Int} {j : Nat} {v : Value} (h : (tabL T)[j]? = some v) : j < 64 ∧ v = .int .i64 (T j) := by
  have hj : j < 64 := by
    have := (List.getElem?_eq_some_iff.1 h).1
    rw [tabL_len] at this
    exact this
  refine ⟨hj, ?_⟩
  unfold tabL at h
  rw [List.getElem?_map, List.getElem?_range hj] at h
  injection h with h
  exact h.symm
theorem tabL_at (T : Nat → Int) {i : Nat} (hi : i < 64) : (tabL T)[i]? = some (.int .i64 (T i)) := by
  unfold tabL
  rw [List.getElem?_map, List.getElem?_range hi]
  rfl
theorem tabL_one {T : Nat → Int} : ∀ u ∈ tabL T, u.oneCell' = true := by
  intro u hu
  obtain ⟨j, hj, e⟩ := List.getElem_of_mem hu
  obtain ⟨-, rfl⟩ := tabL_get (v := u) (by rw [List.getElem?_eq_getElem hj, e])
  rfl
theorem setCells_other (w : World) (b : Nat) (vs : List Value) (h : Nat) (hne : h ≠ b) : ∀ (o : Nat), (w.setCells b o vs).heap[h]? = w.heap[h]? := by
  induction vs generalizing w with
  | nil => exact fun _ => rfl
  | cons v vs ih => exact fun o => (ih _ (o + 1)).trans (Deep.blk_setCell_other _ _ _ _ hne)
theorem below_setCells {B b : Nat} {w w' : World} (vs : List Value) (o : Nat) (hb : B ≤ b) (h : Below B w w') : Below B w (w'.setCells b o vs) := by
  induction vs generalizing o w' with
  | nil => exact h
  | cons v vs ih => exact ih (o + 1) (h.setCell (p := ⟨b, o, none⟩) hb v)
/-- A table in memory. -/
def TabI (w : World) (g : Nat) (T : Nat → Int) : Prop := w.rowIs g 62 64 (fun i => .int .i64 (T i))
theorem TabI.box (w : World) (T : Nat → Int) : TabI (w.alloc (.cells (tabL T).toArray 62)) w.heap.size T := by
  have := World.rowIs_alloc w (tabL T).toArray 62 (fun i => .int .i64 (T i)) (fun i hi => by
    have hi' : i < 64 := by simpa [tabL_len] using hi
    rw [List.getElem?_toArray]
    exact tabL_at T hi')
  simpa [TabI, tabL_len] using this
theorem TabI.keep {w w' : World} {g : Nat} {T : Nat → Int} (h : TabI w g T) (hb : Below w.heap.size w w') : TabI w' g T := World.rowIs.of_block h (hb.block g (World.rowIs.lt h))
theorem TabI.zero (w : World) : TabI (w.alloc (.cells #[.int .i64 0, .int .i64 0, .int .i64 0, .int .i64 0, .int .i64 0, .int .i64 0, .int .i64 0, .int .i64 0, .int .i64 0, .int .i64 0, .int .i64 0, .int .i64 0, .int .i64 0, .int .i64 0, .int .i64 0, .int .i64 0, .int .i64 0, .int .i64 0, .int .i64 0, .int .i64 0, .int .i64 0, .int .i64 0, .int .i64 0, .int .i64 0, .int .i64 0, .int .i64 0, .int .i64 0, .int .i64 0, .int .i64 0, .int .i64 0, .int .i64 0, .int .i64 0, .int .i64 0, .int .i64 0, .int .i64 0, .int .i64 0, .int .i64 0, .int .i64 0, .int .i64 0, .int .i64 0, .int .i64 0, .int .i64 0, .int .i64 0, .int .i64 0, .int .i64 0, .int .i64 0, .int .i64 0, .int .i64 0, .int .i64 0, .int .i64 0, .int .i64 0, .int .i64 0, .int .i64 0, .int .i64 0, .int .i64 0, .int .i64 0, .int .i64 0, .int .i64 0, .int .i64 0, .int .i64 0, .int .i64 0, .int .i64 0, .int .i64 0, .int .i64 0] 62)) w.heap.size (fun _ => 0) := TabI.box w (fun _ => 0)
theorem tab_below (w : World) : Below w.heap.size w (w.alloc (.cells #[.int .i64 0, .int .i64 0, .int .i64 0, .int .i64 0, .int .i64 0, .int .i64 0, .int .i64 0, .int .i64 0, .int .i64 0, .int .i64 0, .int .i64 0, .int .i64 0, .int .i64 0, .int .i64 0, .int .i64 0, .int .i64 0, .int .i64 0, .int .i64 0, .int .i64 0, .int .i64 0, .int .i64 0, .int .i64 0, .int .i64 0, .int .i64 0, .int .i64 0, .int .i64 0, .int .i64 0, .int .i64 0, .int .i64 0, .int .i64 0, .int .i64 0, .int .i64 0, .int .i64 0, .int .i64 0, .int .i64 0, .int .i64 0, .int .i64 0, .int .i64 0, .int .i64 0, .int .i64 0, .int .i64 0, .int .i64 0, .int .i64 0, .int .i64 0, .int .i64 0, .int .i64 0, .int .i64 0, .int .i64 0, .int .i64 0, .int .i64 0, .int .i64 0, .int .i64 0, .int .i64 0, .int .i64 0, .int .i64 0, .int .i64 0, .int .i64 0, .int .i64 0, .int .i64 0, .int .i64 0, .int .i64 0, .int .i64 0, .int .i64 0, .int .i64 0] 62)) := (Below.refl _ w).alloc (Nat.le_refl _) _
theorem TabI.cell {w : World} {g : Nat} {T : Nat → Int} (h : TabI w g T) {x y : Nat} (hx : x < 8) (hy : y < 8) : w.cell? ⟨g, x * 8 + y, none⟩ = some (.int .i64 (T (8 * x + y))) := by
  rw [World.rowIs.cell h (by omega : x * 8 + y < 64), show x * 8 + y = 8 * x + y by omega]
theorem TabI.frozen {w : World} {g : Nat} {T : Nat → Int} (h : TabI w g T) (i : Nat) : w.frozen? ⟨g, i, none⟩ = false := World.rowIs.frozen h i
theorem TabI.lt {w : World} {g : Nat} {T : Nat → Int} (h : TabI w g T) : g < w.heap.size := World.rowIs.lt h
theorem TabI.set {w : World} {g : Nat} {T : Nat → Int} (h : TabI w g T) (x y : Nat) (z : Int) : TabI (w.setCell ⟨g, x * 8 + y, none⟩ (.int .i64 z)) g (upd T (8 * x + y) z) := by
  rw [show x * 8 + y = 8 * x + y by omega]
  exact World.rowIs.congr (World.rowIs.set h (8 * x + y) (.int .i64 z)) (fun j hj => by
    unfold upd
    by_cases e : j = 8 * x + y
    · rw [if_pos e, if_pos e]
    · rw [if_neg e, if_neg e])
theorem TabI.range {w : World} {g : Nat} {T : Nat → Int} (h : TabI w g T) : w.rangeAt g 0 (tabL T) := fun j v hv => by
  obtain ⟨hj, rfl⟩ := tabL_get hv
  rw [Nat.zero_add]
  exact World.rowIs.cell h hj
theorem run_storeTab (W : World) (g : Nat) (F : Nat → Value) (T : Nat → Int) (h : W.rowIs g 62 64 F) :
    (storeCells ⟨g, 0, none⟩ (tabL T)).run Try.prog W = .ok () (W.setCells g 0 (tabL T)) := by
  have := run_storeCells_cells (P := Try.prog) g 0 (tabL T) 0 W (fun j hj => by
    rw [tabL_len] at hj
    have e : 0 + 0 + j = j := by omega
    rw [e, World.rowIs.cell h hj]
    rfl) (fun j hj => by
    have e : 0 + 0 + j = j := by omega
    rw [e]
    exact World.rowIs.frozen h j) tabL_one
  simpa using this
theorem TabI.stored {w : World} {g : Nat} {F : Nat → Value} {T : Nat → Int} (h : w.rowIs g 62 64 F) : TabI (w.setCells g 0 (tabL T)) g T := by
  have key : ∀ (vs : List Value) (o : Nat) (w : World) (F : Nat → Value), w.rowIs g 62 64 F → ∃ F', (w.setCells g o vs).rowIs g 62 64 F' := by
    intro vs
    induction vs with
    | nil => exact fun o w F h => ⟨F, h⟩
    | cons v vs ih => exact fun o w F h => ih (o + 1) _ _ (World.rowIs.set h o v)
  obtain ⟨F', hF⟩ := key (tabL T) 0 w F h
  refine World.rowIs.congr hF (fun i hi => ?_)
  have h1 := World.rangeAt_setCells_same w g 0 (tabL T) (fun j hj => ⟨by rw [Nat.zero_add, World.rowIs.cell h (by rw [tabL_len] at hj; exact hj)]; rfl, by rw [Nat.zero_add]; exact World.rowIs.frozen h j⟩) i _ (tabL_at T hi)
  rw [Nat.zero_add, World.rowIs.cell hF hi] at h1
  injection h1
theorem run_loadTab {W : World} {g : Nat} {T : Nat → Int} (h : TabI W g T) : (loadVar 62 ⟨g, 0, none⟩).run Try.prog W = .ok (.agg (tabL T).toArray) W := by
  have hl : (Try.prog.info? 62).map (·.size) = some (tabL T).length := by rw [tabL_len]; exact infoTab
  exact run_loadVar_mid (P := Try.prog) W g 0 62 (tabL T) _ h.range Try.underlying62 rfl hl
theorem steps_results (tmps : Array Value) (w : World) (g : Nat) (l : List Value) (h2 : tmps[2]?.getD undef = .pointer (some ⟨g, 0, none⟩))
    (hld : (loadVar 62 ⟨g, 0, none⟩).run Try.prog w = .ok (.agg l.toArray) w) : (results Try.f31 tmps).run Try.prog w = .ok (.agg l.toArray) w := by
  simp [results, Try.results31, asAddr, h2, hld]
theorem dist_results (tmps : Array Value) (w : World) (g : Nat) (l : List Value) (h2 : tmps[2]?.getD undef = .pointer (some ⟨g, 0, none⟩))
    (hld : (loadVar 62 ⟨g, 0, none⟩).run Try.prog w = .ok (.agg l.toArray) w) : (results Try.f29 tmps).run Try.prog w = .ok (.agg l.toArray) w := by
  simp [results, Try.results29, asAddr, h2, hld]

/-- The steps: beyond everywhere but on the diagonal, then the roads. -/
def iB (a : Nat) (T : Nat → Int) : Nat → Nat → Int
  | 0 => T
  | b + 1 => if a = b then iB a T b else upd (iB a T b) (8 * a + b) 400
def iA (n : Nat) (T : Nat → Int) : Nat → Nat → Int
  | 0 => T
  | a + 1 => iB a (iA n T a) n
def rS (F : Nat → Nat → Int) (T : Nat → Int) : Nat → Nat → Int
  | 0 => T
  | k + 1 => upd (upd (rS F T k) (8 * (F k 0).toNat + (F k 1).toNat) (min (rS F T k (8 * (F k 0).toNat + (F k 1).toNat)) (F k 2))) (8 * (F k 1).toNat + (F k 0).toNat) (min (rS F T k (8 * (F k 0).toNat + (F k 1).toNat)) (F k 2))
def stT (n m : Nat) (F : Nat → Nat → Int) : Nat → Int := rS F (iA n (fun _ => 0) n) m
/-- The distances: each stop in turn is let in. -/
def dB (t a : Nat) (T : Nat → Int) : Nat → Nat → Int
  | 0 => T
  | b + 1 => upd (dB t a T b) (8 * a + b) (min (dB t a T b (8 * a + b)) (dB t a T b (8 * a + t) + dB t a T b (8 * t + b)))
def dA (t n : Nat) (T : Nat → Int) : Nat → Nat → Int
  | 0 => T
  | a + 1 => dB t a (dA t n T a) n
def dS (n : Nat) (T : Nat → Int) : Nat → Nat → Int
  | 0 => T
  | t + 1 => dA t n (dS n T t) n
end Go.Proofs.Ytclhamemlpbpiaa
