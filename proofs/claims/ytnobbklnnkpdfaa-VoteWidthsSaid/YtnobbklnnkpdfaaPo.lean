/- A poll in memory: a slice, a number and a table of 25 numbers. -/
import Derived.Test.YtnobbklnnkpdfaaVp
import Derived.Test.YtnobbklnnkpdfaaRowC
import Derived.Deep.MidRow
import Derived.RegionTactic
namespace Go.Proofs.Ytnobbklnnkpdfaa
open Go.RowKit

theorem infoPoll : (Try.prog.info? 56).map (·.size) = some 27 := by kernel_rfl
theorem infoTab : (Try.prog.info? 54).map (·.size) = some 25 := by kernel_rfl
/-- The cells of a poll. -/
def pollF (A : Option Addr) (n cA c : Nat) (T : Nat → Int) : Nat → Value := fun i => if i = 0 then .slice A n cA else if i = 1 then .int .i64 (c : Int) else .int .i64 (T (i - 2))
def pollL (A : Option Addr) (n cA c : Nat) (T : Nat → Int) : List Value := (List.range 27).map (pollF A n cA c T)
theorem pollL_len (A : Option Addr) (n cA c : Nat) (T : Nat → Int) : (pollL A n cA c T).length = 27 := by simp [pollL]
theorem pollL_get {A : Option Addr} {n cA c : Nat} {T : Nat → Int} {j : Nat} {v : Value} (h : (pollL A n cA c T)[j]? = some v) : j < 27 ∧ v = pollF A n cA c T j := by
  have hj : j < 27 := by
    have := (List.getElem?_eq_some_iff.1 h).1
    rwa [pollL_len] at this
  refine ⟨hj, ?_⟩
  unfold pollL at h
  rw [List.getElem?_map, List.getElem?_range hj] at h
  simpa using h.symm
theorem pollL_one {A : Option Addr} {n cA c : Nat} {T : Nat → Int} : (pollL A n cA c T).toArray.all (·.oneCell') = true := by
  refine all_oneCell_toArray (fun v hv => ?_)
  obtain ⟨j, hj, e⟩ := List.getElem_of_mem hv
  obtain ⟨-, rfl⟩ := pollL_get (v := v) (by rw [List.getElem?_eq_getElem hj, e])
  unfold pollF
  split
  · rfl
  · split <;> rfl
/-- The table. -/
def tabL (T : Nat → Int) : List Value := (List.range 25).map (fun i => Value.int .i64 (T i))
theorem tabL_len (T : Nat → Int) : (tabL T).length = 25 := by simp [tabL]
theorem tabL_get {T : Nat → Int} {j : Nat} {v : Value} (h : (tabL T)[j]? = some v) : j < 25 ∧ v = .int .i64 (T j) := by
  have hj : j < 25 := by
    have := (List.getElem?_eq_some_iff.1 h).1
    rwa [tabL_len] at this
  refine ⟨hj, ?_⟩
  unfold tabL at h
  rw [List.getElem?_map, List.getElem?_range hj] at h
  simpa using h.symm
/-- Block g is a poll. -/
def PollI (w : World) (g : Nat) (A : Option Addr) (n cA c : Nat) (T : Nat → Int) : Prop := w.rowIs g 56 27 (pollF A n cA c T)
def TabI (w : World) (g : Nat) (T : Nat → Int) : Prop := w.rowIs g 54 25 (fun i => .int .i64 (T i))
section
variable {w w' : World} {g : Nat} {A : Option Addr} {n cA c : Nat} {T : Nat → Int}
theorem PollI.range (h : PollI w g A n cA c T) : w.rangeAt g 0 (pollL A n cA c T) := fun j v hv => by
  obtain ⟨hj, rfl⟩ := pollL_get hv
  rw [Nat.zero_add]
  exact World.rowIs.cell h hj
theorem PollI.tab (h : PollI w g A n cA c T) : w.rangeAt g 2 (tabL T) := fun j v hv => by
  obtain ⟨hj, rfl⟩ := tabL_get hv
  rw [World.rowIs.cell h (by omega : 2 + j < 27)]
  unfold pollF
  rw [if_neg (by omega), if_neg (by omega), show 2 + j - 2 = j by omega]
theorem PollI.at (h : PollI w g A n cA c T) {q : Nat} (hq : q < 25) : w.cell? ⟨g, 2 + q, none⟩ = some (.int .i64 (T q)) := by
  rw [World.rowIs.cell h (by omega : 2 + q < 27)]
  unfold pollF
  rw [if_neg (by omega), if_neg (by omega), show 2 + q - 2 = q by omega]
theorem PollI.c0 (h : PollI w g A n cA c T) : w.cell? ⟨g, 0, none⟩ = some (.slice A n cA) := World.rowIs.cell h (by omega)
theorem PollI.c1 (h : PollI w g A n cA c T) : w.cell? ⟨g, 1, none⟩ = some (.int .i64 (c : Int)) := World.rowIs.cell h (by omega)
theorem PollI.frozen (h : PollI w g A n cA c T) (i : Nat) : w.frozen? ⟨g, i, none⟩ = false := World.rowIs.frozen h i
theorem PollI.lt (h : PollI w g A n cA c T) : g < w.heap.size := World.rowIs.lt h
theorem PollI.there (h : PollI w g A n cA c T) : w.there g 0 27 := fun j hj => ⟨by rw [Nat.zero_add, World.rowIs.cell h hj]; rfl, by rw [Nat.zero_add]; exact h.frozen j⟩
theorem PollI.keep (h : PollI w g A n cA c T) (hb : Below w.heap.size w w') : PollI w' g A n cA c T := World.rowIs.of_block h (hb.block g h.lt)
theorem PollI.dn (h : PollI w g A n cA c T) (hd : Dn w w') : PollI w' g A n cA c T := by
  obtain ⟨k, rfl⟩ := hd
  exact h
theorem PollI.set (h : PollI w g A n cA c T) (q : Nat) (x : Int) : PollI (w.setCell ⟨g, 2 + q, none⟩ (.int .i64 x)) g A n cA c (upd T q x) :=
  World.rowIs.congr (World.rowIs.set h (2 + q) (.int .i64 x)) (fun j hj => by
    unfold pollF upd
    by_cases e : j = 2 + q
    · subst e
      rw [if_pos rfl, if_neg (by omega), if_neg (by omega), if_pos (by omega)]
    · rw [if_neg e]
      by_cases e0 : j = 0
      · rw [if_pos e0, if_pos e0]
      · by_cases e1 : j = 1
        · rw [if_neg e0, if_neg e0, if_pos e1, if_pos e1]
        · rw [if_neg e0, if_neg e0, if_neg e1, if_neg e1, if_neg (by omega)])
theorem PollI.set2 (h : PollI w g A n cA c T) (x y : Nat) (z : Int) : PollI (w.setCell ⟨g, 2 + x * 5 + y, none⟩ (.int .i64 z)) g A n cA c (upd T (5 * x + y) z) := by
  rw [show 2 + x * 5 + y = 2 + (5 * x + y) by omega]
  exact h.set _ _
theorem PollI.at2 (h : PollI w g A n cA c T) {x y : Nat} (hx : x < 5) (hy : y < 5) : w.cell? ⟨g, 2 + x * 5 + y, none⟩ = some (.int .i64 (T (5 * x + y))) := by
  rw [show 2 + x * 5 + y = 2 + (5 * x + y) by omega]
  exact h.at (by omega)
theorem PollI.congr {T' : Nat → Int} (h : PollI w g A n cA c T) (e : ∀ q, q < 25 → T q = T' q) : PollI w g A n cA c T' :=
  World.rowIs.congr h (fun j hj => by
    unfold pollF
    by_cases e0 : j = 0
    · rw [if_pos e0, if_pos e0]
    · by_cases e1 : j = 1
      · rw [if_neg e0, if_neg e0, if_pos e1, if_pos e1]
      · rw [if_neg e0, if_neg e0, if_neg e1, if_neg e1, e _ (by omega)])
theorem pollL_at (A : Option Addr) (n cA c : Nat) (T : Nat → Int) {i : Nat} (hi : i < 27) : (pollL A n cA c T)[i]? = some (pollF A n cA c T i) := by
  unfold pollL
  rw [List.getElem?_map, List.getElem?_range hi]
  rfl
theorem PollI.box (w : World) (A : Option Addr) (n cA c : Nat) (T : Nat → Int) : PollI (w.alloc (.cells (pollL A n cA c T).toArray 56)) w.heap.size A n cA c T := by
  have := World.rowIs_alloc w (pollL A n cA c T).toArray 56 (pollF A n cA c T) (fun i hi => by
    have hi' : i < 27 := by simpa [pollL_len] using hi
    rw [List.getElem?_toArray]
    exact pollL_at A n cA c T hi')
  simpa [PollI, pollL_len] using this
/-- Whatever block of 27 cells: a poll written into it. -/
theorem PollI.stored {F : Nat → Value} (h : w.rowIs g 56 27 F) : PollI (w.setCells g 0 (pollL A n cA c T)) g A n cA c T := by
  have key : ∀ (vs : List Value) (o : Nat) (w : World) (F : Nat → Value), w.rowIs g 56 27 F → ∃ F', (w.setCells g o vs).rowIs g 56 27 F' := by
    intro vs
    induction vs with
    | nil => exact fun o w F h => ⟨F, h⟩
    | cons v vs ih => exact fun o w F h => ih (o + 1) _ _ (World.rowIs.set h o v)
  obtain ⟨F', hF⟩ := key (pollL A n cA c T) 0 w F h
  refine World.rowIs.congr hF (fun i hi => ?_)
  have h1 := World.rangeAt_setCells_same w g 0 (pollL A n cA c T) (fun j hj => ⟨by rw [Nat.zero_add, World.rowIs.cell h (by rw [pollL_len] at hj; exact hj)]; rfl, by rw [Nat.zero_add]; exact World.rowIs.frozen h j⟩) i _ (pollL_at A n cA c T hi)
  rw [Nat.zero_add, World.rowIs.cell hF hi] at h1
  injection h1
end
/-- A poll in a cell, and a Bool. -/
theorem poll_results (tmps : Array Value) (w : World) (g : Nat) (l : List Value) (ok : Bool) (h2 : tmps[2]?.getD undef = .pointer (some ⟨g, 0, none⟩)) (h3 : tmps[3]?.getD undef = .bool ok)
    (hld : (loadVar 56 ⟨g, 0, none⟩).run Try.prog w = .ok (.agg l.toArray) w) : (results Try.f33 tmps).run Try.prog w = .ok (.tuple #[.agg l.toArray, .bool ok]) w := by
  simp [results, Try.results33, asAddr, h2, h3, hld]
end Go.Proofs.Ytnobbklnnkpdfaa
