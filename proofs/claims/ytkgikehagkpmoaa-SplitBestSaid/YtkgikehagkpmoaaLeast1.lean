import Derived.Test.YtkgikehagkpmoaaGr2
import Derived.Test.YtkgikehagkpmoaaShelf
namespace Go.Proofs.Ytkgikehagkpmoaa
open Go.RowKit

/-- What slices.Sort leaves of a row of the call's own. -/
theorem sort_own {w w' : World} {base g cap k : Nat} {os : Array Obj} {xs ys : List Int} (h : OwnL w base (.slice (some ⟨g, 0, none⟩) xs.length cap) xs) (hy : ys.length = xs.length)
    (hw : w' = Go.Sort.grow (Go.Sort.putRow (Value.int .i64) (Go.Sort.ahead w k) g 0 ys.toArray) os) : OwnL w' base (.slice (some ⟨g, 0, none⟩) ys.length cap) ys ∧ Exc g w w' := by
  have hlt := (World.ownsRow.lt h g rfl).2
  rcases h.2 with ⟨e, _⟩ | ⟨g', cap', cur, e, hb, hh, hn, hc, hs, ht⟩
  · cases e
  injection e with e1 e2 e3
  injection e1 with e1
  injection e1 with e4 e5
  subst e4 e3
  have hheap : w'.heap = (w.heap.modify g (Go.Sort.onCells (Go.Sort.putCells (Value.int .i64) 0 ys.toArray))) ++ os := by
    rw [hw]
    rfl
  have hg : w'.heap[g]? = some (.cells (Go.Sort.putCells (Value.int .i64) 0 ys.toArray cur) 3 (0, 0)) := by
    rw [hheap, Array.getElem?_append_left (by simpa using hlt), Array.getElem?_modify, if_pos rfl, hh]
    rfl
  refine ⟨⟨by simp, .inr ⟨g, cap, _, rfl, hb, hg, by omega, hc, by simp [Go.Sort.putCells, hs], ?_⟩⟩, ⟨by rw [hw]; rfl, by rw [hw]; rfl, by rw [hw]; rfl, by rw [hheap]; simp, fun j hj hne => ?_⟩⟩
  · apply List.ext_getElem?
    intro j
    rcases Nat.lt_or_ge j ys.length with hj | hj
    · have hjc : j < cur.size := by omega
      rw [Nat.mul_one, List.getElem?_take_of_lt hj, Array.getElem?_toList, List.getElem?_map, List.getElem?_eq_getElem hj]
      simp only [Go.Sort.putCells, Array.getElem?_mapIdx, Array.getElem?_eq_getElem hjc, Option.map_some]
      rw [if_pos ⟨by omega, by simpa using hj⟩]
      simp [hj]
    · rw [List.getElem?_eq_none (by simp; omega), List.getElem?_eq_none (by simp; omega)]
  · rw [hheap, Array.getElem?_append_left (by simpa using hj), Array.getElem?_modify, if_neg (fun e => hne (by rw [e]))]

def sortL (n : Nat) (f : Nat → Int) : List Int := (lst n f).mergeSort fun x y => decide (x ≤ y)
theorem sortL_len (n : Nat) (f : Nat → Int) : (sortL n f).length = n := by simp [sortL, lst_len]
def scoreL (n : Nat) (f : Nat → Int) : Nat → Int := fun k => (sortL n f).getD k 0
theorem scoreL_lst (n : Nat) (f : Nat → Int) : lst n (scoreL n f) = sortL n f := by
  have := lst_of (sortL n f)
  rw [sortL_len] at this
  exact this

set_option maxHeartbeats 1000000 in
set_option maxRecDepth 1000000 in
theorem score_least (n : Nat) (hn : 0 < n) (hn4 : n ≤ 4) : ScoreOk 52 n n (scoreL n) := fun A c f w h _ => by
  have HI := Lib.hid h
  clear h
  go_enter Try.func52, Try.ntmps52
  go_wp2_with fail
  refine (clone_any A n c f w HI.out (by omega)).mono ?_
  rintro e w1 ⟨v1, rfl, h1, -, hb1⟩
  obtain ⟨A1, c1, rfl, hA1, hI1, hbk, hc1⟩ := h1.form
  have hA : ∃ g, A1 = some ⟨g, 0, none⟩ := by
    rcases h1.2 with ⟨e, h0⟩ | ⟨g, cap, cur, e, _⟩
    · rw [lst_len] at h0; omega
    · injection e with e1
      exact ⟨g, e1⟩
  obtain ⟨g, rfl⟩ := hA
  have hlt := (hbk g 0 rfl).2.1
  have hbase := (hbk g 0 rfl).1
  have H1 := Lib.hid h1
  have hH : Go.Sort.Holds (Value.int .i64) w1 g 0 (lst n f).toArray := fun j hj => by
    have hj' : j < n := by simpa [lst_len] using hj
    have hlen : (lst n f).length * 1 = n := by rw [lst_len, Nat.mul_one]
    constructor
    · rw [Nat.zero_add, World.ownsRow.cellAt h1 j (by rw [hlen]; exact hj'), List.getElem?_map, lst_get _ _ _ hj']
      simp only [Option.map_some]
      congr 2
      rw [getElem!_pos _ j hj]
      have := lst_get n f j hj'
      rw [List.getElem?_eq_getElem (by rw [lst_len]; exact hj')] at this
      simpa using this.symm
    · rw [Nat.zero_add]
      exact World.ownsRow.frozenAt h1 j
  have hsort := Try.slices_Sort_int g 0 c1 (lst n f) w1 hH hlt (by rw [lst_len]; omega)
  have HS := Lib.hid hsort
  have HB := Lib.hid hb1
  clear h1 hI1 hbk hH hsort hb1 hA1
  go_wp2_with fail
  refine HS.out.mono ?_
  rintro e w2 ⟨rfl, k, os, hw2⟩
  obtain ⟨h2, hE⟩ := sort_own (ys := sortL n f) H1.out (by rw [sortL_len, lst_len]) hw2
  have H2 := Lib.hid h2
  have HE := Lib.hid hE
  clear h2 hE hw2
  go_wp2
  go_ret
  refine ⟨_, rfl, ?_, HB.out.trans (HE.out.below hbase (by have := HB.out.size; omega))⟩
  have h3 := H2.out
  rw [scoreL_lst]
  rw [sortL_len] at h3
  rw [lst_len]
  exact h3
end Go.Proofs.Ytkgikehagkpmoaa
