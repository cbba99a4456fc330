/- What Path refuses; Path of what Few leaves. -/
import Derived.Test.YtnobbklnnkpdfaaPh
namespace Go.Proofs.Ytnobbklnnkpdfaa
open Go.RowKit

set_option maxHeartbeats 2000000 in
set_option maxRecDepth 1000000 in
theorem Path_bad (A : Option Addr) (n cA : Nat) (L : Nat → Nat) (v : Nat → Nat → Int) (qa qb : Int) (w : World) (h : RowsK w A n L v) (hok : okBal n L v = false) (hn : n ≤ 1000) (hL : ∀ i, i < n → L i ≤ 1000) :
    Lr 22 #[.slice A n cA, .int .i64 qa, .int .i64 qb] w (.tuple #[.slice none 0 0, .int .i64 2]) := by
  have HC := Lib.hid (fun w' (hb : Below w.heap.size w w') => count_bad A n cA L v w' (h.keep hb) hok hn hL)
  clear h hok hL
  show Calls _ _ _ _ _
  refine (callsIn_wide (n := 3)).1 (callsIn_of_wp_marks Try.func22 rfl trivial ?_ rfl)
  simp only [Try.ntmps22, List.size_toArray, List.length_cons, List.length_nil, Nat.reduceAdd, Nat.reduceSub, Array.replicate_succ, Array.replicate_zero, List.push_toArray, List.append_toArray, List.nil_append, List.cons_append]
  rw [wpIn_wide]
  go_wp2_with fail
  have b1 : Below w.heap.size w (w.alloc (.cells #[.int .i64 qa] 3)) := (Below.refl _ w).alloc (Nat.le_refl _) _
  have r1 := box_row w (.int .i64 qa) 3
  have s1 : (w.alloc (.cells #[.int .i64 qa] 3)).heap.size = w.heap.size + 1 := by simp
  generalize w.alloc (.cells #[.int .i64 qa] 3) = X1 at *
  have r2 := box_row X1 (.int .i64 qb) 3
  have b2 : Below X1.heap.size X1 (X1.alloc (.cells #[.int .i64 qb] 3)) := (Below.refl _ X1).alloc (Nat.le_refl _) _
  have s2 : (X1.alloc (.cells #[.int .i64 qb] 3)).heap.size = w.heap.size + 2 := by simp [s1]
  generalize X1.alloc (.cells #[.int .i64 qb] 3) = X2 at *
  have r3 := box_row X2 (.slice none 0 0) 23
  have b3 : Below X2.heap.size X2 (X2.alloc (.cells #[.slice none 0 0] 23)) := (Below.refl _ X2).alloc (Nat.le_refl _) _
  have s3 : (X2.alloc (.cells #[.slice none 0 0] 23)).heap.size = w.heap.size + 3 := by simp [s2]
  generalize X2.alloc (.cells #[.slice none 0 0] 23) = X3 at *
  have r4 := box_row X3 (.int .i64 0) 24
  have b4 : Below X3.heap.size X3 (X3.alloc (.cells #[.int .i64 0] 24)) := (Below.refl _ X3).alloc (Nat.le_refl _) _
  have s4 : (X3.alloc (.cells #[.int .i64 0] 24)).heap.size = w.heap.size + 4 := by simp [s3]
  generalize X3.alloc (.cells #[.int .i64 0] 24) = X4 at *
  rw [s1] at r2
  rw [s2] at r3
  rw [s3] at r4
  have r3 := World.rowIs.of_block r3 (b4.block _ (by omega))
  have r2 := World.rowIs.of_block r2 ((b3.trans (b4.mono (by omega))).block _ (by omega))
  have r1 := World.rowIs.of_block r1 ((b2.trans ((b3.trans (b4.mono (by omega))).mono (by omega))).block _ (by omega))
  have hb4 := (b1.trans (b2.mono (by omega))).trans ((b3.trans (b4.mono (by omega))).mono (by omega))
  clear b1 b2 b3 b4
  refine (HC.out X4 hb4).mono ?_
  rintro e w4 ⟨rfl, hb5⟩
  have HZ4 := Lib.hid (PollI.zero w4)
  have hb4z := zero_below w4
  have hs4 := hb5.size
  go_wp2_with fail
  rw [run_storePoll _ _ _ none 0 0 0 (fun _ => 0) HZ4.out]
  simp only [Result.andThen_ok]
  rw [Oper.upon_skip]
  have HR := Lib.hid (PollI.stored (A := none) (n := 0) (cA := 0) (c := 0) (T := fun _ => 0) HZ4.out)
  have hX5 := below_setCells (pollL none 0 0 0 (fun _ => 0)) 0 hb5.size (hb5.trans (hb4z.mono hb5.size))
  generalize World.setCells _ w4.heap.size 0 (pollL none 0 0 0 (fun _ => 0)) = W at *
  clear HZ4 hb4z hb5
  have r1 := World.rowIs.of_block r1 (hX5.block _ (by omega))
  have r2 := World.rowIs.of_block r2 (hX5.block _ (by omega))
  have r3 := World.rowIs.of_block r3 (hX5.block _ (by omega))
  have r4 := World.rowIs.of_block r4 (hX5.block _ (by omega))
  have hBW : Below w.heap.size w W := hb4.trans (hX5.mono (by omega))
  have hsz := hBW.size
  have a1 := World.rowIs.cell r1 (i := 0) (by omega)
  have a2 := World.rowIs.cell r2 (i := 0) (by omega)
  have a3 := HR.out.c1
  have c3 : W.cell? ⟨w.heap.size + 1 + 1, 0, none⟩ = some (.slice none 0 0) := World.rowIs.cell r3 (i := 0) (by omega)
  have f3 : W.frozen? ⟨w.heap.size + 1 + 1, 0, none⟩ = false := World.rowIs.frozen r3 0
  have c4 : W.cell? ⟨w.heap.size + 1 + 1 + 1, 0, none⟩ = some (.int .i64 0) := World.rowIs.cell r4 (i := 0) (by omega)
  have f4 : W.frozen? ⟨w.heap.size + 1 + 1 + 1, 0, none⟩ = false := World.rowIs.frozen r4 0
  clear hX5 HC hb4
  go_wp2
  clear a1 a2 a3 c3 f3 c4 f4
  have e0 : Exc (w.heap.size + 2) W (W.setCell ⟨w.heap.size + 1 + 1, 0, none⟩ (.slice none 0 0)) := (Exc.refl _ _).set 0 _
  have q3 : World.rowIs (W.setCell ⟨w.heap.size + 1 + 1, 0, none⟩ (.slice none 0 0)) (w.heap.size + 2) 23 1 (fun _ => .slice none 0 0) := World.rowIs.congr (World.rowIs.set r3 0 (.slice none 0 0)) (fun j hj => by rw [if_pos (show j = 0 by omega)])
  have o4 := World.rowIs.of_block r4 (e0.block _ (World.rowIs.lt r4) (fun e => by injection e with e; omega))
  have hz0 := e0.size
  generalize W.setCell ⟨w.heap.size + 1 + 1, 0, none⟩ (.slice none 0 0) = Z1 at *
  have e1 : Exc (w.heap.size + 3) Z1 (Z1.setCell ⟨w.heap.size + 1 + 1 + 1, 0, none⟩ (.int .i64 2)) := (Exc.refl _ _).set 0 _
  have q4 : World.rowIs (Z1.setCell ⟨w.heap.size + 1 + 1 + 1, 0, none⟩ (.int .i64 2)) (w.heap.size + 3) 24 1 (fun _ => .int .i64 2) := World.rowIs.congr (World.rowIs.set o4 0 (.int .i64 2)) (fun j hj => by rw [if_pos (show j = 0 by omega)])
  have q3' := World.rowIs.of_block q3 (e1.block _ (World.rowIs.lt q3) (fun e => by injection e with e; omega))
  have hz1 := e1.size
  generalize Z1.setCell ⟨w.heap.size + 1 + 1 + 1, 0, none⟩ (.int .i64 2) = Z2 at *
  have hB3 : Below w.heap.size w Z2 := hBW.trans ((e0.below (by omega) hsz).trans (e1.below (by omega) (by omega)))
  refine leaves_marks (B := 0) [] Z2 (Marks.nil _ _) (fun w' hs => ?_)
  have g2 : w'.cell? ⟨w.heap.size + 1 + 1, 0, none⟩ = some (.slice none 0 0) := World.rowIs.cell (World.rowIs.of_block q3' (hs.block _ (World.rowIs.lt q3') (by simp))) (i := 0) (by omega)
  have g3 : w'.cell? ⟨w.heap.size + 1 + 1 + 1, 0, none⟩ = some (.int .i64 2) := World.rowIs.cell (World.rowIs.of_block q4 (hs.block _ (World.rowIs.lt q4) (by simp))) (i := 0) (by omega)
  exact ⟨.tuple #[.slice none 0 0, .int .i64 2], by simp [results, Try.results22, go_sem, g2, g3], rfl, hB3.trans (hs.below (B := w.heap.size) (by simp) hB3.size)⟩

set_option maxHeartbeats 2000000 in
set_option maxRecDepth 1000000 in
theorem Path_arg_bad (A : Option Addr) (n cA : Nat) (L : Nat → Nat) (v : Nat → Nat → Int) (qa qb : Int) (w : World) (h : RowsK w A n L v) (hok : okBal n L v = true) (hA : n ≤ cA) (hq : qa < 0 ∨ (L 0 : Int) ≤ qa ∨ qb < 0 ∨ (L 0 : Int) ≤ qb ∨ qa = qb) :
    Lr 22 #[.slice A n cA, .int .i64 qa, .int .i64 qb] w (.tuple #[.slice none 0 0, .int .i64 2]) := by
  have HC := Lib.hid (fun w' (hb : Below w.heap.size w w') => count_ok A n cA L v w' (h.keep hb) hok hA)
  clear h hok 
  show Calls _ _ _ _ _
  refine (callsIn_wide (n := 3)).1 (callsIn_of_wp_marks Try.func22 rfl trivial ?_ rfl)
  simp only [Try.ntmps22, List.size_toArray, List.length_cons, List.length_nil, Nat.reduceAdd, Nat.reduceSub, Array.replicate_succ, Array.replicate_zero, List.push_toArray, List.append_toArray, List.nil_append, List.cons_append]
  rw [wpIn_wide]
  go_wp2_with fail
  have b1 : Below w.heap.size w (w.alloc (.cells #[.int .i64 qa] 3)) := (Below.refl _ w).alloc (Nat.le_refl _) _
  have r1 := box_row w (.int .i64 qa) 3
  have s1 : (w.alloc (.cells #[.int .i64 qa] 3)).heap.size = w.heap.size + 1 := by simp
  generalize w.alloc (.cells #[.int .i64 qa] 3) = X1 at *
  have r2 := box_row X1 (.int .i64 qb) 3
  have b2 : Below X1.heap.size X1 (X1.alloc (.cells #[.int .i64 qb] 3)) := (Below.refl _ X1).alloc (Nat.le_refl _) _
  have s2 : (X1.alloc (.cells #[.int .i64 qb] 3)).heap.size = w.heap.size + 2 := by simp [s1]
  generalize X1.alloc (.cells #[.int .i64 qb] 3) = X2 at *
  have r3 := box_row X2 (.slice none 0 0) 23
  have b3 : Below X2.heap.size X2 (X2.alloc (.cells #[.slice none 0 0] 23)) := (Below.refl _ X2).alloc (Nat.le_refl _) _
  have s3 : (X2.alloc (.cells #[.slice none 0 0] 23)).heap.size = w.heap.size + 3 := by simp [s2]
  generalize X2.alloc (.cells #[.slice none 0 0] 23) = X3 at *
  have r4 := box_row X3 (.int .i64 0) 24
  have b4 : Below X3.heap.size X3 (X3.alloc (.cells #[.int .i64 0] 24)) := (Below.refl _ X3).alloc (Nat.le_refl _) _
  have s4 : (X3.alloc (.cells #[.int .i64 0] 24)).heap.size = w.heap.size + 4 := by simp [s3]
  generalize X3.alloc (.cells #[.int .i64 0] 24) = X4 at *
  rw [s1] at r2
  rw [s2] at r3
  rw [s3] at r4
  have r3 := World.rowIs.of_block r3 (b4.block _ (by omega))
  have r2 := World.rowIs.of_block r2 ((b3.trans (b4.mono (by omega))).block _ (by omega))
  have r1 := World.rowIs.of_block r1 ((b2.trans ((b3.trans (b4.mono (by omega))).mono (by omega))).block _ (by omega))
  have hb4 := (b1.trans (b2.mono (by omega))).trans ((b3.trans (b4.mono (by omega))).mono (by omega))
  clear b1 b2 b3 b4
  refine (HC.out X4 hb4).mono ?_
  rintro e w4 ⟨rfl, hb5⟩
  have HZ4 := Lib.hid (PollI.zero w4)
  have hb4z := zero_below w4
  have hs4 := hb5.size
  go_wp2_with fail
  rw [run_storePoll _ _ _ A n cA (L 0) (mAll v (L 0) n) HZ4.out]
  simp only [Result.andThen_ok]
  rw [Oper.upon_skip]
  have HR := Lib.hid (PollI.stored (A := A) (n := n) (cA := cA) (c := L 0) (T := mAll v (L 0) n) HZ4.out)
  have hX5 := below_setCells (pollL A n cA (L 0) (mAll v (L 0) n)) 0 hb5.size (hb5.trans (hb4z.mono hb5.size))
  generalize World.setCells _ w4.heap.size 0 (pollL A n cA (L 0) (mAll v (L 0) n)) = W at *
  clear HZ4 hb4z hb5
  have r1 := World.rowIs.of_block r1 (hX5.block _ (by omega))
  have r2 := World.rowIs.of_block r2 (hX5.block _ (by omega))
  have r3 := World.rowIs.of_block r3 (hX5.block _ (by omega))
  have r4 := World.rowIs.of_block r4 (hX5.block _ (by omega))
  have hBW : Below w.heap.size w W := hb4.trans (hX5.mono (by omega))
  have hsz := hBW.size
  have a1 := World.rowIs.cell r1 (i := 0) (by omega)
  have a2 := World.rowIs.cell r2 (i := 0) (by omega)
  have a3 := HR.out.c1
  have c3 : W.cell? ⟨w.heap.size + 1 + 1, 0, none⟩ = some (.slice none 0 0) := World.rowIs.cell r3 (i := 0) (by omega)
  have f3 : W.frozen? ⟨w.heap.size + 1 + 1, 0, none⟩ = false := World.rowIs.frozen r3 0
  have c4 : W.cell? ⟨w.heap.size + 1 + 1 + 1, 0, none⟩ = some (.int .i64 0) := World.rowIs.cell r4 (i := 0) (by omega)
  have f4 : W.frozen? ⟨w.heap.size + 1 + 1 + 1, 0, none⟩ = false := World.rowIs.frozen r4 0
  clear hX5 HC hb4
  by_cases k0 : qa < 0
  · have t0 : decide (qa < 0) = true := decide_eq_true k0
    go_wp2
    clear a1 a2 a3 c3 f3 c4 f4
    have e0 : Exc (w.heap.size + 2) W (W.setCell ⟨w.heap.size + 1 + 1, 0, none⟩ (.slice none 0 0)) := (Exc.refl _ _).set 0 _
    have q3 : World.rowIs (W.setCell ⟨w.heap.size + 1 + 1, 0, none⟩ (.slice none 0 0)) (w.heap.size + 2) 23 1 (fun _ => .slice none 0 0) := World.rowIs.congr (World.rowIs.set r3 0 (.slice none 0 0)) (fun j hj => by rw [if_pos (show j = 0 by omega)])
    have o4 := World.rowIs.of_block r4 (e0.block _ (World.rowIs.lt r4) (fun e => by injection e with e; omega))
    have hz0 := e0.size
    generalize W.setCell ⟨w.heap.size + 1 + 1, 0, none⟩ (.slice none 0 0) = Z1 at *
    have e1 : Exc (w.heap.size + 3) Z1 (Z1.setCell ⟨w.heap.size + 1 + 1 + 1, 0, none⟩ (.int .i64 2)) := (Exc.refl _ _).set 0 _
    have q4 : World.rowIs (Z1.setCell ⟨w.heap.size + 1 + 1 + 1, 0, none⟩ (.int .i64 2)) (w.heap.size + 3) 24 1 (fun _ => .int .i64 2) := World.rowIs.congr (World.rowIs.set o4 0 (.int .i64 2)) (fun j hj => by rw [if_pos (show j = 0 by omega)])
    have q3' := World.rowIs.of_block q3 (e1.block _ (World.rowIs.lt q3) (fun e => by injection e with e; omega))
    have hz1 := e1.size
    generalize Z1.setCell ⟨w.heap.size + 1 + 1 + 1, 0, none⟩ (.int .i64 2) = Z2 at *
    have hB3 : Below w.heap.size w Z2 := hBW.trans ((e0.below (by omega) hsz).trans (e1.below (by omega) (by omega)))
    refine leaves_marks (B := 0) [] Z2 (Marks.nil _ _) (fun w' hs => ?_)
    have g2 : w'.cell? ⟨w.heap.size + 1 + 1, 0, none⟩ = some (.slice none 0 0) := World.rowIs.cell (World.rowIs.of_block q3' (hs.block _ (World.rowIs.lt q3') (by simp))) (i := 0) (by omega)
    have g3 : w'.cell? ⟨w.heap.size + 1 + 1 + 1, 0, none⟩ = some (.int .i64 2) := World.rowIs.cell (World.rowIs.of_block q4 (hs.block _ (World.rowIs.lt q4) (by simp))) (i := 0) (by omega)
    exact ⟨.tuple #[.slice none 0 0, .int .i64 2], by simp [results, Try.results22, go_sem, g2, g3], rfl, hB3.trans (hs.below (B := w.heap.size) (by simp) hB3.size)⟩
  · have t0 : decide (qa < 0) = false := decide_eq_false k0
    by_cases k1 : (L 0 : Int) ≤ qa
    · have t1 : decide ((L 0 : Int) ≤ qa) = true := decide_eq_true k1
      go_wp2
      clear a1 a2 a3 c3 f3 c4 f4
      have e0 : Exc (w.heap.size + 2) W (W.setCell ⟨w.heap.size + 1 + 1, 0, none⟩ (.slice none 0 0)) := (Exc.refl _ _).set 0 _
      have q3 : World.rowIs (W.setCell ⟨w.heap.size + 1 + 1, 0, none⟩ (.slice none 0 0)) (w.heap.size + 2) 23 1 (fun _ => .slice none 0 0) := World.rowIs.congr (World.rowIs.set r3 0 (.slice none 0 0)) (fun j hj => by rw [if_pos (show j = 0 by omega)])
      have o4 := World.rowIs.of_block r4 (e0.block _ (World.rowIs.lt r4) (fun e => by injection e with e; omega))
      have hz0 := e0.size
      generalize W.setCell ⟨w.heap.size + 1 + 1, 0, none⟩ (.slice none 0 0) = Z1 at *
      have e1 : Exc (w.heap.size + 3) Z1 (Z1.setCell ⟨w.heap.size + 1 + 1 + 1, 0, none⟩ (.int .i64 2)) := (Exc.refl _ _).set 0 _
      have q4 : World.rowIs (Z1.setCell ⟨w.heap.size + 1 + 1 + 1, 0, none⟩ (.int .i64 2)) (w.heap.size + 3) 24 1 (fun _ => .int .i64 2) := World.rowIs.congr (World.rowIs.set o4 0 (.int .i64 2)) (fun j hj => by rw [if_pos (show j = 0 by omega)])
      have q3' := World.rowIs.of_block q3 (e1.block _ (World.rowIs.lt q3) (fun e => by injection e with e; omega))
      have hz1 := e1.size
      generalize Z1.setCell ⟨w.heap.size + 1 + 1 + 1, 0, none⟩ (.int .i64 2) = Z2 at *
      have hB3 : Below w.heap.size w Z2 := hBW.trans ((e0.below (by omega) hsz).trans (e1.below (by omega) (by omega)))
      refine leaves_marks (B := 0) [] Z2 (Marks.nil _ _) (fun w' hs => ?_)
      have g2 : w'.cell? ⟨w.heap.size + 1 + 1, 0, none⟩ = some (.slice none 0 0) := World.rowIs.cell (World.rowIs.of_block q3' (hs.block _ (World.rowIs.lt q3') (by simp))) (i := 0) (by omega)
      have g3 : w'.cell? ⟨w.heap.size + 1 + 1 + 1, 0, none⟩ = some (.int .i64 2) := World.rowIs.cell (World.rowIs.of_block q4 (hs.block _ (World.rowIs.lt q4) (by simp))) (i := 0) (by omega)
      exact ⟨.tuple #[.slice none 0 0, .int .i64 2], by simp [results, Try.results22, go_sem, g2, g3], rfl, hB3.trans (hs.below (B := w.heap.size) (by simp) hB3.size)⟩
    · have t1 : decide ((L 0 : Int) ≤ qa) = false := decide_eq_false k1
      by_cases k2 : qb < 0
      · have t2 : decide (qb < 0) = true := decide_eq_true k2
        go_wp2
        clear a1 a2 a3 c3 f3 c4 f4
        have e0 : Exc (w.heap.size + 2) W (W.setCell ⟨w.heap.size + 1 + 1, 0, none⟩ (.slice none 0 0)) := (Exc.refl _ _).set 0 _
        have q3 : World.rowIs (W.setCell ⟨w.heap.size + 1 + 1, 0, none⟩ (.slice none 0 0)) (w.heap.size + 2) 23 1 (fun _ => .slice none 0 0) := World.rowIs.congr (World.rowIs.set r3 0 (.slice none 0 0)) (fun j hj => by rw [if_pos (show j = 0 by omega)])
        have o4 := World.rowIs.of_block r4 (e0.block _ (World.rowIs.lt r4) (fun e => by injection e with e; omega))
        have hz0 := e0.size
        generalize W.setCell ⟨w.heap.size + 1 + 1, 0, none⟩ (.slice none 0 0) = Z1 at *
        have e1 : Exc (w.heap.size + 3) Z1 (Z1.setCell ⟨w.heap.size + 1 + 1 + 1, 0, none⟩ (.int .i64 2)) := (Exc.refl _ _).set 0 _
        have q4 : World.rowIs (Z1.setCell ⟨w.heap.size + 1 + 1 + 1, 0, none⟩ (.int .i64 2)) (w.heap.size + 3) 24 1 (fun _ => .int .i64 2) := World.rowIs.congr (World.rowIs.set o4 0 (.int .i64 2)) (fun j hj => by rw [if_pos (show j = 0 by omega)])
        have q3' := World.rowIs.of_block q3 (e1.block _ (World.rowIs.lt q3) (fun e => by injection e with e; omega))
        have hz1 := e1.size
        generalize Z1.setCell ⟨w.heap.size + 1 + 1 + 1, 0, none⟩ (.int .i64 2) = Z2 at *
        have hB3 : Below w.heap.size w Z2 := hBW.trans ((e0.below (by omega) hsz).trans (e1.below (by omega) (by omega)))
        refine leaves_marks (B := 0) [] Z2 (Marks.nil _ _) (fun w' hs => ?_)
        have g2 : w'.cell? ⟨w.heap.size + 1 + 1, 0, none⟩ = some (.slice none 0 0) := World.rowIs.cell (World.rowIs.of_block q3' (hs.block _ (World.rowIs.lt q3') (by simp))) (i := 0) (by omega)
        have g3 : w'.cell? ⟨w.heap.size + 1 + 1 + 1, 0, none⟩ = some (.int .i64 2) := World.rowIs.cell (World.rowIs.of_block q4 (hs.block _ (World.rowIs.lt q4) (by simp))) (i := 0) (by omega)
        exact ⟨.tuple #[.slice none 0 0, .int .i64 2], by simp [results, Try.results22, go_sem, g2, g3], rfl, hB3.trans (hs.below (B := w.heap.size) (by simp) hB3.size)⟩
      · have t2 : decide (qb < 0) = false := decide_eq_false k2
        by_cases k3 : (L 0 : Int) ≤ qb
        · have t3 : decide ((L 0 : Int) ≤ qb) = true := decide_eq_true k3
          go_wp2
          clear a1 a2 a3 c3 f3 c4 f4
          have e0 : Exc (w.heap.size + 2) W (W.setCell ⟨w.heap.size + 1 + 1, 0, none⟩ (.slice none 0 0)) := (Exc.refl _ _).set 0 _
          have q3 : World.rowIs (W.setCell ⟨w.heap.size + 1 + 1, 0, none⟩ (.slice none 0 0)) (w.heap.size + 2) 23 1 (fun _ => .slice none 0 0) := World.rowIs.congr (World.rowIs.set r3 0 (.slice none 0 0)) (fun j hj => by rw [if_pos (show j = 0 by omega)])
          have o4 := World.rowIs.of_block r4 (e0.block _ (World.rowIs.lt r4) (fun e => by injection e with e; omega))
          have hz0 := e0.size
          generalize W.setCell ⟨w.heap.size + 1 + 1, 0, none⟩ (.slice none 0 0) = Z1 at *
          have e1 : Exc (w.heap.size + 3) Z1 (Z1.setCell ⟨w.heap.size + 1 + 1 + 1, 0, none⟩ (.int .i64 2)) := (Exc.refl _ _).set 0 _
          have q4 : World.rowIs (Z1.setCell ⟨w.heap.size + 1 + 1 + 1, 0, none⟩ (.int .i64 2)) (w.heap.size + 3) 24 1 (fun _ => .int .i64 2) := World.rowIs.congr (World.rowIs.set o4 0 (.int .i64 2)) (fun j hj => by rw [if_pos (show j = 0 by omega)])
          have q3' := World.rowIs.of_block q3 (e1.block _ (World.rowIs.lt q3) (fun e => by injection e with e; omega))
          have hz1 := e1.size
          generalize Z1.setCell ⟨w.heap.size + 1 + 1 + 1, 0, none⟩ (.int .i64 2) = Z2 at *
          have hB3 : Below w.heap.size w Z2 := hBW.trans ((e0.below (by omega) hsz).trans (e1.below (by omega) (by omega)))
          refine leaves_marks (B := 0) [] Z2 (Marks.nil _ _) (fun w' hs => ?_)
          have g2 : w'.cell? ⟨w.heap.size + 1 + 1, 0, none⟩ = some (.slice none 0 0) := World.rowIs.cell (World.rowIs.of_block q3' (hs.block _ (World.rowIs.lt q3') (by simp))) (i := 0) (by omega)
          have g3 : w'.cell? ⟨w.heap.size + 1 + 1 + 1, 0, none⟩ = some (.int .i64 2) := World.rowIs.cell (World.rowIs.of_block q4 (hs.block _ (World.rowIs.lt q4) (by simp))) (i := 0) (by omega)
          exact ⟨.tuple #[.slice none 0 0, .int .i64 2], by simp [results, Try.results22, go_sem, g2, g3], rfl, hB3.trans (hs.below (B := w.heap.size) (by simp) hB3.size)⟩
        · have t3 : decide ((L 0 : Int) ≤ qb) = false := decide_eq_false k3
          have k4 : qa = qb := by omega
          have t4 := beq_t k4
          clear k4
          go_wp2
          clear a1 a2 a3 c3 f3 c4 f4
          have e0 : Exc (w.heap.size + 2) W (W.setCell ⟨w.heap.size + 1 + 1, 0, none⟩ (.slice none 0 0)) := (Exc.refl _ _).set 0 _
          have q3 : World.rowIs (W.setCell ⟨w.heap.size + 1 + 1, 0, none⟩ (.slice none 0 0)) (w.heap.size + 2) 23 1 (fun _ => .slice none 0 0) := World.rowIs.congr (World.rowIs.set r3 0 (.slice none 0 0)) (fun j hj => by rw [if_pos (show j = 0 by omega)])
          have o4 := World.rowIs.of_block r4 (e0.block _ (World.rowIs.lt r4) (fun e => by injection e with e; omega))
          have hz0 := e0.size
          generalize W.setCell ⟨w.heap.size + 1 + 1, 0, none⟩ (.slice none 0 0) = Z1 at *
          have e1 : Exc (w.heap.size + 3) Z1 (Z1.setCell ⟨w.heap.size + 1 + 1 + 1, 0, none⟩ (.int .i64 2)) := (Exc.refl _ _).set 0 _
          have q4 : World.rowIs (Z1.setCell ⟨w.heap.size + 1 + 1 + 1, 0, none⟩ (.int .i64 2)) (w.heap.size + 3) 24 1 (fun _ => .int .i64 2) := World.rowIs.congr (World.rowIs.set o4 0 (.int .i64 2)) (fun j hj => by rw [if_pos (show j = 0 by omega)])
          have q3' := World.rowIs.of_block q3 (e1.block _ (World.rowIs.lt q3) (fun e => by injection e with e; omega))
          have hz1 := e1.size
          generalize Z1.setCell ⟨w.heap.size + 1 + 1 + 1, 0, none⟩ (.int .i64 2) = Z2 at *
          have hB3 : Below w.heap.size w Z2 := hBW.trans ((e0.below (by omega) hsz).trans (e1.below (by omega) (by omega)))
          refine leaves_marks (B := 0) [] Z2 (Marks.nil _ _) (fun w' hs => ?_)
          have g2 : w'.cell? ⟨w.heap.size + 1 + 1, 0, none⟩ = some (.slice none 0 0) := World.rowIs.cell (World.rowIs.of_block q3' (hs.block _ (World.rowIs.lt q3') (by simp))) (i := 0) (by omega)
          have g3 : w'.cell? ⟨w.heap.size + 1 + 1 + 1, 0, none⟩ = some (.int .i64 2) := World.rowIs.cell (World.rowIs.of_block q4 (hs.block _ (World.rowIs.lt q4) (by simp))) (i := 0) (by omega)
          exact ⟨.tuple #[.slice none 0 0, .int .i64 2], by simp [results, Try.results22, go_sem, g2, g3], rfl, hB3.trans (hs.below (B := w.heap.size) (by simp) hB3.size)⟩
theorem PathFbad {n : Nat} {qa qb : Int} {L : Nat → Nat} {v : Nat → Nat → Int} {A : Option Addr} {k cA : Nat} {w : World} (h : RowsK w A k (fun i => min (L i) 11) v) (hk : k = min n 11) (hA : k ≤ cA) (hb : okBal n L v = false ∨ qa < 0 ∨ (L 0 : Int) ≤ qa ∨ qb < 0 ∨ (L 0 : Int) ≤ qb ∨ qa = qb) :
    Lr 22 #[.slice A k cA, .int .i64 qa, .int .i64 qb] w (.tuple #[.slice none 0 0, .int .i64 2]) := by
  subst hk
  rcases hok : okBal n L v with _ | _
  · have h0 : okBal (min n 11) (fun i => min (L i) 11) v = false := by rw [okBal_few]; exact hok
    have hL : ∀ i, i < min n 11 → (fun i => min (L i) 11) i ≤ 1000 := fun i hi => by show min (L i) 11 ≤ 1000; omega
    have hn : min n 11 ≤ 1000 := by omega
    exact Path_bad A (min n 11) cA (fun i => min (L i) 11) v qa qb w h h0 hn hL
  · obtain ⟨e1, e2, e3⟩ := bal_few hok
    have hb1 := hb.resolve_left (by rw [hok]; simp)
    have hb2 : qa < 0 ∨ ((min (L 0) 11 : Nat) : Int) ≤ qa ∨ qb < 0 ∨ ((min (L 0) 11 : Nat) : Int) ≤ qb ∨ qa = qb := by rw [e2]; exact hb1
    have h0 : okBal (min n 11) (fun i => min (L i) 11) v = true := by rw [okBal_few]; exact hok
    exact Path_arg_bad A (min n 11) cA (fun i => min (L i) 11) v qa qb w h h0 hA hb2
theorem PathF {n a b : Nat} {L : Nat → Nat} {v : Nat → Nat → Int} {A : Option Addr} {k cA : Nat} {w : World} (h : RowsK w A k (fun i => min (L i) 11) v) (hk : k = min n 11) (hA : k ≤ cA) (hok : okBal n L v = true) (ha : a < L 0) (hb : b < L 0) (hab : a ≠ b) :
    Calls Try.prog 22 #[.slice A k cA, .int .i64 (a : Int), .int .i64 (b : Int)] w fun e w' => PathR w (L 0) a b (mAll v (L 0) n) e w' := by
  subst hk
  obtain ⟨e1, e2, e3⟩ := bal_few hok
  have h0 : okBal (min n 11) (fun i => min (L i) 11) v = true := by rw [okBal_few]; exact hok
  have ha' : a < min (L 0) 11 := by omega
  have hb' : b < min (L 0) 11 := by omega
  refine (Path_ok A (min n 11) cA a b (fun i => min (L i) 11) v w h h0 hA ha' hb' hab).mono ?_
  intro e w' hp
  have hp' : PathR w (min (L 0) 11) a b (mAll v (min (L 0) 11) (min n 11)) e w' := hp
  rw [e1, e2] at hp'
  exact hp'
end Go.Proofs.Ytnobbklnnkpdfaa
