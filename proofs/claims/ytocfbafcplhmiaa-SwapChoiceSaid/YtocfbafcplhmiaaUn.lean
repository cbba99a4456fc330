/- swap: orders, all rows. -/
import Derived.Test.YtocfbafcplhmiaaUm
namespace Go.Proofs.Ytocfbafcplhmiaa
open Go.RowKit
attribute [local go_sem] Oper.semAt_some

set_option maxHeartbeats 1000000 in
set_option maxRecDepth 1000000 in
theorem orders1_rows (m : Nat) (hm : m ≤ 9) (ps l n : Nat) (Kb : Nat → Prop) (W : World)
    (hS : W.cell? ⟨ps, 0, none⟩ = some (.int .i64 m))
    (hl : l < W.heap.size) (hps : Kb ps ∧ ps ≠ l) (hK : ∀ b, W.heap.size ≤ b → Kb b) :
    RowsOut Fence.wide n 81 #[.pointer (some ⟨ps, 0, none⟩)] (W.heap.size + 1) m l Kb (ordL (List.range m) m []) W := by
  intro J Jx hJe hY hJ
  have hps1 := cell_lt hS
  have HY := Lib.hid hY
  have HJ := Lib.hid hJ
  have HJe := Lib.hid hJe
  have HK := Lib.hid hK
  have hmk := mk_ints m (by omega)
  clear hY hJ hJe hK
  refine callsIn_of_wp Try.func81 rfl trivial ?_ rfl
  simp only [Try.ntmps81, List.size_toArray, List.length_cons, List.length_nil, Nat.reduceAdd, Nat.reduceSub, Array.replicate_succ, Array.replicate_zero, List.push_toArray, List.append_toArray, List.nil_append, List.cons_append]
  gi_wp2
  have hb1 : Below W.heap.size W (W.alloc (.cells #[.func (.yield l) #[] #[]] 80)) := (Below.refl _ W).alloc (Nat.le_refl _) _
  have r1 := box_row W (.func (.yield l) #[] #[]) 80
  generalize hX1 : W.alloc (.cells #[.func (.yield l) #[] #[]] 80) = X1 at *
  have s1 : X1.heap.size = W.heap.size + 1 := by rw [← hX1]; simp
  clear hX1
  have r2 := RowI.made X1 m
  have b2 : Below X1.heap.size X1 (X1.alloc (.cells (madeCells #[.int .i64 0] m) 3)) := (Below.refl _ X1).alloc (Nat.le_refl _) _
  generalize hX2 : X1.alloc (.cells (madeCells #[.int .i64 0] m) 3) = X2 at *
  have s2 : X2.heap.size = W.heap.size + 1 + 1 := by rw [← hX2]; simp [s1]
  clear hX2
  have r3 := box_row X2 (.slice (some ⟨W.heap.size + 1, 0, none⟩) m m) 23
  have b3 : Below X2.heap.size X2 (X2.alloc (.cells #[.slice (some ⟨W.heap.size + 1, 0, none⟩) m m] 23)) := (Below.refl _ X2).alloc (Nat.le_refl _) _
  generalize hX3 : X2.alloc (.cells #[.slice (some ⟨W.heap.size + 1, 0, none⟩) m m] 23) = X3 at *
  have s3 : X3.heap.size = W.heap.size + 1 + 1 + 1 := by rw [← hX3]; simp [s2]
  clear hX3
  have r4 := box_row X3 .nilFunc 78
  have b4 : Below X3.heap.size X3 (X3.alloc (.cells #[.nilFunc] 78)) := (Below.refl _ X3).alloc (Nat.le_refl _) _
  generalize hX4 : X3.alloc (.cells #[.nilFunc] 78) = X4 at *
  have s4 : X4.heap.size = W.heap.size + 1 + 1 + 1 + 1 := by rw [← hX4]; simp [s3]
  clear hX4
  rw [s1] at r2
  rw [s2] at r3
  rw [s3] at r4
  have c4 := r4.cell (i := 0) (by omega)
  have z4 := r4.frozen 0
  rw [run_store _ _ _ _ _ rfl]
  simp only [c4, z4]
  have hb4 : Below W.heap.size W X4 := ((hb1.trans (b2.mono (by omega))).trans (b3.mono (by omega))).trans (b4.mono (by omega))
  have r5 := r4.set 0 (.func (.func 82) #[] #[.pointer (some ⟨ps, 0, none⟩), .pointer (some ⟨W.heap.size, 0, none⟩), .pointer (some ⟨W.heap.size + 1 + 1, 0, none⟩), .pointer (some ⟨W.heap.size + 1 + 1 + 1, 0, none⟩)])
  have e5 : Exc (W.heap.size + 1 + 1 + 1) X4 (X4.setCell ⟨W.heap.size + 1 + 1 + 1, 0, none⟩ (.func (.func 82) #[] #[.pointer (some ⟨ps, 0, none⟩), .pointer (some ⟨W.heap.size, 0, none⟩), .pointer (some ⟨W.heap.size + 1 + 1, 0, none⟩), .pointer (some ⟨W.heap.size + 1 + 1 + 1, 0, none⟩)])) := (Exc.refl _ _).set 0 _
  generalize X4.setCell _ _ = X5 at *
  have c5 := r5.cell (i := 0) (by omega)
  rw [if_pos rfl] at c5
  have c1 := cell_keep (cell_keep (cell_keep (r1.cell (i := 0) (by omega)) b2) b3) b4
  have c3 := cell_keep (r3.cell (i := 0) (by omega)) b4
  have hB5 : FillS X5 l m ps W.heap.size (W.heap.size + 1 + 1) (W.heap.size + 1 + 1 + 1) (W.heap.size + 1) :=
    { size := e5.cell (cell_keep hS hb4) (by show ps ≠ _; omega)
      yld := e5.cell c1 (by show W.heap.size ≠ _; omega)
      row := e5.cell c3 (by show W.heap.size + 1 + 1 ≠ _; omega)
      self := c5
      ne := ⟨by omega, by omega, by omega, by omega⟩ }
  have hR5 : RowI X5 (W.heap.size + 1) m (fun _ => 0) := e5.row ((r2.keep b3).keep b4) (by omega)
  have hJ5 : J [] X5 := HJe.out _ _ _ HJ.out (Exc.of_below (hb4.trans (e5.below (by omega) (by omega))))
  have hC := fill_any l m ps W.heap.size (W.heap.size + 1 + 1) (W.heap.size + 1 + 1 + 1) (W.heap.size + 1) J Jx (ordL (List.range m) m []) hm HJe.out (fun k pre x W1 h1 h2 h3 h4 => by
    refine (yieldAt_any (HY.out pre x W1 h1 h2 h3)).mono ?_
    rintro e W' ⟨k1, k2, k3⟩
    have hlt := h3.lt
    refine ⟨h4.keep (fun b hb hlt2 => ?_), World.rowIs.of_block h3 (k2 _ (HK.out _ (by omega)) hlt (by omega)), k3⟩
    rcases hb with rfl | rfl | rfl | rfl
    · exact k2 _ hps.1 hlt2 hps.2
    · exact k2 _ (HK.out _ (by omega)) hlt2 (by omega)
    · exact k2 _ (HK.out _ (by omega)) hlt2 (by omega)
    · exact k2 _ (HK.out _ (by omega)) hlt2 (by omega)
   ) m 0 [] [] X5 (n - 1) (fun _ => 0) rfl (by omega) hB5 hJ5 ⟨[], by simp⟩ hR5 (fun i hi => absurd hi (by omega))
  rw [show ((0 : Nat) : Int) = 0 from rfl] at hC
  have HC := Lib.hid hC
  clear hC hB5 hR5 hJ5 hb1 r1 r2 b2 r3 b3 r4 b4 c4 z4 c1 c3 hb4 r5 e5
  gi_wp2
  refine ⟨trivial, (fun h => by cases h), CallsIn.mono HC.out ?_⟩
  rintro e w4 (⟨rfl, hJ4, hB4, f4, hR4, hF4⟩ | ⟨rfl, q, hq⟩)
  · gi_wp2
    exact bodyPost_end (v := .tuple #[]) (by simp [results, go_sem]) rfl ⟨⟨_, rfl⟩, .inl hJ4⟩
  · gi_wp2
    exact bodyPost_end (v := .tuple #[]) (by simp [results, go_sem]) rfl ⟨⟨_, rfl⟩, .inr ⟨q, hq⟩⟩

set_option maxHeartbeats 1000000 in
set_option maxRecDepth 1000000 in
theorem orders_any (m : Nat) (w : World) :
    Calls Try.prog 57 #[.int .i64 m] w fun e w' => e = .returned (.func (.func 81) #[] #[.pointer (some ⟨w.heap.size, 0, none⟩)]) ∧ w'.cell? ⟨w.heap.size, 0, none⟩ = some (.int .i64 m) ∧ Below w.heap.size w w' := by
  go_enter Try.func57, Try.ntmps57
  go_wp2
  go_ret
  exact ⟨rfl, box1_at w _ _, box_bel _ _⟩
end Go.Proofs.Ytocfbafcplhmiaa
