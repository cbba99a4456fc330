/- orders: all rows. -/
import Derived.Test.YtnobbklnnkpdfaaFm
namespace Go.Proofs.Ytnobbklnnkpdfaa
open Go.RowKit
attribute [local go_sem] Oper.semAt_some

theorem yieldAt_any {n k l : Nat} {P : Program} {args : Array Value} {W : World} {R : Ending → World → Prop} (h : YieldAt Fence.wide n P l args W R) : YieldAt Fence.wide k P l args W R := by
  obtain ⟨fn, t, a, b, hy, h1, h2⟩ := h
  exact ⟨fn, t, a, b, hy, h1, fun c cs _ => h2 c cs (room_wide _)⟩
theorem fill_any (l m ps py pr pt pf B : Nat) (A : Option Addr) (cT : Nat) (T : List Nat) (J Jx : List (List Nat) → World → Prop) (L : List (List Nat)) (hm : m ≤ 9) (hT : T.length ≤ 9)
    (hJe : ∀ s W1 W2, J s W1 → Exc B W1 W2 → J s W2)
    (hY : ∀ k pre x W1, J pre W1 → (∃ r, L = pre ++ x :: r) → RowI W1 B m (rowF x) → FillB W1 l m ps py pr pt pf B A cT T → YieldAt Fence.wide k Try.prog l #[.slice (some ⟨B, 0, none⟩) m m] W1 fun e W' =>
      FillB W' l m ps py pr pt pf B A cT T ∧ RowI W' B m (rowF x) ∧ ((e = .returned (.bool true) ∧ J (pre ++ [x]) W') ∨ (e = .returned (.bool false) ∧ Jx (pre ++ [x]) W'))) (s : Nat) :
    ∀ (at_ : Nat) (p : List Nat) (came : List (List Nat)) (W : World) (n : Nat) (f : Nat → Int), p.length = at_ → at_ + s = m → FillB W l m ps py pr pt pf B A cT T → J came W → (∃ r, L = came ++ ordL T s p ++ r) → RowI W B m f → (∀ i, i < at_ → f i = rowF p i) →
      CallsIn Fence.wide n Try.prog 68 #[.int .i64 at_, .pointer (some ⟨ps, 0, none⟩), .pointer (some ⟨py, 0, none⟩), .pointer (some ⟨pr, 0, none⟩), .pointer (some ⟨pt, 0, none⟩), .pointer (some ⟨pf, 0, none⟩)] W (FillPost l m ps py pr pt pf B A cT T J Jx came s at_ p) := by
  induction s with
  | zero =>
    intro at_ p came W n f hp hs hB hJ hL hR hf
    obtain rfl : at_ = m := by omega
    exact fill_zero l at_ ps py pr pt pf B A cT T J Jx L hY p came W n f hB hJ hL hR hf
  | succ s ih =>
    intro at_ p came W n f hp hs hB hJ hL hR hf
    exact fill_succ l m ps py pr pt pf B A cT T J Jx L hm hT hJe s ih at_ p came W n f hp hs hB hJ hL hR hf

theorem box_row (w : World) (x : Value) (T : TypeId) : (w.alloc (.cells #[x] T)).rowIs w.heap.size T 1 (fun _ => x) :=
  World.rowIs_alloc w #[x] T (fun _ => x) (fun i hi => by
    have : i = 0 := by simpa using hi
    subst this
    rfl)
theorem cell_keep {w w' : World} {a : Addr} {v : Value} (h : w.cell? a = some v) (hb : Below w.heap.size w w') : w'.cell? a = some v := cell_of_block (hb.block _ (cell_lt h)) h

set_option maxHeartbeats 1000000 in
set_option maxRecDepth 1000000 in
theorem orders1_rows (A : Option Addr) (cT m : Nat) (T : List Nat) (hm : m ≤ 9) (hT : T.length ≤ 9) (ps pt l n : Nat) (Kb : Nat → Prop) (W : World)
    (hS : W.cell? ⟨ps, 0, none⟩ = some (.int .i64 m)) (hTh : W.cell? ⟨pt, 0, none⟩ = some (.slice A T.length cT)) (hI : Ints W A T.length (rowF T)) (hA : ∀ b o, A = some ⟨b, o, none⟩ → b < W.heap.size ∧ Kb b ∧ b ≠ l)
    (hl : l < W.heap.size) (hps : Kb ps ∧ ps ≠ l) (hpt : Kb pt ∧ pt ≠ l) (hK : ∀ b, W.heap.size ≤ b → Kb b) :
    RowsOut Fence.wide n 67 #[.pointer (some ⟨ps, 0, none⟩), .pointer (some ⟨pt, 0, none⟩)] (W.heap.size + 1) m l Kb (ordL T m []) W := by
  intro J Jx hJe hY hJ
  have hps1 := cell_lt hS
  have hpt1 := cell_lt hTh
  have HY := Lib.hid hY
  have HJ := Lib.hid hJ
  have HJe := Lib.hid hJe
  have HA := Lib.hid hA
  have HK := Lib.hid hK
  have HI := Lib.hid hI
  have hmk := mk_ints m (by omega)
  clear hY hJ hJe hA hK hI
  refine callsIn_of_wp Try.func67 rfl trivial ?_ rfl
  simp only [Try.ntmps67, List.size_toArray, List.length_cons, List.length_nil, Nat.reduceAdd, Nat.reduceSub, Array.replicate_succ, Array.replicate_zero, List.push_toArray, List.append_toArray, List.nil_append, List.cons_append]
  gi_wp2
  have hb1 : Below W.heap.size W (W.alloc (.cells #[.func (.yield l) #[] #[]] 88)) := (Below.refl _ W).alloc (Nat.le_refl _) _
  have r1 := box_row W (.func (.yield l) #[] #[]) 88
  generalize hX1 : W.alloc (.cells #[.func (.yield l) #[] #[]] 88) = X1 at *
  have s1 : X1.heap.size = W.heap.size + 1 := by rw [← hX1]; simp
  clear hX1
  have r2 := RowI.made X1 m
  have b2 : Below X1.heap.size X1 (X1.alloc (.cells (madeCells #[.int .i64 0] m) 3)) := (Below.refl _ X1).alloc (Nat.le_refl _) _
  generalize hX2 : X1.alloc (.cells (madeCells #[.int .i64 0] m) 3) = X2 at *
  have s2 : X2.heap.size = W.heap.size + 1 + 1 := by rw [← hX2]; simp [s1]
  clear hX2
  have r3 := box_row X2 (.slice (some ⟨W.heap.size + 1, 0, none⟩) m m) 23
  have b3 : Below X2.heap.size X2 (X2.alloc (.cells #[.slice (some ⟨W.heap.size + 1, 0, none⟩) m m] 23)) := (Below.refl _ X2).alloc (Nat.le_refl _) _
  generalize hX3 : X2.alloc (.cells #[.slice (some ⟨W.heap.size + 1, 0, none⟩) m m] 23) = X3 at *
  have s3 : X3.heap.size = W.heap.size + 1 + 1 + 1 := by rw [← hX3]; simp [s2]
  clear hX3
  have r4 := box_row X3 .nilFunc 74
  have b4 : Below X3.heap.size X3 (X3.alloc (.cells #[.nilFunc] 74)) := (Below.refl _ X3).alloc (Nat.le_refl _) _
  generalize hX4 : X3.alloc (.cells #[.nilFunc] 74) = X4 at *
  have s4 : X4.heap.size = W.heap.size + 1 + 1 + 1 + 1 := by rw [← hX4]; simp [s3]
  clear hX4
  rw [s1] at r2
  rw [s2] at r3
  rw [s3] at r4
  have c4 := r4.cell (i := 0) (by omega)
  have z4 := r4.frozen 0
  rw [run_store _ _ _ _ _ rfl]
  simp only [c4, z4]
  have hb4 : Below W.heap.size W X4 := ((hb1.trans (b2.mono (by omega))).trans (b3.mono (by omega))).trans (b4.mono (by omega))
  have r5 := r4.set 0 (.func (.func 68) #[] #[.pointer (some ⟨ps, 0, none⟩), .pointer (some ⟨W.heap.size, 0, none⟩), .pointer (some ⟨W.heap.size + 1 + 1, 0, none⟩), .pointer (some ⟨pt, 0, none⟩), .pointer (some ⟨W.heap.size + 1 + 1 + 1, 0, none⟩)])
  have e5 : Exc (W.heap.size + 1 + 1 + 1) X4 (X4.setCell ⟨W.heap.size + 1 + 1 + 1, 0, none⟩ (.func (.func 68) #[] #[.pointer (some ⟨ps, 0, none⟩), .pointer (some ⟨W.heap.size, 0, none⟩), .pointer (some ⟨W.heap.size + 1 + 1, 0, none⟩), .pointer (some ⟨pt, 0, none⟩), .pointer (some ⟨W.heap.size + 1 + 1 + 1, 0, none⟩)])) := (Exc.refl _ _).set 0 _
  generalize X4.setCell _ _ = X5 at *
  have c5 := r5.cell (i := 0) (by omega)
  rw [if_pos rfl] at c5
  have c1 := cell_keep (cell_keep (cell_keep (r1.cell (i := 0) (by omega)) b2) b3) b4
  have c3 := cell_keep (r3.cell (i := 0) (by omega)) b4
  have hB5 : FillB X5 l m ps W.heap.size (W.heap.size + 1 + 1) pt (W.heap.size + 1 + 1 + 1) (W.heap.size + 1) A cT T :=
    { size := e5.cell (cell_keep hS hb4) (by show ps ≠ _; omega)
      yld := e5.cell c1 (by show W.heap.size ≠ _; omega)
      row := e5.cell c3 (by show W.heap.size + 1 + 1 ≠ _; omega)
      things := e5.cell (cell_keep hTh hb4) (by show pt ≠ _; omega)
      self := c5
      ints := HI.out.keep (hb4.trans (e5.below (by omega) (by omega)))
      ne := ⟨by omega, by omega, by omega, by omega, by omega, fun b o e => by have := (HA.out b o e).1; omega⟩ }
  have hR5 : RowI X5 (W.heap.size + 1) m (fun _ => 0) := e5.row ((r2.keep b3).keep b4) (by omega)
  have hJ5 : J [] X5 := HJe.out _ _ _ HJ.out (Exc.of_below (hb4.trans (e5.below (by omega) (by omega))))
  have hC := fill_any l m ps W.heap.size (W.heap.size + 1 + 1) pt (W.heap.size + 1 + 1 + 1) (W.heap.size + 1) A cT T J Jx (ordL T m []) hm hT HJe.out (fun k pre x W1 h1 h2 h3 h4 => by
    refine (yieldAt_any (HY.out pre x W1 h1 h2 h3)).mono ?_
    rintro e W' ⟨k1, k2, k3⟩
    have hlt := h3.lt
    refine ⟨h4.keep (fun b hb hlt2 => ?_), World.rowIs.of_block h3 (k2 _ (HK.out _ (by omega)) hlt (by omega)), k3⟩
    rcases hb with rfl | rfl | rfl | rfl | rfl | ⟨o, ho⟩
    · exact k2 _ hps.1 hlt2 hps.2
    · exact k2 _ (HK.out _ (by omega)) hlt2 (by omega)
    · exact k2 _ (HK.out _ (by omega)) hlt2 (by omega)
    · exact k2 _ hpt.1 hlt2 hpt.2
    · exact k2 _ (HK.out _ (by omega)) hlt2 (by omega)
    · exact k2 _ (HA.out _ _ ho).2.1 hlt2 (HA.out _ _ ho).2.2) m 0 [] [] X5 (n - 1) (fun _ => 0) rfl (by omega) hB5 hJ5 ⟨[], by simp⟩ hR5 (fun i hi => absurd hi (by omega))
  rw [show ((0 : Nat) : Int) = 0 from rfl] at hC
  have HC := Lib.hid hC
  clear hC hB5 hR5 hJ5 hb1 r1 r2 b2 r3 b3 r4 b4 c4 z4 c1 c3 hb4 r5 e5
  gi_wp2
  refine ⟨trivial, (fun h => by cases h), CallsIn.mono HC.out ?_⟩
  rintro e w4 (⟨rfl, hJ4, hB4, f4, hR4, hF4⟩ | ⟨rfl, q, hq⟩)
  · gi_wp2
    exact bodyPost_end (v := .tuple #[]) (by simp [results, go_sem]) rfl ⟨⟨_, rfl⟩, .inl hJ4⟩
  · gi_wp2
    exact bodyPost_end (v := .tuple #[]) (by simp [results, go_sem]) rfl ⟨⟨_, rfl⟩, .inr ⟨q, hq⟩⟩

set_option maxHeartbeats 1000000 in
set_option maxRecDepth 1000000 in
theorem orders_any (A : Option Addr) (nT cT m : Nat) (w : World) :
    Calls Try.prog 36 #[.slice A nT cT, .int .i64 m] w fun e w' => ∃ ps pt : Nat, e = .returned (.func (.func 67) #[] #[.pointer (some ⟨ps, 0, none⟩), .pointer (some ⟨pt, 0, none⟩)]) ∧ w.heap.size ≤ ps ∧ w.heap.size ≤ pt ∧ ps ≠ pt ∧
      w'.cell? ⟨ps, 0, none⟩ = some (.int .i64 m) ∧ w'.cell? ⟨pt, 0, none⟩ = some (.slice A nT cT) ∧ Below w.heap.size w w' := by
  go_enter Try.func36, Try.ntmps36
  go_wp2
  go_ret
  have r1 := box_row w (.slice A nT cT) 23
  have b1 : Below w.heap.size w (w.alloc (.cells #[.slice A nT cT] 23)) := (Below.refl _ w).alloc (Nat.le_refl _) _
  have hs1 : (w.alloc (.cells #[.slice A nT cT] 23)).heap.size = w.heap.size + 1 := by simp
  generalize w.alloc (.cells #[.slice A nT cT] 23) = X1 at *
  have r2 := box_row X1 (.int .i64 m) 3
  have b2 : Below X1.heap.size X1 (X1.alloc (.cells #[.int .i64 m] 3)) := (Below.refl _ X1).alloc (Nat.le_refl _) _
  rw [hs1] at r2
  exact ⟨_, _, rfl, by omega, by omega, by omega, r2.cell (i := 0) (by omega), cell_keep (r1.cell (i := 0) (by omega)) b2, b1.trans (b2.mono (by omega))⟩
end Go.Proofs.Ytnobbklnnkpdfaa
