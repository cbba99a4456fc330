/- What Way refuses; tables that say the same. -/
import Derived.Test.YtclhamemlpbpiaaWd
import Derived.Test.YtclhamemlpbpiaaWg
import Derived.Test.YtclhamemlpbpiaaWh
namespace Go.Proofs.Ytclhamemlpbpiaa
open Go.RowKit

set_option maxHeartbeats 4000000 in
set_option maxRecDepth 1000000 in
theorem Way_bad (A : Option Addr) (m c : Nat) (N a b : Int) (F : Nat → Nat → Int) (w : World) (h : Recs 3 w A m F) (hm : m ≤ 10000) (hbad : okM N m F = false ∨ inB N a = false ∨ inB N b = false) :
    Calls Try.prog 11 #[.agg #[.int .i64 N, .slice A m c], .int .i64 a, .int .i64 b] w fun e w' => e = .returned (.tuple #[.slice none 0 0, .int .i64 2]) ∧ Below w.heap.size w w' := by
  have hB0 := MapB.new w N (.slice A m c)
  have hb0 := (Below.refl w.heap.size w).alloc (Nat.le_refl _) (.cells #[.int .i64 N, .slice A m c] 31)
  have hz0 : (w.alloc (.cells #[.int .i64 N, .slice A m c] 31)).heap.size = w.heap.size + 1 := by simp
  obtain ⟨W1, hW1⟩ : ∃ W1, W1 = w.alloc (.cells #[.int .i64 N, .slice A m c] 31) := ⟨_, rfl⟩
  rw [← hW1] at hB0 hb0 hz0
  have hb1 := (Below.refl W1.heap.size W1).alloc (Nat.le_refl _) (.cells #[.int .i64 b] 3)
  have hc1 := infoB W1 b 3
  have hz1 : (W1.alloc (.cells #[.int .i64 b] 3)).heap.size = W1.heap.size + 1 := by simp
  obtain ⟨W2, hW2⟩ : ∃ W2, W2 = W1.alloc (.cells #[.int .i64 b] 3) := ⟨_, rfl⟩
  rw [← hW2] at hb1 hc1 hz1
  rw [hz0] at hb1 hc1 hz1
  have hB2 := hB0.below hb1 (by omega)
  have hb2 : Below w.heap.size w W2 := hb0.trans (hb1.mono (by omega))
  have HV := Lib.hid (fun w' (hb : Below W2.heap.size W2 w') => validM_any A m c N F w' (h.keep (hb2.trans (hb.mono hb2.size))) (by unfold maxLen; omega))
  have HMB : Hid (∀ w', Below W2.heap.size W2 w' → MapB w' w.heap.size N (.slice A m c) ∧ w'.cell? ⟨w.heap.size + 1, 0, none⟩ = some (.int .i64 b) ∧ Below w.heap.size w w') := Lib.hid (fun w' hb => ⟨hB2.keep hb, (hb.cell (World.block_lt_of_cell? _ _ hc1)).trans hc1, hb2.trans (hb.mono hb2.size)⟩)
  have HWW : Hid ((w.alloc (.cells #[.int .i64 N, .slice A m c] 31)).alloc (.cells #[.int .i64 b] 3) = W2) := Lib.hid (by rw [hW2, hW1])
  have HI := Lib.hid (fun w' => isStop_any A m c N a w')
  have HJ := Lib.hid (fun w' => isStop_any A m c N b w')
  clear hB0 hb0 hz0 hW1 hW2 hb1 hc1 hz1 hB2 hb2 h
  go_enter Try.func11, Try.ntmps11
  go_wp2_with fail
  rw [HWW.out]
  clear HWW
  refine (HV.out W2 (Below.refl _ _)).use fun w2 hb2 => ?_
  have HB2 := Lib.hid hb2
  obtain ⟨q0, q1⟩ : w2.cell? ⟨w.heap.size, 0, none⟩ = some (.int .i64 N) ∧ w2.cell? ⟨w.heap.size, 1, none⟩ = some (.slice A m c) := ⟨(HMB.out w2 hb2).1.c0, (HMB.out w2 hb2).1.c1⟩
  clear hb2
  cases hv : okM N m F with
  | false =>
    go_wp2
    go_returns
    exact ⟨rfl, (HMB.out _ HB2.out).2.2⟩
  | true =>
    go_wp2_with fail
    refine (HI.out w2).use fun w3 hb3 => ?_
    have HB3 := Lib.hid (HB2.out.trans (hb3.mono HB2.out.size))
    clear hb3 q0 q1
    obtain ⟨q0, q1⟩ : w3.cell? ⟨w.heap.size, 0, none⟩ = some (.int .i64 N) ∧ w3.cell? ⟨w.heap.size, 1, none⟩ = some (.slice A m c) := ⟨(HMB.out w3 HB3.out).1.c0, (HMB.out w3 HB3.out).1.c1⟩
    have q2 := (HMB.out w3 HB3.out).2.1
    cases hia : inB N a with
    | false =>
      go_wp2
      go_returns
      exact ⟨rfl, (HMB.out _ HB3.out).2.2⟩
    | true =>
      have hib : inB N b = false := by
        rcases hbad with h | h | h
        · rw [hv] at h
          cases h
        · rw [hia] at h
          cases h
        · exact h
      rw [hib] at HJ
      clear hbad hv hia hib
      go_wp2_with fail
      refine (HJ.out w3).use fun w4 hb4 => ?_
      have HB4 := Lib.hid (HB3.out.trans (hb4.mono HB3.out.size))
      clear hb4 q0 q1 q2
      go_wp2
      go_returns
      exact ⟨rfl, (HMB.out _ HB4.out).2.2⟩
set_option maxHeartbeats 1000000 in
set_option maxRecDepth 1000000 in
theorem equalFuncD (G H n c c' : Nat) (D : Nat → Nat → Int) (w : World) (ha : RowsD w G n D) (hb : RowsD w H n D) (hn : n ≤ 8) :
    Ro 34 #[.slice (some ⟨G, 0, none⟩) n c, .slice (some ⟨H, 0, none⟩) n c', .func (.func 18) #[] #[]] w (.bool true) := by
  refine Ro.of ?_
  have HA := Lib.hid ha
  have HB := Lib.hid hb
  clear ha hb
  have hBn := bne_f (a := (n : Int)) rfl
  go_enter Try.func34, Try.ntmps34
  go_wp2
  go_loopw [17] (fun i wr => ∃ k : Nat, k ≤ n ∧ i = .int .i64 k ∧ Dn w wr) (fun i _ => n - (intOf i).toNat)
  case atStart => exact ⟨0, Nat.zero_le _, rfl, Dn.refl _⟩
  case round =>
    obtain ⟨k, hk, rfl, hD⟩ := hrel
    by_cases hlt : k < n
    · obtain ⟨b1, o1, c1, hc1, hr1⟩ := HA.out.keep (hD.below _) k hlt
      obtain ⟨b2, o2, c2, hc2, hr2⟩ := HB.out.keep (hD.below _) k hlt
      have HEq := Lib.hid (equal_any (some ⟨b1, o1, none⟩) (some ⟨b2, o2, none⟩) n n c1 c2 (D k) (D k) wr (fun _ => ⟨b1, o1, rfl, hr1⟩) (fun _ => ⟨b2, o2, rfl, hr2⟩) (by omega) (by omega))
      rw [eqB_self] at HEq
      clear hr1 hr2
      go_wp2_with fail
      refine Ro.use HEq.out ?_
      intro w3 hd3
      have HD := Lib.hid (hD.trans hd3)
      clear hd3 hD
      go_wp2
      go_roundw
      case rel => exact ⟨k + 1, by omega, by go_num, HD.out⟩
      case measure => simp [intOf]; omega
    · obtain rfl : k = n := by omega
      go_wp2
      go_ret
      exact ⟨rfl, hD⟩
set_option maxRecDepth 1000000 in
theorem sameD (G H n c c' : Nat) (D : Nat → Nat → Int) (w : World) (ha : RowsD w G n D) (hb : RowsD w H n D) (hn : n ≤ 8) : Ro 14 #[.slice (some ⟨G, 0, none⟩) n c, .slice (some ⟨H, 0, none⟩) n c'] w (.bool true) := by
  refine Ro.of ?_
  have HE := Lib.hid (equalFuncD G H n c c' D w ha hb hn)
  clear ha hb
  go_enter Try.func14, Try.ntmps14
  go_wp2_with fail
  refine Ro.use HE.out ?_
  intro w2 hd2
  have HD := Lib.hid hd2
  clear hd2
  go_wp2
  go_ret
  exact ⟨rfl, HD.out⟩
theorem MatD.rows {w : World} {G : Nat} {R : Nat → Nat} {n : Nat} {D : Nat → Int} (h : MatD w G R n D) : RowsD w G n (fun a b => D (8 * a + b)) := fun j hj => ⟨R j, 0, n, h.cell j hj, fun i hi => by rw [Nat.zero_add]; exact h.c2 hj hi⟩
end Go.Proofs.Ytclhamemlpbpiaa
