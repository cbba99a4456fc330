/- The reference's Way. -/
import Derived.Test.YtclhamemlpbpiaaWj
import Derived.Test.YtclhamemlpbpiaaWg
namespace Go.Proofs.Ytclhamemlpbpiaa
open Go.RowKit

set_option maxHeartbeats 8000000 in
set_option maxRecDepth 1000000 in
theorem refWay_ok (A : Option Addr) (m c n a b : Nat) (F : Nat → Nat → Int) (w : World) (h : Recs 3 w A m F) (hok : okM n m F = true) (ha : a < n) (hb : b < n) :
    Calls Try.prog 17 #[.agg #[.int .i64 n, .slice A m c], .int .i64 a, .int .i64 b] w fun e w' => ((dsT n m F (8 * a + b) = 400 ∧ e = .returned (.tuple #[.slice none 0 0, .int .i64 4])) ∨
      (dsT n m F (8 * a + b) < 400 ∧ ∃ v L, e = .returned (.tuple #[v, .int .i64 0]) ∧ wyF n (stT n m F) (dsT n m F) b (dsT n m F (8 * a + b)).toNat [(a : Int)] a none = some L ∧ AnsW w' v (some L))) ∧ Below w.heap.size w w' := by
  have hn8 : n ≤ 8 := by have := (okM_iff.1 hok).1; omega
  have hB1 := MapBR.new w n (.slice A m c)
  have hb1 := (Below.refl w.heap.size w).alloc (Nat.le_refl _) (.cells #[.int .i64 n, .slice A m c] 24)
  obtain ⟨W1, hW1⟩ : ∃ W1, W1 = w.alloc (.cells #[.int .i64 n, .slice A m c] 24) := ⟨_, rfl⟩
  rw [← hW1] at hB1 hb1
  have HWW : Hid (w.alloc (.cells #[.int .i64 n, .slice A m c] 24) = W1) := Lib.hid hW1.symm
  have HMB : Hid (∀ w', Below W1.heap.size W1 w' → MapBR w' w.heap.size n (.slice A m c) ∧ Below w.heap.size w w' ∧ Recs 3 w' A m F) := Lib.hid (fun w' hb => ⟨hB1.keep hb, hb1.trans (hb.mono hb1.size), h.keep (hb1.trans (hb.mono hb1.size))⟩)
  have HD := Lib.hid (refDistances_ok A m c n F W1 (h.keep hb1) hok)
  have hnn := (dsT_met hok).nn (8 * a + b)
  have hbd := dsT_bd hok (8 * a + b)
  have HSame := Lib.hid (fun hlt => way_same (f := (dsT n m F (8 * a + b)).toNat) hok ha hb hlt (by omega))
  have HWs := Lib.hid (fun r => ways_any A m c n F b (dsT n m F (8 * a + b)) hok r)
  clear hB1 hb1 hW1 h hok
  go_enter Try.func17, Try.ntmps17
  go_wp2_with fail
  rw [HWW.out]
  refine HD.out.mono ?_
  rintro e w2 ⟨G, R, rfl, hM, hb2⟩
  have r1 := hM.cell a ha
  have r2 := hM.c2 ha hb
  have HB2 := Lib.hid hb2
  clear hb2 hM HD HWW
  by_cases h400 : dsT n m F (8 * a + b) = 400
  · have hd : dOf (dsT n m F (8 * a + b)) = -1 := by
      unfold dOf
      rw [if_pos h400]
    rw [hd] at r2
    have H4 := Lib.hid h400
    clear hd h400 HSame HWs hnn hbd
    go_wp2
    go_returns
    exact ⟨.inl ⟨H4.out, rfl⟩, (HMB.out _ HB2.out).2.1⟩
  · have hd : dOf (dsT n m F (8 * a + b)) = dsT n m F (8 * a + b) := by
      unfold dOf
      rw [if_neg h400]
    rw [hd] at r2
    have hlt : dsT n m F (8 * a + b) < 400 := by omega
    obtain ⟨Lw, hw, -, hp, hln, hs, hno⟩ := HSame.out hlt
    have HLt := Lib.hid hlt
    have HW := Lib.hid hw
    have HSm := Lib.hid hs
    have HNo := Lib.hid hno
    clear hd h400 HSame hlt hw hs hno
    generalize hdd : dsT n m F (8 * a + b) = dd at *
    have d0 : decide (dd < 0) = false := decide_eq_false (by omega)
    have HDd := Lib.hid hdd
    clear hdd
    have q0 := (HMB.out _ HB2.out).1.c0
    go_wp2
    clear q0 r1 r2
    go_loopw [9] (fun i wr => ∃ j : Nat, j + 1 ≤ Lw.length ∧ i = .int .i64 ((1 + j : Nat) : Int) ∧ Below W1.heap.size W1 wr) (fun i _ => n + 1 - (intOf i).toNat)
    case atStart => exact ⟨0, by omega, rfl, HB2.out⟩
    case round =>
      obtain ⟨j, hj, rfl, hB⟩ := hrel
      have HB := Lib.hid hB
      have q0 := (HMB.out _ hB).1.c0
      have q1 := (HMB.out _ hB).1.c1
      clear hB
      have d1 : decide (((1 + j : Nat) : Int) ≤ (n : Int)) = true := decide_eq_true (by omega)
      have hb3 := (Below.refl wr.heap.size wr).alloc (Nat.le_refl _) (.cells #[.int .i64 (a : Int)] 3)
      have HB3 := Lib.hid (HB.out.trans (hb3.mono HB.out.size))
      have hI : Ints (wr.alloc (.cells #[.int .i64 (a : Int)] 3)) (some ⟨wr.heap.size, 0, none⟩) [(a : Int)].length (fun i => [(a : Int)].getD i 0) := fun _ => ⟨wr.heap.size, 0, rfl, fun i hi => by
        obtain rfl : i = 0 := by simpa using hi
        simp [World.cell?_alloc_at]⟩
      have HWy := Lib.hid (HWs.out j wr.heap.size 1 [(a : Int)] (wr.alloc (.cells #[.int .i64 (a : Int)] 3)) (HMB.out _ HB3.out).2.2 hI (Nat.le_refl _) (by simp) (by simp; omega))
      rw [show [(a : Int)].length + j = 1 + j from rfl, show [(a : Int)].length = 1 from rfl] at HWy
      have q0' := (HMB.out _ HB3.out).1.c0
      have q1' := (HMB.out _ HB3.out).1.c1
      clear hb3 hI
      have HJ : Hid (j = Lw.length - 1 ∨ j < Lw.length - 1) := Lib.hid (by omega)
      generalize hnn2 : 1 + j = nn at *
      have HNn := Lib.hid hnn2
      have hnle : nn ≤ n := by omega
      have d1' : decide (nn ≤ n) = true := decide_eq_true hnle
      have q := fun (w : World) (a : Option Addr) (l c : Nat) => (show (binOp .neq 33 (.slice a l c) (.slice none 0 0)).run Try.prog w = .ok (.bool (!a.isNone)) w by apply run_neq_slice_nil; exact Try.underlying33)
      clear hnn2
      go_wp2_with fail
      refine HWy.out.mono ?_
      rintro e w4 ⟨v4, rfl, hA, hb4⟩
      have HB4 := Lib.hid (HB3.out.trans (hb4.mono HB3.out.size))
      clear hb4 q0 q1 q0' q1' HWy
      rcases HJ.out with hj1 | hj1
      · rw [hj1, HSm.out] at hA
        have HA := Lib.hid hA
        obtain ⟨b7, c7, rfl, hI7, hc7⟩ := hA
        clear hI7
        go_wp2
        go_returns
        exact ⟨.inr ⟨by rw [HDd.out]; exact HLt.out, _, Lw, rfl, by rw [HDd.out]; exact HW.out, HA.out⟩, (HMB.out _ HB4.out).2.1⟩
      · rw [HNo.out j hj1] at hA
        have hA : v4 = .slice none 0 0 := hA
        subst hA
        go_wp2
        first
          | exact ⟨⟨j + 1, by omega, by have := HNn.out; go_num, HB4.out⟩, by have := HNn.out; simp [intOf]; omega⟩
          | (go_roundw
             case rel => exact ⟨j + 1, by omega, by rw [← HNn.out]; go_num, HB4.out⟩
             case measure => simp [intOf]; omega)
end Go.Proofs.Ytclhamemlpbpiaa
