/- Part of the proof: LL. -/
import Derived.Test.YtnobbklnnkpdfaaWl
import Derived.Test.YtnobbklnnkpdfaaLi
/- Win by each rule. -/
namespace Go.Proofs.Ytnobbklnnkpdfaa
open Go.RowKit

set_option maxHeartbeats 1000000 in
set_option maxRecDepth 1000000 in
theorem Win_borda (A : Option Addr) (n cA k0 : Nat) (L : Nat → Nat) (v : Nat → Nat → Int) (w : World) (h : RowsK w A n L v) (hok : okBal n L v = true) (hA : n ≤ cA) (hk0 : IsTop (fun x => bdN v (L 0) x n) (L 0) k0) :
    Lr 12 #[.slice A n cA, .int .i64 1] w (.tuple #[.int .i64 k0, .int .i64 0]) := by
  obtain ⟨⟨hn1, hn9⟩, ⟨hc1, hc5⟩, -⟩ := okBal_iff.1 hok
  have HC := Lib.hid (count_ok A n cA L v w h hok hA)
  have H := Lib.hid h
  have HBy : Hid (∀ (T : Nat → Int) (w' : World), Below w.heap.size w w' → Lr 64 #[.agg (pollL A n cA (L 0) T).toArray] w' (.int .i64 k0)) := Lib.hid (fun T w' hb => byBorda_top A n cA (L 0) k0 T L v w' (H.out.keep hb) hok rfl hk0)
  clear h hok hk0
  generalize mAll v (L 0) n = T at *
  generalize L 0 = c at *
  show Calls _ _ _ _ _
  go_enter Try.func12, Try.ntmps12
  go_wp2_with fail
  refine HC.out.mono ?_
  rintro e w2 ⟨rfl, hb2⟩
  have HZ2 := Lib.hid (PollI.zero w2)
  have Hb3 := Lib.hid (hb2.trans ((zero_below w2).mono hb2.size))
  have hsz := hb2.size
  clear hb2 HC
  go_wp2_with fail
  rw [run_storePoll _ _ _ A n cA c T HZ2.out]
  simp only [Result.andThen_ok]
  rw [Oper.upon_skip]
  have HR := Lib.hid (PollI.stored (A := A) (n := n) (cA := cA) (c := c) (T := T) HZ2.out)
  have HB := Lib.hid (below_setCells (pollL A n cA c T) 0 hsz Hb3.out)
  clear HZ2 Hb3 hsz
  generalize World.setCells _ w2.heap.size 0 (pollL A n cA c T) = W3 at *
  generalize w2.heap.size = G at *
  go_wp2_with fail
  refine Lr.use (rules_any _) ?_
  intro w4 hb4
  have HR4 := Lib.hid (HR.out.keep hb4)
  have HB4 := Lib.hid (HB.out.trans (hb4.mono HB.out.size))
  clear hb4 HR HB
  go_wp2
  have hrv : rulesV = Value.agg #[.func (.func 63) #[] #[], .func (.func 64) #[] #[], .func (.func 65) #[] #[], .func (.func 66) #[] #[]] := rfl
  have hix : ∀ w : World, (Instr.index 60 (Value.agg #[.func (.func 63) #[] #[], .func (.func 64) #[] #[], .func (.func 65) #[] #[], .func (.func 66) #[] #[]]) (.int .i64 1)).run Try.prog w = .ok (.func (.func 64) #[] #[]) w := fun w => by kernel_rfl
  refine wp_region_later (by kernel_rfl) (by kernel_rfl) ?_
  repeat
    (with_reducible refine wpQuiet_step ?_
     intro K hK
     first
       | (refine quiet_load_poll (by rfl) (.tmp 6) (by rfl) G (by rfl) (fun q => HR4.out.keep q.below) ?_; refine hK _ ?_; clear hK K)
       | (go_simp
          first
            | (refine hK _ ?_; clear hK K)
            | (apply Exists.intro
               refine ⟨fun pq => ?_, hK _ ?_⟩
               (first | (go_at_call 34; exact Lr.later (rules_any _)) | (go_at_call 64; exact Lr.later (HBy.out _ _ (HB4.out.trans (pq.below.mono HB4.out.size)))))
               clear hK K)))
  with_reducible refine wpQuiet_nil ?_
  intro _ hw'
  obtain ⟨q, hw''⟩ := hw'
  subst hw''
  have HB5 := Lib.hid (HB4.out.trans (q.below.mono HB4.out.size))
  generalize q.to = w5 at *
  go_wp2
  go_ret2
  exact ⟨rfl, HB5.out⟩
theorem Win_rule (r : Nat) (hr : r < 4) (A : Option Addr) (n cA : Nat) (L : Nat → Nat) (v : Nat → Nat → Int) (w : World) (h : RowsK w A n L v) (hok : okBal n L v = true) (hA : n ≤ cA) :
    Lr 12 #[.slice A n cA, .int .i64 (r : Int)] w (.tuple #[.int .i64 (winF r n (L 0) v), .int .i64 0]) := by
  obtain ⟨⟨hn1, hn9⟩, ⟨hc1, hc5⟩, hO⟩ := okBal_iff.1 hok
  obtain rfl | rfl | rfl | rfl : r = 0 ∨ r = 1 ∨ r = 2 ∨ r = 3 := by omega
  · exact Win_first A n cA _ L v w h hok hA (topF_top _ _ hc1)
  · exact Win_borda A n cA _ L v w h hok hA (topF_top _ _ hc1)
  · obtain ⟨k0, hk0, hst, -⟩ := str_exists hc1 (wT_cls (T := mAll v (L 0) n) hc5 (mAll_dia hok) (L 0) (Nat.le_refl _))
    obtain ⟨h1, h2, h3, h4⟩ := fstF_spec (strB (wT (L 0) (mAll v (L 0) n) (L 0)) (L 0)) (L 0) 0 ⟨k0, by omega, by omega, hst⟩
    exact Win_paths A n cA (fstF (strB (wT (L 0) (mAll v (L 0) n) (L 0)) (L 0)) (L 0) 0) L v w h hok hA (by omega) h3 (fun a ha => h4 a (by omega) ha)
  · have h := Win_order A n cA L v w h hok hA
    have h0 := kem0 (n := n) (T := mAll v (L 0) n) hc1
    have e : (((rowF (kemL n (mAll v (L 0) n) (L 0)) 0).toNat : Nat) : Int) = rowF (kemL n (mAll v (L 0) n) (L 0)) 0 := by omega
    show Lr _ _ _ (.tuple #[.int .i64 (((rowF (kemL n (mAll v (L 0) n) (L 0)) 0).toNat : Nat) : Int), .int .i64 0])
    rw [e]
    exact h
theorem WinRF {r n : Nat} (hr : r < 4) {L : Nat → Nat} {v : Nat → Nat → Int} {A : Option Addr} {k cA : Nat} {w : World} (h : RowsK w A k (fun i => min (L i) 11) v) (hk : k = min n 11) (hA : k ≤ cA) (hok : okBal n L v = true) :
    Lr 12 #[.slice A k cA, .int .i64 (r : Int)] w (.tuple #[.int .i64 (winF r n (L 0) v), .int .i64 0]) := by
  subst hk
  obtain ⟨e1, e2, e3⟩ := bal_few hok
  have := Win_rule r hr A (min n 11) cA (fun i => min (L i) 11) v w h (by rw [okBal_few]; exact hok) hA
  simp only [e1, e2] at this ⊢
  exact this
end Go.Proofs.Ytnobbklnnkpdfaa

/- What Win and Lie refuse; Lie of what Few leaves. -/
namespace Go.Proofs.Ytnobbklnnkpdfaa
open Go.RowKit

set_option maxHeartbeats 1000000 in
set_option maxRecDepth 1000000 in
theorem Win_bad (A : Option Addr) (n cA : Nat) (L : Nat → Nat) (v : Nat → Nat → Int) (q : Int) (w : World) (h : RowsK w A n L v) (hok : okBal n L v = false) (hn : n ≤ 1000) (hL : ∀ i, i < n → L i ≤ 1000) :
    Lr 12 #[.slice A n cA, .int .i64 q] w (.tuple #[.int .i64 0, .int .i64 2]) := by
  have HC := Lib.hid (count_bad A n cA L v w h hok hn hL)
  clear h hok hL
  show Calls _ _ _ _ _
  go_enter Try.func12, Try.ntmps12
  go_wp2_with fail
  refine HC.out.mono ?_
  rintro e w2 ⟨rfl, hb2⟩
  have HZ2 := Lib.hid (PollI.zero w2)
  have Hb3 := Lib.hid (hb2.trans ((zero_below w2).mono hb2.size))
  have hsz := hb2.size
  clear hb2 HC
  go_wp2_with fail
  rw [run_storePoll _ _ _ none 0 0 0 (fun _ => 0) HZ2.out]
  simp only [Result.andThen_ok]
  rw [Oper.upon_skip]
  have HB := Lib.hid (below_setCells (pollL none 0 0 0 (fun _ => 0)) 0 hsz Hb3.out)
  clear HZ2 Hb3
  generalize World.setCells _ w2.heap.size 0 (pollL none 0 0 0 (fun _ => 0)) = W3 at *
  go_wp2
  go_ret2
  exact ⟨rfl, HB.out⟩
set_option maxHeartbeats 1000000 in
set_option maxRecDepth 1000000 in
theorem Win_rule_bad (A : Option Addr) (n cA : Nat) (L : Nat → Nat) (v : Nat → Nat → Int) (q : Int) (w : World) (h : RowsK w A n L v) (hok : okBal n L v = true) (hA : n ≤ cA) (hq : q < 0 ∨ 4 ≤ q) :
    Lr 12 #[.slice A n cA, .int .i64 q] w (.tuple #[.int .i64 0, .int .i64 2]) := by
  have HC := Lib.hid (count_ok A n cA L v w h hok hA)
  clear h hok 
  show Calls _ _ _ _ _
  go_enter Try.func12, Try.ntmps12
  go_wp2_with fail
  refine HC.out.mono ?_
  rintro e w2 ⟨rfl, hb2⟩
  have HZ2 := Lib.hid (PollI.zero w2)
  have Hb3 := Lib.hid (hb2.trans ((zero_below w2).mono hb2.size))
  have hsz := hb2.size
  clear hb2 HC
  go_wp2_with fail
  rw [run_storePoll _ _ _ A n cA (L 0) (mAll v (L 0) n) HZ2.out]
  simp only [Result.andThen_ok]
  rw [Oper.upon_skip]
  have HB := Lib.hid (below_setCells (pollL A n cA (L 0) (mAll v (L 0) n)) 0 hsz Hb3.out)
  clear HZ2 Hb3
  generalize World.setCells _ w2.heap.size 0 (pollL A n cA (L 0) (mAll v (L 0) n)) = W3 at *
  rcases hq with hq | hq
  · have h0 : decide (q < 0) = true := decide_eq_true hq
    go_wp2
    go_ret2
    exact ⟨rfl, HB.out⟩
  · have h0 : decide (q < 0) = false := decide_eq_false (by omega)
    have h4 : decide ((4 : Int) ≤ q) = true := decide_eq_true hq
    have h5 : decide (q < (4 : Int)) = false := decide_eq_false (by omega)
    go_wp2_with fail
    refine Lr.use (rules_any _) ?_
    intro w4 hb4
    have HB4 := Lib.hid (HB.out.trans (hb4.mono HB.out.size))
    clear hb4
    go_wp2
    go_ret2
    exact ⟨rfl, HB4.out⟩
set_option maxHeartbeats 1000000 in
set_option maxRecDepth 1000000 in
theorem Lie_bad (A : Option Addr) (n cA : Nat) (L : Nat → Nat) (v : Nat → Nat → Int) (q : Int) (w : World) (h : RowsK w A n L v) (hok : okBal n L v = false) (hn : n ≤ 1000) (hL : ∀ i, i < n → L i ≤ 1000) :
    Lr 10 #[.slice A n cA, .int .i64 q] w (.tuple #[.int .i64 0, .slice none 0 0, .int .i64 2]) := by
  have HC := Lib.hid (fun w' (hb : Below w.heap.size w w') => count_bad A n cA L v w' (h.keep hb) hok hn hL)
  clear h hok hL
  show Calls _ _ _ _ _
  refine (callsIn_wide (n := 3)).1 (callsIn_of_wp_marks Try.func10 rfl trivial ?_ rfl)
  simp only [Try.ntmps10, List.size_toArray, List.length_cons, List.length_nil, Nat.reduceAdd, Nat.reduceSub, Array.replicate_succ, Array.replicate_zero, List.push_toArray, List.append_toArray, List.nil_append, List.cons_append]
  rw [wpIn_wide]
  go_wp2_with fail
  have b1 : Below w.heap.size w (w.alloc (.cells #[.int .i64 0] 3)) := (Below.refl _ w).alloc (Nat.le_refl _) _
  have r1 := box_row w (.int .i64 0) 3
  have s1 : (w.alloc (.cells #[.int .i64 0] 3)).heap.size = w.heap.size + 1 := by simp
  generalize w.alloc (.cells #[.int .i64 0] 3) = X1 at *
  have r2 := box_row X1 (.slice none 0 0) 23
  have b2 : Below X1.heap.size X1 (X1.alloc (.cells #[.slice none 0 0] 23)) := (Below.refl _ X1).alloc (Nat.le_refl _) _
  have s2 : (X1.alloc (.cells #[.slice none 0 0] 23)).heap.size = w.heap.size + 2 := by simp [s1]
  generalize X1.alloc (.cells #[.slice none 0 0] 23) = X2 at *
  have r3 := box_row X2 (.int .i64 0) 24
  have b3 : Below X2.heap.size X2 (X2.alloc (.cells #[.int .i64 0] 24)) := (Below.refl _ X2).alloc (Nat.le_refl _) _
  have s3 : (X2.alloc (.cells #[.int .i64 0] 24)).heap.size = w.heap.size + 3 := by simp [s2]
  generalize X2.alloc (.cells #[.int .i64 0] 24) = X3 at *
  rw [s1] at r2
  rw [s2] at r3
  have r1 := World.rowIs.of_block (World.rowIs.of_block r1 (b2.block _ (World.rowIs.lt r1))) (b3.block _ (by have := World.rowIs.lt r1; omega))
  have r2 := World.rowIs.of_block r2 (b3.block _ (World.rowIs.lt r2))
  have hb3 := (b1.trans (b2.mono (by omega))).trans (b3.mono (by omega))
  refine (HC.out X3 hb3).mono ?_
  rintro e w4 ⟨rfl, hb4⟩
  have HZ4 := Lib.hid (PollI.zero w4)
  have hb4z := zero_below w4
  have hs4 := hb4.size
  go_wp2_with fail
  rw [run_storePoll _ _ _ none 0 0 0 (fun _ => 0) HZ4.out]
  simp only [Result.andThen_ok]
  rw [Oper.upon_skip]
  have HX := below_setCells (pollL none 0 0 0 (fun _ => 0)) 0 hb4.size (hb4.trans (hb4z.mono hb4.size))
  generalize World.setCells _ w4.heap.size 0 (pollL none 0 0 0 (fun _ => 0)) = W at *
  have r1 := World.rowIs.of_block r1 (HX.block _ (World.rowIs.lt r1))
  have r2 := World.rowIs.of_block r2 (HX.block _ (World.rowIs.lt r2))
  have r3 := World.rowIs.of_block r3 (HX.block _ (World.rowIs.lt r3))
  have hBW : Below w.heap.size w W := hb3.trans (HX.mono (by omega))
  have hsz := hBW.size
  have hsz3 : w.heap.size + 3 ≤ W.heap.size := by have := HX.size; omega
  clear HZ4 hb4z HX hb4 b1 b2 b3 hb3 HC
  have c0 := World.rowIs.cell r1 (i := 0) (by omega)
  have f0 := World.rowIs.frozen r1 0
  have c1 := World.rowIs.cell r2 (i := 0) (by omega)
  have f1 := World.rowIs.frozen r2 0
  have c2 : W.cell? ⟨w.heap.size + 1 + 1, 0, none⟩ = some (.int .i64 0) := World.rowIs.cell r3 (i := 0) (by omega)
  have f2 : W.frozen? ⟨w.heap.size + 1 + 1, 0, none⟩ = false := World.rowIs.frozen r3 0
  go_wp2
  clear c0 f0 c1 f1 c2 f2
  have e0 : Exc w.heap.size W (W.setCell ⟨w.heap.size, 0, none⟩ (.int .i64 0)) := (Exc.refl _ _).set 0 _
  have q0 : World.rowIs (W.setCell ⟨w.heap.size, 0, none⟩ (.int .i64 0)) w.heap.size 3 1 (fun _ => .int .i64 0) := World.rowIs.congr (World.rowIs.set r1 0 (.int .i64 0)) (fun j hj => by rw [if_pos (show j = 0 by omega)])
  have o1 := World.rowIs.of_block r2 (e0.block _ (World.rowIs.lt r2) (fun e => by injection e with e; omega))
  have p2 := World.rowIs.of_block r3 (e0.block _ (World.rowIs.lt r3) (fun e => by injection e with e; omega))
  have hz0 := e0.size
  generalize W.setCell ⟨w.heap.size, 0, none⟩ (.int .i64 0) = W1 at *
  have e1 : Exc (w.heap.size + 1) W1 (W1.setCell ⟨w.heap.size + 1, 0, none⟩ (.slice none 0 0)) := (Exc.refl _ _).set 0 _
  have q1 : World.rowIs (W1.setCell ⟨w.heap.size + 1, 0, none⟩ (.slice none 0 0)) (w.heap.size + 1) 23 1 (fun _ => .slice none 0 0) := World.rowIs.congr (World.rowIs.set o1 0 (.slice none 0 0)) (fun j hj => by rw [if_pos (show j = 0 by omega)])
  have q01 := World.rowIs.of_block q0 (e1.block _ (World.rowIs.lt q0) (fun e => by injection e with e; omega))
  have o2 := World.rowIs.of_block p2 (e1.block _ (World.rowIs.lt p2) (fun e => by injection e with e; omega))
  have hz1 := e1.size
  generalize W1.setCell ⟨w.heap.size + 1, 0, none⟩ (.slice none 0 0) = W2 at *
  have e2 : Exc (w.heap.size + 2) W2 (W2.setCell ⟨w.heap.size + 1 + 1, 0, none⟩ (.int .i64 2)) := (Exc.refl _ _).set 0 _
  have q2 : World.rowIs (W2.setCell ⟨w.heap.size + 1 + 1, 0, none⟩ (.int .i64 2)) (w.heap.size + 2) 24 1 (fun _ => .int .i64 2) := World.rowIs.congr (World.rowIs.set o2 0 (.int .i64 2)) (fun j hj => by rw [if_pos (show j = 0 by omega)])
  have q02 := World.rowIs.of_block q01 (e2.block _ (World.rowIs.lt q01) (fun e => by injection e with e; omega))
  have q12 := World.rowIs.of_block q1 (e2.block _ (World.rowIs.lt q1) (fun e => by injection e with e; omega))
  have hz2 := e2.size
  generalize W2.setCell ⟨w.heap.size + 1 + 1, 0, none⟩ (.int .i64 2) = W3 at *
  have hB3 : Below w.heap.size w W3 := hBW.trans ((e0.below (by omega) hsz).trans ((e1.below (by omega) (by omega)).trans (e2.below (by omega) (by omega))))
  refine leaves_marks (B := 0) [] W3 (Marks.nil _ _) (fun w' hs => ?_)
  have g0 := World.rowIs.cell (World.rowIs.of_block q02 (hs.block _ (World.rowIs.lt q02) (by simp))) (i := 0) (by omega)
  have g1 := World.rowIs.cell (World.rowIs.of_block q12 (hs.block _ (World.rowIs.lt q12) (by simp))) (i := 0) (by omega)
  have g2 := World.rowIs.cell (World.rowIs.of_block q2 (hs.block _ (World.rowIs.lt q2) (by simp))) (i := 0) (by omega)
  exact ⟨.tuple #[.int .i64 0, .slice none 0 0, .int .i64 2], by simp [results, Try.results10, go_sem, g0, g1, g2], rfl, hB3.trans (hs.below (B := w.heap.size) (by simp) hB3.size)⟩
set_option maxHeartbeats 1000000 in
set_option maxRecDepth 1000000 in
theorem Lie_rule_bad (A : Option Addr) (n cA : Nat) (L : Nat → Nat) (v : Nat → Nat → Int) (q : Int) (w : World) (h : RowsK w A n L v) (hok : okBal n L v = true) (hA : n ≤ cA) (hq : q < 0 ∨ 4 ≤ q) :
    Lr 10 #[.slice A n cA, .int .i64 q] w (.tuple #[.int .i64 0, .slice none 0 0, .int .i64 2]) := by
  have HC := Lib.hid (fun w' (hb : Below w.heap.size w w') => count_ok A n cA L v w' (h.keep hb) hok hA)
  clear h hok 
  show Calls _ _ _ _ _
  refine (callsIn_wide (n := 3)).1 (callsIn_of_wp_marks Try.func10 rfl trivial ?_ rfl)
  simp only [Try.ntmps10, List.size_toArray, List.length_cons, List.length_nil, Nat.reduceAdd, Nat.reduceSub, Array.replicate_succ, Array.replicate_zero, List.push_toArray, List.append_toArray, List.nil_append, List.cons_append]
  rw [wpIn_wide]
  go_wp2_with fail
  have b1 : Below w.heap.size w (w.alloc (.cells #[.int .i64 0] 3)) := (Below.refl _ w).alloc (Nat.le_refl _) _
  have r1 := box_row w (.int .i64 0) 3
  have s1 : (w.alloc (.cells #[.int .i64 0] 3)).heap.size = w.heap.size + 1 := by simp
  generalize w.alloc (.cells #[.int .i64 0] 3) = X1 at *
  have r2 := box_row X1 (.slice none 0 0) 23
  have b2 : Below X1.heap.size X1 (X1.alloc (.cells #[.slice none 0 0] 23)) := (Below.refl _ X1).alloc (Nat.le_refl _) _
  have s2 : (X1.alloc (.cells #[.slice none 0 0] 23)).heap.size = w.heap.size + 2 := by simp [s1]
  generalize X1.alloc (.cells #[.slice none 0 0] 23) = X2 at *
  have r3 := box_row X2 (.int .i64 0) 24
  have b3 : Below X2.heap.size X2 (X2.alloc (.cells #[.int .i64 0] 24)) := (Below.refl _ X2).alloc (Nat.le_refl _) _
  have s3 : (X2.alloc (.cells #[.int .i64 0] 24)).heap.size = w.heap.size + 3 := by simp [s2]
  generalize X2.alloc (.cells #[.int .i64 0] 24) = X3 at *
  rw [s1] at r2
  rw [s2] at r3
  have r1 := World.rowIs.of_block (World.rowIs.of_block r1 (b2.block _ (World.rowIs.lt r1))) (b3.block _ (by have := World.rowIs.lt r1; omega))
  have r2 := World.rowIs.of_block r2 (b3.block _ (World.rowIs.lt r2))
  have hb3 := (b1.trans (b2.mono (by omega))).trans (b3.mono (by omega))
  refine (HC.out X3 hb3).mono ?_
  rintro e w4 ⟨rfl, hb4⟩
  have HZ4 := Lib.hid (PollI.zero w4)
  have hb4z := zero_below w4
  have hs4 := hb4.size
  go_wp2_with fail
  rw [run_storePoll _ _ _ A n cA (L 0) (mAll v (L 0) n) HZ4.out]
  simp only [Result.andThen_ok]
  rw [Oper.upon_skip]
  have HX := below_setCells (pollL A n cA (L 0) (mAll v (L 0) n)) 0 hb4.size (hb4.trans (hb4z.mono hb4.size))
  generalize World.setCells _ w4.heap.size 0 (pollL A n cA (L 0) (mAll v (L 0) n)) = W at *
  have r1 := World.rowIs.of_block r1 (HX.block _ (World.rowIs.lt r1))
  have r2 := World.rowIs.of_block r2 (HX.block _ (World.rowIs.lt r2))
  have r3 := World.rowIs.of_block r3 (HX.block _ (World.rowIs.lt r3))
  have hBW : Below w.heap.size w W := hb3.trans (HX.mono (by omega))
  have hsz := hBW.size
  have hsz3 : w.heap.size + 3 ≤ W.heap.size := by have := HX.size; omega
  clear HZ4 hb4z HX hb4 b1 b2 b3 hb3 HC
  rcases hq with hq | hq
  · have h0 : decide (q < 0) = true := decide_eq_true hq
    have c0 := World.rowIs.cell r1 (i := 0) (by omega)
    have f0 := World.rowIs.frozen r1 0
    have c1 := World.rowIs.cell r2 (i := 0) (by omega)
    have f1 := World.rowIs.frozen r2 0
    have c2 : W.cell? ⟨w.heap.size + 1 + 1, 0, none⟩ = some (.int .i64 0) := World.rowIs.cell r3 (i := 0) (by omega)
    have f2 : W.frozen? ⟨w.heap.size + 1 + 1, 0, none⟩ = false := World.rowIs.frozen r3 0
    go_wp2
    clear c0 f0 c1 f1 c2 f2
    have e0 : Exc w.heap.size W (W.setCell ⟨w.heap.size, 0, none⟩ (.int .i64 0)) := (Exc.refl _ _).set 0 _
    have q0 : World.rowIs (W.setCell ⟨w.heap.size, 0, none⟩ (.int .i64 0)) w.heap.size 3 1 (fun _ => .int .i64 0) := World.rowIs.congr (World.rowIs.set r1 0 (.int .i64 0)) (fun j hj => by rw [if_pos (show j = 0 by omega)])
    have o1 := World.rowIs.of_block r2 (e0.block _ (World.rowIs.lt r2) (fun e => by injection e with e; omega))
    have p2 := World.rowIs.of_block r3 (e0.block _ (World.rowIs.lt r3) (fun e => by injection e with e; omega))
    have hz0 := e0.size
    generalize W.setCell ⟨w.heap.size, 0, none⟩ (.int .i64 0) = W1 at *
    have e1 : Exc (w.heap.size + 1) W1 (W1.setCell ⟨w.heap.size + 1, 0, none⟩ (.slice none 0 0)) := (Exc.refl _ _).set 0 _
    have q1 : World.rowIs (W1.setCell ⟨w.heap.size + 1, 0, none⟩ (.slice none 0 0)) (w.heap.size + 1) 23 1 (fun _ => .slice none 0 0) := World.rowIs.congr (World.rowIs.set o1 0 (.slice none 0 0)) (fun j hj => by rw [if_pos (show j = 0 by omega)])
    have q01 := World.rowIs.of_block q0 (e1.block _ (World.rowIs.lt q0) (fun e => by injection e with e; omega))
    have o2 := World.rowIs.of_block p2 (e1.block _ (World.rowIs.lt p2) (fun e => by injection e with e; omega))
    have hz1 := e1.size
    generalize W1.setCell ⟨w.heap.size + 1, 0, none⟩ (.slice none 0 0) = W2 at *
    have e2 : Exc (w.heap.size + 2) W2 (W2.setCell ⟨w.heap.size + 1 + 1, 0, none⟩ (.int .i64 2)) := (Exc.refl _ _).set 0 _
    have q2 : World.rowIs (W2.setCell ⟨w.heap.size + 1 + 1, 0, none⟩ (.int .i64 2)) (w.heap.size + 2) 24 1 (fun _ => .int .i64 2) := World.rowIs.congr (World.rowIs.set o2 0 (.int .i64 2)) (fun j hj => by rw [if_pos (show j = 0 by omega)])
    have q02 := World.rowIs.of_block q01 (e2.block _ (World.rowIs.lt q01) (fun e => by injection e with e; omega))
    have q12 := World.rowIs.of_block q1 (e2.block _ (World.rowIs.lt q1) (fun e => by injection e with e; omega))
    have hz2 := e2.size
    generalize W2.setCell ⟨w.heap.size + 1 + 1, 0, none⟩ (.int .i64 2) = W3 at *
    have hB3 : Below w.heap.size w W3 := hBW.trans ((e0.below (by omega) hsz).trans ((e1.below (by omega) (by omega)).trans (e2.below (by omega) (by omega))))
    refine leaves_marks (B := 0) [] W3 (Marks.nil _ _) (fun w' hs => ?_)
    have g0 := World.rowIs.cell (World.rowIs.of_block q02 (hs.block _ (World.rowIs.lt q02) (by simp))) (i := 0) (by omega)
    have g1 := World.rowIs.cell (World.rowIs.of_block q12 (hs.block _ (World.rowIs.lt q12) (by simp))) (i := 0) (by omega)
    have g2 := World.rowIs.cell (World.rowIs.of_block q2 (hs.block _ (World.rowIs.lt q2) (by simp))) (i := 0) (by omega)
    exact ⟨.tuple #[.int .i64 0, .slice none 0 0, .int .i64 2], by simp [results, Try.results10, go_sem, g0, g1, g2], rfl, hB3.trans (hs.below (B := w.heap.size) (by simp) hB3.size)⟩
  · have h0 : decide (q < 0) = false := decide_eq_false (by omega)
    have h4 : decide ((4 : Int) ≤ q) = true := decide_eq_true hq
    have h5 : decide (q < (4 : Int)) = false := decide_eq_false (by omega)
    go_wp2_with fail
    refine Lr.use (rules_any _) ?_
    intro W4 hb4
    have r1 := World.rowIs.of_block r1 (hb4.block _ (World.rowIs.lt r1))
    have r2 := World.rowIs.of_block r2 (hb4.block _ (World.rowIs.lt r2))
    have r3 := World.rowIs.of_block r3 (hb4.block _ (World.rowIs.lt r3))
    have hBW := hBW.trans (hb4.mono hsz)
    have hsz3 := Nat.le_trans hsz3 hb4.size
    have hsz := hBW.size
    clear hb4
    have c0 := World.rowIs.cell r1 (i := 0) (by omega)
    have f0 := World.rowIs.frozen r1 0
    have c1 := World.rowIs.cell r2 (i := 0) (by omega)
    have f1 := World.rowIs.frozen r2 0
    have c2 : W4.cell? ⟨w.heap.size + 1 + 1, 0, none⟩ = some (.int .i64 0) := World.rowIs.cell r3 (i := 0) (by omega)
    have f2 : W4.frozen? ⟨w.heap.size + 1 + 1, 0, none⟩ = false := World.rowIs.frozen r3 0
    go_wp2
    clear c0 f0 c1 f1 c2 f2
    have e0 : Exc w.heap.size W4 (W4.setCell ⟨w.heap.size, 0, none⟩ (.int .i64 0)) := (Exc.refl _ _).set 0 _
    have q0 : World.rowIs (W4.setCell ⟨w.heap.size, 0, none⟩ (.int .i64 0)) w.heap.size 3 1 (fun _ => .int .i64 0) := World.rowIs.congr (World.rowIs.set r1 0 (.int .i64 0)) (fun j hj => by rw [if_pos (show j = 0 by omega)])
    have o1 := World.rowIs.of_block r2 (e0.block _ (World.rowIs.lt r2) (fun e => by injection e with e; omega))
    have p2 := World.rowIs.of_block r3 (e0.block _ (World.rowIs.lt r3) (fun e => by injection e with e; omega))
    have hz0 := e0.size
    generalize W4.setCell ⟨w.heap.size, 0, none⟩ (.int .i64 0) = W1 at *
    have e1 : Exc (w.heap.size + 1) W1 (W1.setCell ⟨w.heap.size + 1, 0, none⟩ (.slice none 0 0)) := (Exc.refl _ _).set 0 _
    have q1 : World.rowIs (W1.setCell ⟨w.heap.size + 1, 0, none⟩ (.slice none 0 0)) (w.heap.size + 1) 23 1 (fun _ => .slice none 0 0) := World.rowIs.congr (World.rowIs.set o1 0 (.slice none 0 0)) (fun j hj => by rw [if_pos (show j = 0 by omega)])
    have q01 := World.rowIs.of_block q0 (e1.block _ (World.rowIs.lt q0) (fun e => by injection e with e; omega))
    have o2 := World.rowIs.of_block p2 (e1.block _ (World.rowIs.lt p2) (fun e => by injection e with e; omega))
    have hz1 := e1.size
    generalize W1.setCell ⟨w.heap.size + 1, 0, none⟩ (.slice none 0 0) = W2 at *
    have e2 : Exc (w.heap.size + 2) W2 (W2.setCell ⟨w.heap.size + 1 + 1, 0, none⟩ (.int .i64 2)) := (Exc.refl _ _).set 0 _
    have q2 : World.rowIs (W2.setCell ⟨w.heap.size + 1 + 1, 0, none⟩ (.int .i64 2)) (w.heap.size + 2) 24 1 (fun _ => .int .i64 2) := World.rowIs.congr (World.rowIs.set o2 0 (.int .i64 2)) (fun j hj => by rw [if_pos (show j = 0 by omega)])
    have q02 := World.rowIs.of_block q01 (e2.block _ (World.rowIs.lt q01) (fun e => by injection e with e; omega))
    have q12 := World.rowIs.of_block q1 (e2.block _ (World.rowIs.lt q1) (fun e => by injection e with e; omega))
    have hz2 := e2.size
    generalize W2.setCell ⟨w.heap.size + 1 + 1, 0, none⟩ (.int .i64 2) = W3 at *
    have hB3 : Below w.heap.size w W3 := hBW.trans ((e0.below (by omega) hsz).trans ((e1.below (by omega) (by omega)).trans (e2.below (by omega) (by omega))))
    refine leaves_marks (B := 0) [] W3 (Marks.nil _ _) (fun w' hs => ?_)
    have g0 := World.rowIs.cell (World.rowIs.of_block q02 (hs.block _ (World.rowIs.lt q02) (by simp))) (i := 0) (by omega)
    have g1 := World.rowIs.cell (World.rowIs.of_block q12 (hs.block _ (World.rowIs.lt q12) (by simp))) (i := 0) (by omega)
    have g2 := World.rowIs.cell (World.rowIs.of_block q2 (hs.block _ (World.rowIs.lt q2) (by simp))) (i := 0) (by omega)
    exact ⟨.tuple #[.int .i64 0, .slice none 0 0, .int .i64 2], by simp [results, Try.results10, go_sem, g0, g1, g2], rfl, hB3.trans (hs.below (B := w.heap.size) (by simp) hB3.size)⟩
theorem WinRFbad {n : Nat} {q : Int} {L : Nat → Nat} {v : Nat → Nat → Int} {A : Option Addr} {k cA : Nat} {w : World} (h : RowsK w A k (fun i => min (L i) 11) v) (hk : k = min n 11) (hA : k ≤ cA) (hb : okBal n L v = false ∨ q < 0 ∨ 4 ≤ q) :
    Lr 12 #[.slice A k cA, .int .i64 q] w (.tuple #[.int .i64 0, .int .i64 2]) := by
  subst hk
  rcases hok : okBal n L v with _ | _
  · exact Win_bad A (min n 11) cA (fun i => min (L i) 11) v q w h (by rw [okBal_few]; exact hok) (by omega) (fun i hi => by show min (L i) 11 ≤ 1000; omega)
  · exact Win_rule_bad A (min n 11) cA (fun i => min (L i) 11) v q w h (by rw [okBal_few]; exact hok) hA (hb.resolve_left (by rw [hok]; simp))
theorem LieFbad {n : Nat} {q : Int} {L : Nat → Nat} {v : Nat → Nat → Int} {A : Option Addr} {k cA : Nat} {w : World} (h : RowsK w A k (fun i => min (L i) 11) v) (hk : k = min n 11) (hA : k ≤ cA) (hb : okBal n L v = false ∨ q < 0 ∨ 4 ≤ q) :
    Lr 10 #[.slice A k cA, .int .i64 q] w (.tuple #[.int .i64 0, .slice none 0 0, .int .i64 2]) := by
  subst hk
  rcases hok : okBal n L v with _ | _
  · exact Lie_bad A (min n 11) cA (fun i => min (L i) 11) v q w h (by rw [okBal_few]; exact hok) (by omega) (fun i hi => by show min (L i) 11 ≤ 1000; omega)
  · exact Lie_rule_bad A (min n 11) cA (fun i => min (L i) 11) v q w h (by rw [okBal_few]; exact hok) hA (hb.resolve_left (by rw [hok]; simp))
theorem LieF {r n : Nat} (hr : r < 4) {L : Nat → Nat} {v : Nat → Nat → Int} {A : Option Addr} {k cA : Nat} {w : World} (h : RowsK w A k (fun i => min (L i) 11) v) (hk : k = min n 11) (hA : k ≤ cA) (hok : okBal n L v = true) :
    Calls Try.prog 10 #[.slice A k cA, .int .i64 (r : Int)] w fun e w' => LieR w r n L v e w' := by
  subst hk
  obtain ⟨e1, e2, e3⟩ := bal_few hok
  refine (Lie_ok r hr A (min n 11) cA (fun i => min (L i) 11) v w h (by rw [okBal_few]; exact hok) hA).mono ?_
  intro e w' hl
  unfold LieR at hl ⊢
  simp only [e1, e2] at hl
  exact hl
end Go.Proofs.Ytnobbklnnkpdfaa

