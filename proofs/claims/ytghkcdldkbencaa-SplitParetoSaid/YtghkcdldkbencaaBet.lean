import Derived.Test.YtghkcdldkbencaaBet1
import Derived.Test.YtghkcdldkbencaaOwnW
import Derived.Test.YtghkcdldkbencaaFair
namespace Go.Proofs.Ytghkcdldkbencaa
open Go.RowKit

theorem call_better1 (args : Array Value) (w : World) : (callFunc 73 args).run Try.prog w = .ok (.enter 73 args) w := by
  have h1 : Try.f73.name ≠ "runtime.NumGoroutine" := by decide
  have hb : ∃ c, Try.f73.body = some c := ⟨_, rfl⟩
  obtain ⟨c, hb⟩ := hb
  simp [callFunc, Try.func73, h1, hb]

set_option maxRecDepth 1000000 in
theorem Better_bad (A D : Option Addr) (n c md c' : Nat) (L : Nat → Nat) (v : Nat → Nat → Int) (d : Nat → Int) (w : World) (h : Rows2 w A n L v) (hd : Ints w D md d) (hn : n ≤ 9) (hL : Short n L) (hmd : md ≤ 9) (hbad : okDiv n L v md d = false) :
    Calls Try.prog 39 #[.slice A n c, .slice D md c'] w fun e w' => e = .returned (.tuple #[.slice none 0 0, .int .i64 2]) ∧ Below w.heap.size w w' := by
  have HO := Lib.hid hbad
  have hb1 := (Below.refl w.heap.size w).alloc (Nat.le_refl _) (.cells #[.slice A n c] 22)
  have HR := Lib.hid (h.keep hb1)
  have HD := Lib.hid (hd.keep hb1)
  have HB := Lib.hid hb1
  clear hbad h hd hb1
  go_enter Try.func39, Try.ntmps39
  go_wp2_with fail
  refine (validDivision_any _ _ _ _ _ _ _ _ _ _ HR.out HD.out hn hL hmd).mono ?_
  rintro e w' ⟨rfl, rfl⟩
  rw [HO.out]
  go_wp2
  go_ret2
  exact ⟨rfl, HB.out⟩

set_option maxHeartbeats 2000000 in
set_option maxRecDepth 1000000 in
theorem Better_ok (A D : Option Addr) (n c md c' : Nat) (L : Nat → Nat) (v : Nat → Nat → Int) (d : Nat → Int) (w : World) (h : Rows2 w A n L v) (hd : Ints w D md d) (hn : n ≤ 9) (hL : Short n L) (hmd : md ≤ 9) (hok : okDiv n L v md d = true) :
    Calls Try.prog 39 #[.slice A n c, .slice D md c'] w fun e w' => ∃ x fe, e = .returned (.tuple #[x, .int .i64 fe]) ∧ Below w.heap.size w w' ∧
      ((∃ i, i < n ^ md ∧ betP' n md v d i = true ∧ NoneLt (betP' n md v d) i ∧ OwnL w' w.heap.size x (lst md (dg n md i)) ∧ fe = 0) ∨ (NoneLt (betP' n md v d) (n ^ md) ∧ x = .slice none 0 0 ∧ fe = 4)) := by
  have q := fun (w : World) (a : Option Addr) (n c n' c' : Nat) => Lib.run_eql_slice_nil (P := Try.prog) w 23 3 a n c n' c' Try.underlying23
  have hmf : ∀ (fn : Fn) (first cap : Array Value) (w : World), (Instr.makeFunc fn first cap).run Try.prog w = .ok (.func fn first cap) w := fun _ _ _ _ => rfl
  have hO := okDiv_of hok
  obtain ⟨h1, h2, h3, h4, h5, h6⟩ := okVals_of hO.1
  have hM := okVals_mat h hO.1
  rw [← hO.2.1] at hM h3 h4 h6
  have HO := Lib.hid hok
  have HOwn := Lib.hid hO.2.2
  have hb1 := (Below.refl w.heap.size w).alloc (Nat.le_refl _) (.cells #[.slice A n c] 22)
  have HMw := Lib.hid hM
  have HM := Lib.hid (hM.keep hb1)
  have HR := Lib.hid (h.keep hb1)
  have HD := Lib.hid (hd.keep hb1)
  have HB1 := Lib.hid hb1
  have HB6 := Lib.hid h6
  have hbox := Box.new w 22 (.slice A n c)
  have HBox := Lib.hid hbox
  clear h hd hok hO hM hb1 h5 h6 hbox
  go_enter Try.func39, Try.ntmps39
  go_wp2_with fail
  refine (validDivision_any _ _ _ _ _ _ _ _ _ _ HR.out HD.out hn hL hmd).mono ?_
  rintro e w' ⟨rfl, rfl⟩
  rw [HO.out]
  go_wp2_with fail
  refine (ownWorths_size _ _ n md _ _ v d _ HM.out HD.out (HB6.out.le (by omega)) hmd hn HOwn.out).mono ?_
  rintro e w2 ⟨rfl, hR2, hb2, hs2⟩
  simp only [World.size_alloc] at hs2 hR2
  have HBox2 := Lib.hid (HBox.out.keep hb2)
  have Hb2 := Lib.hid (HB1.out.trans (hb2.mono (by simp)))
  have HR2 := Lib.hid hR2
  clear hb2 hR2
  obtain ⟨w5, hw5⟩ : ∃ w5 : World, w5 = ((w2.alloc (.cells #[.slice (some ⟨w.heap.size + 1, 0, none⟩) n n] 23)).alloc (.cells #[.slice none 0 0] 23)) := ⟨_, rfl⟩
  have b0 : Box w5 w.heap.size 22 (.slice A n c) := by rw [hw5]; exact (HBox2.out.alloc _).alloc _
  have b1 : RowI w5 (w.heap.size + 1) n (wrt v md d) := by rw [hw5]; exact (HR2.out.alloc _).alloc _
  have b2 : Box w5 (w.heap.size + 2) 23 (.slice (some ⟨w.heap.size + 1, 0, none⟩) n n) := by
    rw [hw5]
    have := Box.new w2 23 (.slice (some ⟨w.heap.size + 1, 0, none⟩) n n)
    rw [hs2] at this
    exact this.alloc _
  have b3 : Box w5 (w.heap.size + 3) 23 (.slice none 0 0) := by
    rw [hw5]
    have := Box.new (w2.alloc (.cells #[.slice (some ⟨w.heap.size + 1, 0, none⟩) n n] 23)) 23 (.slice none 0 0)
    simp only [World.size_alloc] at this
    rw [hs2] at this
    exact this
  have hsz5 : w5.heap.size = w.heap.size + 4 := by rw [hw5]; simp; omega
  have hb5 : Below w.heap.size w w5 := by
    rw [hw5]
    exact (Hb2.out.alloc (by omega) _).alloc (by simp; omega) _
  have c5 := b0.cell
  have HI : Hid (BtI w A c n md v d 0 w5) := Lib.hid ⟨⟨hb5, b0, b1, b2⟩, b3, NoneLt.zero⟩
  have HV : Hid (Visits 73 #[.pointer (some ⟨w.heap.size, 0, none⟩), .pointer (some ⟨w.heap.size + 1 + 1, 0, none⟩), .pointer (some ⟨w.heap.size + 1 + 1 + 1, 0, none⟩)] (w.heap.size + 4) n md (BtI w A c n md v d) (BtS w A c n md v d)) := Lib.hid (by
    have hv := better1_any w A c n md v d HMw.out HB6.out h1 h2 h4 h3
    have e2 : w.heap.size + 1 + 1 = w.heap.size + 2 := by omega
    have e3 : w.heap.size + 1 + 1 + 1 = w.heap.size + 3 := by omega
    rw [e3, e2]
    exact hv)
  have HS := Lib.hid hsz5
  have HG0 : Hid (BtI w A c n md v d 0 (w5.alloc (.cells (madeCells #[.int .i64 0] md) 3))) :=
    Lib.hid (HI.out.exc (Exc.of_below ((Below.refl _ _).alloc (Nat.le_refl _) _)))
  rw [hw5] at c5
  have HW := Lib.hid hw5
  have HS2 := Lib.hid hs2
  clear b0 b1 b2 b3 hsz5 hb5 hw5 hs2
  go_wp2_with fail
  rw [← HW.out]
  have hx : ∀ (i : Nat) (w1 w2 : World), BtI w A c n md v d i w1 → Exc w5.heap.size w1 w2 → BtI w A c n md v d i w2 := by
    intro i w1 w2 h he
    rw [HS.out] at he
    exact BtI.exc h he
  have hvis : Visits 73 #[.pointer (some ⟨w.heap.size, 0, none⟩), .pointer (some ⟨w.heap.size + 1 + 1, 0, none⟩), .pointer (some ⟨w.heap.size + 1 + 1 + 1, 0, none⟩)] w5.heap.size n md (BtI w A c n md v d) (BtS w A c n md v d) := by
    rw [HS.out]
    exact HV.out
  have hEach := eachDivision_any n md 73 #[.pointer (some ⟨w.heap.size, 0, none⟩), .pointer (some ⟨w.heap.size + 1 + 1, 0, none⟩), .pointer (some ⟨w.heap.size + 1 + 1 + 1, 0, none⟩)] (BtI w A c n md v d) (BtS w A c n md v d) w5 h1 (by omega) (by omega) HG0.out hx hvis call_better1
  rw [HS2.out]
  refine hEach.mono ?_
  clear hEach hx hvis
  rintro e w6 ⟨rfl, hpost⟩
  rcases hpost with hP | ⟨i, hi, hP⟩
  · obtain ⟨⟨hbel, -⟩, hbx, hN⟩ := hP
    have c6 : w6.cell? ⟨w.heap.size + 1 + 1 + 1, 0, none⟩ = some (.slice none 0 0) := hbx.cell
    have HB6' := Lib.hid hbel
    have HN := Lib.hid hN
    clear hbel hbx hN
    go_wp2
    go_ret2
    exact ⟨_, 4, rfl, HB6'.out, .inr ⟨HN.out, rfl, rfl⟩⟩
  · obtain ⟨hbel, ⟨x, hbx, hx, hxn⟩, hN, hp⟩ := hP
    obtain ⟨ax, cx, rfl, -⟩ := hx.sl h3
    have c6 : w6.cell? ⟨w.heap.size + 1 + 1 + 1, 0, none⟩ = some (.slice (some ax) md cx) := hbx.cell
    have HB6' := Lib.hid hbel
    have HN := Lib.hid hN
    have HP := Lib.hid hp
    have HX := Lib.hid hx
    have HI' := Lib.hid hi
    clear hbel hbx hN hp hx hxn hi
    go_wp2
    go_ret2
    exact ⟨_, 0, rfl, HB6'.out, .inl ⟨i, HI'.out, HP.out, HN.out, HX.out.rebase (by omega), rfl⟩⟩
end Go.Proofs.Ytghkcdldkbencaa
