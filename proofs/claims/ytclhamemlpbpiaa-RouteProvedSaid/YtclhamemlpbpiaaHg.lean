/- Potentials. -/
import Derived.Test.YtclhamemlpbpiaaHf
import Derived.Test.YtclhamemlpbpiaaIdx
namespace Go.Proofs.Ytclhamemlpbpiaa
open Go.RowKit

theorem slice_eight (a : Addr) (c : Nat) (hc : c ≤ 8) (w : World) : (Instr.sliceAt 60 (.pointer (some a)) none (some (.int .i64 (c : Int))) none).run Try.prog w = .ok (.slice (some a) c 8) w := by
  have hlen : Try.prog.arrayLen 60 = 8 := by kernel_rfl
  have hso : (sizeOf (Try.prog.elem 60)).run Try.prog w = .ok 1 w := by kernel_rfl
  rw [run_sliceAt_array_h (P := Try.prog) w 60 a (by kernel_rfl) .i64 (c : Int) (by omega) (by rw [hlen]; omega), hso, hlen]
  simp only [Result.andThen_ok, slicedAt, Nat.zero_mul, Int.toNat_natCast, Nat.sub_zero]
  congr 4
theorem TabI.ints {w : World} {g : Nat} {T : Nat → Int} (h : TabI w g T) {a c : Nat} (ha : a < 8) (hc : c ≤ 8) : Ints w (some ⟨g, a * 8, none⟩) c (fun b => T (8 * a + b)) := fun _ => ⟨g, a * 8, rfl, fun k hk => by
  rw [World.rowIs.cell h (by omega : a * 8 + k < 64), show a * 8 + k = 8 * a + k by omega]⟩
/-- The distances of a map. -/
def dsT (n m : Nat) (F : Nat → Nat → Int) : Nat → Int := dS n (stT n m F) n

set_option maxHeartbeats 2000000 in
set_option maxRecDepth 1000000 in
theorem potentials_ok (A : Option Addr) (m c n a : Nat) (F : Nat → Nat → Int) (w : World) (h : Recs 3 w A m F) (hok : okM n m F = true) (ha : a < n) :
    Calls Try.prog 22 #[.agg #[.int .i64 n, .slice A m c], .int .i64 a] w fun e w' => ((hasB (fun b => dsT n m F (8 * a + b)) 400 n = true ∧ e = .returned (.tuple #[.slice none 0 0, .int .i64 4])) ∨
      (hasB (fun b => dsT n m F (8 * a + b)) 400 n = false ∧ ∃ v, e = .returned (.tuple #[v, .int .i64 0]) ∧ OwnL w' w.heap.size v (lst n (fun b => dsT n m F (8 * a + b))))) ∧ Below w.heap.size w w' := by
  obtain ⟨⟨-, hn8⟩, hm16, hrd⟩ := okM_iff.1 hok
  have hn8 : n ≤ 8 := by omega
  have hq := beq_t (rfl : (n : Int) = n)
  have HB1 := MapB.new w n (.slice A m c)
  have Hb1 := (Below.refl w.heap.size w).alloc (Nat.le_refl _) (.cells #[.int .i64 n, .slice A m c] 31)
  have hz1 : (w.alloc (.cells #[.int .i64 n, .slice A m c] 31)).heap.size = w.heap.size + 1 := by simp
  obtain ⟨W1, hW1⟩ : ∃ W1, W1 = w.alloc (.cells #[.int .i64 n, .slice A m c] 31) := ⟨_, rfl⟩
  rw [← hW1] at HB1 Hb1 hz1
  have HV := Lib.hid (fun w' (hb : Below W1.heap.size W1 w') => validM_any A m c n F w' (h.keep (Hb1.trans (hb.mono Hb1.size))) (by unfold maxLen; omega))
  have HD := Lib.hid (fun w' (hb : Below W1.heap.size W1 w') => distances_any A m c n F w' (h.keep (Hb1.trans (hb.mono Hb1.size))) hm16 hn8 (fun k hk => ⟨(hrd k hk).1, (hrd k hk).2.1, (hrd k hk).2.2.1⟩) (fun k hk => by have := hrd k hk; omega))
  have HI := Lib.hid (show inB n a = true from inB_t.2 ⟨by omega, by omega⟩)
  have HOk := Lib.hid hok
  have HMB : Hid (∀ w', Below W1.heap.size W1 w' → MapB w' w.heap.size n (.slice A m c) ∧ Below w.heap.size w w') := Lib.hid (fun w' hb => ⟨HB1.keep hb, Hb1.trans (hb.mono Hb1.size)⟩)
  have HWW : Hid (w.alloc (.cells #[.int .i64 n, .slice A m c] 31) = W1) := Lib.hid hW1.symm
  have Hz1 := Lib.hid hz1
  have HDS : Hid (dS n (stT n m F) n = dsT n m F) := Lib.hid rfl
  clear HB1 Hb1 hz1 hW1 h hok hrd
  generalize dsT n m F = T at *
  go_enter Try.func22, Try.ntmps22
  go_wp2_with fail
  rw [HWW.out]
  clear HWW
  refine (HV.out W1 (Below.refl _ _)).use fun w2 hb2 => ?_
  rw [HOk.out]
  have HB2 := Lib.hid hb2
  obtain ⟨q0, q1⟩ : w2.cell? ⟨w.heap.size, 0, none⟩ = some (.int .i64 n) ∧ w2.cell? ⟨w.heap.size, 1, none⟩ = some (.slice A m c) := ⟨(HMB.out w2 hb2).1.c0, (HMB.out w2 hb2).1.c1⟩
  clear hb2
  go_wp2_with fail
  refine (isStop_any A m c n a w2).use fun w3 hb3 => ?_
  rw [HI.out]
  have HB3 := Lib.hid (HB2.out.trans (hb3.mono HB2.out.size))
  clear hb3 q0 q1
  obtain ⟨q0, q1⟩ : w3.cell? ⟨w.heap.size, 0, none⟩ = some (.int .i64 n) ∧ w3.cell? ⟨w.heap.size, 1, none⟩ = some (.slice A m c) := ⟨(HMB.out w3 HB3.out).1.c0, (HMB.out w3 HB3.out).1.c1⟩
  go_wp2_with fail
  refine (HD.out w3 HB3.out).mono ?_
  rintro e w4 ⟨rfl, hb4⟩
  rw [HDS.out]
  have HB4 := Lib.hid (HB3.out.trans (hb4.mono HB3.out.size))
  clear hb4 q0 q1
  go_wp2_with fail
  have HY5 := TabI.zero w4
  rw [run_storeTab _ _ _ T HY5]
  simp only [Result.andThen_ok]
  rw [Oper.upon_skip]
  have HY6 := Lib.hid (TabI.stored (T := T) HY5)
  have HB6 := Lib.hid (below_setCells (tabL T) 0 (show W1.heap.size ≤ w4.heap.size from HB4.out.size) (HB4.out.trans ((tab_below w4).mono HB4.out.size)))
  clear HY5
  generalize World.setCells _ w4.heap.size 0 (tabL T) = W6 at *
  have q0 : W6.cell? ⟨w.heap.size, 0, none⟩ = some (.int .i64 n) := (HMB.out W6 HB6.out).1.c0
  have hsl := slice_eight ⟨w4.heap.size, a * 8, none⟩ n hn8
  have ha8 : a < 8 := by omega
  have ha8i : (a : Int) < 8 := by omega
  go_wp2
  go_region
  clear q0
  have HC := Lib.hid (contains_any (some ⟨w4.heap.size, a * 8, none⟩) n 8 (fun b => T (8 * a + b)) 400 W6.drew (HY6.out.ints ha8 hn8) (by omega))
  have HL := Lib.hid (clone_any (some ⟨w4.heap.size, a * 8, none⟩) n 8 (fun b => T (8 * a + b)) W6.drew (HY6.out.ints ha8 hn8) (by omega))
  have HB7 := Lib.hid (HB6.out.trans ((Dn.refl W6).drew.below _))
  generalize W6.drew = W7 at *
  cases hh : hasB (fun b => T (8 * a + b)) 400 n with
  | true =>
    have HH := Lib.hid hh
    clear hh
    go_wp2_with fail
    refine HC.out.mono ?_
    rintro e w8 ⟨rfl, rfl⟩
    rw [HH.out]
    go_wp2
    go_returns
    exact ⟨.inl ⟨HH.out, rfl⟩, (HMB.out _ HB7.out).2⟩
  | false =>
    have HH := Lib.hid hh
    clear hh
    go_wp2_with fail
    refine HC.out.mono ?_
    rintro e w8 ⟨rfl, rfl⟩
    rw [HH.out]
    go_wp2_with fail
    refine HL.out.mono ?_
    rintro e w9 ⟨v, rfl, hv, -, hb9⟩
    obtain ⟨A9, c9, rfl, -⟩ := hv.form
    have HV9 := Lib.hid hv
    have HB9 := Lib.hid ((HMB.out _ (HB7.out.trans (hb9.mono HB7.out.size))).2)
    have HS9 : Hid (w.heap.size ≤ W7.heap.size) := Lib.hid (by have := HB7.out.size; have := Hz1.out; omega)
    clear hv hb9
    go_wp2
    go_returns
    exact ⟨.inr ⟨HH.out, _, rfl, HV9.out.rebase HS9.out⟩, HB9.out⟩
end Go.Proofs.Ytclhamemlpbpiaa
