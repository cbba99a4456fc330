/- Widths of ballots. -/
import Derived.Test.YtnobbklnnkpdfaaSw
import Derived.Test.YtnobbklnnkpdfaaVg
import Derived.Deep.RegionHeld3
namespace Go.Proofs.Ytnobbklnnkpdfaa
open Go.RowKit

theorem wpOp_of {P : Program} {ops : Array Oper} {Q : Exit → Act → World → Prop} {i : Nat} {K : Act → World → Prop} {a : Act} {w : World} {o : Oper} (hi : ops[i]? = some o) (hw : Region.wanted o (yielded ops a.tmps) = true) (h : o.wp P a w K Q) : wpOp P ops Q i K a w := by
  unfold wpOp
  rw [hi]
  simp only [hw, if_true]
  exact .inl h

set_option maxHeartbeats 1000000 in
set_option maxRecDepth 1000000 in
theorem Widths_ok (A : Option Addr) (n cA : Nat) (L : Nat → Nat) (v : Nat → Nat → Int) (w : World) (h : RowsK w A n L v) (hok : okBal n L v = true) (hA : n ≤ cA) :
    Calls Try.prog 21 #[.slice A n cA] w fun e w' => ∃ x, e = .returned (.tuple #[x, .int .i64 0]) ∧ OwnR w' w.heap.size x (L 0) (fun _ => L 0) (fun a b => wT (L 0) (mAll v (L 0) n) (L 0) (5 * a + b)) ∧ Below w.heap.size w w' := by
  obtain ⟨-, ⟨hc1, hc5⟩, -⟩ := okBal_iff.1 hok
  have HC := Lib.hid (count_ok A n cA L v w h hok hA)
  clear h hok
  generalize mAll v (L 0) n = T at *
  generalize L 0 = c at *
  go_enter Try.func21, Try.ntmps21
  go_wp2_with fail
  refine HC.out.mono ?_
  rintro e w2 ⟨rfl, hb2⟩
  have HZ2 := Lib.hid (PollI.zero w2)
  have Hb3 := Lib.hid (hb2.trans ((zero_below w2).mono hb2.size))
  have hsz := hb2.size
  clear hb2 HC
  go_wp2_with fail
  rw [run_storePoll _ _ _ A n cA c T HZ2.out]
  simp only [Result.andThen_ok]
  rw [Oper.upon_skip]
  have HR := Lib.hid (PollI.stored (A := A) (n := n) (cA := cA) (c := c) (T := T) HZ2.out)
  have HB := Lib.hid (below_setCells (pollL A n cA c T) 0 hsz Hb3.out)
  clear HZ2 Hb3 hsz
  generalize World.setCells _ w2.heap.size 0 (pollL A n cA c T) = W3 at *
  generalize w2.heap.size = G at *
  go_wp2
  have HRd : Hid (PollI W3.drew G A n cA c T) := HR
  have HBd : Hid (Below w.heap.size w W3.drew) := Lib.hid (HB.out.trans ((Dn.refl _).drew.below _))
  have hl : (Try.prog.info? 56).map (·.size) = some (pollL A n cA c T).length := by rw [pollL_len]; exact infoPoll
  refine wp_region_held (S := fun w' => PollI w' G A n cA c T) (by kernel_rfl) ?_
  refine wpAnyH_take (i := 0) (v := .agg (pollL A n cA c T).toArray) rfl (by kernel_rfl) (by kernel_rfl) (by kernel_rfl) (fun _ _ _ h => h) (yieldsIf_load_mid (by rfl) 56 (.tmp 4) (by rfl) G 0 (by rfl) (pollL A n cA c T) _ (fun w h => h.range) Try.underlying56 rfl hl) HRd.out ?_
  refine wpAnyH_take (i := 2) (v := .pointer (some ⟨G, 1, none⟩)) rfl (by kernel_rfl) (by kernel_rfl) (by kernel_rfl) (fun _ _ _ h => h) (Or.inl ⟨by rfl, fun w _ => by go_simp⟩) HRd.out ?_
  refine wpAnyH_take (i := 3) (v := .int .i64 (c : Int)) rfl (by kernel_rfl) (by kernel_rfl) (by kernel_rfl) (fun _ _ _ h => h) (Or.inl ⟨by rfl, fun w hS => by have hq := PollI.c1 hS; go_simp⟩) HRd.out ?_
  refine wpAnyH_all (rs := [1]) (by kernel_rfl) (by simp) (fun i hi => ?_)
  obtain rfl : i = 1 := by simpa using hi
  refine wpOp_of (by rfl) (by rfl) ?_
  go_simp
  go_at_call 46
  refine (widths_any A n cA c T hc5 _).mono ?_
  rintro e w5 ⟨rfl, hb5⟩
  have HR5 := Lib.hid (HRd.out.keep hb5)
  have HB5 := Lib.hid (HBd.out.trans (hb5.mono HBd.out.size))
  clear hb5
  refine ⟨HR5.out, ?_⟩
  refine wpAnyH_all (rs := [4]) (by kernel_rfl) (by simp) (fun i hi => ?_)
  obtain rfl : i = 4 := by simpa using hi
  refine wpOp_of (by rfl) (by rfl) ?_
  go_simp
  go_at_call 45
  refine (rows_any (wT c T c) c hc5 hc1 _).mono ?_
  rintro e w6 ⟨x, rfl, hx, hb6⟩
  have HR6 := Lib.hid (HR5.out.keep hb6)
  have HB6 := Lib.hid (HB5.out.trans (hb6.mono HB5.out.size))
  obtain ⟨A6, c6, rfl, -⟩ := hx.rows
  have HX := Lib.hid hx
  have Hs5 := Lib.hid HB5.out.size
  clear hb6 hx
  refine ⟨HR6.out, ?_⟩
  refine wpAnyH_take (i := 5) (v := .slice A6 c c6) rfl (by kernel_rfl) (by kernel_rfl) (by kernel_rfl) (fun _ _ _ h => h) (Or.inl ⟨by rfl, fun w _ => by go_simp⟩) HR6.out ?_
  refine wpAnyH_take (i := 6) (v := .int .i64 0) rfl (by kernel_rfl) (by kernel_rfl) (by kernel_rfl) (fun _ _ _ h => h) (Or.inl ⟨by rfl, fun w _ => by go_simp⟩) HR6.out ?_
  refine wpAnyH_done (by kernel_rfl) ?_ _
  go_wp2
  go_ret2
  exact ⟨_, rfl, ⟨HX.out.choose, HX.out.choose_spec.1, ownsRow_base HX.out.choose_spec.2.1 Hs5.out, fun i y hy => (HX.out.choose_spec.2.2 i y hy).rebase Hs5.out⟩, HB6.out⟩

set_option maxHeartbeats 1000000 in
set_option maxRecDepth 1000000 in
theorem Widths_bad (A : Option Addr) (n cA : Nat) (L : Nat → Nat) (v : Nat → Nat → Int) (w : World) (h : RowsK w A n L v) (hok : okBal n L v = false) (hn : n ≤ 1000) (hL : ∀ i, i < n → L i ≤ 1000) :
    Lr 21 #[.slice A n cA] w (.tuple #[.slice none 0 0, .int .i64 2]) := by
  have HC := Lib.hid (count_bad A n cA L v w h hok hn hL)
  clear h hok hL
  show Calls _ _ _ _ _
  go_enter Try.func21, Try.ntmps21
  go_wp2_with fail
  refine HC.out.mono ?_
  rintro e w2 ⟨rfl, hb2⟩
  have HZ2 := Lib.hid (PollI.zero w2)
  have Hb3 := Lib.hid (hb2.trans ((zero_below w2).mono hb2.size))
  have hsz := hb2.size
  clear hb2 HC
  go_wp2_with fail
  rw [run_storePoll _ _ _ none 0 0 0 (fun _ => 0) HZ2.out]
  simp only [Result.andThen_ok]
  rw [Oper.upon_skip]
  have HB := Lib.hid (below_setCells (pollL none 0 0 0 (fun _ => 0)) 0 hsz Hb3.out)
  clear HZ2 Hb3
  generalize World.setCells _ w2.heap.size 0 (pollL none 0 0 0 (fun _ => 0)) = W3 at *
  go_wp2
  go_ret2
  exact ⟨rfl, HB.out⟩
/-- Widths and Win of what Few leaves. -/
theorem mAll_dia {n : Nat} {L : Nat → Nat} {v : Nat → Nat → Int} (hok : okBal n L v = true) : ∀ a, a < L 0 → mAll v (L 0) n (5 * a + a) = 0 := by
  intro a ha
  have := mAll_anti hok a a ha ha
  omega
theorem WidthsF {n : Nat} {L : Nat → Nat} {v : Nat → Nat → Int} {A : Option Addr} {k cA : Nat} {w : World} (h : RowsK w A k (fun i => min (L i) 11) v) (hk : k = min n 11) (hA : k ≤ cA) (hok : okBal n L v = true) :
    Calls Try.prog 21 #[.slice A k cA] w fun e w' => ∃ A' c', e = .returned (.tuple #[.slice A' (L 0) c', .int .i64 0]) ∧ Rows2 w' A' (L 0) (fun _ => L 0) (fun a b => wT (L 0) (mAll v (L 0) n) (L 0) (5 * a + b)) ∧ Below w.heap.size w w' := by
  subst hk
  obtain ⟨e1, e2, e3⟩ := bal_few hok
  refine (Widths_ok A (min n 11) cA (fun i => min (L i) 11) v w h (by rw [okBal_few]; exact hok) hA).mono ?_
  rintro e w' ⟨x, rfl, hx, hb⟩
  obtain ⟨A', c', rfl, hr, -⟩ := hx.rows
  refine ⟨A', c', by simp only [e2], ?_, hb⟩
  have := hr
  simp only [e1, e2] at this
  exact this
theorem WidthsFbad {n : Nat} {L : Nat → Nat} {v : Nat → Nat → Int} {A : Option Addr} {k cA : Nat} {w : World} (h : RowsK w A k (fun i => min (L i) 11) v) (hk : k = min n 11) (hok : okBal n L v = false) :
    Lr 21 #[.slice A k cA] w (.tuple #[.slice none 0 0, .int .i64 2]) := by
  subst hk
  exact Widths_bad A (min n 11) cA (fun i => min (L i) 11) v w h (by rw [okBal_few]; exact hok) (by omega) (fun i hi => by show min (L i) 11 ≤ 1000; omega)
theorem WinF {n k0 : Nat} {L : Nat → Nat} {v : Nat → Nat → Int} {A : Option Addr} {k cA : Nat} {w : World} (h : RowsK w A k (fun i => min (L i) 11) v) (hk : k = min n 11) (hA : k ≤ cA) (hok : okBal n L v = true) (hk0 : k0 < L 0)
    (h1 : strB (wT (L 0) (mAll v (L 0) n) (L 0)) (L 0) k0 = true) (h2 : ∀ a, a < k0 → strB (wT (L 0) (mAll v (L 0) n) (L 0)) (L 0) a = false) :
    Lr 12 #[.slice A k cA, .int .i64 2] w (.tuple #[.int .i64 k0, .int .i64 0]) := by
  subst hk
  obtain ⟨e1, e2, e3⟩ := bal_few hok
  exact Win_paths A (min n 11) cA k0 (fun i => min (L i) 11) v w h (by rw [okBal_few]; exact hok) hA (by simp only [e2]; exact hk0) (by simp only [e1, e2]; exact h1) (by simp only [e1, e2]; exact h2)
end Go.Proofs.Ytnobbklnnkpdfaa
