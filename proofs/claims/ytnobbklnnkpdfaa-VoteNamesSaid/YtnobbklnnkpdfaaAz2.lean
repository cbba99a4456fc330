/- Axis, whole. -/
import Derived.Test.YtnobbklnnkpdfaaAx
namespace Go.Proofs.Ytnobbklnnkpdfaa
open Go.RowKit

theorem rowF_range {c i : Nat} (hi : i < c) : rowF (List.range c) i = i := by simp [rowF, List.getD, hi]

set_option maxHeartbeats 1000000 in
set_option maxRecDepth 1000000 in
theorem Axis_ok (A : Option Addr) (n cA : Nat) (L : Nat → Nat) (v : Nat → Nat → Int) (w : World) (h : RowsK w A n L v) (hok : okBal n L v = true) (hA : n ≤ cA) :
    Calls Try.prog 27 #[.slice A n cA] w fun e w' => (∃ g x, axF n L v (List.range (L 0)) = some x ∧ e = .returned (.tuple #[.slice (some ⟨g, 0, none⟩) (L 0) (L 0), .int .i64 0]) ∧ w.heap.size ≤ g ∧ RowI w' g (L 0) (rowF x) ∧ Below w.heap.size w w') ∨
      (axF n L v (List.range (L 0)) = none ∧ e = .returned (.tuple #[.slice none 0 0, .int .i64 4]) ∧ Below w.heap.size w w') := by
  obtain ⟨⟨hn1, hn9⟩, ⟨hc1, hc5⟩, hO⟩ := okBal_iff.1 hok
  have hLs : ∀ i, i < n → L i ≤ 1000 := fun i hi => by have := (hO i hi).1; omega
  have HV : Hid (Ro 53 #[.slice A n cA] w (.bool true)) := Lib.hid (by
    have := valid_any A n cA L v w h (by omega) hLs
    rwa [hok] at this)
  obtain ⟨b0, o0, A0, c0, rfl, hc0, -⟩ := h.at (show 0 < n by omega)
  have hc0' : w.cell? ⟨b0, o0, none⟩ = some (.slice A0 (L 0) c0) := hc0
  have H := Lib.hid h
  have HL := Lib.hid hLs
  clear h hc0 hO hLs
  go_enter Try.func27, Try.ntmps27
  go_wp2_with fail
  refine Ro.use HV.out ?_
  intro w1 hd1
  have HB1 := Lib.hid (hd1.below w.heap.size)
  have hc1' := (HB1.out.cell (World.block_lt_of_cell? _ _ hc0')).trans hc0'
  clear hd1 HV
  go_wp2_with fail
  refine (upTo_any (L 0) w1 (by omega)).mono ?_
  rintro e w2 ⟨rfl, hr2, he2⟩
  have hb2 : Below w1.heap.size w1 w2 := he2.below (Nat.le_refl _) (Nat.le_refl _)
  have HB2 := Lib.hid (HB1.out.trans (hb2.mono HB1.out.size))
  have HR2 := Lib.hid hr2
  have hs2 := hr2.lt
  have HAx := Lib.hid (axisOf_any (some ⟨b0, o0, none⟩) (some ⟨w1.heap.size, 0, none⟩) n cA (L 0) L v (List.range (L 0)) w2 (H.out.keep HB2.out) (by omega) HL.out
    (by rw [List.length_range]; exact (hr2.congr (fun i hi => by rw [rowF_range hi])).ints) (by simp) (by simp; omega) (fun b o e => by injection e with e; injection e with e1 e2; omega))
  rw [List.length_range] at HAx
  clear hr2 he2 hb2 hc0'
  go_wp2_with fail
  refine HAx.out.mono ?_
  have hs1 := HB2.out.size
  rintro e w3 (⟨g, x, hx, rfl, hg, hR, hb3⟩ | ⟨hx, rfl, hb3⟩)
  · have HX := Lib.hid hx
    have HR := Lib.hid hR
    have HB3 := Lib.hid (HB2.out.trans (hb3.mono hs1))
    clear hx hR hb3 HAx
    go_wp2
    go_ret2
    exact .inl ⟨g, x, HX.out, rfl, by omega, HR.out, HB3.out⟩
  · have HX := Lib.hid hx
    have HB3 := Lib.hid (HB2.out.trans (hb3.mono hs1))
    clear hx hb3 HAx
    go_wp2
    go_ret2
    exact .inr ⟨HX.out, rfl, HB3.out⟩

set_option maxHeartbeats 1000000 in
set_option maxRecDepth 1000000 in
theorem Axis_bad (A : Option Addr) (n cA : Nat) (L : Nat → Nat) (v : Nat → Nat → Int) (w : World) (h : RowsK w A n L v) (hok : okBal n L v = false) (hn : n ≤ 1000) (hL : ∀ i, i < n → L i ≤ 1000) :
    Lr 27 #[.slice A n cA] w (.tuple #[.slice none 0 0, .int .i64 2]) := by
  have HV : Hid (Ro 53 #[.slice A n cA] w (.bool false)) := Lib.hid (by
    have := valid_any A n cA L v w h hn hL
    rwa [hok] at this)
  clear h hok hL
  show Calls _ _ _ _ _
  go_enter Try.func27, Try.ntmps27
  go_wp2_with fail
  refine Ro.use HV.out ?_
  intro w1 hd1
  have HB1 := Lib.hid (hd1.below w.heap.size)
  clear hd1 HV
  go_wp2
  go_ret2
  exact ⟨rfl, HB1.out⟩
end Go.Proofs.Ytnobbklnnkpdfaa
