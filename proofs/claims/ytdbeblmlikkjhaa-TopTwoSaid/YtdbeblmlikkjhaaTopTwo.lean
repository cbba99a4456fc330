/- The law TopTwo, walked. -/
import Derived.Test.YtdbeblmlikkjhaaLk
import Derived.Test.YtdbeblmlikkjhaaTa
import Derived.Test.YtdbeblmlikkjhaaTq
import Derived.Test.YtdbeblmlikkjhaaRv
namespace Go.Proofs.Ytdbeblmlikkjhaa
open Go.RowKit

set_option maxHeartbeats 2000000 in
set_option maxRecDepth 1000000 in
theorem topTwo_bad (A : Option Addr) (n c : Nat) (L : Nat → Nat) (v : Nat → Nat → Int) (w : World) (h : ArgR w A n c L v) (hok : okBal n L v = false) :
    Calls Try.prog 3 #[.slice A n c] w fun e w' => e = .returned (.bool true) ∧ Below w.heap.size w w' := by
  have H := Lib.hid h
  have HV : Hid (Ro 4 #[.slice A n c] w (.bool (okBal n L v))) := Lib.hid (validR_any A n c L v w h)
  rw [hok] at HV
  clear h hok
  go_enter Try.func3, Try.ntmps3
  go_wp2_with fail
  refine Ro.use HV.out ?_
  intro w1 hd1
  have Hb1 := Lib.hid (hd1.below w.heap.size)
  clear hd1 HV
  go_wp2_with fail
  refine Lr.use (counts_any _) ?_
  intro w9 hb9
  have Hb9 := Lib.hid (Hb1.out.trans (hb9.mono Hb1.out.size))
  clear hb9
  go_wp2
  go_ret
  exact ⟨rfl, Hb9.out⟩

set_option maxHeartbeats 2000000 in
set_option maxRecDepth 1000000 in
theorem topTwo_more (A : Option Addr) (n c : Nat) (L : Nat → Nat) (v : Nat → Nat → Int) (w : World) (h : ArgR w A n c L v) (hok : okBal n L v = true) (h2 : L 0 ≠ 2) :
    Calls Try.prog 3 #[.slice A n c] w fun e w' => e = .returned (.bool true) ∧ Below w.heap.size w w' := by
  have H := Lib.hid h
  obtain ⟨⟨hB1, hB9⟩, ⟨hB2, hB3⟩, -⟩ := okBal_iff.1 hok
  have HK := Lib.hid hok
  have HV : Hid (Ro 4 #[.slice A n c] w (.bool (okBal n L v))) := Lib.hid (validR_any A n c L v w h)
  rw [hok] at HV
  obtain ⟨b0, o0, A0, c0, rfl, hc0, -⟩ := h.at (show 0 < n by omega)
  have hc0 : w.cell? ⟨b0, o0, none⟩ = some (.slice A0 (L 0) c0) := hc0
  clear h hok
  go_enter Try.func3, Try.ntmps3
  go_wp2_with fail
  refine Ro.use HV.out ?_
  intro w1 hd1
  have Hb1 := Lib.hid (hd1.below w.heap.size)
  have hc1 : w1.cell? ⟨b0, o0, none⟩ = some (.slice A0 (L 0) c0) := (Hb1.out.cell (World.block_lt_of_cell? _ _ hc0)).trans hc0
  clear hd1 HV hc0
  have hnI : (0 : Int) < (n : Int) := by omega
  have hnN : 0 < n := by omega
  have hne := beq_f (fun e => h2 (by omega) : ¬ ((L 0 : Nat) : Int) = 2)
  go_wp2_with fail
  refine Lr.use (counts_any _) ?_
  intro w9 hb9
  have Hb9 := Lib.hid (Hb1.out.trans (hb9.mono Hb1.out.size))
  clear hb9
  go_wp2
  go_ret
  exact ⟨rfl, Hb9.out⟩

set_option maxHeartbeats 2000000 in
set_option maxRecDepth 1000000 in
theorem topTwo_even (A : Option Addr) (n c : Nat) (L : Nat → Nat) (v : Nat → Nat → Int) (w : World) (h : ArgR w A n c L v) (hok : okBal n L v = true) (h2 : L 0 = 2) (hev : n % 2 = 0) :
    Calls Try.prog 3 #[.slice A n c] w fun e w' => e = .returned (.bool true) ∧ Below w.heap.size w w' := by
  have H := Lib.hid h
  obtain ⟨⟨hB1, hB9⟩, ⟨hB2, hB3⟩, -⟩ := okBal_iff.1 hok
  have HK := Lib.hid hok
  have HV : Hid (Ro 4 #[.slice A n c] w (.bool (okBal n L v))) := Lib.hid (validR_any A n c L v w h)
  rw [hok] at HV
  obtain ⟨b0, o0, A0, c0, rfl, hc0, -⟩ := h.at (show 0 < n by omega)
  have hc0 : w.cell? ⟨b0, o0, none⟩ = some (.slice A0 (L 0) c0) := hc0
  clear h hok
  go_enter Try.func3, Try.ntmps3
  go_wp2_with fail
  refine Ro.use HV.out ?_
  intro w1 hd1
  have Hb1 := Lib.hid (hd1.below w.heap.size)
  have hc1 : w1.cell? ⟨b0, o0, none⟩ = some (.slice A0 (L 0) c0) := (Hb1.out.cell (World.block_lt_of_cell? _ _ hc0)).trans hc0
  clear hd1 HV hc0
  have hnI : (0 : Int) < (n : Int) := by omega
  have hnN : 0 < n := by omega
  have hev2 : Int.tmod (n : Int) 2 = 0 := by rw [Int.tmod_eq_emod_of_nonneg (by omega)]; omega
  clear hev
  have hll : ((L 0 : Nat) : Int) = 2 := by omega
  rw [h2] at hc1
  clear hll h2 hB2 hB3
  go_wp2_with fail
  refine Lr.use (counts_any _) ?_
  intro w9 hb9
  have Hb9 := Lib.hid (Hb1.out.trans (hb9.mono Hb1.out.size))
  clear hb9
  go_wp2
  go_ret
  exact ⟨rfl, Hb9.out⟩

set_option maxHeartbeats 2000000 in
set_option maxRecDepth 1000000 in
theorem topTwo_main (A : Option Addr) (n c : Nat) (L : Nat → Nat) (v : Nat → Nat → Int) (w : World) (h : ArgR w A n c L v) (hok : okBal n L v = true) (h2 : L 0 = 2) (hodd : n % 2 = 1) :
    Calls Try.prog 3 #[.slice A n c] w fun e w' => e = .returned (.bool true) ∧ Below w.heap.size w w' := by
  have HWin : Hid (∀ r, winF r n (L 0) v = if 2 * fpN v 0 n < n then 1 else 0) := Lib.hid (fun r => two_win hok h2 hodd)
  have HNo : Hid (∀ (r : Nat) (i : Nat), i < n → ∀ y ∈ ordL (List.range (L 0)) (L 0) [], gainB r n (L 0) v i y = false) := Lib.hid (fun r i hi y hy => two_gain hok h2 hodd hi (ord_of_mem hy).2)
  have H := Lib.hid h
  obtain ⟨⟨hB1, hB9⟩, ⟨hB2, hB3⟩, -⟩ := okBal_iff.1 hok
  have HK := Lib.hid hok
  have HV : Hid (Ro 4 #[.slice A n c] w (.bool (okBal n L v))) := Lib.hid (validR_any A n c L v w h)
  rw [hok] at HV
  obtain ⟨b0, o0, A0, c0, rfl, hc0, -⟩ := h.at (show 0 < n by omega)
  have hc0 : w.cell? ⟨b0, o0, none⟩ = some (.slice A0 (L 0) c0) := hc0
  clear h hok
  go_enter Try.func3, Try.ntmps3
  go_wp2_with fail
  refine Ro.use HV.out ?_
  intro w1 hd1
  have Hb1 := Lib.hid (hd1.below w.heap.size)
  have hc1 : w1.cell? ⟨b0, o0, none⟩ = some (.slice A0 (L 0) c0) := (Hb1.out.cell (World.block_lt_of_cell? _ _ hc0)).trans hc0
  clear hd1 HV hc0
  have hnI : (0 : Int) < (n : Int) := by omega
  have hnN : 0 < n := by omega
  have hev2 : Int.tmod (n : Int) 2 = 1 := by rw [Int.tmod_eq_emod_of_nonneg (by omega)]; omega
  clear hodd
  rw [h2] at hc1
  go_wp2_with fail
  refine (ballotsF (some ⟨b0, o0, none⟩) n c L v _ (H.out.below Hb1.out)).mono ?_
  rintro e w2 ⟨A2, k2, c2, rfl, hk2, hr2, hc2, hb2⟩
  have HK2 := Lib.hid hk2
  have HR2 := Lib.hid hr2
  have HC2 := Lib.hid hc2
  have Hb2 := Lib.hid (Hb1.out.trans (hb2.mono Hb1.out.size))
  clear hk2 hr2 hc2 hb2
  have HW := Lib.hid (WinRF (r := 0) (by omega) HR2.out HK2.out HC2.out HK.out)
  obtain ⟨m, hm⟩ : ∃ m : Nat, m = if 2 * fpN v 0 n < n then 1 else 0 := ⟨_, rfl⟩
  have HWm : Hid (∀ r, winF r n (L 0) v = m) := Lib.hid (fun r => by rw [hm]; exact HWin.out r)
  clear hm HWin
  rw [HWm.out 0] at HW
  go_wp2_with fail
  refine Lr.use HW.out ?_
  intro w3 hb3
  have Hb3 := Lib.hid (Hb2.out.trans (hb3.mono Hb2.out.size))
  clear hb3 HW hc1 HR2 HK2 HC2
  go_wp2_with fail
  go_loopw [36] (fun i wr => ∃ k : Nat, k ≤ 4 ∧ i = .int .i64 k ∧ Below w.heap.size w wr) (fun i _ => 4 - (intOf i).toNat)
  case atStart => exact ⟨0, Nat.zero_le _, rfl, Hb3.out⟩
  case round =>
    obtain ⟨k, hk, rfl, hbel⟩ := hrel
    have Hbel := Lib.hid hbel
    clear hbel
    by_cases hlt : k < 4
    · have hlt' := hlt
      go_wp2_with fail
      refine (ballotsF (some ⟨b0, o0, none⟩) n c L v _ (H.out.below Hbel.out)).mono ?_
      rintro e w4 ⟨A4, k4, c4, rfl, hk4, hr4, hc4, hb4⟩
      have HK4 := Lib.hid hk4
      have HR4 := Lib.hid hr4
      have HC4 := Lib.hid hc4
      have Hb4 := Lib.hid (Hbel.out.trans (hb4.mono Hbel.out.size))
      clear hk4 hr4 hc4 hb4
      have HW := Lib.hid (WinRF (r := k) hlt' HR4.out HK4.out HC4.out HK.out)
      rw [HWm.out k] at HW
      go_wp2_with fail
      refine Lr.use HW.out ?_
      intro w5 hb5
      have Hb5 := Lib.hid (Hb4.out.trans (hb5.mono Hb4.out.size))
      clear hb5 HW HR4 HK4 HC4
      go_wp2_with fail
      refine (ballotsF (some ⟨b0, o0, none⟩) n c L v _ (H.out.below Hb5.out)).mono ?_
      rintro e w6 ⟨A6, k6, c6, rfl, hk6, hr6, hc6, hb6⟩
      have HK6 := Lib.hid hk6
      have HR6 := Lib.hid hr6
      have HC6 := Lib.hid hc6
      have Hb6 := Lib.hid (Hb5.out.trans (hb6.mono Hb5.out.size))
      clear hk6 hr6 hc6 hb6
      go_wp2_with fail
      refine (LieF hlt' HR6.out HK6.out HC6.out HK.out).mono ?_
      rintro e w7 ⟨hL, hb7⟩
      have Hb7 := Lib.hid (Hb6.out.trans (hb7.mono Hb6.out.size))
      clear hb7 HR6 HK6 HC6
      rcases hL with ⟨u, x, p, t, g, hu, -, hx, -, hgain, rfl, hg, hrow⟩ | ⟨-, rfl⟩
      · have := HNo.out k u hu x (by rw [hx]; simp)
        rw [this] at hgain
        cases hgain
      · go_wp2
        go_roundw
        case rel => exact ⟨k + 1, by omega, by go_num, Hb7.out⟩
        case measure => simp [intOf]; omega
    · go_wp2_with fail
      refine Lr.use (counts_any _) ?_
      intro w9 hb9
      have Hb9 := Lib.hid (Hbel.out.trans (hb9.mono Hbel.out.size))
      clear hb9
      go_wp2
      go_ret
      exact ⟨rfl, Hb9.out⟩
theorem topTwo_walk (A : Option Addr) (n c : Nat) (L : Nat → Nat) (v : Nat → Nat → Int) (w : World) (h : ArgR w A n c L v) :
    Calls Try.prog 3 #[.slice A n c] w fun e w' => e = .returned (.bool true) ∧ Below w.heap.size w w' := by
  cases hok : okBal n L v with
  | false => exact topTwo_bad A n c L v w h hok
  | true =>
    by_cases h2 : L 0 = 2
    · rcases Nat.mod_two_eq_zero_or_one n with hn | hn
      · exact topTwo_even A n c L v w h hok h2 hn
      · exact topTwo_main A n c L v w h hok h2 hn
    · exact topTwo_more A n c L v w h hok h2
end Go.Proofs.Ytdbeblmlikkjhaa
