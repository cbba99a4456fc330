/- Join, the program's and the reference's. -/
import Derived.Test.YtoeimngbpagegaaDoorGu
namespace Go.Proofs.YtoeimngbpagegaaDoor
open Go.RowKit

theorem jn_facts {L m : Nat} {C O : Nat → Int} {n : Nat} (hL : L = 2 ^ n) (hn : n ≤ 4) (h : isOr m O n = true) {j : Nat} (hj : j < m) : ∃ p : Nat, O j = (p : Int) ∧ (p < m ∧ p < 4) ∧ jnS O j < L ∧ jnS O j < 16 ∧ jnS O j ||| 2 ^ p < L ∧ jnS O (j + 1) = jnS O j ||| 2 ^ p ∧ jnX C O (j + 1) = upd (jnX C O j) p (riF C (jnS O j) p) := by
  obtain ⟨e, hr⟩ := isOr_rng h
  have h1 := hr j hj
  obtain ⟨p, hp⟩ : ∃ p : Nat, O j = (p : Int) := ⟨(O j).toNat, by omega⟩
  have hpn : p < n := by omega
  have hs : jnS O j < 2 ^ n := jnS_lt j (fun i hi => by have := hr i (by omega); omega)
  have h16 : 2 ^ n ≤ 16 := by
    have := Nat.pow_le_pow_right (n := 2) (by omega) hn
    omega
  refine ⟨p, hp, by omega, by omega, by omega, ?_, ?_, ?_⟩
  · rw [hL]
    exact Nat.or_lt_two_pow hs (Nat.pow_lt_pow_right (by omega) hpn)
  · rw [jnS, hp]; rfl
  · rw [jnX, hp]; rfl
set_option maxHeartbeats 2000000 in
set_option maxRecDepth 1000000 in
theorem join_ok (A B : Option Addr) (L c m c2 n : Nat) (C O : Nat → Int) (w : World) (h : Ints w A L C) (hO : ArgI w B m c2 O) (ht : Tab w) (hok : okC L C = true) (hn : tzN L = n) (hor : isOr m O n = true) :
    Calls Tryd.prog 30 #[.slice A L c, .slice B m c2] w fun e w' => e = .returned (.tuple #[.slice (some ⟨w.heap.size, 0, none⟩) m m, .int .i64 0]) ∧ RowI w' w.heap.size m (jnX C O m) ∧ Below w.heap.size w w' := by
  obtain ⟨n', hn', hn1, hn4, hLn, hL2, hL16⟩ := okC_n hok
  rw [hn] at hn'
  subst hn'
  have hm4 : m ≤ 4 := by have := (isOr_rng hor).1; omega
  have HI := Lib.hid h
  have HB := Lib.hid hO
  have H := Lib.hid (valid_any A L c C w h (by omega) ht)
  have HP := Lib.hid (players_at A L c n hn (by omega) w ht)
  have HOr := Lib.hid (isOrder_any B m c2 n O w hO (by omega) ⟨hn1, hn4⟩)
  have HOk := Lib.hid hok
  have HOT := Lib.hid hor
  have HC := Lib.hid (okC_iff.1 hok).2.2
  have HJ := Lib.hid (fun j (hj : j < m) => jn_facts (C := C) hLn hn4 hor hj)
  have HJ0 : Hid (jnX C O 0 = fun _ => 0) := Lib.hid rfl
  have HS0 : Hid (jnS O 0 = 0) := Lib.hid rfl
  have hmk := mk_ints m (by omega) w
  clear h ht hok hn hLn hO hor
  go_enter Tryd.func30, Tryd.ntmps30
  go_wp2_with fail
  refine H.out.mono ?_
  rintro e w' ⟨rfl, rfl⟩
  rw [HOk.out]
  go_wp2_with fail
  refine HP.out.mono ?_
  rintro e w' ⟨rfl, rfl⟩
  go_wp2_with fail
  refine HOr.out.mono ?_
  rintro e w' ⟨rfl, rfl⟩
  rw [HOT.out]
  go_wp2
  have hM := RowI.made w m
  have hB0 := (Below.refl w.heap.size w).alloc (Nat.le_refl _) (.cells (madeCells #[.int .i64 0] m) 3)
  have HM := Lib.hid hM
  have HB0 := Lib.hid hB0
  clear hmk hM hB0
  generalize w.alloc (.cells (madeCells #[.int .i64 0] m) 3) = W0 at *
  go_loopw [7, 25] (fun be i wr => ∃ j : Nat, j ≤ m ∧ i = .int .i64 j ∧ be = .int .i64 (jnS O j : Nat) ∧ RowI wr w.heap.size m (jnX C O j) ∧ Below w.heap.size w wr) (fun _ i _ => m - (intOf i).toNat)
  case atStart => exact ⟨0, Nat.zero_le _, rfl, rfl, by rw [HJ0.out]; exact HM.out, HB0.out⟩
  case round =>
    obtain ⟨j, hj, rfl, rfl, hR, hD⟩ := hrel
    have HR := Lib.hid hR
    have HD := Lib.hid hD
    clear hR
    by_cases hlt : j < m
    · obtain ⟨b, o, rfl, hc⟩ := (HB.out.below hD).2.2.2.at hlt
      obtain ⟨p, hp, ⟨hpm, hp4⟩, hs, hs16, hsp, hS1, hX1⟩ := HJ.out j hlt
      rw [hp] at hc
      have HRi := Lib.hid (rise_any A L c C (jnS O j) p wr (HI.out.keep hD) hL16 hs (by omega) hsp HC.out)
      have hor2 := or_eval2 (jnS O j) hs16 p (by omega)
      have HS1 := Lib.hid hS1
      have HX1 := Lib.hid hX1
      generalize riF C (jnS O j) p = ri at *
      generalize jnS O j ||| 2 ^ p = t at *
      generalize jnS O j = s at *
      clear hp hS1 hX1 hD
      go_wp2_with fail
      refine HRi.out.mono ?_
      rintro e w2 ⟨rfl, hd⟩
      have HR2 := Lib.hid (HR.out.dn hd)
      have HD2 := Lib.hid (HD.out.trans (hd.below _))
      have hcell := HR2.out.cell hpm
      have hfr := HR2.out.frozen p
      clear hd hc
      go_wp2
      go_roundw
      case rel => exact ⟨j + 1, by omega, by go_num, by rw [HS1.out], by rw [HX1.out]; exact HR2.out.set p ri, HD2.out.setCell (p := ⟨w.heap.size, p, none⟩) (Nat.le_refl _) _⟩
      case measure => simp [intOf]; omega
    · obtain rfl : j = m := by omega
      go_wp2
      go_returns
      exact ⟨rfl, HR.out, HD.out⟩
set_option maxHeartbeats 1000000 in
theorem join_bad (A B : Option Addr) (L c m c2 : Nat) (C : Nat → Int) (w : World) (h : Ints w A L C) (hL : L ≤ 18) (ht : Tab w) (hok : okC L C = false) :
    Calls Tryd.prog 30 #[.slice A L c, .slice B m c2] w fun e w' => e = .returned (.tuple #[.slice none 0 0, .int .i64 2]) ∧ w = w' := by
  have H := Lib.hid (valid_any A L c C w h hL ht)
  have HO := Lib.hid hok
  clear h ht hok
  go_enter Tryd.func30, Tryd.ntmps30
  go_wp2_with fail
  refine H.out.mono ?_
  rintro e w' ⟨rfl, rfl⟩
  rw [HO.out]
  go_wp2
  go_returns
  exact ⟨rfl, rfl⟩
set_option maxHeartbeats 1000000 in
theorem join_no (A B : Option Addr) (L c m c2 n : Nat) (C O : Nat → Int) (w : World) (h : Ints w A L C) (hO : ArgI w B m c2 O) (hm : m ≤ 18) (ht : Tab w) (hok : okC L C = true) (hn : tzN L = n) (hor : isOr m O n = false) :
    Calls Tryd.prog 30 #[.slice A L c, .slice B m c2] w fun e w' => e = .returned (.tuple #[.slice none 0 0, .int .i64 2]) ∧ w = w' := by
  obtain ⟨n', hn', hn1, hn4, hLn, hL2, hL16⟩ := okC_n hok
  rw [hn] at hn'
  subst hn'
  have H := Lib.hid (valid_any A L c C w h (by omega) ht)
  have HP := Lib.hid (players_at A L c n hn (by omega) w ht)
  have HOr := Lib.hid (isOrder_any B m c2 n O w hO hm ⟨hn1, hn4⟩)
  have HOk := Lib.hid hok
  have HOT := Lib.hid hor
  clear h ht hok hn hLn hO hor
  go_enter Tryd.func30, Tryd.ntmps30
  go_wp2_with fail
  refine H.out.mono ?_
  rintro e w' ⟨rfl, rfl⟩
  rw [HOk.out]
  go_wp2_with fail
  refine HP.out.mono ?_
  rintro e w' ⟨rfl, rfl⟩
  go_wp2_with fail
  refine HOr.out.mono ?_
  rintro e w' ⟨rfl, rfl⟩
  rw [HOT.out]
  go_wp2
  go_returns
  exact ⟨rfl, rfl⟩
set_option maxHeartbeats 2000000 in
set_option maxRecDepth 1000000 in
theorem refJoin_any (A B : Option Addr) (L c m c2 n : Nat) (C O : Nat → Int) (w : World) (h : Ints w A L C) (hO : Ints w B m O) (hok : okC L C = true) (hn : tzN L = n) (hor : isOr m O n = true) :
    Calls Tryd.prog 36 #[.slice A L c, .slice B m c2] w fun e w' => e = .returned (.slice (some ⟨w.heap.size, 0, none⟩) m m) ∧ RowI w' w.heap.size m (jnX C O m) ∧ Below w.heap.size w w' := by
  obtain ⟨n', hn', hn1, hn4, hLn, hL2, hL16⟩ := okC_n hok
  rw [hn] at hn'
  subst hn'
  have hm4 : m ≤ 4 := by have := (isOr_rng hor).1; omega
  have HI := Lib.hid h
  have HB := Lib.hid hO
  have HC := Lib.hid (okC_iff.1 hok).2.2
  have HJ := Lib.hid (fun j (hj : j < m) => jn_facts (C := C) hLn hn4 hor hj)
  have HJ0 : Hid (jnX C O 0 = fun _ => 0) := Lib.hid rfl
  have HRi : Hid (∀ s p, C (s ||| 2 ^ p) - C s = riF C s p) := Lib.hid (fun _ _ => rfl)
  have hmk := mk_ints m (by omega) w
  clear h hok hn hLn hO hor
  go_enter Tryd.func36, Tryd.ntmps36
  go_wp2
  have hM := RowI.made w m
  have hB0 := (Below.refl w.heap.size w).alloc (Nat.le_refl _) (.cells (madeCells #[.int .i64 0] m) 3)
  have HM := Lib.hid hM
  have HB0 := Lib.hid hB0
  clear hmk hM hB0
  generalize w.alloc (.cells (madeCells #[.int .i64 0] m) 3) = W0 at *
  go_loopw [6, 14] (fun be i wr => ∃ j : Nat, j ≤ m ∧ i = .int .i64 j ∧ be = .int .i64 (jnS O j : Nat) ∧ RowI wr w.heap.size m (jnX C O j) ∧ Below w.heap.size w wr) (fun _ i _ => m - (intOf i).toNat)
  case atStart => exact ⟨0, Nat.zero_le _, rfl, rfl, by rw [HJ0.out]; exact HM.out, HB0.out⟩
  case round =>
    obtain ⟨j, hj, rfl, rfl, hR, hD⟩ := hrel
    have HR := Lib.hid hR
    have HD := Lib.hid hD
    clear hR
    by_cases hlt : j < m
    · obtain ⟨b, o, rfl, hc⟩ := (HB.out.keep hD).at hlt
      obtain ⟨p, hp, ⟨hpm, hp4⟩, hs, hs16, hsp, hS1, hX1⟩ := HJ.out j hlt
      rw [hp] at hc
      have hI2 := HI.out.keep hD
      obtain ⟨g, o2, rfl, c1⟩ := hI2.at hs
      have c2' := hI2.cell hsp
      have h1 := HC.out _ hs
      have h2 := HC.out _ hsp
      have hor2 := or_eval2 (jnS O j) hs16 p (by omega)
      have hor3 := or_eval3 (jnS O j) hs16 p (by omega)
      have HS1 := Lib.hid hS1
      have HX1 := Lib.hid hX1
      have HRe := Lib.hid (HRi.out (jnS O j) p)
      generalize riF C (jnS O j) p = ri at *
      generalize jnS O j ||| 2 ^ p = t at *
      generalize jnS O j = s at *
      generalize C t = x at *
      generalize C s = y at *
      obtain ⟨h1a, h1b⟩ := h1
      obtain ⟨h2a, h2b⟩ := h2
      have hcell := HR.out.cell hpm
      have hfr := HR.out.frozen p
      clear hp hS1 hX1 hD hI2
      go_wp2
      go_region
      go_wp2
      go_roundw
      case rel => exact ⟨j + 1, by omega, by go_num, by rw [HS1.out], by rw [HX1.out, ← HRe.out]; exact (HR.out.dn (Dn.refl _).drew).set p (x - y), HD.out.drew.setCell (p := ⟨w.heap.size, p, none⟩) (Nat.le_refl _) _⟩
      case measure => simp [intOf]; omega
    · obtain rfl : j = m := by omega
      go_wp2
      go_ret
      exact ⟨rfl, HR.out, HD.out⟩
end Go.Proofs.YtoeimngbpagegaaDoor
