/- swap: Choose; Choose, Better, Order of what few leaves. -/
import Derived.Test.YtocfbafcplhmiaaUwp
namespace Go.Proofs.Ytocfbafcplhmiaa
open Go.RowKit

set_option maxHeartbeats 1000000 in
set_option maxRecDepth 1000000 in
theorem Choose_bad (A : Option Addr) (n c : Nat) (L : Nat → Nat) (v : Nat → Nat → Int) (G : Option Addr) (m cG : Nat) (w : World) (h : RowsK w A n L v) (hn : n ≤ 1000) (hL : ∀ i, i < n → L i ≤ 1000) (hok : okS n L v = false) :
    Lr 24 #[.slice A n c, .slice G m cG] w (.tuple #[.slice none 0 0, .int .i64 2]) := by
  unfold Lr
  have HRd := Lib.hid (read_any A n c L v w h hn hL)
  rw [hok] at HRd
  clear h hL hok
  go_enter Try.func24, Try.ntmps24
  go_wp2_with fail
  refine HRd.out.use fun w1 hb1 => ?_
  have HB := Lib.hid (hb1.trans ((box_bel w1 (.cells #[.int .i64 0, .slice none 0 0] 50)).mono hb1.size))
  clear hb1 HRd
  unfold rdV
  simp only [Bool.false_eq_true, if_false]
  go_wp2
  go_ret2
  exact ⟨rfl, HB.out⟩
set_option maxHeartbeats 1000000 in
set_option maxRecDepth 1000000 in
theorem Choose_bad2 (A : Option Addr) (n c : Nat) (L : Nat → Nat) (v : Nat → Nat → Int) (G : Option Addr) (m cG : Nat) (f : Nat → Int) (w : World) (h : RowsK w A n L v) (hn : n ≤ 1000) (hL : ∀ i, i < n → L i ≤ 1000) (hok : okS n L v = true)
    (hG : Ints w G m f) (hm : m ≤ 1000) (hmc : m ≤ cG) (hof : ordB n m f = false) :
    Lr 24 #[.slice A n c, .slice G m cG] w (.tuple #[.slice none 0 0, .int .i64 2]) := by
  unfold Lr
  have HRd := Lib.hid (read_any A n c L v w h hn hL)
  rw [hok] at HRd
  have hn15 := (okS_iff.1 hok).1
  have HO := Lib.hid (fun w (h : Ints w G m f) => isOrder_any G m cG n f w h hm hmc hn15)
  rw [hof] at HO
  have HG := Lib.hid hG
  clear h hL hok hG hof
  go_enter Try.func24, Try.ntmps24
  go_wp2_with fail
  refine HRd.out.use fun w1 hb1 => ?_
  have hbx := box2_at w1 (.int .i64 n) (.slice A n c) 50
  have HB := Lib.hid (hb1.trans ((box_bel w1 (.cells #[.int .i64 n, .slice A n c] 50)).mono hb1.size))
  have e0 := hbx.1
  clear hb1 HRd hbx
  unfold rdV
  simp only [if_true]
  go_wp2_with fail
  refine (HO.out _ (HG.out.keep HB.out)).mono ?_
  rintro e w2 ⟨rfl, rfl⟩
  go_wp2
  go_ret2
  exact ⟨rfl, HB.out⟩

set_option maxHeartbeats 2000000 in
set_option maxRecDepth 1000000 in
theorem Choose_ok (A : Option Addr) (n c : Nat) (t : Nat → Nat → Nat) (G : Option Addr) (cG : Nat) (f : Nat → Nat) (w : World) (h : Wis w A n t) (hG : Ints w G n (fun k => (f k : Int))) (hcG : n ≤ cG) (hn1 : 1 ≤ n) (hn : n ≤ 5) (ht : ∀ i, i < n → Pm n (t i)) (hp : Pm n f) :
    Calls Try.prog 24 #[.slice A n c, .slice G n cG] w fun e w' => ∃ B, e = .returned (.tuple #[.slice (some ⟨B, 0, none⟩) n n, .int .i64 0]) ∧ w.heap.size ≤ B ∧ RowI w' B n (fun p => (chF t n f p : Int)) ∧ Below w.heap.size w w' := by
  have H0 := Lib.hid h
  have HG0 := Lib.hid hG
  have HT := Lib.hid ht
  have HP := Lib.hid hp
  have HRd := Lib.hid (read_any A n c (fun _ => n) (fun i k => (t i k : Int)) w h (by omega) (fun _ _ => by omega))
  have hok : okS n (fun _ => n) (fun i k => (t i k : Int)) = true := okS_iff.2 ⟨⟨hn1, hn⟩, fun i hi => ⟨rfl, (ht i hi).ord⟩⟩
  rw [hok] at HRd
  have HO := Lib.hid (fun w (h : Ints w G n (fun k => (f k : Int))) => isOrder_any G n cG n (fun k => (f k : Int)) w h (by omega) hcG ⟨hn1, hn⟩)
  rw [show ordB n n (fun k => (f k : Int)) = true from ordB_iff.2 ⟨rfl, hp.ord⟩] at HO
  clear h ht hok hG hp
  go_enter Try.func24, Try.ntmps24
  go_wp2_with fail
  refine HRd.out.use fun w1 hb1 => ?_
  have hbx := box2_at w1 (.int .i64 n) (.slice A n c) 50
  have hbb := hb1.trans ((box_bel w1 (.cells #[.int .i64 n, .slice A n c] 50)).mono hb1.size)
  have hgw := hb1.size
  have HB := Lib.hid hbb
  have HS := Lib.hid hbx
  have e0 := hbx.1
  have e1 := hbx.2
  clear hbb hbx hb1 HRd
  unfold rdV
  simp only [if_true]
  go_wp2_with fail
  generalize w1.alloc (.cells #[.int .i64 n, .slice A n c] 50) = X at *
  refine (HO.out _ (HG0.out.keep HB.out)).mono ?_
  rintro e w2 ⟨rfl, rfl⟩
  generalize w1.heap.size = g at *
  have H := Lib.hid (H0.out.keep HB.out)
  have HG := Lib.hid (HG0.out.keep HB.out)
  have hsX := HB.out.size
  have HCh := Lib.hid (choose_any A n c t G cG f X H.out HG.out hn HT.out HP.out)
  clear H0 HG0 HO
  go_wp2_with fail
  refine HCh.out.mono ?_
  rintro e w3 ⟨B, rfl, hB, hR, hb3⟩
  have HR := Lib.hid hR
  have HB3 := Lib.hid (HB.out.trans (hb3.mono hsX))
  clear hR hb3
  go_wp2
  go_ret2
  exact ⟨B, rfl, by omega, HR.out, HB3.out⟩

section
variable {n k cA : Nat} {L : Nat → Nat} {v : Nat → Nat → Int} {A : Option Addr} {w : World}
theorem ChooseF {G : Option Addr} {q cG : Nat} {g : Nat → Nat} (h : RowsK w A k (fun i => min (L i) 7) v) (hk : k = min n 7) (hok : okS n L v = true) (hG : Ints w G q (fun p => (g p : Int))) (hq : q = n) (hcG : q ≤ cG) (hp : Pm n g) :
    Calls Try.prog 24 #[.slice A k cA, .slice G q cG] w fun e w' => ∃ B, e = .returned (.tuple #[.slice (some ⟨B, 0, none⟩) n n, .int .i64 0]) ∧ w.heap.size ≤ B ∧ RowI w' B n (fun p => (chF (tO v) n g p : Int)) ∧ Below w.heap.size w w' := by
  obtain ⟨rfl, hw⟩ := h.wis hk hok
  obtain ⟨h1, h2, h3, h4⟩ := okS_pm hok
  subst hq
  exact Choose_ok A q cA (tO v) G cG g w hw hG hcG h1.1 h1.2 h3 hp
theorem ChooseFbad {G : Option Addr} {q cG : Nat} (h : RowsK w A k (fun i => min (L i) 7) v) (hk : k = min n 7) (hok : okS n L v = false) :
    Lr 24 #[.slice A k cA, .slice G q cG] w (.tuple #[.slice none 0 0, .int .i64 2]) := by
  subst hk
  exact Choose_bad A (min n 7) cA (fun i => min (L i) 7) v G q cG w h (by omega) (fun i hi => by show min (L i) 7 ≤ 1000; omega) (by rw [okS_few]; exact hok)
theorem ChooseFbad2 {G : Option Addr} {m q cG : Nat} {f : Nat → Int} (h : RowsK w A k (fun i => min (L i) 7) v) (hk : k = min n 7) (hok : okS n L v = true) (hG : Ints w G q f) (hq : q = min m 7) (hqc : q ≤ cG) (hof : ordB n m f = false) :
    Lr 24 #[.slice A k cA, .slice G q cG] w (.tuple #[.slice none 0 0, .int .i64 2]) := by
  have hn := (okS_pm hok).1
  have e : min n 7 = n := by omega
  subst hk hq
  refine Choose_bad2 A (min n 7) cA (fun i => min (L i) 7) v G (min m 7) cG f w h (by omega) (fun i hi => by show min (L i) 7 ≤ 1000; omega) (by rw [okS_few]; exact hok) hG (by omega) hqc ?_
  rw [e, ordB_few hn.2]
  exact hof
theorem BetterF {G : Option Addr} {q cG : Nat} {g : Nat → Nat} (h : RowsK w A k (fun i => min (L i) 7) v) (hk : k = min n 7) (hok : okS n L v = true) (hG : Ints w G q (fun p => (g p : Int))) (hq : q = n) (hcG : q ≤ cG) (hp : Pm n g) :
    Calls Try.prog 31 #[.slice A k cA, .slice G q cG] w fun e w' => (∃ x v', (ordL (List.range n) n []).find? (btP (tO v) n g) = some x ∧ e = .returned (.tuple #[v', .int .i64 0]) ∧ OwnL w' w.heap.size v' (lst n (rowF x)) ∧ Below w.heap.size w w') ∨ ((ordL (List.range n) n []).find? (btP (tO v) n g) = none ∧ e = .returned (.tuple #[.slice none 0 0, .int .i64 4]) ∧ Below w.heap.size w w') := by
  obtain ⟨rfl, hw⟩ := h.wis hk hok
  obtain ⟨h1, h2, h3, h4⟩ := okS_pm hok
  subst hq
  exact Better_ok A q cA (tO v) G cG g w hw hG hcG h1.1 h1.2 h3 hp
theorem BetterFbad {G : Option Addr} {q cG : Nat} (h : RowsK w A k (fun i => min (L i) 7) v) (hk : k = min n 7) (hok : okS n L v = false) :
    Lr 31 #[.slice A k cA, .slice G q cG] w (.tuple #[.slice none 0 0, .int .i64 2]) := by
  subst hk
  exact Better_bad A (min n 7) cA (fun i => min (L i) 7) v G q cG w h (by omega) (fun i hi => by show min (L i) 7 ≤ 1000; omega) (by rw [okS_few]; exact hok)
theorem BetterFbad2 {G : Option Addr} {m q cG : Nat} {f : Nat → Int} (h : RowsK w A k (fun i => min (L i) 7) v) (hk : k = min n 7) (hok : okS n L v = true) (hG : Ints w G q f) (hq : q = min m 7) (hqc : q ≤ cG) (hof : ordB n m f = false) :
    Lr 31 #[.slice A k cA, .slice G q cG] w (.tuple #[.slice none 0 0, .int .i64 2]) := by
  have hn := (okS_pm hok).1
  have e : min n 7 = n := by omega
  subst hk hq
  refine Better_bad2 A (min n 7) cA (fun i => min (L i) 7) v G (min m 7) cG f w h (by omega) (fun i hi => by show min (L i) 7 ≤ 1000; omega) (by rw [okS_few]; exact hok) hG (by omega) hqc ?_
  rw [e, ordB_few hn.2]
  exact hof
theorem OrderF {G : Option Addr} {q cG : Nat} {g : Nat → Nat} (h : RowsK w A k (fun i => min (L i) 7) v) (hk : k = min n 7) (hok : okS n L v = true) (hG : Ints w G q (fun p => (g p : Int))) (hq : q = n) (hcG : q ≤ cG) (hp : Pm n g) :
    Calls Try.prog 33 #[.slice A k cA, .slice G q cG] w fun e w' => (∃ x v', (ordL (List.range n) n []).find? (odP (tO v) n g) = some x ∧ e = .returned (.tuple #[v', .int .i64 0]) ∧ OwnL w' w.heap.size v' (lst n (rowF x)) ∧ Below w.heap.size w w') ∨ ((ordL (List.range n) n []).find? (odP (tO v) n g) = none ∧ e = .returned (.tuple #[.slice none 0 0, .int .i64 4]) ∧ Below w.heap.size w w') := by
  obtain ⟨rfl, hw⟩ := h.wis hk hok
  obtain ⟨h1, h2, h3, h4⟩ := okS_pm hok
  subst hq
  exact Order_ok A q cA (tO v) G cG g w hw hG hcG h1.1 h1.2 h3 hp
theorem OrderFbad {G : Option Addr} {q cG : Nat} (h : RowsK w A k (fun i => min (L i) 7) v) (hk : k = min n 7) (hok : okS n L v = false) :
    Lr 33 #[.slice A k cA, .slice G q cG] w (.tuple #[.slice none 0 0, .int .i64 2]) := by
  subst hk
  exact Order_bad A (min n 7) cA (fun i => min (L i) 7) v G q cG w h (by omega) (fun i hi => by show min (L i) 7 ≤ 1000; omega) (by rw [okS_few]; exact hok)
theorem OrderFbad2 {G : Option Addr} {m q cG : Nat} {f : Nat → Int} (h : RowsK w A k (fun i => min (L i) 7) v) (hk : k = min n 7) (hok : okS n L v = true) (hG : Ints w G q f) (hq : q = min m 7) (hqc : q ≤ cG) (hof : ordB n m f = false) :
    Lr 33 #[.slice A k cA, .slice G q cG] w (.tuple #[.slice none 0 0, .int .i64 2]) := by
  have hn := (okS_pm hok).1
  have e : min n 7 = n := by omega
  subst hk hq
  refine Order_bad2 A (min n 7) cA (fun i => min (L i) 7) v G (min m 7) cG f w h (by omega) (fun i hi => by show min (L i) 7 ≤ 1000; omega) (by rw [okS_few]; exact hok) hG (by omega) hqc ?_
  rw [e, ordB_few hn.2]
  exact hof
end
end Go.Proofs.Ytocfbafcplhmiaa
