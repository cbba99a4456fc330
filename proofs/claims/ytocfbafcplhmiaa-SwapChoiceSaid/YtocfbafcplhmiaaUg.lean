/- swap: Trade, Rounds. -/
import Derived.Test.YtocfbafcplhmiaaUf
namespace Go.Proofs.Ytocfbafcplhmiaa
open Go.RowKit

theorem pm_id (n : Nat) : Pm n (fun k => k) := ⟨fun k hk => hk, fun _ _ _ _ e => e⟩

set_option maxHeartbeats 2000000 in
set_option maxRecDepth 1000000 in
theorem Trade_ok (A : Option Addr) (n c : Nat) (t : Nat → Nat → Nat) (w : World) (h : Wis w A n t) (hn1 : 1 ≤ n) (hn : n ≤ 5) (ht : ∀ i, i < n → Pm n (t i)) :
    Calls Try.prog 22 #[.slice A n c] w fun e w' => ∃ B, e = .returned (.tuple #[.slice (some ⟨B, 0, none⟩) n n, .int .i64 0]) ∧ w.heap.size ≤ B ∧ RowI w' B n (fun p => (trF t n (owF (fun k => k) n) p : Int)) ∧ Below w.heap.size w w' := by
  have H0 := Lib.hid h
  have HT := Lib.hid ht
  have HRd := Lib.hid (read_any A n c (fun _ => n) (fun i k => (t i k : Int)) w h (by omega) (fun _ _ => by omega))
  have hok : okS n (fun _ => n) (fun i k => (t i k : Int)) = true := okS_iff.2 ⟨⟨hn1, hn⟩, fun i hi => ⟨rfl, (ht i hi).ord⟩⟩
  rw [hok] at HRd
  clear h ht hok
  go_enter Try.func22, Try.ntmps22
  go_wp2_with fail
  refine HRd.out.use fun w1 hb1 => ?_
  have hbx := box2_at w1 (.int .i64 n) (.slice A n c) 50
  have hbb := hb1.trans ((box_bel w1 (.cells #[.int .i64 n, .slice A n c] 50)).mono hb1.size)
  have hgw := hb1.size
  have HB := Lib.hid hbb
  have HS := Lib.hid hbx
  clear hbb hbx hb1 HRd
  unfold rdV
  simp only [if_true]
  go_wp2_with fail
  generalize w1.alloc (.cells #[.int .i64 n, .slice A n c] 50) = X at *
  generalize w1.heap.size = g at *
  have hS0 : Bx2 X.drew g (.int .i64 n) (.slice A n c) := HS.out
  have H := Lib.hid (H0.out.keep HB.out)
  have hsX := HB.out.size
  clear HS H0
  refine wp_region_held (S := fun w' => Bx2 w' g (.int .i64 n) (.slice A n c)) (by kernel_rfl) ?_
  refine wpAnyH_take (i := 0) (v := .agg #[.int .i64 n, .slice A n c]) rfl (by kernel_rfl) (by kernel_rfl) (by kernel_rfl) (fun _ _ _ h => h) (yieldsIf_load_mid (by rfl) 50 (.tmp 4) (by rfl) g 0 (by rfl) [.int .i64 n, .slice A n c] _ (fun w h => wish_range h) Try.underlying50 rfl infoWish) hS0 ?_
  refine wpAnyH_take (i := 1) (v := .pointer (some ⟨g, 0, none⟩)) rfl (by kernel_rfl) (by kernel_rfl) (by kernel_rfl) (fun _ _ _ h => h) (Or.inl ⟨by rfl, fun w _ => by go_simp⟩) hS0 ?_
  refine wpAnyH_take (i := 2) (v := .int .i64 n) rfl (by kernel_rfl) (by kernel_rfl) (by kernel_rfl) (fun _ _ _ h => h) (Or.inl ⟨by rfl, fun w h => by have e0 := h.1; go_simp⟩) hS0 ?_
  refine wpAnyH_all (rs := [3]) (by kernel_rfl) (by simp) (fun i hi => ?_)
  obtain rfl : i = 3 := by simpa using hi
  refine wpOp_ofU (by rfl) (by rfl) ?_
  go_simp
  go_at_call 50
  refine (upTo_any n _ (by omega)).mono ?_
  rintro e w5 ⟨rfl, hr5, he5⟩
  have hb5 : Below X.heap.size X w5 := ((Dn.refl X).drew.below _).trans (he5.below (Nat.le_refl _) (Nat.le_refl _))
  have hS5 := hS0.keep (he5.below (Nat.le_refl _) (Nat.le_refl _))
  refine ⟨hS5, ?_⟩
  refine wpAnyH_all (rs := [4]) (by kernel_rfl) (by simp) (fun i hi => ?_)
  obtain rfl : i = 4 := by simpa using hi
  refine wpOp_ofU (by rfl) (by rfl) ?_
  go_simp
  go_at_call 49
  refine (owning_any A n c _ n hn _).use fun w6 hb6 => ?_
  have hS6 := hS5.keep hb6
  have HR6 := Lib.hid (hr5.keep hb6)
  have HB6 := Lib.hid (hb5.trans (hb6.mono hb5.size))
  clear hb5 hb6 he5 hr5 hS5 hS0
  refine ⟨hS6, ?_⟩
  refine wpAnyH_all (rs := [5]) (by kernel_rfl) (by simp) (fun i hi => ?_)
  obtain rfl : i = 5 := by simpa using hi
  refine wpOp_ofU (by rfl) (by rfl) ?_
  go_simp
  go_at_call 51
  refine (trade_any A n c t (some ⟨X.heap.size, 0, none⟩) n (fun k => k) w6 (H.out.keep HB6.out) HR6.out.ints hn HT.out (pm_id n)).mono ?_
  rintro e w7 ⟨B1, B2, rfl, hq1, hq2, hq3, hq4, hq5, hb7⟩
  have hS7 := hS6.keep hb7
  have HT1 := Lib.hid hq4
  have HT2 := Lib.hid hq5
  have hsz6 := HB6.out.size
  have HB7 := Lib.hid (HB6.out.trans (hb7.mono HB6.out.size))
  clear hb7 hq3 hq4 hq5 hS6 HR6 HB6
  refine ⟨hS7, ?_⟩
  refine wpAnyH_take (i := 6) (v := .tuple #[.slice (some ⟨B1, 0, none⟩) n n, .slice (some ⟨B2, 0, none⟩) n n]) rfl (by kernel_rfl) (by kernel_rfl) (by kernel_rfl) (fun _ _ _ h => h) (Or.inl ⟨by rfl, fun w _ => by go_simp⟩) hS7 ?_
  refine wpAnyH_take (i := 7) (v := .slice (some ⟨B1, 0, none⟩) n n) rfl (by kernel_rfl) (by kernel_rfl) (by kernel_rfl) (fun _ _ _ h => h) (Or.inl ⟨by rfl, fun w _ => by go_simp⟩) hS7 ?_
  refine wpAnyH_take (i := 8) (v := .slice (some ⟨B2, 0, none⟩) n n) rfl (by kernel_rfl) (by kernel_rfl) (by kernel_rfl) (fun _ _ _ h => h) (Or.inl ⟨by rfl, fun w _ => by go_simp⟩) hS7 ?_
  refine wpAnyH_take (i := 9) (v := .slice (some ⟨B1, 0, none⟩) n n) rfl (by kernel_rfl) (by kernel_rfl) (by kernel_rfl) (fun _ _ _ h => h) (Or.inl ⟨by rfl, fun w _ => by go_simp⟩) hS7 ?_
  refine wpAnyH_take (i := 10) (v := .slice (some ⟨B2, 0, none⟩) n n) rfl (by kernel_rfl) (by kernel_rfl) (by kernel_rfl) (fun _ _ _ h => h) (Or.inl ⟨by rfl, fun w _ => by go_simp⟩) hS7 ?_
  refine wpAnyH_done (by kernel_rfl) ?_ _
  go_wp2
  go_ret2
  exact ⟨_, rfl, by omega, HT1.out, HB.out.trans (HB7.out.mono HB.out.size)⟩
set_option maxHeartbeats 1000000 in
set_option maxRecDepth 1000000 in
theorem Trade_bad (A : Option Addr) (n c : Nat) (L : Nat → Nat) (v : Nat → Nat → Int) (w : World) (h : RowsK w A n L v) (hn : n ≤ 1000) (hL : ∀ i, i < n → L i ≤ 1000) (hok : okS n L v = false) :
    Lr 22 #[.slice A n c] w (.tuple #[.slice none 0 0, .int .i64 2]) := by
  unfold Lr
  have HRd := Lib.hid (read_any A n c L v w h hn hL)
  rw [hok] at HRd
  clear h hL hok
  go_enter Try.func22, Try.ntmps22
  go_wp2_with fail
  refine HRd.out.use fun w1 hb1 => ?_
  have HB := Lib.hid (hb1.trans ((box_bel w1 (.cells #[.int .i64 0, .slice none 0 0] 50)).mono hb1.size))
  clear hb1 HRd
  unfold rdV
  simp only [Bool.false_eq_true, if_false]
  go_wp2
  go_ret2
  exact ⟨rfl, HB.out⟩

set_option maxHeartbeats 2000000 in
set_option maxRecDepth 1000000 in
theorem Rounds_ok (A : Option Addr) (n c : Nat) (t : Nat → Nat → Nat) (w : World) (h : Wis w A n t) (hn1 : 1 ≤ n) (hn : n ≤ 5) (ht : ∀ i, i < n → Pm n (t i)) :
    Calls Try.prog 35 #[.slice A n c] w fun e w' => ∃ B, e = .returned (.tuple #[.slice (some ⟨B, 0, none⟩) n n, .int .i64 0]) ∧ w.heap.size ≤ B ∧ RowI w' B n (fun p => (rnF t n (owF (fun k => k) n) p : Int)) ∧ Below w.heap.size w w' := by
  have H0 := Lib.hid h
  have HT := Lib.hid ht
  have HRd := Lib.hid (read_any A n c (fun _ => n) (fun i k => (t i k : Int)) w h (by omega) (fun _ _ => by omega))
  have hok : okS n (fun _ => n) (fun i k => (t i k : Int)) = true := okS_iff.2 ⟨⟨hn1, hn⟩, fun i hi => ⟨rfl, (ht i hi).ord⟩⟩
  rw [hok] at HRd
  clear h ht hok
  go_enter Try.func35, Try.ntmps35
  go_wp2_with fail
  refine HRd.out.use fun w1 hb1 => ?_
  have hbx := box2_at w1 (.int .i64 n) (.slice A n c) 50
  have hbb := hb1.trans ((box_bel w1 (.cells #[.int .i64 n, .slice A n c] 50)).mono hb1.size)
  have hgw := hb1.size
  have HB := Lib.hid hbb
  have HS := Lib.hid hbx
  clear hbb hbx hb1 HRd
  unfold rdV
  simp only [if_true]
  go_wp2_with fail
  generalize w1.alloc (.cells #[.int .i64 n, .slice A n c] 50) = X at *
  generalize w1.heap.size = g at *
  have hS0 : Bx2 X.drew g (.int .i64 n) (.slice A n c) := HS.out
  have H := Lib.hid (H0.out.keep HB.out)
  have hsX := HB.out.size
  clear HS H0
  refine wp_region_held (S := fun w' => Bx2 w' g (.int .i64 n) (.slice A n c)) (by kernel_rfl) ?_
  refine wpAnyH_take (i := 0) (v := .agg #[.int .i64 n, .slice A n c]) rfl (by kernel_rfl) (by kernel_rfl) (by kernel_rfl) (fun _ _ _ h => h) (yieldsIf_load_mid (by rfl) 50 (.tmp 4) (by rfl) g 0 (by rfl) [.int .i64 n, .slice A n c] _ (fun w h => wish_range h) Try.underlying50 rfl infoWish) hS0 ?_
  refine wpAnyH_take (i := 1) (v := .pointer (some ⟨g, 0, none⟩)) rfl (by kernel_rfl) (by kernel_rfl) (by kernel_rfl) (fun _ _ _ h => h) (Or.inl ⟨by rfl, fun w _ => by go_simp⟩) hS0 ?_
  refine wpAnyH_take (i := 2) (v := .int .i64 n) rfl (by kernel_rfl) (by kernel_rfl) (by kernel_rfl) (fun _ _ _ h => h) (Or.inl ⟨by rfl, fun w h => by have e0 := h.1; go_simp⟩) hS0 ?_
  refine wpAnyH_all (rs := [3]) (by kernel_rfl) (by simp) (fun i hi => ?_)
  obtain rfl : i = 3 := by simpa using hi
  refine wpOp_ofU (by rfl) (by rfl) ?_
  go_simp
  go_at_call 50
  refine (upTo_any n _ (by omega)).mono ?_
  rintro e w5 ⟨rfl, hr5, he5⟩
  have hb5 : Below X.heap.size X w5 := ((Dn.refl X).drew.below _).trans (he5.below (Nat.le_refl _) (Nat.le_refl _))
  have hS5 := hS0.keep (he5.below (Nat.le_refl _) (Nat.le_refl _))
  refine ⟨hS5, ?_⟩
  refine wpAnyH_all (rs := [4]) (by kernel_rfl) (by simp) (fun i hi => ?_)
  obtain rfl : i = 4 := by simpa using hi
  refine wpOp_ofU (by rfl) (by rfl) ?_
  go_simp
  go_at_call 49
  refine (owning_any A n c _ n hn _).use fun w6 hb6 => ?_
  have hS6 := hS5.keep hb6
  have HR6 := Lib.hid (hr5.keep hb6)
  have HB6 := Lib.hid (hb5.trans (hb6.mono hb5.size))
  clear hb5 hb6 he5 hr5 hS5 hS0
  refine ⟨hS6, ?_⟩
  refine wpAnyH_all (rs := [5]) (by kernel_rfl) (by simp) (fun i hi => ?_)
  obtain rfl : i = 5 := by simpa using hi
  refine wpOp_ofU (by rfl) (by rfl) ?_
  go_simp
  go_at_call 51
  refine (trade_any A n c t (some ⟨X.heap.size, 0, none⟩) n (fun k => k) w6 (H.out.keep HB6.out) HR6.out.ints hn HT.out (pm_id n)).mono ?_
  rintro e w7 ⟨B1, B2, rfl, hq1, hq2, hq3, hq4, hq5, hb7⟩
  have hS7 := hS6.keep hb7
  have HT1 := Lib.hid hq4
  have HT2 := Lib.hid hq5
  have hsz6 := HB6.out.size
  have HB7 := Lib.hid (HB6.out.trans (hb7.mono HB6.out.size))
  clear hb7 hq3 hq4 hq5 hS6 HR6 HB6
  refine ⟨hS7, ?_⟩
  refine wpAnyH_take (i := 6) (v := .tuple #[.slice (some ⟨B1, 0, none⟩) n n, .slice (some ⟨B2, 0, none⟩) n n]) rfl (by kernel_rfl) (by kernel_rfl) (by kernel_rfl) (fun _ _ _ h => h) (Or.inl ⟨by rfl, fun w _ => by go_simp⟩) hS7 ?_
  refine wpAnyH_take (i := 7) (v := .slice (some ⟨B1, 0, none⟩) n n) rfl (by kernel_rfl) (by kernel_rfl) (by kernel_rfl) (fun _ _ _ h => h) (Or.inl ⟨by rfl, fun w _ => by go_simp⟩) hS7 ?_
  refine wpAnyH_take (i := 8) (v := .slice (some ⟨B2, 0, none⟩) n n) rfl (by kernel_rfl) (by kernel_rfl) (by kernel_rfl) (fun _ _ _ h => h) (Or.inl ⟨by rfl, fun w _ => by go_simp⟩) hS7 ?_
  refine wpAnyH_take (i := 9) (v := .slice (some ⟨B1, 0, none⟩) n n) rfl (by kernel_rfl) (by kernel_rfl) (by kernel_rfl) (fun _ _ _ h => h) (Or.inl ⟨by rfl, fun w _ => by go_simp⟩) hS7 ?_
  refine wpAnyH_take (i := 10) (v := .slice (some ⟨B2, 0, none⟩) n n) rfl (by kernel_rfl) (by kernel_rfl) (by kernel_rfl) (fun _ _ _ h => h) (Or.inl ⟨by rfl, fun w _ => by go_simp⟩) hS7 ?_
  refine wpAnyH_done (by kernel_rfl) ?_ _
  go_wp2
  go_ret2
  exact ⟨_, rfl, by omega, HT2.out, HB.out.trans (HB7.out.mono HB.out.size)⟩
set_option maxHeartbeats 1000000 in
set_option maxRecDepth 1000000 in
theorem Rounds_bad (A : Option Addr) (n c : Nat) (L : Nat → Nat) (v : Nat → Nat → Int) (w : World) (h : RowsK w A n L v) (hn : n ≤ 1000) (hL : ∀ i, i < n → L i ≤ 1000) (hok : okS n L v = false) :
    Lr 35 #[.slice A n c] w (.tuple #[.slice none 0 0, .int .i64 2]) := by
  unfold Lr
  have HRd := Lib.hid (read_any A n c L v w h hn hL)
  rw [hok] at HRd
  clear h hL hok
  go_enter Try.func35, Try.ntmps35
  go_wp2_with fail
  refine HRd.out.use fun w1 hb1 => ?_
  have HB := Lib.hid (hb1.trans ((box_bel w1 (.cells #[.int .i64 0, .slice none 0 0] 50)).mono hb1.size))
  clear hb1 HRd
  unfold rdV
  simp only [Bool.false_eq_true, if_false]
  go_wp2
  go_ret2
  exact ⟨rfl, HB.out⟩
end Go.Proofs.Ytocfbafcplhmiaa
