/- swap: Chances. -/
import Derived.Test.YtocfbafcplhmiaaUta
import Derived.Test.YtocfbafcplhmiaaUzd
namespace Go.Proofs.Ytocfbafcplhmiaa
open Go.RowKit

/-- In how many orders of choosing someone gets a thing. -/
def chN (t : Nat → Nat → Nat) (n : Nat) : Nat → Nat → Nat := cnU (fun x => chF t n (rN x)) (ordL (List.range n) n [])
set_option maxHeartbeats 1000000 in
set_option maxRecDepth 1000000 in
theorem Chances_bad (A : Option Addr) (n c : Nat) (L : Nat → Nat) (v : Nat → Nat → Int) (w : World) (h : RowsK w A n L v) (hn : n ≤ 1000) (hL : ∀ i, i < n → L i ≤ 1000) (hok : okS n L v = false) :
    Lr 32 #[.slice A n c] w (.tuple #[.slice none 0 0, .int .i64 2]) := by
  unfold Lr
  have HRd := Lib.hid (read_any A n c L v w h hn hL)
  rw [hok] at HRd
  clear h hL hok
  go_enter Try.func32, Try.ntmps32
  go_wp2_with fail
  refine HRd.out.use fun w1 hb1 => ?_
  have HB := Lib.hid (hb1.trans ((box_bel w1 (.cells #[.int .i64 0, .slice none 0 0] 50)).mono hb1.size))
  clear hb1 HRd
  unfold rdV
  simp only [Bool.false_eq_true, if_false]
  go_wp2
  go_ret2
  exact ⟨rfl, HB.out⟩
set_option maxHeartbeats 2000000 in
set_option maxRecDepth 1000000 in
theorem Chances_ok (A : Option Addr) (n c : Nat) (t : Nat → Nat → Nat) (w : World) (h : Wis w A n t) (hn1 : 1 ≤ n) (hn : n ≤ 5) (ht : ∀ i, i < n → Pm n (t i)) :
    Calls Try.prog 32 #[.slice A n c] w fun e w' => ∃ B, e = .returned (.tuple #[.slice (some ⟨B, 0, none⟩) n n, .int .i64 0]) ∧ w.heap.size ≤ B ∧ MatI w' B (B + 2) n (chN t n) ∧ Below w.heap.size w w' := by
  have H0 := Lib.hid h
  have HT := Lib.hid ht
  have HRd := Lib.hid (read_any A n c (fun _ => n) (fun i k => (t i k : Int)) w h (by omega) (fun _ _ => by omega))
  have hok : okS n (fun _ => n) (fun i k => (t i k : Int)) = true := okS_iff.2 ⟨⟨hn1, hn⟩, fun i hi => ⟨rfl, (ht i hi).ord⟩⟩
  rw [hok] at HRd
  have HU : Hid (chN t n = cnU (fun x => chF t n (rN x)) (ordL (List.range n) n [])) := Lib.hid rfl
  clear h ht hok
  go_enter Try.func32, Try.ntmps32
  go_wp2_with fail
  refine HRd.out.use fun w1 hb1 => ?_
  have hbx := box2_at w1 (.int .i64 n) (.slice A n c) 50
  have hbb := hb1.trans ((box_bel w1 (.cells #[.int .i64 n, .slice A n c] 50)).mono hb1.size)
  have hgw := hb1.size
  have HB := Lib.hid hbb
  have HTa := Lib.hid (tally_choose A n c t (w1.alloc (.cells #[.int .i64 n, .slice A n c] 50)) (H0.out.keep hbb) hn1 hn HT.out)
  rw [← HU.out] at HTa
  have e0 := hbx.1
  have e1 := hbx.2
  have hsz := hbb.size
  clear hbb hbx hb1 HRd H0 HT HU
  unfold rdV
  simp only [if_true]
  go_wp2_with fail
  generalize w1.alloc (.cells #[.int .i64 n, .slice A n c] 50) = X at *
  refine HTa.out.mono ?_
  rintro e w3 ⟨rfl, hm, hb3⟩
  have HM := Lib.hid hm
  have HB3 := Lib.hid (HB.out.trans (hb3.mono hsz))
  clear hm hb3 HTa
  go_wp2
  go_ret2
  exact ⟨_, rfl, by omega, HM.out, HB3.out⟩
section
variable {n k cA : Nat} {L : Nat → Nat} {v : Nat → Nat → Int} {A : Option Addr} {w : World}
theorem ChancesF (h : RowsK w A k (fun i => min (L i) 7) v) (hk : k = min n 7) (hok : okS n L v = true) :
    Calls Try.prog 32 #[.slice A k cA] w fun e w' => ∃ B, e = .returned (.tuple #[.slice (some ⟨B, 0, none⟩) n n, .int .i64 0]) ∧ w.heap.size ≤ B ∧ MatI w' B (B + 2) n (chN (tO v) n) ∧ Below w.heap.size w w' := by
  obtain ⟨rfl, hw⟩ := h.wis hk hok
  obtain ⟨h1, h2, h3, h4⟩ := okS_pm hok
  exact Chances_ok A k cA (tO v) w hw h1.1 h1.2 h3
theorem ChancesFbad (h : RowsK w A k (fun i => min (L i) 7) v) (hk : k = min n 7) (hok : okS n L v = false) :
    Lr 32 #[.slice A k cA] w (.tuple #[.slice none 0 0, .int .i64 2]) := by
  subst hk
  exact Chances_bad A (min n 7) cA (fun i => min (L i) 7) v w h (by omega) (fun i hi => by show min (L i) 7 ≤ 1000; omega) (by rw [okS_few]; exact hok)
end
end Go.Proofs.Ytocfbafcplhmiaa
