/- Kemeny, whole. -/
import Derived.Test.YtnobbklnnkpdfaaKe
import Derived.Test.YtnobbklnnkpdfaaDb
import Derived.Test.YtnobbklnnkpdfaaVg
namespace Go.Proofs.Ytnobbklnnkpdfaa
open Go.RowKit

theorem RowC.cap_le {w : World} {g cap m : Nat} {D : Nat → Int} (h : RowC w g cap m D) : m ≤ cap := by
  obtain ⟨F, hr, hc, hF⟩ := h
  exact hc
theorem bal_bd {n : Nat} {L : Nat → Nat} {v : Nat → Nat → Int} (hok : okBal n L v = true) : ∀ a b, a < L 0 → b < L 0 → -(n : Int) ≤ mAll v (L 0) n (5 * a + b) ∧ mAll v (L 0) n (5 * a + b) ≤ n := by
  obtain ⟨⟨hn1, hn9⟩, ⟨hc1, hc5⟩, hO⟩ := okBal_iff.1 hok
  intro a b ha hb
  rw [mAll_at hc5 ha hb n (fun i hi => (hO i hi).2)]
  exact mrg_bd v (L 0) a b n

set_option maxHeartbeats 1000000 in
set_option maxRecDepth 1000000 in
theorem Kemeny_ok (A : Option Addr) (n cA : Nat) (L : Nat → Nat) (v : Nat → Nat → Int) (w : World) (h : RowsK w A n L v) (hok : okBal n L v = true) (hA : n ≤ cA) :
    Calls Try.prog 32 #[.slice A n cA] w fun e w' => ∃ g cap, e = .returned (.tuple #[.slice (some ⟨g, 0, none⟩) (L 0) cap, .int .i64 (disS n (mAll v (L 0) n) (rowF (kemL n (mAll v (L 0) n) (L 0))) (L 0)), .int .i64 0]) ∧
      w.heap.size ≤ g ∧ cap ≤ maxLen ∧ RowC w' g cap (L 0) (rowF (kemL n (mAll v (L 0) n) (L 0))) ∧ Below w.heap.size w w' := by
  obtain ⟨⟨hn1, hn9⟩, ⟨hc1, hc5⟩, -⟩ := okBal_iff.1 hok
  have HC := Lib.hid (count_ok A n cA L v w h hok hA)
  have HT := Lib.hid (bal_bd hok)
  clear h hok
  generalize mAll v (L 0) n = T at *
  generalize L 0 = c at *
  go_enter Try.func32, Try.ntmps32
  go_wp2_with fail
  refine HC.out.mono ?_
  rintro e w2 ⟨rfl, hb2⟩
  have HZ2 := Lib.hid (PollI.zero w2)
  have Hb3 := Lib.hid (hb2.trans ((zero_below w2).mono hb2.size))
  have hsz := hb2.size
  clear hb2 HC
  go_wp2_with fail
  rw [run_storePoll _ _ _ A n cA c T HZ2.out]
  simp only [Result.andThen_ok]
  rw [Oper.upon_skip]
  have HR := Lib.hid (PollI.stored (A := A) (n := n) (cA := cA) (c := c) (T := T) HZ2.out)
  have HB := Lib.hid (below_setCells (pollL A n cA c T) 0 hsz Hb3.out)
  clear HZ2 Hb3 hsz
  generalize World.setCells _ w2.heap.size 0 (pollL A n cA c T) = W3 at *
  generalize w2.heap.size = G at *
  go_wp2_with (first
    | (refine wpList_load_mid rfl 56 _ rfl G 0 rfl (pollL A n cA c T) _ HR.out.range Try.underlying56 rfl (by rw [pollL_len]; exact infoPoll) ?_)
    | fail)
  refine (kemeny_any A n cA c T hc1 hc5 hn9 HT.out _).mono ?_
  rintro e w4 ⟨x, rfl, hx, hb4⟩
  obtain ⟨g, cap, rfl, hg, hcap, hG⟩ := hx.rowCm hc1
  have HR4 := Lib.hid (HR.out.keep hb4)
  have HB4 := Lib.hid (HB.out.trans (hb4.mono HB.out.size))
  have hgw : w.heap.size ≤ g := Nat.le_trans HB.out.size hg
  have HG := Lib.hid hG
  clear hx hb4 HR HB hG
  go_wp2_with (first
    | (refine wpList_load_mid rfl 56 _ rfl G 0 rfl (pollL A n cA c T) _ HR4.out.range Try.underlying56 rfl (by rw [pollL_len]; exact infoPoll) ?_)
    | fail)
  refine Lr.use (disagreement_any A (some ⟨g, 0, none⟩) n cA c cap T (rowF (kemL n T c)) hc5 hn9 HT.out (ord_of_mem (kem_mem n T c)).2 _ HG.out.ints HG.out.cap_le) ?_
  intro w5 hb5
  have HG5 := Lib.hid (HG.out.keep hb5)
  have HB5 := Lib.hid (HB4.out.trans (hb5.mono HB4.out.size))
  clear hb5
  go_wp2
  go_ret3
  exact ⟨_, _, rfl, hgw, hcap, HG5.out, HB5.out⟩

set_option maxHeartbeats 1000000 in
set_option maxRecDepth 1000000 in
theorem Kemeny_bad (A : Option Addr) (n cA : Nat) (L : Nat → Nat) (v : Nat → Nat → Int) (w : World) (h : RowsK w A n L v) (hok : okBal n L v = false) (hn : n ≤ 1000) (hL : ∀ i, i < n → L i ≤ 1000) :
    Lr 32 #[.slice A n cA] w (.tuple #[.slice none 0 0, .int .i64 0, .int .i64 2]) := by
  have HC := Lib.hid (count_bad A n cA L v w h hok hn hL)
  clear h hok hL
  show Calls _ _ _ _ _
  go_enter Try.func32, Try.ntmps32
  go_wp2_with fail
  refine HC.out.mono ?_
  rintro e w2 ⟨rfl, hb2⟩
  have HZ2 := Lib.hid (PollI.zero w2)
  have Hb3 := Lib.hid (hb2.trans ((zero_below w2).mono hb2.size))
  have hsz := hb2.size
  clear hb2 HC
  go_wp2_with fail
  rw [run_storePoll _ _ _ none 0 0 0 (fun _ => 0) HZ2.out]
  simp only [Result.andThen_ok]
  rw [Oper.upon_skip]
  have HB := Lib.hid (below_setCells (pollL none 0 0 0 (fun _ => 0)) 0 hsz Hb3.out)
  clear HZ2 Hb3
  generalize World.setCells _ w2.heap.size 0 (pollL none 0 0 0 (fun _ => 0)) = W3 at *
  go_wp2
  go_ret3
  exact ⟨rfl, HB.out⟩

theorem KemenyF {n : Nat} {L : Nat → Nat} {v : Nat → Nat → Int} {A : Option Addr} {k cA : Nat} {w : World} (h : RowsK w A k (fun i => min (L i) 11) v) (hk : k = min n 11) (hA : k ≤ cA) (hok : okBal n L v = true) :
    Calls Try.prog 32 #[.slice A k cA] w fun e w' => ∃ g cap, e = .returned (.tuple #[.slice (some ⟨g, 0, none⟩) (L 0) cap, .int .i64 (disS n (mAll v (L 0) n) (rowF (kemL n (mAll v (L 0) n) (L 0))) (L 0)), .int .i64 0]) ∧
      w.heap.size ≤ g ∧ cap ≤ maxLen ∧ RowC w' g cap (L 0) (rowF (kemL n (mAll v (L 0) n) (L 0))) ∧ Below w.heap.size w w' := by
  subst hk
  obtain ⟨e1, e2, e3⟩ := bal_few hok
  have := Kemeny_ok A (min n 11) cA (fun i => min (L i) 11) v w h (by rw [okBal_few]; exact hok) hA
  simp only [e1, e2] at this ⊢
  exact this
theorem KemenyFbad {n : Nat} {L : Nat → Nat} {v : Nat → Nat → Int} {A : Option Addr} {k cA : Nat} {w : World} (h : RowsK w A k (fun i => min (L i) 11) v) (hk : k = min n 11) (hok : okBal n L v = false) :
    Lr 32 #[.slice A k cA] w (.tuple #[.slice none 0 0, .int .i64 0, .int .i64 2]) := by
  subst hk
  exact Kemeny_bad A (min n 11) cA (fun i => min (L i) 11) v w h (by rw [okBal_few]; exact hok) (by omega) (fun i hi => by show min (L i) 11 ≤ 1000; omega)
end Go.Proofs.Ytnobbklnnkpdfaa
