/- Disagreement, whole. -/
import Derived.Test.YtbaedcpbcelmpaaDa
namespace Go.Proofs.Ytbaedcpbcelmpaa
open Go.RowKit

set_option maxHeartbeats 1000000 in
set_option maxRecDepth 1000000 in
theorem Disagreement_ok (A D : Option Addr) (n cA m cap : Nat) (L : Nat → Nat) (v : Nat → Nat → Int) (o : Nat → Int) (w : World) (h : RowsK w A n L v) (hok : okBal n L v = true) (hA : n ≤ cA) (hD : Ints w D m o) (hcap : m ≤ cap) (ho : ordB (L 0) m o = true) :
    Lr 24 #[.slice A n cA, .slice D m cap] w (.tuple #[.int .i64 (disS n (mAll v (L 0) n) o (L 0)), .int .i64 0]) := by
  obtain ⟨⟨hn1, hn9⟩, ⟨hc1, hc5⟩, hO⟩ := okBal_iff.1 hok
  obtain ⟨hm, hOr⟩ := ordB_iff.1 ho
  have HC := Lib.hid (count_ok A n cA L v w h hok hA)
  have HD := Lib.hid hD
  have HIs : Hid (∀ w' : World, Below w.heap.size w w' → Ro 56 #[.slice D m cap, .int .i64 (L 0)] w' (.bool true)) := Lib.hid (fun w' hb => by
    have := isOrder_any D m cap (L 0) o w' (hD.keep hb) (by omega) hcap (by omega)
    rwa [ho] at this)
  have HDs : Hid (∀ w' : World, Below w.heap.size w w' → Lr 57 #[.agg (pollL A n cA (L 0) (mAll v (L 0) n)).toArray, .slice D m cap] w' (.int .i64 (disS n (mAll v (L 0) n) o (L 0)))) := Lib.hid (fun w' hb => by
    have := disagreement_any A D n cA (L 0) cap (mAll v (L 0) n) o hc5 hn9 (fun a b ha hb => by
      rw [mAll_at hc5 ha hb n (fun i hi => (hO i hi).2)]
      exact mrg_bd v (L 0) a b n) hOr w' (by rw [← hm]; exact hD.keep hb) (by omega)
    rwa [← hm] at this ⊢)
  clear h hok ho hO hD hm hOr
  generalize mAll v (L 0) n = T at *
  generalize disS n T o (L 0) = S at *
  generalize L 0 = c at *
  show Calls _ _ _ _ _
  go_enter Try.func24, Try.ntmps24
  go_wp2_with fail
  refine HC.out.mono ?_
  rintro e w2 ⟨rfl, hb2⟩
  have HZ2 := Lib.hid (PollI.zero w2)
  have Hb3 := Lib.hid (hb2.trans ((zero_below w2).mono hb2.size))
  have hsz := hb2.size
  clear hb2 HC
  go_wp2_with fail
  rw [run_storePoll _ _ _ A n cA c T HZ2.out]
  simp only [Result.andThen_ok]
  rw [Oper.upon_skip]
  have HR := Lib.hid (PollI.stored (A := A) (n := n) (cA := cA) (c := c) (T := T) HZ2.out)
  have HB := Lib.hid (below_setCells (pollL A n cA c T) 0 hsz Hb3.out)
  clear HZ2 Hb3 hsz
  generalize World.setCells _ w2.heap.size 0 (pollL A n cA c T) = W3 at *
  generalize w2.heap.size = G at *
  have hq1 := HR.out.c1
  go_wp2_with fail
  refine Ro.use (HIs.out _ HB.out) ?_
  intro w4 hd4
  have HR4 := Lib.hid (HR.out.dn hd4)
  have HB4 := Lib.hid (HB.out.trans (hd4.below _))
  clear hd4 hq1 HR HB
  go_wp2_with (first
    | (refine wpList_load_mid rfl 63 _ rfl G 0 rfl (pollL A n cA c T) _ HR4.out.range Try.underlying63 rfl (by rw [pollL_len]; exact infoPoll) ?_)
    | fail)
  refine Lr.use (HDs.out _ HB4.out) ?_
  intro w5 hb5
  have HB5 := Lib.hid (HB4.out.trans (hb5.mono HB4.out.size))
  clear hb5
  go_wp2
  go_ret2
  exact ⟨rfl, HB5.out⟩

set_option maxHeartbeats 1000000 in
set_option maxRecDepth 1000000 in
theorem Disagreement_bad (A D : Option Addr) (n cA m cap : Nat) (L : Nat → Nat) (v : Nat → Nat → Int) (o : Nat → Int) (w : World) (h : RowsK w A n L v) (hok : okBal n L v = true) (hA : n ≤ cA) (hD : Ints w D m o) (hcap : m ≤ cap) (hm : m ≤ 1000) (ho : ordB (L 0) m o = false) :
    Lr 24 #[.slice A n cA, .slice D m cap] w (.tuple #[.int .i64 0, .int .i64 2]) := by
  obtain ⟨⟨hn1, hn9⟩, ⟨hc1, hc5⟩, hO⟩ := okBal_iff.1 hok
  have HC := Lib.hid (count_ok A n cA L v w h hok hA)
  have HIs : Hid (∀ w' : World, Below w.heap.size w w' → Ro 56 #[.slice D m cap, .int .i64 (L 0)] w' (.bool false)) := Lib.hid (fun w' hb => by
    have := isOrder_any D m cap (L 0) o w' (hD.keep hb) (by omega) hcap (by omega)
    rwa [ho] at this)
  clear h hok ho hO hD
  generalize mAll v (L 0) n = T at *
  generalize L 0 = c at *
  show Calls _ _ _ _ _
  go_enter Try.func24, Try.ntmps24
  go_wp2_with fail
  refine HC.out.mono ?_
  rintro e w2 ⟨rfl, hb2⟩
  have HZ2 := Lib.hid (PollI.zero w2)
  have Hb3 := Lib.hid (hb2.trans ((zero_below w2).mono hb2.size))
  have hsz := hb2.size
  clear hb2 HC
  go_wp2_with fail
  rw [run_storePoll _ _ _ A n cA c T HZ2.out]
  simp only [Result.andThen_ok]
  rw [Oper.upon_skip]
  have HR := Lib.hid (PollI.stored (A := A) (n := n) (cA := cA) (c := c) (T := T) HZ2.out)
  have HB := Lib.hid (below_setCells (pollL A n cA c T) 0 hsz Hb3.out)
  clear HZ2 Hb3 hsz
  generalize World.setCells _ w2.heap.size 0 (pollL A n cA c T) = W3 at *
  generalize w2.heap.size = G at *
  have hq1 := HR.out.c1
  go_wp2_with fail
  refine Ro.use (HIs.out _ HB.out) ?_
  intro w4 hd4
  have HB4 := Lib.hid (HB.out.trans (hd4.below _))
  clear hd4 hq1 HR HB
  go_wp2
  go_ret2
  exact ⟨rfl, HB4.out⟩
end Go.Proofs.Ytbaedcpbcelmpaa
