/- Win by Kemeny's order. -/
import Derived.Test.YtnobbklnnkpdfaaKm
import Derived.Test.YtnobbklnnkpdfaaWi
namespace Go.Proofs.Ytnobbklnnkpdfaa
open Go.RowKit

set_option maxHeartbeats 1000000 in
set_option maxRecDepth 1000000 in
theorem byOrder_any (A : Option Addr) (n cA c : Nat) (T : Nat → Int) (hc1 : 1 ≤ c) (hc : c ≤ 5) (hn : n ≤ 9) (hT : ∀ a b, a < c → b < c → -(n : Int) ≤ T (5 * a + b) ∧ T (5 * a + b) ≤ n) (w : World) :
    Lr 66 #[.agg (pollL A n cA c T).toArray] w (.int .i64 (rowF (kemL n T c) 0)) := by
  have HP0 := Lib.hid (PollI.box w A n cA c T)
  have Hb0 := Lib.hid ((Below.refl w.heap.size w).alloc (Nat.le_refl _) (.cells (pollL A n cA c T).toArray 56))
  have HK := Lib.hid (kemeny_any A n cA c T hc1 hc hn hT (w.alloc (.cells (pollL A n cA c T).toArray 56)))
  clear hT
  show Calls _ _ _ _ _
  go_enter Try.func66, Try.ntmps66
  go_wp2_with (first
    | (refine wpList_load_mid rfl 56 _ rfl w.heap.size 0 rfl (pollL A n cA c T) _ HP0.out.range Try.underlying56 rfl (by rw [pollL_len]; exact infoPoll) ?_)
    | fail)
  refine HK.out.mono ?_
  rintro e w4 ⟨x, rfl, hx, hb4⟩
  obtain ⟨g, cap, rfl, hg, hcap, hG⟩ := hx.rowCm hc1
  have HB4 := Lib.hid (Hb0.out.trans (hb4.mono Hb0.out.size))
  have hcell := hG.cell (i := 0) hc1
  clear hx hb4 HK HP0 Hb0 hG
  go_wp2
  go_ret
  exact ⟨rfl, HB4.out⟩

set_option maxHeartbeats 1000000 in
set_option maxRecDepth 1000000 in
theorem Win_order (A : Option Addr) (n cA : Nat) (L : Nat → Nat) (v : Nat → Nat → Int) (w : World) (h : RowsK w A n L v) (hok : okBal n L v = true) (hA : n ≤ cA) :
    Lr 12 #[.slice A n cA, .int .i64 3] w (.tuple #[.int .i64 (rowF (kemL n (mAll v (L 0) n) (L 0)) 0), .int .i64 0]) := by
  obtain ⟨⟨hn1, hn9⟩, ⟨hc1, hc5⟩, -⟩ := okBal_iff.1 hok
  have hbd := bal_bd hok
  have HC := Lib.hid (count_ok A n cA L v w h hok hA)
  have HBy : Hid (∀ w' : World, Lr 66 #[.agg (pollL A n cA (L 0) (mAll v (L 0) n)).toArray] w' (.int .i64 (rowF (kemL n (mAll v (L 0) n) (L 0)) 0))) := Lib.hid (fun w' => byOrder_any A n cA (L 0) (mAll v (L 0) n) hc1 hc5 hn9 hbd w')
  clear h hok hbd
  generalize rowF (kemL n (mAll v (L 0) n) (L 0)) 0 = k0 at *
  generalize mAll v (L 0) n = T at *
  generalize L 0 = c at *
  show Calls _ _ _ _ _
  go_enter Try.func12, Try.ntmps12
  go_wp2_with fail
  refine HC.out.mono ?_
  rintro e w2 ⟨rfl, hb2⟩
  have HZ2 := Lib.hid (PollI.zero w2)
  have Hb3 := Lib.hid (hb2.trans ((zero_below w2).mono hb2.size))
  have hsz := hb2.size
  clear hb2 HC
  go_wp2_with fail
  rw [run_storePoll _ _ _ A n cA c T HZ2.out]
  simp only [Result.andThen_ok]
  rw [Oper.upon_skip]
  have HR := Lib.hid (PollI.stored (A := A) (n := n) (cA := cA) (c := c) (T := T) HZ2.out)
  have HB := Lib.hid (below_setCells (pollL A n cA c T) 0 hsz Hb3.out)
  clear HZ2 Hb3 hsz
  generalize World.setCells _ w2.heap.size 0 (pollL A n cA c T) = W3 at *
  generalize w2.heap.size = G at *
  go_wp2_with fail
  refine Lr.use (rules_any _) ?_
  intro w4 hb4
  have HR4 := Lib.hid (HR.out.keep hb4)
  have HB4 := Lib.hid (HB.out.trans (hb4.mono HB.out.size))
  clear hb4 HR HB
  go_wp2
  have hrv : rulesV = Value.agg #[.func (.func 63) #[] #[], .func (.func 64) #[] #[], .func (.func 65) #[] #[], .func (.func 66) #[] #[]] := rfl
  have hix : ∀ w : World, (Instr.index 60 (Value.agg #[.func (.func 63) #[] #[], .func (.func 64) #[] #[], .func (.func 65) #[] #[], .func (.func 66) #[] #[]]) (.int .i64 3)).run Try.prog w = .ok (.func (.func 66) #[] #[]) w := fun w => by kernel_rfl
  refine wp_region_later (by kernel_rfl) (by kernel_rfl) ?_
  repeat
    (with_reducible refine wpQuiet_step ?_
     intro K hK
     first
       | (refine quiet_load_poll (by rfl) (.tmp 6) (by rfl) G (by rfl) (fun q => HR4.out.keep q.below) ?_; refine hK _ ?_; clear hK K)
       | (go_simp
          first
            | (refine hK _ ?_; clear hK K)
            | (apply Exists.intro
               refine ⟨fun _ => ?_, hK _ ?_⟩
               (first | (go_at_call 34; exact Lr.later (rules_any _)) | (go_at_call 66; exact Lr.later (HBy.out _)))
               clear hK K)))
  with_reducible refine wpQuiet_nil ?_
  intro _ hw'
  obtain ⟨q, hw''⟩ := hw'
  subst hw''
  have HB5 := Lib.hid (HB4.out.trans (q.below.mono HB4.out.size))
  generalize q.to = w5 at *
  go_wp2
  go_ret2
  exact ⟨rfl, HB5.out⟩
theorem WinOF {n : Nat} {L : Nat → Nat} {v : Nat → Nat → Int} {A : Option Addr} {k cA : Nat} {w : World} (h : RowsK w A k (fun i => min (L i) 11) v) (hk : k = min n 11) (hA : k ≤ cA) (hok : okBal n L v = true) :
    Lr 12 #[.slice A k cA, .int .i64 3] w (.tuple #[.int .i64 (rowF (kemL n (mAll v (L 0) n) (L 0)) 0), .int .i64 0]) := by
  subst hk
  obtain ⟨e1, e2, e3⟩ := bal_few hok
  have := Win_order A (min n 11) cA (fun i => min (L i) 11) v w h (by rw [okBal_few]; exact hok) hA
  simp only [e1, e2] at this ⊢
  exact this
end Go.Proofs.Ytnobbklnnkpdfaa
