/- Win by each rule. -/
import Derived.Test.YtdbeblmlikkjhaaWl
namespace Go.Proofs.Ytdbeblmlikkjhaa
open Go.RowKit

set_option maxHeartbeats 1000000 in
set_option maxRecDepth 1000000 in
theorem Win_borda (A : Option Addr) (n cA k0 : Nat) (L : Nat → Nat) (v : Nat → Nat → Int) (w : World) (h : RowsK w A n L v) (hok : okBal n L v = true) (hA : n ≤ cA) (hk0 : IsTop (fun x => bdN v (L 0) x n) (L 0) k0) :
    Lr 6 #[.slice A n cA, .int .i64 1] w (.tuple #[.int .i64 k0, .int .i64 0]) := by
  obtain ⟨⟨hn1, hn9⟩, ⟨hc1, hc5⟩, -⟩ := okBal_iff.1 hok
  have HC := Lib.hid (count_ok A n cA L v w h hok hA)
  have H := Lib.hid h
  have HBy : Hid (∀ (T : Nat → Int) (w' : World), Below w.heap.size w w' → Lr 20 #[.agg (pollL A n cA (L 0) T).toArray] w' (.int .i64 k0)) := Lib.hid (fun T w' hb => byBorda_top A n cA (L 0) k0 T L v w' (H.out.keep hb) hok rfl hk0)
  clear h hok hk0
  generalize mAll v (L 0) n = T at *
  generalize L 0 = c at *
  show Calls _ _ _ _ _
  go_enter Try.func6, Try.ntmps6
  go_wp2_with fail
  refine HC.out.mono ?_
  rintro e w2 ⟨rfl, hb2⟩
  have HZ2 := Lib.hid (PollI.zero w2)
  have Hb3 := Lib.hid (hb2.trans ((zero_below w2).mono hb2.size))
  have hsz := hb2.size
  clear hb2 HC
  go_wp2_with fail
  rw [run_storePoll _ _ _ A n cA c T HZ2.out]
  simp only [Result.andThen_ok]
  rw [Oper.upon_skip]
  have HR := Lib.hid (PollI.stored (A := A) (n := n) (cA := cA) (c := c) (T := T) HZ2.out)
  have HB := Lib.hid (below_setCells (pollL A n cA c T) 0 hsz Hb3.out)
  clear HZ2 Hb3 hsz
  generalize World.setCells _ w2.heap.size 0 (pollL A n cA c T) = W3 at *
  generalize w2.heap.size = G at *
  go_wp2_with fail
  refine Lr.use (rules_any _) ?_
  intro w4 hb4
  have HR4 := Lib.hid (HR.out.keep hb4)
  have HB4 := Lib.hid (HB.out.trans (hb4.mono HB.out.size))
  clear hb4 HR HB
  go_wp2
  have hrv : rulesV = Value.agg #[.func (.func 19) #[] #[], .func (.func 20) #[] #[], .func (.func 21) #[] #[], .func (.func 22) #[] #[]] := rfl
  have hix : ∀ w : World, (Instr.index 41 (Value.agg #[.func (.func 19) #[] #[], .func (.func 20) #[] #[], .func (.func 21) #[] #[], .func (.func 22) #[] #[]]) (.int .i64 1)).run Try.prog w = .ok (.func (.func 20) #[] #[]) w := fun w => by kernel_rfl
  refine wp_region_later (by kernel_rfl) (by kernel_rfl) ?_
  repeat
    (with_reducible refine wpQuiet_step ?_
     intro K hK
     first
       | (refine quiet_load_poll (by rfl) (.tmp 6) (by rfl) G (by rfl) (fun q => HR4.out.keep q.below) ?_; refine hK _ ?_; clear hK K)
       | (go_simp
          first
            | (refine hK _ ?_; clear hK K)
            | (apply Exists.intro
               refine ⟨fun pq => ?_, hK _ ?_⟩
               (first | (go_at_call 11; exact Lr.later (rules_any _)) | (go_at_call 20; exact Lr.later (HBy.out _ _ (HB4.out.trans (pq.below.mono HB4.out.size)))))
               clear hK K)))
  with_reducible refine wpQuiet_nil ?_
  intro _ hw'
  obtain ⟨q, hw''⟩ := hw'
  subst hw''
  have HB5 := Lib.hid (HB4.out.trans (q.below.mono HB4.out.size))
  generalize q.to = w5 at *
  go_wp2
  go_ret2
  exact ⟨rfl, HB5.out⟩
theorem Win_rule (r : Nat) (hr : r < 4) (A : Option Addr) (n cA : Nat) (L : Nat → Nat) (v : Nat → Nat → Int) (w : World) (h : RowsK w A n L v) (hok : okBal n L v = true) (hA : n ≤ cA) :
    Lr 6 #[.slice A n cA, .int .i64 (r : Int)] w (.tuple #[.int .i64 (winF r n (L 0) v), .int .i64 0]) := by
  obtain ⟨⟨hn1, hn9⟩, ⟨hc1, hc5⟩, hO⟩ := okBal_iff.1 hok
  obtain rfl | rfl | rfl | rfl : r = 0 ∨ r = 1 ∨ r = 2 ∨ r = 3 := by omega
  · exact Win_first A n cA _ L v w h hok hA (topF_top _ _ hc1)
  · exact Win_borda A n cA _ L v w h hok hA (topF_top _ _ hc1)
  · obtain ⟨k0, hk0, hst, -⟩ := str_exists hc1 (wT_cls (T := mAll v (L 0) n) hc5 (mAll_dia hok) (L 0) (Nat.le_refl _))
    obtain ⟨h1, h2, h3, h4⟩ := fstF_spec (strB (wT (L 0) (mAll v (L 0) n) (L 0)) (L 0)) (L 0) 0 ⟨k0, by omega, by omega, hst⟩
    exact Win_paths A n cA (fstF (strB (wT (L 0) (mAll v (L 0) n) (L 0)) (L 0)) (L 0) 0) L v w h hok hA (by omega) h3 (fun a ha => h4 a (by omega) ha)
  · have h := Win_order A n cA L v w h hok hA
    have h0 := kem0 (n := n) (T := mAll v (L 0) n) hc1
    have e : (((rowF (kemL n (mAll v (L 0) n) (L 0)) 0).toNat : Nat) : Int) = rowF (kemL n (mAll v (L 0) n) (L 0)) 0 := by omega
    show Lr _ _ _ (.tuple #[.int .i64 (((rowF (kemL n (mAll v (L 0) n) (L 0)) 0).toNat : Nat) : Int), .int .i64 0])
    rw [e]
    exact h
theorem WinRF {r n : Nat} (hr : r < 4) {L : Nat → Nat} {v : Nat → Nat → Int} {A : Option Addr} {k cA : Nat} {w : World} (h : RowsK w A k (fun i => min (L i) 11) v) (hk : k = min n 11) (hA : k ≤ cA) (hok : okBal n L v = true) :
    Lr 6 #[.slice A k cA, .int .i64 (r : Int)] w (.tuple #[.int .i64 (winF r n (L 0) v), .int .i64 0]) := by
  subst hk
  obtain ⟨e1, e2, e3⟩ := bal_few hok
  have := Win_rule r hr A (min n 11) cA (fun i => min (L i) 11) v w h (by rw [okBal_few]; exact hok) hA
  simp only [e1, e2] at this ⊢
  exact this
end Go.Proofs.Ytdbeblmlikkjhaa
