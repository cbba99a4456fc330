/- Win by first places. -/
import Derived.Test.YtnobbklnnkpdfaaFp
namespace Go.Proofs.Ytnobbklnnkpdfaa
open Go.RowKit

theorem IsTop.uniq {f : Nat → Int} {c j k : Nat} (h : IsTop f c j) (h' : IsTop f c k) : j = k := by
  obtain ⟨h1, h2, h3⟩ := h
  obtain ⟨k1, k2, k3⟩ := h'
  rcases Nat.lt_trichotomy j k with hl | hl | hl
  · have a1 := k3 j hl
    have a2 := h2 k k1
    omega
  · exact hl
  · have a1 := h3 k hl
    have a2 := k2 j h1
    omega
theorem top_exists (f : Nat → Int) : ∀ c, 1 ≤ c → ∃ k, IsTop f c k := by
  intro c
  induction c with
  | zero => intro h; omega
  | succ c ih =>
    intro _
    rcases Nat.eq_zero_or_pos c with h0 | h0
    · subst h0
      exact ⟨0, by omega, fun j hj => by rw [show j = 0 by omega]; exact Int.le_refl _, fun j hj => absurd hj (by omega)⟩
    · obtain ⟨k, h1, h2, h3⟩ := ih h0
      by_cases h : f c ≤ f k
      · exact ⟨k, by omega, fun j hj => by
          by_cases e : j = c
          · rw [e]; exact h
          · exact h2 j (by omega), h3⟩
      · exact ⟨c, by omega, fun j hj => by
          by_cases e : j = c
          · rw [e]; exact Int.le_refl _
          · have := h2 j (by omega); omega, fun j hj => by have := h2 j hj; omega⟩
theorem byFirst_top (A : Option Addr) (n cA c k0 : Nat) (T : Nat → Int) (L : Nat → Nat) (v : Nat → Nat → Int) (w : World) (h : RowsK w A n L v) (hok : okBal n L v = true) (hc : c = L 0) (hk : IsTop (fun x => (fpN v x n : Int)) c k0) :
    Lr 63 #[.agg (pollL A n cA c T).toArray] w (.int .i64 k0) :=
  (byFirst_any A n cA c T L v w h hok hc).mono (by
    rintro e w' ⟨k, rfl, hk2, hb⟩
    rw [hk2.uniq hk]
    exact ⟨rfl, hb⟩)

set_option maxHeartbeats 1000000 in
set_option maxRecDepth 1000000 in
theorem Win_first (A : Option Addr) (n cA k0 : Nat) (L : Nat → Nat) (v : Nat → Nat → Int) (w : World) (h : RowsK w A n L v) (hok : okBal n L v = true) (hA : n ≤ cA) (hk0 : IsTop (fun x => (fpN v x n : Int)) (L 0) k0) :
    Lr 12 #[.slice A n cA, .int .i64 0] w (.tuple #[.int .i64 k0, .int .i64 0]) := by
  obtain ⟨⟨hn1, hn9⟩, ⟨hc1, hc5⟩, -⟩ := okBal_iff.1 hok
  have HC := Lib.hid (count_ok A n cA L v w h hok hA)
  have H := Lib.hid h
  have HBy : Hid (∀ (T : Nat → Int) (w' : World), Below w.heap.size w w' → Lr 63 #[.agg (pollL A n cA (L 0) T).toArray] w' (.int .i64 k0)) := Lib.hid (fun T w' hb => byFirst_top A n cA (L 0) k0 T L v w' (H.out.keep hb) hok rfl hk0)
  clear h hok hk0
  generalize mAll v (L 0) n = T at *
  generalize L 0 = c at *
  show Calls _ _ _ _ _
  go_enter Try.func12, Try.ntmps12
  go_wp2_with fail
  refine HC.out.mono ?_
  rintro e w2 ⟨rfl, hb2⟩
  have HZ2 := Lib.hid (PollI.zero w2)
  have Hb3 := Lib.hid (hb2.trans ((zero_below w2).mono hb2.size))
  have hsz := hb2.size
  clear hb2 HC
  go_wp2_with fail
  rw [run_storePoll _ _ _ A n cA c T HZ2.out]
  simp only [Result.andThen_ok]
  rw [Oper.upon_skip]
  have HR := Lib.hid (PollI.stored (A := A) (n := n) (cA := cA) (c := c) (T := T) HZ2.out)
  have HB := Lib.hid (below_setCells (pollL A n cA c T) 0 hsz Hb3.out)
  clear HZ2 Hb3 hsz
  generalize World.setCells _ w2.heap.size 0 (pollL A n cA c T) = W3 at *
  generalize w2.heap.size = G at *
  go_wp2_with fail
  refine Lr.use (rules_any _) ?_
  intro w4 hb4
  have HR4 := Lib.hid (HR.out.keep hb4)
  have HB4 := Lib.hid (HB.out.trans (hb4.mono HB.out.size))
  clear hb4 HR HB
  go_wp2
  have hrv : rulesV = Value.agg #[.func (.func 63) #[] #[], .func (.func 64) #[] #[], .func (.func 65) #[] #[], .func (.func 66) #[] #[]] := rfl
  have hix : ∀ w : World, (Instr.index 60 (Value.agg #[.func (.func 63) #[] #[], .func (.func 64) #[] #[], .func (.func 65) #[] #[], .func (.func 66) #[] #[]]) (.int .i64 0)).run Try.prog w = .ok (.func (.func 63) #[] #[]) w := fun w => by kernel_rfl
  refine wp_region_later (by kernel_rfl) (by kernel_rfl) ?_
  repeat
    (with_reducible refine wpQuiet_step ?_
     intro K hK
     first
       | (refine quiet_load_poll (by rfl) (.tmp 6) (by rfl) G (by rfl) (fun q => HR4.out.keep q.below) ?_; refine hK _ ?_; clear hK K)
       | (go_simp
          first
            | (refine hK _ ?_; clear hK K)
            | (apply Exists.intro
               refine ⟨fun pq => ?_, hK _ ?_⟩
               (first | (go_at_call 34; exact Lr.later (rules_any _)) | (go_at_call 63; exact Lr.later (HBy.out _ _ (HB4.out.trans (pq.below.mono HB4.out.size)))))
               clear hK K)))
  with_reducible refine wpQuiet_nil ?_
  intro _ hw'
  obtain ⟨q, hw''⟩ := hw'
  subst hw''
  have HB5 := Lib.hid (HB4.out.trans (q.below.mono HB4.out.size))
  generalize q.to = w5 at *
  go_wp2
  go_ret2
  exact ⟨rfl, HB5.out⟩
end Go.Proofs.Ytnobbklnnkpdfaa
