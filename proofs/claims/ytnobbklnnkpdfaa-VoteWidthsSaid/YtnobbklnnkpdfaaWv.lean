/- Win by paths. -/
import Derived.Test.YtnobbklnnkpdfaaWn
import Derived.Laws.EntriesVeiled
import Derived.Deep.DeepCutAuto
namespace Go.Proofs.Ytnobbklnnkpdfaa
open Go.RowKit

def rulesV : Value := .agg #[.func (.func 63) #[] #[], .func (.func 64) #[] #[], .func (.func 65) #[] #[], .func (.func 66) #[] #[]]

set_option maxHeartbeats 1000000 in
set_option maxRecDepth 1000000 in
theorem rules_any (w : World) : Lr 34 #[] w rulesV := by
  have Hb0 := Lib.hid ((Below.refl w.heap.size w).alloc (Nat.le_refl _) (.cells #[.nilFunc, .nilFunc, .nilFunc, .nilFunc] 60))
  show Calls _ _ _ _ _
  go_enter Try.func34, Try.ntmps34
  go_wp2_with fail
  have hb := (Below.refl w.heap.size w).alloc (Nat.le_refl _) (.cells #[.func (.func 63) #[] #[], .func (.func 64) #[] #[], .func (.func 65) #[] #[], .func (.func 66) #[] #[]] 60)
  refine bodyPost_ret (v := rulesV) (by simp [results, Try.results34, go_sem, rulesV]) rfl ?_
  exact ⟨rfl, hb⟩

theorem step_load_poll {w : World} {ops : Array Oper} {o : Oper} {a : Act} {K : Act → World → Prop} {Q : Exit → Act → World → Prop} {E : Prop} (hgd : o.guard = none) (x : Operand) (ho : o.op = .load 56 x)
    (g : Nat) (hx : a.eval x = .pointer (some ⟨g, 0, none⟩)) {A : Option Addr} {n cA c : Nat} {T : Nat → Int} (h : PollI w g A n cA c T) (hK : K (a.put o.dst (.agg (pollL A n cA c T).toArray)) w) :
    if Region.wanted o (yielded ops a.tmps) = true then Oper.wp Try.prog o a w K Q else E := by
  have hw : Region.wanted o (yielded ops a.tmps) = true := by simp [Region.wanted, hgd]
  have hl : (Try.prog.info? 56).map (·.size) = some (pollL A n cA c T).length := by rw [pollL_len]; exact infoPoll
  rw [if_pos hw]
  exact wp_load_mid 56 x ho g 0 hx (pollL A n cA c T) _ h.range Try.underlying56 rfl hl hK

theorem quiet_load_poll {w0 : World} {ops : Array Oper} {o : Oper} {a : Act} {K : Act → Prop} {E : Prop} (hgd : o.guard = none) (x : Operand) (ho : o.op = .load 56 x)
    (g : Nat) (hx : a.eval x = .pointer (some ⟨g, 0, none⟩)) {A : Option Addr} {n cA c : Nat} {T : Nat → Int} (h : ∀ q : Later w0, PollI q.to g A n cA c T) (hK : K (a.put o.dst (.agg (pollL A n cA c T).toArray))) :
    if Region.wanted o (yielded ops a.tmps) = true then o.quiet Try.prog a (fun w' => ∃ p : Later w0, w' = p.to) K else E := by
  have hw : Region.wanted o (yielded ops a.tmps) = true := by simp [Region.wanted, hgd]
  have hl : (Try.prog.info? 56).map (·.size) = some (pollL A n cA c T).length := by rw [pollL_len]; exact infoPoll
  rw [if_pos hw]
  refine ⟨.agg (pollL A n cA c T).toArray, ?_, hK⟩
  rintro w' ⟨q, rfl⟩
  unfold Oper.quietAt execOp
  simp only [ho, hx, Instr.loadAt, Instr.sureAddr, Sem.run_bind, Sem.run_pure, Result.andThen_ok, run_loadVar_mid q.to g 0 56 (pollL A n cA c T) _ (h q).range Try.underlying56 rfl hl]
  exact ⟨rfl, rfl⟩

set_option maxHeartbeats 1000000 in
set_option maxRecDepth 1000000 in
theorem Win_paths (A : Option Addr) (n cA k0 : Nat) (L : Nat → Nat) (v : Nat → Nat → Int) (w : World) (h : RowsK w A n L v) (hok : okBal n L v = true) (hA : n ≤ cA) (hk0 : k0 < L 0)
    (h1 : strB (wT (L 0) (mAll v (L 0) n) (L 0)) (L 0) k0 = true) (h2 : ∀ a, a < k0 → strB (wT (L 0) (mAll v (L 0) n) (L 0)) (L 0) a = false) :
    Lr 12 #[.slice A n cA, .int .i64 2] w (.tuple #[.int .i64 k0, .int .i64 0]) := by
  obtain ⟨-, ⟨hc1, hc5⟩, -⟩ := okBal_iff.1 hok
  have HC := Lib.hid (count_ok A n cA L v w h hok hA)
  have HBy : Hid (∀ w' : World, Lr 65 #[.agg (pollL A n cA (L 0) (mAll v (L 0) n)).toArray] w' (.int .i64 k0)) := Lib.hid (fun w' => byPaths_any A n cA (L 0) k0 (mAll v (L 0) n) hc5 hk0 h1 h2 w')
  clear h hok h1 h2
  generalize mAll v (L 0) n = T at *
  generalize L 0 = c at *
  show Calls _ _ _ _ _
  go_enter Try.func12, Try.ntmps12
  go_wp2_with fail
  refine HC.out.mono ?_
  rintro e w2 ⟨rfl, hb2⟩
  have HZ2 := Lib.hid (PollI.zero w2)
  have Hb3 := Lib.hid (hb2.trans ((zero_below w2).mono hb2.size))
  have hsz := hb2.size
  clear hb2 HC
  go_wp2_with fail
  rw [run_storePoll _ _ _ A n cA c T HZ2.out]
  simp only [Result.andThen_ok]
  rw [Oper.upon_skip]
  have HR := Lib.hid (PollI.stored (A := A) (n := n) (cA := cA) (c := c) (T := T) HZ2.out)
  have HB := Lib.hid (below_setCells (pollL A n cA c T) 0 hsz Hb3.out)
  clear HZ2 Hb3 hsz
  generalize World.setCells _ w2.heap.size 0 (pollL A n cA c T) = W3 at *
  generalize w2.heap.size = G at *
  go_wp2_with fail
  refine Lr.use (rules_any _) ?_
  intro w4 hb4
  have HR4 := Lib.hid (HR.out.keep hb4)
  have HB4 := Lib.hid (HB.out.trans (hb4.mono HB.out.size))
  clear hb4 HR HB
  go_wp2
  have hrv : rulesV = Value.agg #[.func (.func 63) #[] #[], .func (.func 64) #[] #[], .func (.func 65) #[] #[], .func (.func 66) #[] #[]] := rfl
  have hix : ∀ w : World, (Instr.index 60 (Value.agg #[.func (.func 63) #[] #[], .func (.func 64) #[] #[], .func (.func 65) #[] #[], .func (.func 66) #[] #[]]) (.int .i64 2)).run Try.prog w = .ok (.func (.func 65) #[] #[]) w := fun w => by kernel_rfl
  refine wp_region_later (by kernel_rfl) (by kernel_rfl) ?_
  repeat
    (with_reducible refine wpQuiet_step ?_
     intro K hK
     first
       | (refine quiet_load_poll (by rfl) (.tmp 6) (by rfl) G (by rfl) (fun q => HR4.out.keep q.below) ?_; refine hK _ ?_; clear hK K)
       | (go_simp
          first
            | (refine hK _ ?_; clear hK K)
            | (apply Exists.intro
               refine ⟨fun _ => ?_, hK _ ?_⟩
               (first | (go_at_call 34; exact Lr.later (rules_any _)) | (go_at_call 65; exact Lr.later (HBy.out _)))
               clear hK K)))
  with_reducible refine wpQuiet_nil ?_
  intro _ hw'
  obtain ⟨q, hw''⟩ := hw'
  subst hw''
  have HB5 := Lib.hid (HB4.out.trans (q.below.mono HB4.out.size))
  generalize q.to = w5 at *
  go_wp2
  go_ret2
  exact ⟨rfl, HB5.out⟩
end Go.Proofs.Ytnobbklnnkpdfaa
