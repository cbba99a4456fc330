/- Equal on pieces; awake. -/
import Derived.Test.YtbgekacfimgkeaaQg
import Derived.Test.YtbgekacfimgkeaaEq
namespace Go.Proofs.Ytbgekacfimgkeaa
open Go.RowKit

def eqKP (F G : Nat → Nat → Int) (k : Nat) : Bool := decide (F k 0 = G k 0) && (decide (F k 1 = G k 1) && decide (F k 2 = G k 2))
/-- Two lists of pieces are the same. -/
def eqKB (n m : Nat) (F G : Nat → Nat → Int) : Bool := decide (n = m) && allB (eqKP F G) n
theorem eqKB_self (n : Nat) (F : Nat → Nat → Int) : eqKB n n F F = true := by
  unfold eqKB
  rw [allB_t (fun g _ => by simp [eqKP])]
  simp

theorem cmpD (a b c d e f : Int) (w : World) : (binOp .neq 84 (.agg #[.int .i64 a, .int .i64 b, .int .i64 c]) (.agg #[.int .i64 d, .int .i64 e, .int .i64 f])).run Try.prog w = .ok (.bool (!(decide (a = d) && (decide (b = e) && decide (c = f))))) w := by
  simp [go_sem]
  by_cases h1 : a = d
  · by_cases h2 : b = e
    · by_cases h3 : c = f
      · simp [h1, h2, h3]
      · simp [h1, h2, h3]
    · simp [h1, h2]
  · simp [h1]
set_option maxHeartbeats 1000000 in
set_option maxRecDepth 1000000 in
theorem equalD_any (A B : Option Addr) (n m c c' : Nat) (F G : Nat → Nat → Int) (w : World) (hf : Recs 3 w A n F) (hg : Recs 3 w B m G) (hn : n ≤ 10000) (hm : m ≤ 10000) :
    Lr 53 #[.slice A n c, .slice B m c'] w (.bool (eqKB n m F G)) := by
  unfold Lr
  have H := Lib.hid hf
  have H2 := Lib.hid hg
  clear hf hg
  go_enter Try.func53, Try.ntmps53
  by_cases e : n = m
  · subst e
    have hB := bne_f (a := (n : Int)) rfl
    go_wp2
    go_loopw [13] (fun i wr => ∃ k : Nat, k ≤ n ∧ i = .int .i64 k ∧ AllLt (eqKP F G) k ∧ Dn w wr) (fun i _ => n - (intOf i).toNat)
    case atStart => exact ⟨0, Nat.zero_le _, rfl, AllLt.zero, Dn.refl _⟩
    case round =>
      obtain ⟨k, hk, rfl, hA, hD⟩ := hrel
      have HA := Lib.hid hA
      clear hA
      by_cases hlt : k < n
      · obtain ⟨b, o, rfl, c0, c1, c2⟩ := (H.out.dn hD).three hlt
        obtain ⟨b', o', rfl, c0', c1', c2'⟩ := (H2.out.dn hD).three hlt
        have hcmp := fun w => cmpD (F k 0) (F k 1) (F k 2) (G k 0) (G k 1) (G k 2) w
        have he : eqKP F G k = (decide (F k 0 = G k 0) && (decide (F k 1 = G k 1) && decide (F k 2 = G k 2))) := rfl
        rw [← he] at hcmp
        have HE := Lib.hid he
        clear he
        cases hq : eqKP F G k with
        | true =>
          rw [hq] at hcmp
          have HQ := Lib.hid hq
          clear hq
          go_wp2_with fail
          go_quiet (fail)
          go_wp2
          go_roundw
          case rel => exact ⟨k + 1, by omega, by go_num, HA.out.succ HQ.out, hD.drewN _⟩
          case measure => simp [intOf]; omega
        | false =>
          rw [hq] at hcmp
          have HQ := Lib.hid (show eqKB n n F G = false by unfold eqKB; rw [allB_f hlt hq, Bool.and_false])
          clear hq
          go_wp2_with fail
          go_quiet (fail)
          go_wp2
          go_ret
          exact ⟨ret_bool HQ.out.symm, (hD.drewN _).below _⟩
      · obtain rfl : k = n := by omega
        go_wp2
        go_ret
        exact ⟨ret_bool (by simp [eqKB, allB_t HA.out]), hD.below _⟩
  · have hB := bne_t (a := (n : Int)) (b := (m : Int)) (by omega)
    have HE : Hid (eqKB n m F G = false) := Lib.hid (by simp [eqKB, e])
    clear e
    go_wp2
    go_ret
    exact ⟨ret_bool HE.out.symm, Below.refl _ _⟩

theorem cmpR (a b c d e f : Int) (w : World) : (binOp .neq 59 (.agg #[.int .i64 a, .int .i64 b, .int .i64 c]) (.agg #[.int .i64 d, .int .i64 e, .int .i64 f])).run Try.prog w = .ok (.bool (!(decide (a = d) && (decide (b = e) && decide (c = f))))) w := by
  simp [go_sem]
  by_cases h1 : a = d
  · by_cases h2 : b = e
    · by_cases h3 : c = f
      · simp [h1, h2, h3]
      · simp [h1, h2, h3]
    · simp [h1, h2]
  · simp [h1]
set_option maxHeartbeats 1000000 in
set_option maxRecDepth 1000000 in
theorem equalR_any (A B : Option Addr) (n m c c' : Nat) (F G : Nat → Nat → Int) (w : World) (hf : Recs 3 w A n F) (hg : Recs 3 w B m G) (hn : n ≤ 10000) (hm : m ≤ 10000) :
    Lr 37 #[.slice A n c, .slice B m c'] w (.bool (eqKB n m F G)) := by
  unfold Lr
  have H := Lib.hid hf
  have H2 := Lib.hid hg
  clear hf hg
  go_enter Try.func37, Try.ntmps37
  by_cases e : n = m
  · subst e
    have hB := bne_f (a := (n : Int)) rfl
    go_wp2
    go_loopw [13] (fun i wr => ∃ k : Nat, k ≤ n ∧ i = .int .i64 k ∧ AllLt (eqKP F G) k ∧ Dn w wr) (fun i _ => n - (intOf i).toNat)
    case atStart => exact ⟨0, Nat.zero_le _, rfl, AllLt.zero, Dn.refl _⟩
    case round =>
      obtain ⟨k, hk, rfl, hA, hD⟩ := hrel
      have HA := Lib.hid hA
      clear hA
      by_cases hlt : k < n
      · obtain ⟨b, o, rfl, c0, c1, c2⟩ := (H.out.dn hD).three hlt
        obtain ⟨b', o', rfl, c0', c1', c2'⟩ := (H2.out.dn hD).three hlt
        have hcmp := fun w => cmpR (F k 0) (F k 1) (F k 2) (G k 0) (G k 1) (G k 2) w
        have he : eqKP F G k = (decide (F k 0 = G k 0) && (decide (F k 1 = G k 1) && decide (F k 2 = G k 2))) := rfl
        rw [← he] at hcmp
        have HE := Lib.hid he
        clear he
        cases hq : eqKP F G k with
        | true =>
          rw [hq] at hcmp
          have HQ := Lib.hid hq
          clear hq
          go_wp2_with fail
          go_quiet (fail)
          go_wp2
          go_roundw
          case rel => exact ⟨k + 1, by omega, by go_num, HA.out.succ HQ.out, hD.drewN _⟩
          case measure => simp [intOf]; omega
        | false =>
          rw [hq] at hcmp
          have HQ := Lib.hid (show eqKB n n F G = false by unfold eqKB; rw [allB_f hlt hq, Bool.and_false])
          clear hq
          go_wp2_with fail
          go_quiet (fail)
          go_wp2
          go_ret
          exact ⟨ret_bool HQ.out.symm, (hD.drewN _).below _⟩
      · obtain rfl : k = n := by omega
        go_wp2
        go_ret
        exact ⟨ret_bool (by simp [eqKB, allB_t HA.out]), hD.below _⟩
  · have hB := bne_t (a := (n : Int)) (b := (m : Int)) (by omega)
    have HE : Hid (eqKB n m F G = false) := Lib.hid (by simp [eqKB, e])
    clear e
    go_wp2
    go_ret
    exact ⟨ret_bool HE.out.symm, Below.refl _ _⟩

/-- The one job of awake, and its plan. -/
def awJ : Nat → Nat → Int := fun _ i => if i = 0 then 2 else if i = 1 then 1 else if i = 2 then 9 else 0
def awP : Nat → Nat → Int := fun _ i => if i = 0 then 0 else if i = 1 then 1 else 3
theorem awJ_ok : okJ 1 awJ = true := by decide
theorem awP_eq : eqKB (plS 0 1 awJ).m 1 (plS 0 1 awJ).p awP = true := by
  have h3 : plS 0 1 awJ = stF 0 1 awJ 3 := (stF_end (by omega) (fun k hk => by
    obtain rfl : k = 0 := by omega
    decide)).symm
  rw [h3]
  decide
set_option maxHeartbeats 1000000 in
set_option maxRecDepth 1000000 in
theorem awake_any (w : World) : Lr 22 #[] w (.bool true) := by
  unfold Lr
  have hR : Recs 4 (w.alloc (.cells #[.int .i64 2, .int .i64 1, .int .i64 9, .int .i64 0] 83)) (some ⟨w.heap.size, 0, none⟩) 1 awJ := fun _ => ⟨_, 0, rfl, fun k hk i hi => by
    obtain rfl : k = 0 := by omega
    have : i = 0 ∨ i = 1 ∨ i = 2 ∨ i = 3 := by omega
    rcases this with rfl | rfl | rfl | rfl <;> simp [World.cell?_alloc_at, awJ]⟩
  have hb1 := (Below.refl w.heap.size w).alloc (Nat.le_refl _) (.cells #[.int .i64 2, .int .i64 1, .int .i64 9, .int .i64 0] 83)
  have HR := Lib.hid hR
  have HB := Lib.hid hb1
  clear hR hb1
  go_enter Try.func22, Try.ntmps22
  go_wp2_with fail
  refine (plan_ok _ 1 1 awJ _ HR.out awJ_ok).mono ?_
  rintro e w2 ⟨v, rfl, hv, hb2⟩
  have HB2 := Lib.hid (HB.out.trans (hb2.mono HB.out.size))
  obtain ⟨Av, cv, rfl, -, hRv, -⟩ := hv.form
  have HV := Lib.hid hRv
  have hm := plS_m 0 awJ_ok
  have hR2 : Recs 3 (w2.alloc (.cells #[.int .i64 0, .int .i64 1, .int .i64 3] 84)) (some ⟨w2.heap.size, 0, none⟩) 1 awP := fun _ => ⟨_, 0, rfl, fun k hk i hi => by
    obtain rfl : k = 0 := by omega
    have : i = 0 ∨ i = 1 ∨ i = 2 := by omega
    rcases this with rfl | rfl | rfl <;> simp [World.cell?_alloc_at, awP]⟩
  have hb3 := (Below.refl w2.heap.size w2).alloc (Nat.le_refl _) (.cells #[.int .i64 0, .int .i64 1, .int .i64 3] 84)
  have HR2 := Lib.hid hR2
  have HV2 := Lib.hid (HV.out.keep hb3)
  have HB3 := Lib.hid (HB2.out.trans (hb3.mono HB2.out.size))
  clear hb2 hv hRv hR2 hb3
  go_wp2_with fail
  refine (equalD_any _ _ _ 1 cv 1 _ awP _ HV2.out HR2.out (by omega) (by omega)).use fun w4 hb4 => ?_
  have HB4 := Lib.hid (HB3.out.trans (hb4.mono HB3.out.size))
  rw [awP_eq]
  clear hb4
  go_wp2
  go_ret
  exact ⟨rfl, HB4.out⟩
end Go.Proofs.Ytbgekacfimgkeaa
