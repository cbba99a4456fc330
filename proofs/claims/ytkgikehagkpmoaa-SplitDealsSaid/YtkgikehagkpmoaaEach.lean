import Derived.Test.YtkgikehagkpmoaaAdv
namespace Go.Proofs.Ytkgikehagkpmoaa
open Go.RowKit

/-- What a visit is asked for: I i: so many divisions have been visited, and all visits said true; S i: visit i said false. -/
def Visits (k : FuncId) (caps : Array Value) (G n m : Nat) (I S : Nat → World → Prop) : Prop :=
  ∀ i w1, i < n ^ m → I i w1 → RowI w1 G m (dg n m i) → Calls Try.prog k (#[.slice (some ⟨G, 0, none⟩) m m] ++ caps) w1 fun e w2 => ∃ b, e = .returned (.bool b) ∧ RowI w2 G m (dg n m i) ∧ (b = true → I (i + 1) w2) ∧ (b = false → S i w2)

set_option maxHeartbeats 1000000 in
set_option maxRecDepth 1000000 in
theorem eachDivision_any (n m : Nat) (k : FuncId) (caps : Array Value) (I S : Nat → World → Prop) (w : World) (hn : 0 < n) (hn9 : n ≤ 9) (hm : m ≤ 9)
    (hI0 : I 0 (w.alloc (.cells (madeCells #[.int .i64 0] m) 3))) (hexc : ∀ i w1 w2, I i w1 → Exc w.heap.size w1 w2 → I i w2) (hv : Visits k caps w.heap.size n m I S)
    (hcall : ∀ (args : Array Value) (w : World), (callFunc k args).run Try.prog w = .ok (.enter k args) w) :
    Calls Try.prog 70 #[.int .i64 n, .int .i64 m, .func (.func k) #[] caps] w fun e w' => e = .returned (.tuple #[]) ∧ (I (n ^ m) w' ∨ ∃ i, i < n ^ m ∧ S i w') := by
  have hmk := mk_ints m (by omega)
  have HI0 := Lib.hid hI0
  have HE := Lib.hid hexc
  have HV := Lib.hid hv
  clear hI0 hexc hv
  have hpow : 0 < n ^ m := Nat.pow_pos hn
  go_enter Try.func70, Try.ntmps70
  go_wp2
  clear hmk
  go_loopg [11] (n ^ m) (fun gk _ wr => ∃ i, gk + i = n ^ m ∧ i < n ^ m ∧ I i wr ∧ RowI wr w.heap.size m (dg n m i))
  case atStart => exact ⟨0, by omega, hpow, HI0.out, (RowI.made w m).congr (fun j _ => by simp [dg, dg_zero])⟩
  case round =>
    obtain ⟨i, hgi, hi, hI, hR⟩ := hrel
    have HR := Lib.hid hR
    have HI := Lib.hid hI
    have HG := Lib.hid hgi
    have HL := Lib.hid hi
    clear hR hI hgi hi
    go_wp2_with fail
    refine (HV.out i wr HL.out HI.out HR.out).mono ?_
    rintro e w2 ⟨b, rfl, hR2, hT, hF⟩
    cases b with
    | false =>
      have HS := Lib.hid (hF rfl)
      have HR2 := Lib.hid hR2
      clear hR2 hT hF
      go_wp2_with fail
      go_returns
      exact ⟨rfl, .inr ⟨i, HL.out, HS.out⟩⟩
    | true =>
      have HS := Lib.hid (hT rfl)
      have HR2 := Lib.hid hR2
      clear hR2 hT hF
      go_wp2_with fail
      refine (advance_any _ n m i _ HR2.out hn hn9 hm HL.out).mono ?_
      rintro e w3 ⟨rfl, hR3, hE3⟩
      have HR3 := Lib.hid hR3
      have HE3 := Lib.hid hE3
      clear hR3 hE3
      by_cases hlast : i + 1 < n ^ m
      · have hB := decide_eq_true hlast
        have HB := Lib.hid hB
        rw [hB]
        clear hB hlast
        go_wp2
        go_roundg (gk - 1)
        case rel => exact ⟨i + 1, by have := HG.out; have := HL.out; omega, by simpa using HB.out, HE.out _ _ _ HS.out HE3.out, HR3.out⟩
        case measure => have := HG.out; have := HL.out; omega
      · have HB : Hid (decide (i + 1 < n ^ m) = false) := Lib.hid (decide_eq_false hlast)
        rw [HB.out]
        clear hlast
        go_wp2
        go_returns
        have e : i + 1 = n ^ m := by have := HL.out; have := HB.out; simp at this; omega
        exact ⟨rfl, .inl (by rw [← e]; exact HE.out _ _ _ HS.out HE3.out)⟩
end Go.Proofs.Ytkgikehagkpmoaa
