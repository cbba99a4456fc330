/- The reference: size, Margins; equal rows. -/
import Derived.Test.YtnobbklnnkpdfaaRv
import Derived.Test.YtnobbklnnkpdfaaShift
import Derived.Test.YtnobbklnnkpdfaaEq
import Derived.Maps.AppendAt
namespace Go.Proofs.Ytnobbklnnkpdfaa
open Go.RowKit

theorem and_low : ∀ t : Nat, t < 512 → 0 < t → bits .and .i64 (t : Int) ((t : Int) - 1) = ((t &&& (t - 1) : Nat) : Int) := by decide +kernel


theorem eqB_id (n : Nat) (f : Nat → Int) : eqB n n f f = true := by
  simp only [eqB, decide_true, Bool.true_and]
  exact allB_t (fun g _ => by simp [eqP])

set_option maxHeartbeats 1000000 in
set_option maxRecDepth 1000000 in
/-- same: rows that read the same. -/
theorem equalFunc_same (A B : Option Addr) (n c c' : Nat) (L : Nat → Nat) (v : Nat → Nat → Int) (w : World) (ha : Rows2 w A n L v) (hb : Rows2 w B n L v) (hn : n ≤ 100000) (hL : ∀ i, i < n → L i ≤ 10000) :
    Ro 51 #[.slice A n c, .slice B n c', .func (.func 19) #[] #[]] w (.bool true) := by
  refine Ro.of ?_
  have HL := Lib.hid hL
  have HA := Lib.hid ha
  have HB := Lib.hid hb
  clear ha hb hL
  have hBn := bne_f (a := (n : Int)) rfl
  go_enter Try.func51, Try.ntmps51
  go_wp2
  go_loopw [17] (fun i wr => ∃ k : Nat, k ≤ n ∧ i = .int .i64 k ∧ Dn w wr) (fun i _ => n - (intOf i).toNat)
  case atStart => exact ⟨0, Nat.zero_le _, rfl, Dn.refl _⟩
  case round =>
    obtain ⟨k, hk, rfl, hD⟩ := hrel
    by_cases hlt : k < n
    · obtain ⟨b, o, A', c1, rfl, hc, hI⟩ := (HA.out.dn hD).at hlt
      obtain ⟨b', o', B', c2, rfl, hc', hI'⟩ := (HB.out.dn hD).at hlt
      have HEq := Lib.hid (equal_any A' B' (L k) (L k) c1 c2 (v k) (v k) wr hI hI' (HL.out k hlt) (HL.out k hlt))
      have HT := Lib.hid (eqB_id (L k) (v k))
      clear hI hI'
      go_wp2_with fail
      refine Ro.use HEq.out ?_
      intro w3 hd3
      rw [HT.out]
      have HD := Lib.hid (hD.trans hd3)
      clear hd3 hD
      go_wp2
      go_roundw
      case rel => exact ⟨k + 1, by omega, by go_num, HD.out⟩
      case measure => simp [intOf]; omega
    · obtain rfl : k = n := by omega
      go_wp2
      go_ret
      exact ⟨rfl, hD⟩
set_option maxHeartbeats 1000000 in
set_option maxRecDepth 1000000 in
theorem same_any (A B : Option Addr) (n c c' : Nat) (L : Nat → Nat) (v : Nat → Nat → Int) (w : World) (ha : Rows2 w A n L v) (hb : Rows2 w B n L v) (hn : n ≤ 100000) (hL : ∀ i, i < n → L i ≤ 10000) :
    Ro 24 #[.slice A n c, .slice B n c'] w (.bool true) := by
  refine Ro.of ?_
  have HE := Lib.hid (equalFunc_same A B n c c' L v w ha hb hn hL)
  clear ha hb hL hn
  go_enter Try.func24, Try.ntmps24
  go_wp2_with fail
  refine Ro.use HE.out ?_
  intro w3 hd3
  have HD := Lib.hid hd3
  clear hd3
  go_wp2
  go_ret
  exact ⟨rfl, HD.out⟩

end Go.Proofs.Ytnobbklnnkpdfaa
