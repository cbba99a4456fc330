import Derived.Test.YtoeimngbpagegaaDoorOwn
import Derived.Test.YtoeimngbpagegaaDoorBool
namespace Go.Proofs.YtoeimngbpagegaaDoor
open Go.RowKit

def eqP (f g : Nat → Int) (k : Nat) : Bool := decide (f k = g k)
def eqB (n n' : Nat) (f g : Nat → Int) : Bool := decide (n = n') && allB (eqP f g) n

theorem equal_any (A B : Option Addr) (n n' c c' : Nat) (f g : Nat → Int) (w : World) (hf : Ints w A n f) (hg : Ints w B n' g) (hn : n ≤ 10000) (hn' : n' ≤ 10000) :
    Ro 35 #[.slice A n c, .slice B n' c'] w (.bool (eqB n n' f g)) := by
  refine Ro.of ?_
  by_cases e : n = n'
  · subst e
    have hB := bne_f (a := (n : Int)) rfl
    go_enter Tryd.func35, Tryd.ntmps35
    go_wp2
    go_loopw [13] (fun i wr => ∃ k : Nat, k ≤ n ∧ i = .int .i64 k ∧ AllLt (eqP f g) k ∧ Dn w wr) (fun i _ => n - (intOf i).toNat)
    case atStart => exact ⟨0, Nat.zero_le _, rfl, AllLt.zero, Dn.refl _⟩
    case round =>
      obtain ⟨k, hk, rfl, hA, hD⟩ := hrel
      by_cases hlt : k < n
      · obtain ⟨b, o, rfl, hc⟩ := (hf.dn hD).at hlt
        obtain ⟨b', o', rfl, hc'⟩ := (hg.dn hD).at hlt
        by_cases e : f k = g k
        · have HE : Hid (eqP f g k = true) := Lib.hid (by simp [eqP, e])
          have hB2 := bne_f e
          clear e
          go_wp2
          go_quiet (fail)
          go_wp2
          go_roundw
          case rel => exact ⟨k + 1, by omega, by go_num, hA.succ HE.out, hD.drewN _⟩
          case measure => simp [intOf]; omega
        · have HE : Hid (eqP f g k = false) := Lib.hid (by simp [eqP, e])
          have hB2 := bne_t e
          clear e
          go_wp2
          go_quiet (fail)
          go_wp2
          go_ret
          exact ⟨ret_bool (by simp [eqB, allB_f hlt HE.out]), hD.drewN _⟩
      · obtain rfl : k = n := by omega
        go_wp2
        go_ret
        exact ⟨ret_bool (by simp [eqB, allB_t hA]), hD⟩
  · have hB := bne_t (a := (n : Int)) (b := (n' : Int)) (by omega)
    have HE : Hid (eqB n n' f g = false) := Lib.hid (by simp [eqB, e])
    clear e
    go_enter Tryd.func35, Tryd.ntmps35
    go_wp2
    go_ret
    exact ⟨ret_bool HE.out.symm, Dn.refl _⟩
end Go.Proofs.YtoeimngbpagegaaDoor
