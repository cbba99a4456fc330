import Derived.Test.YtkgikehagkpmoaaRef1
import Derived.Test.YtkgikehagkpmoaaAppAny
import Derived.Test.YtkgikehagkpmoaaGr2
namespace Go.Proofs.Ytkgikehagkpmoaa
open Go.RowKit

def leP (f g : Nat → Int) (i : Nat) : Bool := decide (g i ≤ f i)
def gtP (f g : Nat → Int) (i : Nat) : Bool := decide (g i < f i)
/-- f is nowhere less than g, and somewhere more. -/
def impB (n : Nat) (f g : Nat → Int) : Bool := allB (leP f g) n && anyB (gtP f g) n

set_option maxHeartbeats 1000000 in
set_option maxRecDepth 1000000 in
theorem rown_any (A D : Option Addr) (n m c c' : Nat) (v : Nat → Nat → Int) (d : Nat → Int) (w : World) (h : Mat w A n m v) (hd : Ints w D m d) (hb : BdM n m v 100000) (hm : m ≤ 9) (hn : n ≤ 9) :
    Calls Try.prog 55 #[.slice A n c, .slice D m c'] w fun e w' => ∃ x, e = .returned x ∧ OwnL w' w.heap.size x (lst n (wrt v m d)) ∧ Below w.heap.size w w' := by
  obtain ⟨i0, hi, hz0, hz1, hz2⟩ := info_parts infoInt
  have HM := Lib.hid h
  have HD := Lib.hid hd
  have HB := Lib.hid hb
  clear h hd hb
  go_enter Try.func55, Try.ntmps55
  go_wp2
  go_loopw [5, 9] (fun s x wr => ∃ k : Nat, k ≤ n ∧ x = .int .i64 k ∧ OwnL wr w.heap.size s (lst k (wrt v m d)) ∧ Below w.heap.size w wr) (fun _ x _ => n - (intOf x).toNat)
  case atStart => exact ⟨0, Nat.zero_le _, rfl, OwnL.nil_ _ _, Below.refl _ _⟩
  case round =>
    obtain ⟨k, hk, rfl, hown, hbel⟩ := hrel
    by_cases hlt : k < n
    · have HOwn := Lib.hid hown
      have HBel := Lib.hid hbel
      have hsz := hbel.size
      clear hown hbel
      go_wp2_with fail
      refine (rworth_any _ _ n m _ _ v d k k _ (HM.out.keep HBel.out) (HD.out.keep HBel.out) HB.out hm hlt hn).mono ?_
      rintro e w' ⟨rfl, rfl⟩
      have hxx : wTo (v k) d k m = wrt v m d k := rfl
      rw [hxx]
      clear hxx
      go_wp2_with (at_builtin; go_loud (refine wpList_append_own _ rfl _ _ 23 rfl w.heap.size 3 i0 (.int .i64 0) 1 8 Try.underlying23 hi hz0 hz1 hz2 rfl (by decide) _ _ _ rfl (World.ownsRow.alloc HOwn.out _) ⟨wr.heap.size, 0, none⟩ 1 1 [.int .i64 (wrt v m d k)] rfl rfl (news1 _ _ _) (one1 rfl) (by simp only [lst_len]; unfold maxLen; omega) (by simp only [lst_len]; omega) (by simp; omega) ?_))
      intro v' w2 hown2 hgrow2 _
      have HO2 := Lib.hid hown2
      have HG2 := Lib.hid hgrow2
      clear hown2 hgrow2
      go_wp2
      go_roundw
      case rel =>
        refine ⟨k + 1, by omega, by go_num, ?_, ?_⟩
        · unfold OwnL
          rw [lst_succ]
          simpa [lst_len] using HO2.out
        · refine (HBel.out.alloc hsz _).grown HG2.out (by simp; omega) ?_
          intro g hg
          exact (World.ownsRow.lt HOwn.out g hg).1
      case measure => simp [intOf]; omega
    · obtain rfl : k = n := by omega
      go_wp2
      go_ret
      exact ⟨_, rfl, hown, hbel⟩

end Go.Proofs.Ytkgikehagkpmoaa
