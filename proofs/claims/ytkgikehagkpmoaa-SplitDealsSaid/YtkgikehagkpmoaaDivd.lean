import Derived.Test.YtkgikehagkpmoaaRef1
import Derived.Test.YtkgikehagkpmoaaAwake
import Derived.Test.YtkgikehagkpmoaaOkFew
namespace Go.Proofs.Ytkgikehagkpmoaa
open Go.RowKit

set_option maxRecDepth 1000000 in
theorem divided_any (A D : Option Addr) (n c nd cd : Nat) (L : Nat → Nat) (v : Nat → Nat → Int) (d : Nat → Int) (w : World) (h : ArgR w A n c L v) (hd : ArgI w D nd cd d) :
    Calls Try.prog 34 #[.slice A n c, .slice D nd cd] w fun e w' => e = .returned (.bool (okDiv n L v nd d)) ∧ w = w' := by
  cases ho : okVals n L v with
  | false =>
    have HO := Lib.hid ho
    have HE : Hid (okDiv n L v nd d = false) := Lib.hid (by simp [okDiv, ho])
    clear ho
    go_enter Try.func34, Try.ntmps34
    go_wp2_with fail
    refine (rvalid_any _ _ _ _ _ _ h).mono ?_
    rintro e w' ⟨rfl, rfl⟩
    rw [HO.out]
    go_wp2
    go_ret
    exact ⟨ret_bool HE.out.symm, rfl⟩
  | true =>
    obtain ⟨h1, h2, -⟩ := okVals_of ho
    have HO := Lib.hid ho
    have HE : Hid (okDiv n L v nd d = divB n nd L d) := Lib.hid (by simp only [okDiv, ho, Bool.true_and, divB])
    have HR := Lib.hid h.rows
    have HN : Hid (nd ≤ 9223372036854775807) := Lib.hid (Nat.le_trans hd.1 hd.2.1)
    clear ho
    go_enter Try.func34, Try.ntmps34
    go_wp2_with fail
    refine (rvalid_any _ _ _ _ _ _ h).mono ?_
    rintro e w' ⟨rfl, rfl⟩
    rw [HO.out]
    go_wp2_with fail
    refine (rdivision_any _ _ _ _ _ _ L v d _ HR.out h1 h2 hd.2.2.2 HN.out).mono ?_
    rintro e w' ⟨rfl, rfl⟩
    go_wp2
    go_ret
    exact ⟨ret_bool HE.out.symm, rfl⟩

end Go.Proofs.Ytkgikehagkpmoaa
