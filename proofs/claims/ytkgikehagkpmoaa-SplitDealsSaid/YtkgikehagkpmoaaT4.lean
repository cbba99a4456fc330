import Derived.Test.YtkgikehagkpmoaaT3
namespace Go.Proofs.Ytkgikehagkpmoaa
open Go.RowKit

/-- Person i envies person j: m goods. -/
def envB (m : Nat) (v : Nat → Nat → Int) (d : Nat → Int) (i : Nat) (j : Int) : Bool := decide (wTo (v i) d i m < wTo (v i) d j m)

theorem envies_any (A D : Option Addr) (n m c c' : Nat) (v : Nat → Nat → Int) (d : Nat → Int) (i : Nat) (j : Int) (w : World) (h : Mat w A n m v) (hd : Ints w D m d) (hb : BdM n m v 100000) (hm : m ≤ 9) (hi : i < n) (_hn : n ≤ 9) :
    Ro 60 #[.slice A n c, .slice D m c', .int .i64 i, .int .i64 j] w (.bool (envB m v d i j)) := by
  refine Ro.of ?_
  obtain ⟨b, o, R, cR, rfl, hc, hR⟩ := h.at hi
  have HB := Lib.hid (hb i hi)
  have hi0 : (0 : Int) ≤ i := by omega
  have hi1 : (i : Int) < n := by omega
  clear hb
  go_enter Try.func60, Try.ntmps60
  go_wp2_with fail
  go_quiet ((go_at_call 80; exact Ro.quiet (Ro.same (worthOf_any _ _ _ _ _ _ _ _ _ hR hd HB.out hm))))
  go_wp2
  go_ret
  exact ⟨rfl, (Dn.refl _).drewN _⟩

/-- i has at least the n-th part of the worth of all goods. -/
def enoughB (n : Int) (m : Nat) (f d : Nat → Int) (i : Int) : Bool := decide (sumTo f m ≤ n * wTo f d i m)

theorem enough_any (A D : Option Addr) (m c c' : Nat) (f d : Nat → Int) (i n : Int) (w : World) (h : Ints w A m f) (hd : Ints w D m d) (hb : Bd m f 100000) (hm : m ≤ 9) (h0 : 0 ≤ n) (hn : n ≤ 9) :
    Calls Try.prog 77 #[.slice A m c, .slice D m c', .int .i64 i, .int .i64 n] w fun e w' => e = .returned (.bool (enoughB n m f d i)) ∧ w = w' := by
  obtain ⟨h1, h2⟩ := wTo_bd hb d i m (Nat.le_refl _)
  obtain ⟨h3, h4⟩ := sumTo_bd hb m (Nat.le_refl _)
  have h5 : 0 ≤ n * wTo f d i m := Int.mul_nonneg h0 h1
  have h6 : n * wTo f d i m ≤ 9 * 900000 := Int.mul_le_mul hn (by omega) h1 (by omega)
  have HB := Lib.hid hb
  go_enter Try.func77, Try.ntmps77
  go_wp2_with fail
  refine (worthOf_any _ _ _ _ _ _ _ _ _ h hd HB.out hm).mono ?_
  rintro e w' ⟨rfl, rfl⟩
  go_wp2_with fail
  refine (sumOf_any _ _ _ _ _ h HB.out hm).mono ?_
  rintro e w' ⟨rfl, rfl⟩
  go_wp2
  go_ret
  exact ⟨rfl, rfl⟩
end Go.Proofs.Ytkgikehagkpmoaa
