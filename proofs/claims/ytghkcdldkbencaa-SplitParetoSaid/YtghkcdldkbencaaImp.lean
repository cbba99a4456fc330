import Derived.Test.YtghkcdldkbencaaRef1
import Derived.Test.YtghkcdldkbencaaAppAny
import Derived.Test.YtghkcdldkbencaaGr2
namespace Go.Proofs.Ytghkcdldkbencaa
open Go.RowKit

def leP (f g : Nat → Int) (i : Nat) : Bool := decide (g i ≤ f i)
def gtP (f g : Nat → Int) (i : Nat) : Bool := decide (g i < f i)
/-- f is nowhere less than g, and somewhere more. -/
def impB (n : Nat) (f g : Nat → Int) : Bool := allB (leP f g) n && anyB (gtP f g) n

set_option maxHeartbeats 1000000 in
theorem improves_any (A B : Option Addr) (n c c' : Nat) (f g : Nat → Int) (w : World) (hf : Ints w A n f) (hg : Ints w B n g) (hn : n ≤ 9) :
    Ro 74 #[.slice A n c, .slice B n c'] w (.bool (impB n f g)) := by
  refine Ro.of ?_
  go_enter Try.func74, Try.ntmps74
  go_wp2
  go_loopw [5, 9] (fun s x wr => ∃ k : Nat, k ≤ n ∧ x = .int .i64 k ∧ s = .bool (anyB (gtP f g) k) ∧ AllLt (leP f g) k ∧ Dn w wr) (fun _ x _ => n - (intOf x).toNat)
  case atStart => exact ⟨0, Nat.zero_le _, rfl, rfl, AllLt.zero, Dn.refl _⟩
  case round =>
    obtain ⟨k, hk, rfl, rfl, hA, hD⟩ := hrel
    by_cases hlt : k < n
    · obtain ⟨b, o, rfl, hc⟩ := (hf.dn hD).at hlt
      obtain ⟨b', o', rfl, hc'⟩ := (hg.dn hD).at hlt
      have hk0 : (0 : Int) ≤ k := by omega
      have hk1 : (k : Int) < n := by omega
      by_cases h1 : f k < g k
      · have HE : Hid (impB n f g = false) := Lib.hid (by simp only [impB]; rw [allB_f hlt (by simp [leP]; omega)]; rfl)
        go_wp2
        go_quiet (fail)
        go_wp2
        go_ret
        exact ⟨ret_bool HE.out.symm, hD.drewN _⟩
      · have HL : Hid (leP f g k = true) := Lib.hid (by simp [leP]; omega)
        cases ha : anyB (gtP f g) k with
        | true =>
          have HA : Hid (anyB (gtP f g) (k + 1) = true) := Lib.hid (by simp [anyB, ha])
          clear ha
          go_wp2
          go_quiet (fail)
          go_wp2
          go_quiet (fail)
          go_wp2
          go_roundw
          case rel => exact ⟨k + 1, by omega, by go_num, val_bool HA.out.symm, hA.succ HL.out, hD.drewN _⟩
          case measure => simp [intOf]; omega
        | false =>
          by_cases h2 : g k < f k
          · have HA : Hid (anyB (gtP f g) (k + 1) = true) := Lib.hid (by simp [anyB, ha, gtP, h2])
            clear ha
            go_wp2
            go_quiet (fail)
            go_wp2
            go_quiet (fail)
            go_wp2
            go_roundw
            case rel => exact ⟨k + 1, by omega, by go_num, val_bool HA.out.symm, hA.succ HL.out, hD.drewN _⟩
            case measure => simp [intOf]; omega
          · have HA : Hid (anyB (gtP f g) (k + 1) = false) := Lib.hid (by simp [anyB, ha, gtP]; omega)
            clear ha
            go_wp2
            go_quiet (fail)
            go_wp2
            go_quiet (fail)
            go_wp2
            go_roundw
            case rel => exact ⟨k + 1, by omega, by go_num, val_bool (by rw [HA.out]; exact decide_eq_false (by omega)), hA.succ HL.out, hD.drewN _⟩
            case measure => simp [intOf]; omega
    · obtain rfl : k = n := by omega
      have HE : Hid (impB k f g = anyB (gtP f g) k) := Lib.hid (by simp [impB, allB_t hA])
      go_wp2
      go_ret
      exact ⟨ret_bool HE.out.symm, hD⟩

set_option maxHeartbeats 1000000 in
set_option maxRecDepth 1000000 in
theorem rown_any (A D : Option Addr) (n m c c' : Nat) (v : Nat → Nat → Int) (d : Nat → Int) (w : World) (h : Mat w A n m v) (hd : Ints w D m d) (hb : BdM n m v 100000) (hm : m ≤ 9) (hn : n ≤ 9) :
    Calls Try.prog 68 #[.slice A n c, .slice D m c'] w fun e w' => ∃ x, e = .returned x ∧ OwnL w' w.heap.size x (lst n (wrt v m d)) ∧ Below w.heap.size w w' := by
  obtain ⟨i0, hi, hz0, hz1, hz2⟩ := info_parts infoInt
  have HM := Lib.hid h
  have HD := Lib.hid hd
  have HB := Lib.hid hb
  clear h hd hb
  go_enter Try.func68, Try.ntmps68
  go_wp2
  go_loopw [5, 9] (fun s x wr => ∃ k : Nat, k ≤ n ∧ x = .int .i64 k ∧ OwnL wr w.heap.size s (lst k (wrt v m d)) ∧ Below w.heap.size w wr) (fun _ x _ => n - (intOf x).toNat)
  case atStart => exact ⟨0, Nat.zero_le _, rfl, OwnL.nil_ _ _, Below.refl _ _⟩
  case round =>
    obtain ⟨k, hk, rfl, hown, hbel⟩ := hrel
    by_cases hlt : k < n
    · have HOwn := Lib.hid hown
      have HBel := Lib.hid hbel
      have hsz := hbel.size
      clear hown hbel
      go_wp2_with fail
      refine (rworth_any _ _ n m _ _ v d k k _ (HM.out.keep HBel.out) (HD.out.keep HBel.out) HB.out hm hlt hn).mono ?_
      rintro e w' ⟨rfl, rfl⟩
      have hxx : wTo (v k) d k m = wrt v m d k := rfl
      rw [hxx]
      clear hxx
      go_wp2_with (at_builtin; go_loud (refine wpList_append_own _ rfl _ _ 23 rfl w.heap.size 3 i0 (.int .i64 0) 1 8 Try.underlying23 hi hz0 hz1 hz2 rfl (by decide) _ _ _ rfl (World.ownsRow.alloc HOwn.out _) ⟨wr.heap.size, 0, none⟩ 1 1 [.int .i64 (wrt v m d k)] rfl rfl (news1 _ _ _) (one1 rfl) (by simp only [lst_len]; unfold maxLen; omega) (by simp only [lst_len]; omega) (by simp; omega) ?_))
      intro v' w2 hown2 hgrow2 _
      have HO2 := Lib.hid hown2
      have HG2 := Lib.hid hgrow2
      clear hown2 hgrow2
      go_wp2
      go_roundw
      case rel =>
        refine ⟨k + 1, by omega, by go_num, ?_, ?_⟩
        · unfold OwnL
          rw [lst_succ]
          simpa [lst_len] using HO2.out
        · refine (HBel.out.alloc hsz _).grown HG2.out (by simp; omega) ?_
          intro g hg
          exact (World.ownsRow.lt HOwn.out g hg).1
      case measure => simp [intOf]; omega
    · obtain rfl : k = n := by omega
      go_wp2
      go_ret
      exact ⟨_, rfl, hown, hbel⟩

set_option maxHeartbeats 1000000 in
set_option maxRecDepth 1000000 in
theorem rbetter_is (A D E : Option Addr) (n m c c' c2 : Nat) (v : Nat → Nat → Int) (d e' : Nat → Int) (w : World) (h : Mat w A n m v) (hd : Ints w D m d) (he : Ints w E m e') (hb : BdM n m v 100000) (hm : m ≤ 9) (hn : n ≤ 9) :
    Calls Try.prog 75 #[.slice A n c, .slice D m c', .slice E m c2] w fun e w' => e = .returned (.bool (impB n (wrt v m d) (wrt v m e'))) ∧ Below w.heap.size w w' := by
  have HM := Lib.hid h
  have HD := Lib.hid hd
  have HE' := Lib.hid he
  have HB := Lib.hid hb
  clear h hd hb he
  go_enter Try.func75, Try.ntmps75
  go_wp2_with fail
  refine (rown_any _ _ n m _ _ v d _ HM.out HD.out HB.out hm hn).mono ?_
  rintro e w1 ⟨x, rfl, hx, hb1⟩
  obtain ⟨A1, c1, rfl, hI1⟩ := hx.sl0'
  have Hb1 := Lib.hid hb1
  have HX1 := Lib.hid hI1
  clear hx hb1 hI1
  go_wp2_with fail
  refine (rown_any _ _ n m _ _ v e' _ (HM.out.keep Hb1.out) (HE'.out.keep Hb1.out) HB.out hm hn).mono ?_
  rintro e w2 ⟨y, rfl, hy, hb2⟩
  obtain ⟨A2, c2', rfl, hI2⟩ := hy.sl0'
  have Hb2 := Lib.hid (Hb1.out.trans (hb2.mono Hb1.out.size))
  have HX2 := Lib.hid (HX1.out.keep hb2)
  have HY2 := Lib.hid hI2
  clear hy hb2 hI2 HX1
  go_wp2
  go_loopw [7, 19] (fun s x wr => ∃ k : Nat, k ≤ n ∧ x = .int .i64 k ∧ s = .bool (anyB (gtP (wrt v m d) (wrt v m e')) k) ∧ AllLt (leP (wrt v m d) (wrt v m e')) k ∧ Dn w2 wr) (fun _ x _ => n - (intOf x).toNat)
  case atStart => exact ⟨0, Nat.zero_le _, rfl, rfl, AllLt.zero, Dn.refl _⟩
  case round =>
    obtain ⟨k, hk, rfl, rfl, hA, hD⟩ := hrel
    by_cases hlt : k < n
    · obtain ⟨b, o, rfl, hc⟩ := (HX2.out.dn hD).at hlt
      obtain ⟨b', o', rfl, hc'⟩ := (HY2.out.dn hD).at hlt
      have hk0 : (0 : Int) ≤ k := by omega
      have hk1 : (k : Int) < n := by omega
      by_cases h1 : wrt v m d k < wrt v m e' k
      · have HE : Hid (impB n (wrt v m d) (wrt v m e') = false) := Lib.hid (by simp only [impB]; rw [allB_f hlt (by simp [leP]; omega)]; rfl)
        go_wp2
        go_quiet (fail)
        go_wp2
        go_ret
        exact ⟨ret_bool HE.out.symm, Hb2.out.trans ((hD.drewN _).below _)⟩
      · have HL : Hid (leP (wrt v m d) (wrt v m e') k = true) := Lib.hid (by simp [leP]; omega)
        cases ha : anyB (gtP (wrt v m d) (wrt v m e')) k with
        | true =>
          have HA : Hid (anyB (gtP (wrt v m d) (wrt v m e')) (k + 1) = true) := Lib.hid (by simp [anyB, ha])
          clear ha
          go_wp2
          go_quiet (fail)
          go_wp2
          go_quiet (fail)
          go_wp2
          go_roundw
          case rel => exact ⟨k + 1, by omega, by go_num, val_bool HA.out.symm, hA.succ HL.out, hD.drewN _⟩
          case measure => simp [intOf]; omega
        | false =>
          by_cases h2 : wrt v m e' k < wrt v m d k
          · have HA : Hid (anyB (gtP (wrt v m d) (wrt v m e')) (k + 1) = true) := Lib.hid (by simp [anyB, ha, gtP, h2])
            clear ha
            go_wp2
            go_quiet (fail)
            go_wp2
            go_quiet (fail)
            go_wp2
            go_roundw
            case rel => exact ⟨k + 1, by omega, by go_num, val_bool HA.out.symm, hA.succ HL.out, hD.drewN _⟩
            case measure => simp [intOf]; omega
          · have HA : Hid (anyB (gtP (wrt v m d) (wrt v m e')) (k + 1) = false) := Lib.hid (by simp [anyB, ha, gtP]; omega)
            clear ha
            go_wp2
            go_quiet (fail)
            go_wp2
            go_quiet (fail)
            go_wp2
            go_roundw
            case rel => exact ⟨k + 1, by omega, by go_num, val_bool (by rw [HA.out]; exact decide_eq_false (by omega)), hA.succ HL.out, hD.drewN _⟩
            case measure => simp [intOf]; omega
    · obtain rfl : k = n := by omega
      have HE : Hid (impB k (wrt v m d) (wrt v m e') = anyB (gtP (wrt v m d) (wrt v m e')) k) := Lib.hid (by simp [impB, allB_t hA])
      go_wp2
      go_ret
      exact ⟨ret_bool HE.out.symm, Hb2.out.trans (hD.below _)⟩
end Go.Proofs.Ytghkcdldkbencaa
