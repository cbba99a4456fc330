import Derived.Test.YtkgikehagkpmoaaT5
import Derived.Test.YtkgikehagkpmoaaNash
namespace Go.Proofs.Ytkgikehagkpmoaa
open Go.RowKit

theorem ret_tb {a b : Bool} {x : Value} (h : a = b) : Ending.returned (.tuple #[.bool a, x]) = .returned (.tuple #[.bool b, x]) := by rw [h]

/-- Person i's envy of j, of n people and m goods, that the kind does not allow. -/
def badP (m : Nat) (v : Nat → Nat → Int) (d : Nat → Int) (i : Nat) (kind : Int) (j : Nat) : Bool := envB m v d i j && !excB m (v i) d i j kind
def fairToB (n m : Nat) (v : Nat → Nat → Int) (d : Nat → Int) (kind : Int) (i : Nat) : Bool :=
  if kind = 3 then enoughB n m (v i) d i else if kind = 4 then enoughB n m (v i) d i || anyB (oneP n m (v i) d i) m else !anyB (badP m v d i kind) n

set_option maxHeartbeats 1000000 in
set_option maxRecDepth 1000000 in
theorem fairTo_any (A D : Option Addr) (n m c c' : Nat) (v : Nat → Nat → Int) (d : Nat → Int) (i : Nat) (kind : Int) (w : World) (h : Mat w A n m v) (hd : Ints w D m d) (hb : BdM n m v 100000) (hm : m ≤ 9) (hi : i < n) (hn : n ≤ 9) :
    Ro 59 #[.slice A n c, .slice D m c', .int .i64 i, .int .i64 kind] w (.bool (fairToB n m v d kind i)) := by
  refine Ro.of ?_
  obtain ⟨b, o, R, cR, rfl, hc, hR⟩ := h.at hi
  have HB := Lib.hid (hb i hi)
  have HBM := Lib.hid hb
  clear hb
  by_cases k3 : kind = 3
  · have hB := beq_t k3
    have HF : Hid (fairToB n m v d kind i = enoughB n m (v i) d i) := Lib.hid (by simp [fairToB, k3])
    clear k3
    go_enter Try.func59, Try.ntmps59
    go_wp2_with fail
    refine (enough_any _ _ m _ _ _ _ _ _ _ hR hd HB.out hm (by omega) (by omega)).mono ?_
    rintro e w' ⟨rfl, rfl⟩
    go_wp2
    go_ret
    exact ⟨ret_bool HF.out.symm, Dn.refl _⟩
  · by_cases k4 : kind = 4
    · have hB := beq_f k3
      have hB4 := beq_t k4
      have HF : Hid (fairToB n m v d kind i = (enoughB n m (v i) d i || anyB (oneP n m (v i) d i) m)) := Lib.hid (by simp [fairToB, k4])
      clear k3 k4
      go_enter Try.func59, Try.ntmps59
      go_wp2_with fail
      refine (enough_any _ _ m _ _ _ _ _ _ _ hR hd HB.out hm (by omega) (by omega)).mono ?_
      rintro e w' ⟨rfl, rfl⟩
      cases he : enoughB n m (v i) d i with
      | true =>
        have HE := Lib.hid he
        clear he
        go_wp2
        go_ret
        exact ⟨ret_bool (by rw [HF.out, HE.out]; rfl), Dn.refl _⟩
      | false =>
        have HE := Lib.hid he
        clear he
        go_wp2_with fail
        refine (oneIsEnough_any _ _ m _ _ _ _ _ _ _ hR hd HB.out hm (by omega) (by omega)).mono ?_
        rintro e w' ⟨rfl, rfl⟩
        go_wp2
        go_ret
        exact ⟨ret_bool (by rw [HF.out, HE.out]; rfl), Dn.refl _⟩
    · have hB := beq_f k3
      have hB4 := beq_f k4
      have HF : Hid (fairToB n m v d kind i = !anyB (badP m v d i kind) n) := Lib.hid (by simp [fairToB, k3, k4])
      clear k3 k4
      go_enter Try.func59, Try.ntmps59
      go_wp2
      go_loopw [46] (fun x wr => ∃ k : Nat, k ≤ n ∧ x = .int .i64 k ∧ NoneLt (badP m v d i kind) k ∧ Dn w wr) (fun x _ => n - (intOf x).toNat)
      case atStart => exact ⟨0, Nat.zero_le _, rfl, NoneLt.zero, Dn.refl _⟩
      case round =>
        obtain ⟨k, hk, rfl, hN, hD⟩ := hrel
        by_cases hlt : k < n
        · have hc' : wr.cell? ⟨b, o + i, none⟩ = some (.slice R m cR) := by obtain ⟨q, rfl⟩ := hD; exact hc
          go_wp2_with fail
          refine Ro.use (envies_any _ _ n m _ _ v d i k _ (h.dn hD) (hd.dn hD) HBM.out hm hi hn) ?_
          intro w2 hD2
          have hc2 : w2.cell? ⟨b, o + i, none⟩ = some (.slice R m cR) := by obtain ⟨q, rfl⟩ := hD2; exact hc'
          cases he : envB m v d i k with
          | false =>
            have HE : Hid (badP m v d i kind k = false) := Lib.hid (by simp [badP, he])
            clear he hc'
            go_wp2
            go_roundw
            case rel => exact ⟨k + 1, by omega, by go_num, hN.succ HE.out, hD.trans hD2⟩
            case measure => simp [intOf]; omega
          | true =>
            have HE := Lib.hid he
            clear he hc'
            go_wp2_with fail
            refine (excused_any _ _ m _ _ _ _ _ _ _ _ ((hR.dn hD).dn hD2) ((hd.dn hD).dn hD2) HB.out hm).mono ?_
            rintro e w' ⟨rfl, rfl⟩
            cases hx : excB m (v i) d i k kind with
            | true =>
              have HX : Hid (badP m v d i kind k = false) := Lib.hid (by simp [badP, hx])
              clear hx
              go_wp2
              go_roundw
              case rel => exact ⟨k + 1, by omega, by go_num, hN.succ HX.out, hD.trans hD2⟩
              case measure => simp [intOf]; omega
            | false =>
              have HX : Hid (badP m v d i kind k = true) := Lib.hid (by simp [badP, hx, HE.out])
              clear hx
              go_wp2
              go_ret
              exact ⟨ret_bool (by rw [HF.out, anyB_t hlt HX.out]; rfl), hD.trans hD2⟩
        · obtain rfl : k = n := by omega
          go_wp2
          go_ret
          exact ⟨ret_bool (by rw [HF.out, anyB_f hN]; rfl), hD⟩

theorem okDiv_of {n md : Nat} {L : Nat → Nat} {v : Nat → Nat → Int} {d : Nat → Int} (h : okDiv n L v md d = true) : okVals n L v = true ∧ md = L 0 ∧ Own n md d := by
  simp only [okDiv, Bool.and_eq_true, decide_eq_true_eq] at h
  exact ⟨h.1, h.2.1, h.2.2⟩

theorem Fair_bad (A D : Option Addr) (n c md c' : Nat) (L : Nat → Nat) (v : Nat → Nat → Int) (d : Nat → Int) (kind : Int) (w : World) (h : Rows2 w A n L v) (hd : Ints w D md d) (hn : n ≤ 9) (hL : Short n L) (hmd : md ≤ 9)
    (hbad : okDiv n L v md d = false ∨ kind < 0 ∨ 5 ≤ kind) :
    Ro 30 #[.slice A n c, .slice D md c', .int .i64 kind] w (.tuple #[.bool false, .int .i64 2]) := by
  refine Ro.same ?_
  cases ho : okDiv n L v md d with
  | false =>
    have HO := Lib.hid ho
    clear ho hbad
    go_enter Try.func30, Try.ntmps30
    go_wp2_with fail
    refine (validDivision_any _ _ _ _ _ _ _ _ _ _ h hd hn hL hmd).mono ?_
    rintro e w' ⟨rfl, rfl⟩
    rw [HO.out]
    go_wp2
    go_ret2
    exact ⟨rfl, rfl⟩
  | true =>
    have hk : kind < 0 ∨ 5 ≤ kind := by simpa [ho] using hbad
    have HO := Lib.hid ho
    clear ho hbad
    rcases hk with hk | hk
    · go_enter Try.func30, Try.ntmps30
      go_wp2_with fail
      refine (validDivision_any _ _ _ _ _ _ _ _ _ _ h hd hn hL hmd).mono ?_
      rintro e w' ⟨rfl, rfl⟩
      rw [HO.out]
      go_wp2
      go_ret2
      exact ⟨rfl, rfl⟩
    · go_enter Try.func30, Try.ntmps30
      go_wp2_with fail
      refine (validDivision_any _ _ _ _ _ _ _ _ _ _ h hd hn hL hmd).mono ?_
      rintro e w' ⟨rfl, rfl⟩
      rw [HO.out]
      go_wp2
      go_ret2
      exact ⟨rfl, rfl⟩

set_option maxHeartbeats 1000000 in
theorem Fair_ok (A D : Option Addr) (n c md c' : Nat) (L : Nat → Nat) (v : Nat → Nat → Int) (d : Nat → Int) (kind : Int) (w : World) (h : Rows2 w A n L v) (hd : Ints w D md d) (hn : n ≤ 9) (hL : Short n L) (hmd : md ≤ 9)
    (hok : okDiv n L v md d = true) (hk0 : 0 ≤ kind) (hk5 : kind ≤ 4) :
    Ro 30 #[.slice A n c, .slice D md c', .int .i64 kind] w (.tuple #[.bool (allB (fairToB n md v d kind) n), .int .i64 0]) := by
  refine Ro.of ?_
  obtain ⟨hv, hmL, hown⟩ := okDiv_of hok
  obtain ⟨h1, h2, h3, h4, h5, h6⟩ := okVals_of hv
  have HM := okVals_mat h hv
  rw [← hmL] at HM h6
  have HO := Lib.hid hok
  have H6 := Lib.hid (h6.le (show (100 : Int) ≤ 100000 by omega))
  clear hok hmL h3 h4 h5 h6 hv hown
  go_enter Try.func30, Try.ntmps30
  go_wp2_with fail
  refine (validDivision_any _ _ _ _ _ _ _ _ _ _ h hd hn hL hmd).mono ?_
  rintro e w' ⟨rfl, rfl⟩
  rw [HO.out]
  go_wp2
  go_loopw [23] (fun x wr => ∃ k : Nat, k ≤ n ∧ x = .int .i64 k ∧ AllLt (fairToB n md v d kind) k ∧ Dn w wr) (fun x _ => n - (intOf x).toNat)
  case atStart => exact ⟨0, Nat.zero_le _, rfl, AllLt.zero, Dn.refl _⟩
  case round =>
    obtain ⟨k, hk, rfl, hA, hD⟩ := hrel
    by_cases hlt : k < n
    · go_wp2_with fail
      refine Ro.use (fairTo_any _ _ n md _ _ v d k kind _ (HM.dn hD) (hd.dn hD) H6.out hmd hlt hn) ?_
      intro w2 hD2
      cases he : fairToB n md v d kind k with
      | true =>
        have HE := Lib.hid he
        clear he
        go_wp2
        go_roundw
        case rel => exact ⟨k + 1, by omega, by go_num, hA.succ HE.out, hD.trans hD2⟩
        case measure => simp [intOf]; omega
      | false =>
        have HE := Lib.hid he
        clear he
        go_wp2
        go_ret2
        exact ⟨ret_tb (allB_f hlt HE.out).symm, hD.trans hD2⟩
    · obtain rfl : k = n := by omega
      go_wp2
      go_ret2
      exact ⟨ret_tb (allB_t hA).symm, hD⟩
end Go.Proofs.Ytkgikehagkpmoaa
