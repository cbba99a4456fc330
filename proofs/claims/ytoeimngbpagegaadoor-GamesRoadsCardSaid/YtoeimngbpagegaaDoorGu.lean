/- Orders and Join: the program's and the reference's. -/
import Derived.Test.YtoeimngbpagegaaDoorGg
import Derived.Test.YtoeimngbpagegaaDoorGi
import Derived.Test.YtoeimngbpagegaaDoorIdx
namespace Go.Proofs.YtoeimngbpagegaaDoor
open Go.RowKit

theorem hasG_iff (f : Nat → Int) (x : Int) (k : Nat) : hasB f x k = true ↔ ∃ j, j < k ∧ f j = x := by
  unfold hasB
  rw [decide_eq_true_iff]
  rcases idxI_cases f x k with ⟨e, h⟩ | ⟨j, hj, e, h1, h2⟩
  · rw [e]
    exact ⟨fun h => absurd h (by omega), fun ⟨j, h1, h2⟩ => absurd h2 (h j h1)⟩
  · rw [e]
    exact ⟨fun _ => ⟨j, hj, h1⟩, fun _ => by omega⟩
/-- An order of n: each once. -/
def orP (O : Nat → Int) (n j : Nat) : Bool := wtB (O j) 0 ((n : Int) - 1) && !(hasB O (O j) j)
def isOr (m : Nat) (O : Nat → Int) (n : Nat) : Bool := decide (m = n) && allB (orP O n) m
theorem isOr_min (m : Nat) (O : Nat → Int) (n : Nat) (hn : n ≤ 4) : isOr (min m 18) O n = isOr m O n := by
  by_cases h : m ≤ 18
  · rw [Nat.min_eq_left h]
  · unfold isOr
    rw [decide_eq_false (show ¬ min m 18 = n by omega), decide_eq_false (show ¬ m = n by omega), Bool.false_and, Bool.false_and]
set_option maxHeartbeats 1000000 in
set_option maxRecDepth 1000000 in
theorem isOrder_any (A : Option Addr) (m c n : Nat) (O : Nat → Int) (w : World) (h : ArgI w A m c O) (hm : m ≤ 18) (hn : 1 ≤ n ∧ n ≤ 4) :
    Calls Tryd.prog 67 #[.slice A m c, .int .i64 n] w fun e w' => e = .returned (.bool (isOr m O n)) ∧ w = w' := by
  obtain ⟨hn1, hn4⟩ := hn
  by_cases e : m = n
  · subst e
    have H := Lib.hid h.2.2.2
    have hmc := h.1
    have HE : Hid (isOr m O m = allB (orP O m) m) := Lib.hid (by unfold isOr; simp)
    have HNo : Hid (∀ j, j < m → orP O m j = false → isOr m O m = false) := Lib.hid (fun j hj h => by rw [HE.out, allB_f hj h])
    have HYes : Hid (AllLt (orP O m) m → isOr m O m = true) := Lib.hid (fun h => by rw [HE.out, allB_t h])
    have HP : Hid (∀ j, orP O m j = (wtB (O j) 0 ((m : Int) - 1) && !(hasB O (O j) j))) := Lib.hid (fun _ => rfl)
    have hq := bne_f (a := (m : Int)) rfl
    clear h
    go_enter Tryd.func67, Tryd.ntmps67
    go_wp2
    go_loop [13] (fun i => ∃ j : Nat, j ≤ m ∧ i = .int .i64 j ∧ AllLt (orP O m) j) (fun i => m - (intOf i).toNat)
    case atStart => exact ⟨0, Nat.zero_le _, rfl, AllLt.zero⟩
    case round =>
      obtain ⟨j, hj, rfl, hA⟩ := hrel
      have HA := Lib.hid hA
      clear hA
      by_cases hlt : j < m
      · obtain ⟨b, o, rfl, hc⟩ := H.out.at hlt
        have HCt := Lib.hid (fun w2 (hI : Ints w2 (some ⟨b, o, none⟩) j O) => contains_any (some ⟨b, o, none⟩) j c O (O j) w2 hI (by omega))
        have HIj := Lib.hid (fun _ : 0 < j => (⟨b, o, rfl, fun k hk => H.out.cell (show k < m by omega)⟩ : ∃ b' o', some (⟨b, o, none⟩ : Addr) = some ⟨b', o', none⟩ ∧ ∀ k, k < j → w.cell? ⟨b', o' + k, none⟩ = some (.int .i64 (O k))))
        have HPj := Lib.hid (HP.out j)
        have HN := Lib.hid (HNo.out j hlt)
        have HS := Lib.hid (fun h => HA.out.succ (p := orP O m) h)
        cases hw : wtB (O j) 0 ((m : Int) - 1) with
        | false =>
          have HW := Lib.hid (fun w => within_at (O j) 0 ((m : Int) - 1) false hw w)
          have HZ := Lib.hid (HN.out (by rw [HPj.out, hw]; rfl))
          clear hw
          generalize O j = x at *
          go_wp2_with fail
          refine (HW.out w).mono ?_
          rintro e w' ⟨rfl, rfl⟩
          go_wp2
          go_ret
          exact ⟨ret_bool HZ.out.symm, rfl⟩
        | true =>
          have HW := Lib.hid (fun w => within_at (O j) 0 ((m : Int) - 1) true hw w)
          cases hh : hasB O (O j) j with
          | true =>
            have HZ := Lib.hid (HN.out (by rw [HPj.out, hh]; simp))
            have HC2 := Lib.hid (HCt.out w HIj.out)
            rw [hh] at HC2
            clear hw hh
            generalize O j = x at *
            go_wp2_with fail
            refine (HW.out w).mono ?_
            rintro e w' ⟨rfl, rfl⟩
            go_wp2_with fail
            refine HC2.out.mono ?_
            rintro e w' ⟨rfl, rfl⟩
            go_wp2
            go_ret
            exact ⟨ret_bool HZ.out.symm, rfl⟩
          | false =>
            have HZ := Lib.hid (HS.out (by rw [HPj.out, hw, hh]; rfl))
            have HC2 := Lib.hid (HCt.out w HIj.out)
            rw [hh] at HC2
            clear hw hh
            generalize O j = x at *
            go_wp2_with fail
            refine (HW.out w).mono ?_
            rintro e w' ⟨rfl, rfl⟩
            go_wp2_with fail
            refine HC2.out.mono ?_
            rintro e w' ⟨rfl, rfl⟩
            go_wp2
            go_round
            case rel => exact ⟨j + 1, by omega, by go_num, HZ.out⟩
            case measure => simp [intOf]; omega
      · obtain rfl : j = m := by omega
        have HZ := Lib.hid (HYes.out HA.out)
        go_wp2
        go_ret
        exact ⟨ret_bool HZ.out.symm, rfl⟩
  · have hq := bne_t (a := (m : Int)) (b := (n : Int)) (by omega)
    have HZ : Hid (isOr m O n = false) := Lib.hid (by unfold isOr; rw [decide_eq_false e]; rfl)
    clear e h
    go_enter Tryd.func67, Tryd.ntmps67
    go_wp2
    go_ret
    exact ⟨ret_bool HZ.out.symm, rfl⟩

/-- Who stands before place j. -/
def jnS (O : Nat → Int) : Nat → Nat
  | 0 => 0
  | j + 1 => jnS O j ||| 2 ^ (O j).toNat
theorem inS_or : ∀ s, s < 16 → ∀ p, p < 4 → ∀ x, x < 4 → inS (s ||| 2 ^ p) x = (inS s x || decide (p = x)) := by decide
theorem jnS_lt {O : Nat → Int} {n : Nat} : ∀ j, (∀ i, i < j → 0 ≤ O i ∧ O i < n) → jnS O j < 2 ^ n := by
  intro j
  induction j with
  | zero => intro _; exact Nat.pow_pos (by omega)
  | succ j ih =>
    intro h
    have := h j (by omega)
    exact Nat.or_lt_two_pow (ih (fun i hi => h i (by omega))) (Nat.pow_lt_pow_right (by omega) (by omega))
theorem jnS_has {O : Nat → Int} : ∀ j, (∀ i, i < j → 0 ≤ O i ∧ O i < (4 : Nat)) → ∀ x, x < 4 → inS (jnS O j) x = hasB O (x : Int) j := by
  intro j
  induction j with
  | zero => intro _ x hx; have : ∀ x, x < 4 → inS 0 x = false := by decide
            rw [jnS, this x hx]; rfl
  | succ j ih =>
    intro h x hx
    have hj := h j (by omega)
    have hlt : jnS O j < 16 := jnS_lt (n := 4) j (fun i hi => h i (by omega))
    rw [jnS, inS_or _ hlt _ (by omega) x hx, ih (fun i hi => h i (by omega)) x hx, Bool.eq_iff_iff, Bool.or_eq_true, decide_eq_true_iff, hasG_iff, hasG_iff]
    constructor
    · rintro (⟨i, h1, h2⟩ | h1)
      · exact ⟨i, by omega, h2⟩
      · exact ⟨j, by omega, by omega⟩
    · rintro ⟨i, h1, h2⟩
      rcases Nat.lt_or_ge i j with hl | hl
      · exact .inl ⟨i, hl, h2⟩
      · obtain rfl : i = j := by omega
        exact .inr (by omega)
/-- What they pay up to place j. -/
def jnX (C : Nat → Int) (O : Nat → Int) : Nat → Nat → Int
  | 0 => fun _ => 0
  | j + 1 => upd (jnX C O j) (O j).toNat (riF C (jnS O j) (O j).toNat)
theorem isOr_rng {m : Nat} {O : Nat → Int} {n : Nat} (h : isOr m O n = true) : m = n ∧ ∀ i, i < m → 0 ≤ O i ∧ O i < (n : Int) := by
  unfold isOr at h
  rw [Bool.and_eq_true, decide_eq_true_iff] at h
  refine ⟨h.1, fun i hi => ?_⟩
  have := allB_iff.1 h.2 i hi
  unfold orP at this
  rw [Bool.and_eq_true] at this
  have := wtB_iff.1 this.1
  omega
set_option maxHeartbeats 2000000 in
set_option maxRecDepth 1000000 in
theorem refIsOrder_any (A : Option Addr) (m c n : Nat) (O : Nat → Int) (w : World) (h : Ints w A m O) (hm : m ≤ maxLen) (hn : 1 ≤ n ∧ n ≤ 4) :
    Calls Tryd.prog 34 #[.slice A m c, .int .i64 n] w fun e w' => e = .returned (.bool (isOr m O n)) ∧ w = w' := by
  have hm' : m ≤ 9223372036854775807 := by unfold maxLen at hm; omega
  obtain ⟨hn1, hn4⟩ := hn
  have H := Lib.hid h
  have HNo : Hid (∀ j, j < m → orP O n j = false → isOr m O n = false) := Lib.hid (fun j hj h => by unfold isOr; rw [allB_f hj h, Bool.and_false])
  have HYes : Hid (AllLt (orP O n) m → isOr m O n = decide (m = n)) := Lib.hid (fun h => by unfold isOr; rw [allB_t h, Bool.and_true])
  have HP : Hid (∀ j, orP O n j = (wtB (O j) 0 ((n : Int) - 1) && !(hasB O (O j) j))) := Lib.hid (fun _ => rfl)
  have HRg : Hid (∀ j, AllLt (orP O n) j → ∀ i, i < j → 0 ≤ O i ∧ O i < (n : Int)) := Lib.hid (fun j hA i hi => by
    have := hA i hi
    rw [HP.out, Bool.and_eq_true] at this
    have := wtB_iff.1 this.1
    omega)
  have HS : Hid (∀ j, jnS O (j + 1) = jnS O j ||| 2 ^ (O j).toNat) := Lib.hid (fun _ => rfl)
  clear h hm
  go_enter Tryd.func34, Tryd.ntmps34
  go_wp2
  go_loop [5, 10] (fun me i => ∃ j : Nat, j ≤ m ∧ i = .int .i64 j ∧ me = .int .i64 (jnS O j : Nat) ∧ AllLt (orP O n) j) (fun _ i => m - (intOf i).toNat)
  case atStart => exact ⟨0, Nat.zero_le _, rfl, rfl, AllLt.zero⟩
  case round =>
    obtain ⟨j, hj, rfl, rfl, hA⟩ := hrel
    have HA := Lib.hid hA
    clear hA
    by_cases hlt : j < m
    · obtain ⟨b, o, rfl, hc⟩ := H.out.at hlt
      have HPj := Lib.hid (HP.out j)
      have HN := Lib.hid (HNo.out j hlt)
      have HSu := Lib.hid (fun h => HA.out.succ (p := orP O n) h)
      have hrg := HRg.out j HA.out
      have hl16 : jnS O j < 16 := Nat.lt_of_lt_of_le (jnS_lt (n := 4) j (fun i hi => by have := hrg i hi; omega)) (by decide)
      have HSj := Lib.hid (HS.out j)
      have Hrg4 := Lib.hid (fun i (hi : i < j) => (by have := hrg i hi; omega : 0 ≤ O i ∧ O i < (4 : Nat)))
      by_cases h0 : O j < 0
      · have HZ := Lib.hid (HN.out (by rw [HPj.out, show wtB (O j) 0 ((n : Int) - 1) = false by unfold wtB; rw [decide_eq_false (by omega)]; rfl]; rfl))
        have hd := decide_eq_true h0
        generalize O j = x at *
        clear hrg
        go_wp2
        go_ret
        exact ⟨ret_bool HZ.out.symm, rfl⟩
      · by_cases h1 : (n : Int) ≤ O j
        · have HZ := Lib.hid (HN.out (by rw [HPj.out, show wtB (O j) 0 ((n : Int) - 1) = false by unfold wtB; rw [decide_eq_false (show ¬ O j ≤ (n : Int) - 1 by omega), Bool.and_false]]; rfl))
          have hd := decide_eq_true h1
          have hd0 := decide_eq_false h0
          generalize O j = x at *
          clear hrg
          go_wp2
          go_ret
          exact ⟨ret_bool HZ.out.symm, rfl⟩
        · obtain ⟨p, hp⟩ : ∃ p : Nat, O j = (p : Int) := ⟨(O j).toNat, by omega⟩
          have hp4 : p < n := by omega
          have hin := jnS_has j Hrg4.out p (by omega)
          rw [← hp] at hin
          have hsh : bits .and .i64 (((jnS O j : Nat) : Int) / 2 ^ p) 1 = ((jnS O j / 2 ^ p % 2 : Nat) : Int) := by
            have e : (((jnS O j : Nat) : Int) / 2 ^ p) = ((jnS O j / 2 ^ p : Nat) : Int) := by push_cast; rfl
            rw [e, i64_and1]
            omega
          have hor := or_eval2 (jnS O j) hl16 p (by omega)
          have HU : Hid (inS (jnS O j) p = decide (jnS O j / 2 ^ p % 2 = 1)) := Lib.hid rfl
          have HSj2 : Hid (jnS O (j + 1) = jnS O j ||| 2 ^ p) := Lib.hid (by rw [HSj.out, hp]; rfl)
          have hww : wtB (O j) 0 ((n : Int) - 1) = true := wtB_iff.2 (by omega)
          have HPj2 : Hid (orP O n j = !(inS (jnS O j) p)) := Lib.hid (by rw [HPj.out, hww, hin]; rfl)
          rw [hp] at hc
          have hd1 : (p : Int) < (n : Int) := by omega
          clear h0 h1 hin hww hrg hp
          have hm2 : jnS O j / 2 ^ p % 2 = 0 ∨ jnS O j / 2 ^ p % 2 = 1 := by omega
          generalize jnS O j / 2 ^ p % 2 = z at *
          generalize jnS O j ||| 2 ^ p = t at *
          generalize jnS O j = s at *
          rcases hm2 with rfl | rfl
          · have HZ := Lib.hid (HSu.out (by rw [HPj2.out, HU.out]; rfl))
            go_wp2
            go_round
            case rel => exact ⟨j + 1, by omega, by go_num, by rw [HSj2.out], HZ.out⟩
            case measure => simp [intOf]; omega
          · have HZ := Lib.hid (HN.out (by rw [HPj2.out, HU.out]; rfl))
            go_wp2
            go_ret
            exact ⟨ret_bool HZ.out.symm, rfl⟩
    · obtain rfl : j = m := by omega
      have HZ := Lib.hid (HYes.out HA.out)
      by_cases e : j = n
      · have hq := beq_t (a := (j : Int)) (b := (n : Int)) (by omega)
        have HZ2 : Hid (isOr j O n = true) := Lib.hid (by rw [HZ.out, decide_eq_true e])
        clear e
        go_wp2
        go_ret
        exact ⟨ret_bool HZ2.out.symm, rfl⟩
      · have hq := beq_f (a := (j : Int)) (b := (n : Int)) (by omega)
        have HZ2 : Hid (isOr j O n = false) := Lib.hid (by rw [HZ.out, decide_eq_false e])
        clear e
        go_wp2
        go_ret
        exact ⟨ret_bool HZ2.out.symm, rfl⟩
end Go.Proofs.YtoeimngbpagegaaDoor
