/- Concave, the program's and the reference's: the first two sets. -/
import Derived.Test.YtoeimngbpagegaaDoorGh
namespace Go.Proofs.YtoeimngbpagegaaDoor
open Go.RowKit

/-- The first below n, n if there is none. -/
def fstN (p : Nat → Bool) : Nat → Nat
  | 0 => 0
  | n + 1 => if fstN p n < n then fstN p n else if p n = true then n else n + 1
theorem fstN_none {p : Nat → Bool} {n : Nat} (h : NoneLt p n) : fstN p n = n := by
  induction n with
  | zero => rfl
  | succ n ih =>
    rw [fstN, ih (fun j hj => h j (by omega)), if_neg (by omega), h n (by omega)]
    rfl
theorem fstN_some {p : Nat → Bool} {k : Nat} (h : NoneLt p k) (hk : p k = true) : ∀ n, k < n → fstN p n = k := by
  intro n
  induction n with
  | zero => omega
  | succ n ih =>
    intro hn
    rw [fstN]
    rcases Nat.lt_or_ge k n with hl | hl
    · rw [ih hl, if_pos hl]
    · obtain rfl : k = n := by omega
      rw [fstN_none h, if_neg (by omega), if_pos hk]
/-- Two sets show that costs are not concave. -/
def cvB (C : Nat → Int) (a b : Nat) : Bool := decide (C a + C b < C (a ||| b) + C (a &&& b))
def cvRow (C : Nat → Int) (L a : Nat) : Bool := anyB (cvB C a) L
/-- The first two, and the error. -/
def cvT (L : Nat) (C : Nat → Int) : Int × Int × Int := if fstN (cvRow C L) L < L then ((fstN (cvRow C L) L : Nat), (fstN (cvB C (fstN (cvRow C L) L)) L : Nat), 0) else (0, 0, 4)
theorem cvT_some {L : Nat} {C : Nat → Int} {a b : Nat} (ha : NoneLt (cvRow C L) a) (hb : NoneLt (cvB C a) b) (hab : cvB C a b = true) (haL : a < L) (hbL : b < L) : cvT L C = ((a : Int), (b : Int), 0) := by
  have e1 := fstN_some ha (anyB_t hbL hab) L haL
  unfold cvT
  rw [e1, if_pos haL, fstN_some hb hab L hbL]
theorem cvT_none {L : Nat} {C : Nat → Int} (ha : NoneLt (cvRow C L) L) : cvT L C = (0, 0, 4) := by
  unfold cvT
  rw [fstN_none ha, if_neg (by omega)]
def cvV (t : Int × Int × Int) : Value := .tuple #[.int .i64 t.1, .int .i64 t.2.1, .int .i64 t.2.2]
theorem or_eval4 : ∀ a : Nat, a < 16 → ∀ b : Nat, b < 16 → bits .or .i64 (a : Int) (b : Int) = ((a ||| b : Nat) : Int) := by decide +kernel
theorem and_eval4 : ∀ a : Nat, a < 16 → ∀ b : Nat, b < 16 → bits .and .i64 (a : Int) (b : Int) = ((a &&& b : Nat) : Int) := by decide +kernel
theorem okC_or {L : Nat} {C : Nat → Int} (h : okC L C = true) : ∀ a, a < L → ∀ b, b < L → a ||| b < L ∧ a &&& b < L := by
  obtain ⟨n, -, -, -, e, -⟩ := okC_n h
  intro a ha b hb
  refine ⟨?_, Nat.lt_of_le_of_lt Nat.and_le_left ha⟩
  rw [e] at ha hb ⊢
  exact Nat.or_lt_two_pow ha hb
set_option maxHeartbeats 1000000 in
set_option maxRecDepth 1000000 in
theorem concave_ok (A : Option Addr) (L c : Nat) (C : Nat → Int) (w : World) (h : Ints w A L C) (ht : Tab w) (hok : okC L C = true) :
    Calls Tryd.prog 37 #[.slice A L c] w fun e w' => e = .returned (cvV (cvT L C)) ∧ Dn w w' := by
  have H := Lib.hid h
  have HV := Lib.hid (valid_any A L c C w h (by have := (okC_iff.1 hok).1; omega) ht)
  have hL16 : L ≤ 16 := by have := (okC_iff.1 hok).1; omega
  have HC := Lib.hid (okC_iff.1 hok).2.2
  have HOr := Lib.hid (okC_or hok)
  have HO := Lib.hid hok
  have HCv : Hid (∀ a b, cvB C a b = decide (C a + C b < C (a ||| b) + C (a &&& b))) := Lib.hid (fun _ _ => rfl)
  have HRow : Hid (∀ a, NoneLt (cvB C a) L → cvRow C L a = false) := Lib.hid (fun a h => anyB_f h)
  have HS := Lib.hid (fun (a b : Nat) (h1 : NoneLt (cvRow C L) a) (h2 : NoneLt (cvB C a) b) (h3 : cvB C a b = true) (h4 : a < L) (h5 : b < L) => cvT_some h1 h2 h3 h4 h5)
  have HN := Lib.hid (fun (h : NoneLt (cvRow C L) L) => cvT_none h)
  clear h ht hok
  go_enter Tryd.func37, Tryd.ntmps37
  go_wp2_with fail
  refine HV.out.mono ?_
  rintro e w' ⟨rfl, rfl⟩
  rw [HO.out]
  go_wp2_with fail
  go_loopw [12] (fun i wr => ∃ a : Nat, a ≤ L ∧ i = .int .i64 a ∧ NoneLt (cvRow C L) a ∧ Dn w wr) (fun i _ => L - (intOf i).toNat)
  case atStart => exact ⟨0, Nat.zero_le _, rfl, NoneLt.zero, Dn.refl _⟩
  case round =>
    obtain ⟨a, haL, rfl, hA, hD⟩ := hrel
    have HA := Lib.hid hA
    have HD := Lib.hid hD
    clear hA hD
    by_cases ha : a < L
    · go_wp2_with fail
      go_loopw [17] (fun i wi => ∃ b : Nat, b ≤ L ∧ i = .int .i64 b ∧ NoneLt (cvB C a) b ∧ Dn w wi) (fun i _ => L - (intOf i).toNat)
      case atStart => exact ⟨0, Nat.zero_le _, rfl, NoneLt.zero, HD.out⟩
      case round =>
        obtain ⟨b, hbL, rfl, hB, hE⟩ := hrel
        have HB := Lib.hid hB
        have HE := Lib.hid hE
        clear hB hE
        by_cases hb : b < L
        · have hI := H.out.dn HE.out
          obtain ⟨g, o, rfl, ca⟩ := hI.at ha
          have cb := hI.cell hb
          have co := hI.cell (HOr.out a ha b hb).1
          have cn := hI.cell (HOr.out a ha b hb).2
          have e1 := or_eval4 a (by omega) b (by omega)
          have e2 := and_eval4 a (by omega) b (by omega)
          have ho1 := (HOr.out a ha b hb).1
          have ho2 := (HOr.out a ha b hb).2
          have HQ := Lib.hid (HCv.out a b)
          have HSn := Lib.hid (HS.out a b HA.out HB.out)
          have HBs := Lib.hid (fun h => HB.out.succ (p := cvB C a) h)
          have q1 := HC.out a ha
          have q2 := HC.out b hb
          have q3 := HC.out _ ho1
          have q4 := HC.out _ ho2
          generalize a ||| b = s at *
          generalize a &&& b = t at *
          generalize C a = xa at *
          generalize C b = xb at *
          generalize C s = xs at *
          generalize C t = xt at *
          obtain ⟨q11, q12⟩ := q1
          obtain ⟨q21, q22⟩ := q2
          obtain ⟨q31, q32⟩ := q3
          obtain ⟨q41, q42⟩ := q4
          clear hI
          by_cases hcv : xa + xb < xs + xt
          · have HZ := Lib.hid (HSn.out (by rw [HQ.out]; exact decide_eq_true hcv) ha hb)
            go_wp2
            go_region
            go_wp2
            go_returns
            exact ⟨by rw [HZ.out]; rfl, HE.out.drew⟩
          · have HZ := Lib.hid (HBs.out (by rw [HQ.out]; exact decide_eq_false hcv))
            go_wp2
            go_region
            go_wp2
            go_roundw
            case rel => exact ⟨b + 1, by omega, by go_num, HZ.out, HE.out.drew⟩
            case measure => simp [intOf]; omega
        · obtain rfl : b = L := by omega
          have HZ := Lib.hid (HA.out.succ (HRow.out a HB.out))
          go_wp2
          go_roundw
          case rel => exact ⟨a + 1, by omega, by go_num, HZ.out, HE.out⟩
          case measure => simp [intOf]; omega
    · obtain rfl : a = L := by omega
      have HZ := Lib.hid (HN.out HA.out)
      go_wp2
      go_returns
      exact ⟨by rw [HZ.out]; rfl, HD.out⟩
set_option maxHeartbeats 1000000 in
set_option maxRecDepth 1000000 in
theorem refConcave_any (A : Option Addr) (L c : Nat) (C : Nat → Int) (w : World) (h : Ints w A L C) (hok : okC L C = true) :
    Calls Tryd.prog 38 #[.slice A L c] w fun e w' => e = .returned (cvV (cvT L C)) ∧ Dn w w' := by
  have H := Lib.hid h

  have hL16 : L ≤ 16 := by have := (okC_iff.1 hok).1; omega
  have HC := Lib.hid (okC_iff.1 hok).2.2
  have HOr := Lib.hid (okC_or hok)
  have HO := Lib.hid hok
  have HCv : Hid (∀ a b, cvB C a b = decide (C a + C b < C (a ||| b) + C (a &&& b))) := Lib.hid (fun _ _ => rfl)
  have HRow : Hid (∀ a, NoneLt (cvB C a) L → cvRow C L a = false) := Lib.hid (fun a h => anyB_f h)
  have HS := Lib.hid (fun (a b : Nat) (h1 : NoneLt (cvRow C L) a) (h2 : NoneLt (cvB C a) b) (h3 : cvB C a b = true) (h4 : a < L) (h5 : b < L) => cvT_some h1 h2 h3 h4 h5)
  have HN := Lib.hid (fun (h : NoneLt (cvRow C L) L) => cvT_none h)
  clear h hok
  go_enter Tryd.func38, Tryd.ntmps38
  go_wp2_with fail
  go_loopw [9] (fun i wr => ∃ a : Nat, a ≤ L ∧ i = .int .i64 a ∧ NoneLt (cvRow C L) a ∧ Dn w wr) (fun i _ => L - (intOf i).toNat)
  case atStart => exact ⟨0, Nat.zero_le _, rfl, NoneLt.zero, Dn.refl _⟩
  case round =>
    obtain ⟨a, haL, rfl, hA, hD⟩ := hrel
    have HA := Lib.hid hA
    have HD := Lib.hid hD
    clear hA hD
    by_cases ha : a < L
    · go_wp2_with fail
      go_loopw [14] (fun i wi => ∃ b : Nat, b ≤ L ∧ i = .int .i64 b ∧ NoneLt (cvB C a) b ∧ Dn w wi) (fun i _ => L - (intOf i).toNat)
      case atStart => exact ⟨0, Nat.zero_le _, rfl, NoneLt.zero, HD.out⟩
      case round =>
        obtain ⟨b, hbL, rfl, hB, hE⟩ := hrel
        have HB := Lib.hid hB
        have HE := Lib.hid hE
        clear hB hE
        by_cases hb : b < L
        · have hI := H.out.dn HE.out
          obtain ⟨g, o, rfl, ca⟩ := hI.at ha
          have cb := hI.cell hb
          have co := hI.cell (HOr.out a ha b hb).1
          have cn := hI.cell (HOr.out a ha b hb).2
          have e1 := or_eval4 a (by omega) b (by omega)
          have e2 := and_eval4 a (by omega) b (by omega)
          have ho1 := (HOr.out a ha b hb).1
          have ho2 := (HOr.out a ha b hb).2
          have HQ := Lib.hid (HCv.out a b)
          have HSn := Lib.hid (HS.out a b HA.out HB.out)
          have HBs := Lib.hid (fun h => HB.out.succ (p := cvB C a) h)
          have q1 := HC.out a ha
          have q2 := HC.out b hb
          have q3 := HC.out _ ho1
          have q4 := HC.out _ ho2
          generalize a ||| b = s at *
          generalize a &&& b = t at *
          generalize C a = xa at *
          generalize C b = xb at *
          generalize C s = xs at *
          generalize C t = xt at *
          obtain ⟨q11, q12⟩ := q1
          obtain ⟨q21, q22⟩ := q2
          obtain ⟨q31, q32⟩ := q3
          obtain ⟨q41, q42⟩ := q4
          clear hI
          by_cases hcv : xa + xb < xs + xt
          · have HZ := Lib.hid (HSn.out (by rw [HQ.out]; exact decide_eq_true hcv) ha hb)
            go_wp2
            go_region
            go_wp2
            go_returns
            exact ⟨by rw [HZ.out]; rfl, HE.out.drew⟩
          · have HZ := Lib.hid (HBs.out (by rw [HQ.out]; exact decide_eq_false hcv))
            go_wp2
            go_region
            go_wp2
            go_roundw
            case rel => exact ⟨b + 1, by omega, by go_num, HZ.out, HE.out.drew⟩
            case measure => simp [intOf]; omega
        · obtain rfl : b = L := by omega
          have HZ := Lib.hid (HA.out.succ (HRow.out a HB.out))
          go_wp2
          go_roundw
          case rel => exact ⟨a + 1, by omega, by go_num, HZ.out, HE.out⟩
          case measure => simp [intOf]; omega
    · obtain rfl : a = L := by omega
      have HZ := Lib.hid (HN.out HA.out)
      go_wp2
      go_returns
      exact ⟨by rw [HZ.out]; rfl, HD.out⟩
set_option maxHeartbeats 1000000 in
theorem concave_bad (A : Option Addr) (L c : Nat) (C : Nat → Int) (w : World) (h : Ints w A L C) (hL : L ≤ 18) (ht : Tab w) (hok : okC L C = false) :
    Calls Tryd.prog 37 #[.slice A L c] w fun e w' => e = .returned (.tuple #[.int .i64 0, .int .i64 0, .int .i64 2]) ∧ w = w' := by
  have HV := Lib.hid (valid_any A L c C w h hL ht)
  have HO := Lib.hid hok
  clear h ht hok
  go_enter Tryd.func37, Tryd.ntmps37
  go_wp2_with fail
  refine HV.out.mono ?_
  rintro e w' ⟨rfl, rfl⟩
  rw [HO.out]
  go_wp2
  go_returns
  exact ⟨rfl, rfl⟩
end Go.Proofs.YtoeimngbpagegaaDoor
