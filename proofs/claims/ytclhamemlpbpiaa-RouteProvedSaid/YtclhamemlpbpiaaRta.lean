/- The least and the greatest of a slice; potentials that bound roads. -/
import Derived.Test.YtclhamemlpbpiaaHw
import Derived.Test.YtclhamemlpbpiaaHs
namespace Go.Proofs.Ytclhamemlpbpiaa
open Go.RowKit

def mnF (f : Nat → Int) : Nat → Int
  | 0 => f 0
  | k + 1 => if f k < mnF f k then f k else mnF f k
def mxF (f : Nat → Int) : Nat → Int
  | 0 => f 0
  | k + 1 => if mxF f k < f k then f k else mxF f k
theorem mnF_one (f : Nat → Int) : mnF f 1 = f 0 := by
  unfold mnF mnF
  split <;> rfl
theorem mxF_one (f : Nat → Int) : mxF f 1 = f 0 := by
  unfold mxF mxF
  split <;> rfl
theorem mnF_ge {f : Nat → Int} {x : Int} : ∀ n, 0 < n → (x ≤ mnF f n ↔ ∀ j, j < n → x ≤ f j) := by
  intro n h0
  induction n with
  | zero => omega
  | succ n ih =>
    rcases Nat.eq_zero_or_pos n with e | e
    · subst e
      rw [mnF_one]
      exact ⟨fun h j hj => by obtain rfl : j = 0 := by omega
                              exact h, fun h => h 0 (by omega)⟩
    · have ih := ih e
      rw [mnF]
      constructor
      · intro h j hj
        by_cases hj2 : j = n
        · subst hj2
          split at h <;> omega
        · refine ih.1 ?_ j (by omega)
          split at h <;> omega
      · intro h
        have h1 := ih.2 (fun j hj => h j (by omega))
        have h2 := h n (by omega)
        split <;> omega
theorem mxF_le {f : Nat → Int} {x : Int} : ∀ n, 0 < n → (mxF f n ≤ x ↔ ∀ j, j < n → f j ≤ x) := by
  intro n h0
  induction n with
  | zero => omega
  | succ n ih =>
    rcases Nat.eq_zero_or_pos n with e | e
    · subst e
      rw [mxF_one]
      exact ⟨fun h j hj => by obtain rfl : j = 0 := by omega
                              exact h, fun h => h 0 (by omega)⟩
    · have ih := ih e
      rw [mxF]
      constructor
      · intro h j hj
        by_cases hj2 : j = n
        · subst hj2
          split at h <;> omega
        · refine ih.1 ?_ j (by omega)
          split at h <;> omega
      · intro h
        have h1 := ih.2 (fun j hj => h j (by omega))
        have h2 := h n (by omega)
        split <;> omega
set_option maxHeartbeats 1000000 in
theorem min_any (A : Option Addr) (n c : Nat) (f : Nat → Int) (w : World) (h : Ints w A n f) (h0 : 0 < n) (hn : n ≤ 10000) :
    Calls Try.prog 46 #[.slice A n c] w fun e w' => e = .returned (.int .i64 (mnF f n)) ∧ w = w' := by
  have H := Lib.hid h
  obtain ⟨b0, o0, rfl, hc0⟩ := h.at h0
  have hc00 := H.out.cell0 h0
  clear h hc0
  have HO := Lib.hid (mnF_one f)
  have hd : decide ((n : Int) < 1) = false := decide_eq_false (by omega)
  go_enter Try.func46, Try.ntmps46
  go_wp2
  go_loop [3, 4] (fun s i => ∃ k : Nat, 1 ≤ k ∧ k ≤ n ∧ i = .int .i64 k ∧ s = .int .i64 (mnF f k)) (fun _ i => n - (intOf i).toNat)
  case atStart => exact ⟨1, Nat.le_refl _, h0, rfl, by rw [HO.out]⟩
  case round =>
    obtain ⟨k, hk1, hk, rfl, rfl⟩ := hrel
    clear hc00
    by_cases hlt : k < n
    · have hc := H.out.cell hlt
      have HS : Hid (mnF f (k + 1) = if f k < mnF f k then f k else mnF f k) := Lib.hid rfl
      generalize mnF f k = a at *
      generalize f k = b at *
      rcases Int.lt_or_le b a with hx | hx
      · have HS2 := Lib.hid (HS.out.trans (if_pos hx))
        go_wp2
        go_round
        case rel => exact ⟨k + 1, by omega, by omega, by go_num, by rw [HS2.out]⟩
        case measure => simp [intOf]; omega
      · have HS2 := Lib.hid (HS.out.trans (if_neg (by omega)))
        go_wp2
        go_round
        case rel => exact ⟨k + 1, by omega, by omega, by go_num, by rw [HS2.out]⟩
        case measure => simp [intOf]; omega
    · obtain rfl : n = k := by omega
      go_wp2
      go_ret
      exact ⟨rfl, rfl⟩
set_option maxHeartbeats 1000000 in
theorem max_any (A : Option Addr) (n c : Nat) (f : Nat → Int) (w : World) (h : Ints w A n f) (h0 : 0 < n) (hn : n ≤ 10000) :
    Calls Try.prog 47 #[.slice A n c] w fun e w' => e = .returned (.int .i64 (mxF f n)) ∧ w = w' := by
  have H := Lib.hid h
  obtain ⟨b0, o0, rfl, hc0⟩ := h.at h0
  have hc00 := H.out.cell0 h0
  clear h hc0
  have HO := Lib.hid (mxF_one f)
  have hd : decide ((n : Int) < 1) = false := decide_eq_false (by omega)
  go_enter Try.func47, Try.ntmps47
  go_wp2
  go_loop [3, 4] (fun s i => ∃ k : Nat, 1 ≤ k ∧ k ≤ n ∧ i = .int .i64 k ∧ s = .int .i64 (mxF f k)) (fun _ i => n - (intOf i).toNat)
  case atStart => exact ⟨1, Nat.le_refl _, h0, rfl, by rw [HO.out]⟩
  case round =>
    obtain ⟨k, hk1, hk, rfl, rfl⟩ := hrel
    clear hc00
    by_cases hlt : k < n
    · have hc := H.out.cell hlt
      have HS : Hid (mxF f (k + 1) = if mxF f k < f k then f k else mxF f k) := Lib.hid rfl
      generalize mxF f k = a at *
      generalize f k = b at *
      rcases Int.lt_or_le a b with hx | hx
      · have HS2 := Lib.hid (HS.out.trans (if_pos hx))
        go_wp2
        go_round
        case rel => exact ⟨k + 1, by omega, by omega, by go_num, by rw [HS2.out]⟩
        case measure => simp [intOf]; omega
      · have HS2 := Lib.hid (HS.out.trans (if_neg (by omega)))
        go_wp2
        go_round
        case rel => exact ⟨k + 1, by omega, by omega, by go_num, by rw [HS2.out]⟩
        case measure => simp [intOf]; omega
    · obtain rfl : n = k := by omega
      go_wp2
      go_ret
      exact ⟨rfl, rfl⟩
/-- A potential for each stop, none too great, that bound the roads. -/
def rgB (p : Nat → Int) (k : Nat) : Bool := allB (fun j => decide (-1000 ≤ p j) && decide (p j ≤ 1000)) k
def boB (n m : Nat) (F : Nat → Nat → Int) (p : Nat → Int) (k : Nat) : Bool := decide (k = n) && (rgB p k && ptB m F p)
theorem rgB_iff {p : Nat → Int} {k : Nat} : rgB p k = true ↔ ∀ j, j < k → -1000 ≤ p j ∧ p j ≤ 1000 := by
  unfold rgB
  rw [allB_iff]
  simp only [Bool.and_eq_true_iff, decide_eq_true_iff]
set_option maxHeartbeats 4000000 in
set_option maxRecDepth 1000000 in
theorem areBounds_any (A B : Option Addr) (m c n k cB : Nat) (F : Nat → Nat → Int) (p : Nat → Int) (w : World) (h : Recs 3 w A m F) (hI : Ints w B k p) (hok : okM n m F = true) (hk : k ≤ 10000) :
    Lr 38 #[.agg #[.int .i64 n, .slice A m c], .slice B k cB] w (.bool (boB n m F p k)) := by
  unfold Lr
  obtain ⟨⟨hn1, hn8⟩, hm16, hrd⟩ := okM_iff.1 hok
  have hB1 := MapB.new w n (.slice A m c)
  have hb1 := (Below.refl w.heap.size w).alloc (Nat.le_refl _) (.cells #[.int .i64 n, .slice A m c] 31)
  obtain ⟨W1, hW1⟩ : ∃ W1, W1 = w.alloc (.cells #[.int .i64 n, .slice A m c] 31) := ⟨_, rfl⟩
  rw [← hW1] at hB1 hb1
  have HWW : Hid (w.alloc (.cells #[.int .i64 n, .slice A m c] 31) = W1) := Lib.hid hW1.symm
  have HBW : Hid (∀ w', Below W1.heap.size W1 w' → Below w.heap.size w w') := Lib.hid (fun w' hb => hb1.trans (hb.mono hb1.size))
  have HIn := Lib.hid (fun w' (hb : Below W1.heap.size W1 w') => hI.keep (hb1.trans (hb.mono hb1.size)))
  have HRc := Lib.hid (fun w' (hb : Below W1.heap.size W1 w') => h.keep (hb1.trans (hb.mono hb1.size)))
  have HRd := Lib.hid hrd
  have q0 := hB1.c0
  have q1 := hB1.c1
  have HDef : Hid (boB n m F p k = (decide (k = n) && (rgB p k && ptB m F p))) := Lib.hid rfl
  have HPt := Lib.hid (fun h => (ptB_iff (m := m) (F := F) (p := p)).2 h)
  have HPf := Lib.hid (fun (j : Nat) (hj : j < m) (h : ¬ (p (F j 0).toNat - p (F j 1).toNat ≤ F j 2 ∧ -(p (F j 0).toNat - p (F j 1).toNat) ≤ F j 2)) => show ptB m F p = false by
    cases e : ptB m F p with
    | false => rfl
    | true => exact absurd (ptB_iff.1 e j hj) h)
  clear hB1 hb1 h hI hok hrd
  generalize boB n m F p k = RB at *
  go_enter Try.func38, Try.ntmps38
  by_cases hkn : k = n
  · subst hkn
    have hq : ((k : Int) != k) = false := bne_f rfl
    have hk0 : 0 < k := by omega
    have HMn := Lib.hid (min_any B k cB p W1 (HIn.out W1 (Below.refl _ _)) hk0 hk)
    have HMx := Lib.hid (max_any B k cB p W1 (HIn.out W1 (Below.refl _ _)) hk0 hk)
    have HGe := Lib.hid (mnF_ge (f := p) (x := -1000) k hk0)
    have HLe := Lib.hid (mxF_le (f := p) (x := 1000) k hk0)
    have HRn := Lib.hid (fun h => (rgB_iff (p := p) (k := k)).2 h)
    have HRf := Lib.hid (fun (h : ¬ ∀ j, j < k → -1000 ≤ p j ∧ p j ≤ 1000) => show rgB p k = false by
      cases e : rgB p k with
      | false => rfl
      | true => exact absurd (rgB_iff.1 e) h)
    generalize mnF p k = mn at *
    generalize mxF p k = mx at *
    clear hW1
    by_cases h1 : mn < -1000
    · have d1 : decide (mn < -1000) = true := decide_eq_true h1
      have E := Lib.hid (show RB = false by
        rw [HDef.out, HRf.out (fun h => by have := HGe.out.2 (fun j hj => (h j hj).1); omega)]
        simp)
      go_wp2_with fail
      rw [HWW.out]
      refine HMn.out.mono ?_
      rintro e w2 ⟨rfl, rfl⟩
      go_wp2
      go_ret
      exact ⟨ret_bool E.out.symm, HBW.out _ (Below.refl _ _)⟩
    have d1 : decide (mn < -1000) = false := decide_eq_false h1
    by_cases h2 : 1000 < mx
    · have d2 : decide (1000 < mx) = true := decide_eq_true h2
      have E := Lib.hid (show RB = false by
        rw [HDef.out, HRf.out (fun h => by have := HLe.out.2 (fun j hj => (h j hj).2); omega)]
        simp)
      go_wp2_with fail
      rw [HWW.out]
      refine HMn.out.mono ?_
      rintro e w2 ⟨rfl, rfl⟩
      go_wp2_with fail
      refine HMx.out.mono ?_
      rintro e w2 ⟨rfl, rfl⟩
      go_wp2
      go_ret
      exact ⟨ret_bool E.out.symm, HBW.out _ (Below.refl _ _)⟩
    have d2 : decide (1000 < mx) = false := decide_eq_false h2
    have hr1 := HGe.out.1 (by omega)
    have hr2 := HLe.out.1 (by omega)
    have HR := Lib.hid (fun j (hj : j < k) => (⟨hr1 j hj, hr2 j hj⟩ : -1000 ≤ p j ∧ p j ≤ 1000))
    have HD2 := Lib.hid (show RB = ptB m F p by
      rw [HDef.out, HRn.out (fun j hj => HR.out j hj), decide_eq_true rfl]
      rfl)
    clear hr1 hr2 HGe HLe HRn HRf HDef
    go_wp2_with fail
    rw [HWW.out]
    refine HMn.out.mono ?_
    rintro e w2 ⟨rfl, rfl⟩
    go_wp2_with fail
    refine HMx.out.mono ?_
    rintro e w2 ⟨rfl, rfl⟩
    clear HMn HMx
    go_wp2
    go_loopw [26] (fun i wr => ∃ j : Nat, j ≤ m ∧ i = .int .i64 j ∧ (∀ x, x < j → p (F x 0).toNat - p (F x 1).toNat ≤ F x 2 ∧ -(p (F x 0).toNat - p (F x 1).toNat) ≤ F x 2) ∧ Below W1.heap.size W1 wr) (fun i _ => m - (intOf i).toNat)
    case atStart => exact ⟨0, Nat.zero_le _, rfl, fun x hx => absurd hx (Nat.not_lt_zero _), Below.refl _ _⟩
    case round =>
      obtain ⟨j, hj, rfl, hA, hD⟩ := hrel
      have HA := Lib.hid hA
      have HD := Lib.hid hD
      clear hA hD q0 q1
      by_cases hlt : j < m
      · obtain ⟨b, o, rfl, c0, c1, c2⟩ := (HRc.out wr HD.out).three hlt
        obtain ⟨bp, op, rfl, -⟩ := (HIn.out wr HD.out).at hk0
        have hF := HRd.out j hlt
        have HNo := Lib.hid (HPf.out j hlt)
        obtain ⟨x, hx⟩ : ∃ x : Nat, F j 0 = x := ⟨(F j 0).toNat, by omega⟩
        obtain ⟨y, hy⟩ : ∃ y : Nat, F j 1 = y := ⟨(F j 1).toNat, by omega⟩
        have hxk : x < k := by omega
        have hyk : y < k := by omega
        rw [hx] at c0
        rw [hy] at c1
        rw [hx, hy, Int.toNat_natCast, Int.toNat_natCast] at HNo
        have HSu : Hid ((p x - p y ≤ F j 2 ∧ -(p x - p y) ≤ F j 2) → ∀ z, z < j + 1 → p (F z 0).toNat - p (F z 1).toNat ≤ F z 2 ∧ -(p (F z 0).toNat - p (F z 1).toNat) ≤ F z 2) := Lib.hid (fun h z hz => by
          rcases Nat.lt_or_ge z j with hl | hl
          · exact HA.out z hl
          · obtain rfl : z = j := by omega
            rw [hx, hy, Int.toNat_natCast, Int.toNat_natCast]
            exact h)
        clear hx hy hF
        have hcst : F j 2 = F j 2 := rfl
        have hp1 := (HR.out x hxk).1
        have hp2 := (HR.out x hxk).2
        have hp3 := (HR.out y hyk).1
        have hp4 := (HR.out y hyk).2
        have hs := HD.out.size
        have hq := HD.out.alloc hs (.cells #[.int .i64 (x : Int), .int .i64 (y : Int), .int .i64 (F j 2)] 66)
        have cx := Ints.cell (HIn.out _ hq) hxk
        have cy := Ints.cell (HIn.out _ hq) hyk
        have hxki : (x : Int) < k := by omega
        have hyki : (y : Int) < k := by omega
        have HQ := Lib.hid hq
        clear hq hcst hs
        generalize p x = px at *
        generalize p y = py at *
        generalize F j 2 = ct at *
        go_wp2_with fail
        go_quiet (fail)
        rename_i nq
        have HQ2 := Lib.hid (HQ.out.trans (((Dn.refl _).drewN nq).below _))
        clear cx cy c0 c1 c2
        rcases Int.lt_or_le (py - px) (-(py - px)) with hm | hm
        · by_cases hc : ct < -(py - px)
          · have d3 : decide (ct < -(py - px)) = true := decide_eq_true hc
            have E := Lib.hid (show RB = false by rw [HD2.out]; exact HNo.out (by omega))
            go_wp2
            go_ret
            exact ⟨ret_bool E.out.symm, HBW.out _ HQ2.out⟩
          · have d3 : decide (ct < -(py - px)) = false := decide_eq_false hc
            have HS2 := Lib.hid (HSu.out (by omega))
            go_wp2
            go_roundw
            case rel => exact ⟨j + 1, by omega, by go_num, HS2.out, HQ2.out⟩
            case measure => simp [intOf]; omega
        · by_cases hc : ct < py - px
          · have d3 : decide (ct < py - px) = true := decide_eq_true hc
            have E := Lib.hid (show RB = false by rw [HD2.out]; exact HNo.out (by omega))
            go_wp2
            go_ret
            exact ⟨ret_bool E.out.symm, HBW.out _ HQ2.out⟩
          · have d3 : decide (ct < py - px) = false := decide_eq_false hc
            have HS2 := Lib.hid (HSu.out (by omega))
            go_wp2
            go_roundw
            case rel => exact ⟨j + 1, by omega, by go_num, HS2.out, HQ2.out⟩
            case measure => simp [intOf]; omega
      · obtain rfl : j = m := by omega
        have E := Lib.hid (HD2.out.trans (HPt.out HA.out))
        go_wp2
        go_ret
        exact ⟨ret_bool E.out.symm, HBW.out _ HD.out⟩
  · have hq : ((k : Int) != n) = true := bne_t (by omega)
    have E := Lib.hid (show RB = false by rw [HDef.out, decide_eq_false hkn]; rfl)
    go_wp2
    go_ret
    exact ⟨ret_bool E.out.symm, HBW.out _ (by rw [HWW.out]; exact Below.refl _ _)⟩
end Go.Proofs.Ytclhamemlpbpiaa
