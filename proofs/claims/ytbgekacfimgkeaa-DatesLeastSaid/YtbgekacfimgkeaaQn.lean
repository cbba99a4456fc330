/- Orders: list, isOrder, Ends, and the reference's. -/
import Derived.Test.YtbgekacfimgkeaaQh
import Derived.Test.YtbgekacfimgkeaaIdx
import Derived.Test.YtbgekacfimgkeaaGld
namespace Go.Proofs.Ytbgekacfimgkeaa
open Go.RowKit

theorem list_any (A : Option Addr) (n c : Nat) (f : Nat → Int) (w : World) (h : ArgI w A n c f) :
    Calls Try.prog 19 #[.slice A n c] w fun e w' => ∃ v', e = .returned v' ∧ OwnL w' w.heap.size v' (lst (min n 10) f) ∧ Below w.heap.size w w' := by
  obtain ⟨h1, h2, h3, h4⟩ := h
  have H4 := Lib.hid h4
  clear h4
  by_cases hn : n ≤ 10
  · have hm := Lib.hid (Nat.min_eq_left hn)
    rcases A with _ | a
    · obtain rfl := H4.out.none_
      obtain rfl := h3 rfl
      go_enter Try.func19, Try.ntmps19
      go_wp2_with fail
      refine (clone_any _ _ _ f _ H4.out (by omega)).mono ?_
      rintro e w' ⟨v', rfl, ho, -, hb⟩
      go_wp2
      go_ret
      exact ⟨_, rfl, ho, hb⟩
    · clear h3
      go_enter Try.func19, Try.ntmps19
      go_wp2_with fail
      refine (clone_any _ _ _ f _ H4.out (by omega)).mono ?_
      rintro e w' ⟨v', rfl, ho, -, hb⟩
      go_wp2
      go_ret
      exact ⟨_, rfl, by rw [hm.out]; exact ho, hb⟩
  · have hm := Lib.hid (Nat.min_eq_right (show 10 ≤ n by omega))
    have h10 : 11 ≤ n := by omega
    rcases A with _ | a
    · obtain rfl := H4.out.none_
      omega
    · clear h3
      go_enter Try.func19, Try.ntmps19
      go_wp2_with fail
      refine (clone_any (some a) 10 c f _ (fun _ => by
        obtain ⟨b, o, e, hc⟩ := H4.out (by omega)
        exact ⟨b, o, e, fun k hk => hc k (by omega)⟩) (by omega)).mono ?_
      rintro e w' ⟨v', rfl, ho, -, hb⟩
      go_wp2
      go_ret
      exact ⟨_, rfl, by rw [hm.out]; exact ho, hb⟩

theorem hasB_succ (f : Nat → Int) (x : Int) (k : Nat) : hasB f x (k + 1) = (hasB f x k || decide (f k = x)) := by
  unfold hasB
  rcases idxI_cases f x k with ⟨e, h⟩ | ⟨j, hj, e, h1, h2⟩
  · by_cases hx : f k = x
    · simp [idxI, e, hx]
    · simp [idxI, e, hx]
  · have e1 : idxI f x (k + 1) = (j : Int) := idxI_some h2 h1 (k + 1) (by omega)
    rw [e1, e]
    simp
theorem hasB_iff (f : Nat → Int) (x : Int) (k : Nat) : hasB f x k = true ↔ ∃ j, j < k ∧ f j = x := by
  induction k with
  | zero => simp [hasB, idxI]
  | succ k ih =>
    rw [hasB_succ, Bool.or_eq_true, ih, decide_eq_true_iff]
    constructor
    · rintro (⟨j, h1, h2⟩ | h)
      · exact ⟨j, by omega, h2⟩
      · exact ⟨k, by omega, h⟩
    · rintro ⟨j, h1, h2⟩
      rcases Nat.lt_or_ge j k with h | h
      · exact .inl ⟨j, h, h2⟩
      · obtain rfl : j = k := by omega
        exact .inr h2
def ordP (f : Nat → Int) (n : Nat) (k : Nat) : Bool := (decide (0 ≤ f k) && decide (f k < n)) && !(hasB f (f k) k)
/-- f has the numbers below n, each once. -/
def ordB (m : Nat) (f : Nat → Int) (n : Nat) : Bool := decide (m = n) && allB (ordP f n) m

set_option maxHeartbeats 1000000 in
set_option maxRecDepth 1000000 in
theorem isOrder_any (A : Option Addr) (m c n : Nat) (f : Nat → Int) (w : World) (h : Ints w A m f) (hn : 1 ≤ n ∧ n ≤ 8) (hmc : m ≤ c) (hm : m ≤ maxLen) :
    Lr 55 #[.slice A m c, .int .i64 n] w (.bool (ordB m f n)) := by
  unfold Lr
  have H := Lib.hid h
  have hm2 : m ≤ 9223372036854775807 := by unfold maxLen at hm; omega
  obtain ⟨hn1, hn8⟩ := hn
  clear h hm
  go_enter Try.func55, Try.ntmps55
  by_cases e : m = n
  · subst e
    have hB := bne_f (a := (m : Int)) rfl
    go_wp2
    go_loopw [13] (fun i wr => ∃ k : Nat, k ≤ m ∧ i = .int .i64 k ∧ AllLt (ordP f m) k ∧ Below w.heap.size w wr) (fun i _ => m - (intOf i).toNat)
    case atStart => exact ⟨0, Nat.zero_le _, rfl, AllLt.zero, Below.refl _ _⟩
    case round =>
      obtain ⟨k, hk, rfl, hA, hD⟩ := hrel
      have HA := Lib.hid hA
      have HD := Lib.hid hD
      clear hA
      by_cases hlt : k < m
      · obtain ⟨b, o, rfl, hc⟩ := (H.out.keep hD).at hlt
        have HW := fun (W : World) => Lib.hid (within_any (f k) 0 ((m : Int) - 1) W)
        have HC := fun (W : World) (hb : Below w.heap.size w W) => Lib.hid (contains_any (some ⟨b, o, none⟩) k c f (f k) W (fun _ => ⟨b, o, rfl, fun a ha => (H.out.keep hb).cell (by omega)⟩) (by omega))
        have hkc : k ≤ c := by omega
        have hmi : IntKind.i64.wrap ((m : Int) - 1) = (m : Int) - 1 := IntWalk.i64_in _ ⟨by omega, by omega⟩
        cases hw : witB (f k) 0 ((m : Int) - 1) with
        | false =>
          have HE : Hid (ordB m f m = false) := Lib.hid (by
            have : ordP f m k = false := by
              unfold ordP
              have h2 : (decide (0 ≤ f k) && decide (f k < (m : Int))) = false := by
                simp only [witB, Bool.and_eq_false_iff, decide_eq_false_iff_not] at hw ⊢
                omega
              rw [h2]
              rfl
            unfold ordB
            rw [allB_f hlt this, Bool.and_false])
          rw [hw] at HW
          clear hw
          generalize f k = x at *
          go_wp2_with fail
          refine (HW _).out.use fun w2 hd2 => ?_
          go_wp2
          go_ret
          exact ⟨ret_bool HE.out.symm, HD.out.trans (hd2.below _)⟩
        | true =>
          have HwT : Hid ((decide (0 ≤ f k) && decide (f k < (m : Int))) = true) := Lib.hid (by
            simp only [witB, Bool.and_eq_true, decide_eq_true_iff] at hw ⊢
            omega)
          rw [hw] at HW
          clear hw
          cases hh : hasB f (f k) k with
          | true =>
            have HE : Hid (ordB m f m = false) := Lib.hid (by
              have : ordP f m k = false := by unfold ordP; rw [hh, Bool.not_true, Bool.and_false]
              unfold ordB
              rw [allB_f hlt this, Bool.and_false])
            rw [hh] at HC
            clear hh
            generalize f k = x at *
            go_wp2_with fail
            refine (HW _).out.use fun w2 hd2 => ?_
            have HD2 := Lib.hid (HD.out.trans (hd2.below _))
            clear hd2
            go_wp2_with fail
            refine (HC w2 HD2.out).out.mono ?_
            rintro e w3 ⟨rfl, rfl⟩
            go_wp2
            go_ret
            exact ⟨ret_bool HE.out.symm, HD2.out⟩
          | false =>
            have HE : Hid (ordP f m k = true) := Lib.hid (by unfold ordP; rw [HwT.out, hh]; rfl)
            rw [hh] at HC
            clear hh
            generalize f k = x at *
            go_wp2_with fail
            refine (HW _).out.use fun w2 hd2 => ?_
            have HD2 := Lib.hid (HD.out.trans (hd2.below _))
            clear hd2
            go_wp2_with fail
            refine (HC w2 HD2.out).out.mono ?_
            rintro e w3 ⟨rfl, rfl⟩
            go_wp2
            go_roundw
            case rel => exact ⟨k + 1, by omega, by go_num, HA.out.succ HE.out, HD2.out⟩
            case measure => simp [intOf]; omega
      · obtain rfl : k = m := by omega
        go_wp2
        go_ret
        exact ⟨ret_bool (by simp [ordB, allB_t HA.out]), hD⟩
  · have hB := bne_t (a := (m : Int)) (b := (n : Int)) (by omega)
    have HE : Hid (ordB m f n = false) := Lib.hid (by simp [ordB, e])
    clear e
    go_wp2
    go_ret
    exact ⟨ret_bool HE.out.symm, Below.refl _ _⟩

set_option maxHeartbeats 1000000 in
set_option maxRecDepth 1000000 in
theorem refIsOrder_any (A : Option Addr) (m c n : Nat) (f : Nat → Int) (w : World) (h : Ints w A m f) (hn : 1 ≤ n ∧ n ≤ 8) (hm : m ≤ maxLen) :
    Lr 21 #[.slice A m c, .int .i64 n] w (.bool (ordB m f n)) := by
  unfold Lr
  have H := Lib.hid h
  have hm2 : m ≤ 9223372036854775807 := by unfold maxLen at hm; omega
  obtain ⟨hn1, hn8⟩ := hn
  clear h hm
  go_enter Try.func21, Try.ntmps21
  go_wp2
  have hM : (w.alloc (.cells #[.bool false, .bool false, .bool false, .bool false, .bool false, .bool false, .bool false, .bool false] 89)).rowIs w.heap.size 89 8 (fun i => .bool (hasB f (i : Int) 0)) := ⟨_, heap_alloc_new w _, rfl, fun i hi => by
    have : i = 0 ∨ i = 1 ∨ i = 2 ∨ i = 3 ∨ i = 4 ∨ i = 5 ∨ i = 6 ∨ i = 7 := by omega
    rcases this with rfl | rfl | rfl | rfl | rfl | rfl | rfl | rfl <;> rfl⟩
  have hB0 := (Below.refl w.heap.size w).alloc (Nat.le_refl _) (.cells #[.bool false, .bool false, .bool false, .bool false, .bool false, .bool false, .bool false, .bool false] 89)
  generalize w.alloc (.cells #[.bool false, .bool false, .bool false, .bool false, .bool false, .bool false, .bool false, .bool false] 89) = W0 at *
  have HF : Hid (∀ k, k < m → ordP f n k = false → ordB m f n = false) := Lib.hid (fun k hk h => by unfold ordB; rw [allB_f hk h, Bool.and_false])
  go_loopw [10] (fun i wr => ∃ k : Nat, k ≤ m ∧ i = .int .i64 k ∧ AllLt (ordP f n) k ∧ wr.rowIs w.heap.size 89 8 (fun i => .bool (hasB f (i : Int) k)) ∧ Below w.heap.size w wr) (fun i _ => m - (intOf i).toNat)
  case atStart => exact ⟨0, Nat.zero_le _, rfl, AllLt.zero, hM, hB0⟩
  case round =>
    obtain ⟨k, hk, rfl, hA, hR, hD⟩ := hrel
    have HA := Lib.hid hA
    have HR := Lib.hid hR
    have HD := Lib.hid hD
    clear hA hR hM hB0
    by_cases hlt : k < m
    · obtain ⟨b, o, rfl, hc⟩ := (H.out.keep hD).at hlt
      by_cases h0 : f k < 0
      · have HE := Lib.hid (HF.out k hlt (by unfold ordP; rw [decide_eq_false (show ¬ 0 ≤ f k by omega)]; rfl))
        generalize f k = x at *
        go_wp2
        go_ret
        exact ⟨ret_bool HE.out.symm, HD.out⟩
      · by_cases h8 : (n : Int) ≤ f k
        · have HE := Lib.hid (HF.out k hlt (by unfold ordP; rw [decide_eq_false (show ¬ f k < n by omega), Bool.and_false]; rfl))
          generalize f k = x at *
          go_wp2
          go_ret
          exact ⟨ret_bool HE.out.symm, HD.out⟩
        · obtain ⟨j, hj, hjn⟩ : ∃ j : Nat, f k = (j : Int) ∧ j < n := ⟨(f k).toNat, by omega, by omega⟩
          have hcj := World.rowIs.cell HR.out (show j < 8 by omega)
          have hfj := World.rowIs.frozen HR.out j
          have hj8 : (j : Int) < 8 := by omega
          cases hh : hasB f (j : Int) k with
          | true =>
            have HE := Lib.hid (HF.out k hlt (by unfold ordP; rw [hj, hh, Bool.not_true, Bool.and_false]))
            rw [hh] at hcj
            rw [hj] at hc h0 h8
            clear hj
            go_wp2
            go_ret
            exact ⟨ret_bool HE.out.symm, HD.out⟩
          | false =>
            have HE : Hid (ordP f n k = true) := Lib.hid (by unfold ordP; rw [hj, hh, decide_eq_true (show (0 : Int) ≤ j by omega), decide_eq_true (show (j : Int) < n by omega)]; rfl)
            have HS : Hid ((wr.setCell ⟨w.heap.size, j, none⟩ (.bool true)).rowIs w.heap.size 89 8 (fun i => .bool (hasB f (i : Int) (k + 1)))) := Lib.hid (World.rowIs.congr (World.rowIs.set HR.out j (.bool true)) (fun i hi => by
              rw [hasB_succ, hj]
              by_cases e : i = j
              · subst e
                simp
              · simp only [if_neg e]
                rw [decide_eq_false (show ¬ (j : Int) = (i : Int) by omega), Bool.or_false]))
            have HD2 := Lib.hid (HD.out.setCell (p := ⟨w.heap.size, j, none⟩) (Nat.le_refl _) (.bool true))
            rw [hh] at hcj
            rw [hj] at hc h0 h8
            clear hj hh
            go_wp2
            go_roundw
            case rel => exact ⟨k + 1, by omega, by go_num, HA.out.succ HE.out, HS.out, HD2.out⟩
            case measure => simp [intOf]; omega
    · obtain rfl : k = m := by omega
      by_cases e : k = n
      · have HE : Hid (ordB k f n = true) := Lib.hid (by unfold ordB; rw [allB_t HA.out, decide_eq_true e]; rfl)
        have hB := beq_t (a := (k : Int)) (b := (n : Int)) (by omega)
        clear e
        go_wp2
        go_ret
        exact ⟨ret_bool (by rw [HE.out]), hD⟩
      · have HE : Hid (ordB k f n = false) := Lib.hid (by unfold ordB; rw [decide_eq_false e, Bool.false_and])
        have hB := beq_f (a := (k : Int)) (b := (n : Int)) (by omega)
        clear e
        go_wp2
        go_ret
        exact ⟨ret_bool (by rw [HE.out]), hD⟩

/-- When the jobs of a row end, by its first k. -/
def eoF (J : Nat → Nat → Int) (f : Nat → Int) : Nat → Nat → Int
  | 0 => fun _ => 0
  | k + 1 => upd (eoF J f k) (f k).toNat (smT (fun a => J (f a).toNat 0) (k + 1))
theorem ord_rng {m n : Nat} {f : Nat → Int} (h : ordB m f n = true) : ∀ k, k < m → 0 ≤ f k ∧ f k < n := fun k hk => by
  have := allB_iff.1 (Bool.and_eq_true_iff.1 h).2 k hk
  unfold ordP at this
  simp only [Bool.and_eq_true, decide_eq_true_iff] at this
  exact this.1

set_option maxHeartbeats 1000000 in
set_option maxRecDepth 1000000 in
theorem refEndsJ_any (A B : Option Addr) (n c m c2 : Nat) (J : Nat → Nat → Int) (f : Nat → Int) (w : World) (h : Recs 4 w A n J) (hf : Ints w B m f) (hok : okJ n J = true) (ho : ordB m f n = true) :
    Calls Try.prog 24 #[.slice A n c, .slice B m c2] w fun e w' => ∃ g, e = .returned (.slice (some ⟨g, 0, none⟩) n n) ∧ w.heap.size ≤ g ∧ RowI w' g n (eoF J f m) ∧ Below w.heap.size w w' := by
  have H := Lib.hid h
  have HF := Lib.hid hf
  have HO := Lib.hid hok
  have HOr := Lib.hid ho
  have hn := (okJ_iff.1 hok).1
  obtain ⟨hn1, hn8⟩ := hn
  have hmn : m = n := of_decide_eq_true (Bool.and_eq_true_iff.1 ho).1
  subst hmn
  have hmk := mk_ints m (by omega) w
  clear h hok hf ho
  go_enter Try.func24, Try.ntmps24
  go_wp2
  have hM := RowI.made w m
  have hB0 := (Below.refl w.heap.size w).alloc (Nat.le_refl _) (.cells (madeCells #[.int .i64 0] m) 3)
  have hG : w.heap.size ≤ w.heap.size := Nat.le_refl _
  clear hmk
  generalize w.alloc (.cells (madeCells #[.int .i64 0] m) 3) = W0 at *
  go_loopw [6, 14] (fun t i wr => ∃ k : Nat, k ≤ m ∧ i = .int .i64 k ∧ t = .int .i64 (smT (fun a => J (f a).toNat 0) k) ∧ 0 ≤ smT (fun a => J (f a).toNat 0) k ∧ smT (fun a => J (f a).toNat 0) k ≤ 20 * k ∧ RowI wr w.heap.size m (eoF J f k) ∧ Below w.heap.size w wr) (fun _ i _ => m - (intOf i).toNat)
  case atStart => exact ⟨0, Nat.zero_le _, rfl, rfl, Int.le_refl _, by simp [smT], hM, hB0⟩
  case round =>
    obtain ⟨k, hk, rfl, rfl, h0, h1, hR, hD⟩ := hrel
    have HR := Lib.hid hR
    have HD := Lib.hid hD
    clear hR hM hB0
    by_cases hlt : k < m
    · obtain ⟨b, o, rfl, hc⟩ := (HF.out.keep hD).at hlt
      have hfr := ord_rng HOr.out k hlt
      obtain ⟨j, hj, hjn⟩ : ∃ j : Nat, f k = (j : Int) ∧ j < m := ⟨(f k).toNat, by omega, by omega⟩
      obtain ⟨b2, o2, rfl, c0, c1, c2, c3⟩ := (H.out.keep hD).four hjn
      have hJ := (okJ_iff.1 HO.out).2 j hjn
      obtain ⟨⟨hJ1, hJ2⟩, -⟩ := hJ
      have hcj := HR.out.cell hjn
      have hfz := HR.out.frozen j
      have HS : Hid (smT (fun a => J (f a).toNat 0) (k + 1) = smT (fun a => J (f a).toNat 0) k + J j 0) := Lib.hid (by rw [smT, hj]; rfl)
      have HE : Hid (eoF J f (k + 1) = upd (eoF J f k) j (smT (fun a => J (f a).toNat 0) k + J j 0)) := Lib.hid (by rw [eoF, HS.out, hj]; rfl)
      have hk8 : (k : Int) < 8 := by omega
      rw [hj] at hc
      clear hj hfr
      generalize smT (fun a => J (f a).toNat 0) k = sm at *
      have HRs := Lib.hid (HR.out.set j (sm + J j 0))
      have HDs := Lib.hid (HD.out.setCell (p := ⟨w.heap.size, j, none⟩) (Nat.le_refl _) (.int .i64 (sm + J j 0)))
      generalize J j 0 = y at *
      go_wp2
      go_roundw
      case rel => exact ⟨k + 1, by omega, by go_num, by rw [HS.out], by rw [HS.out]; omega, by rw [HS.out]; push_cast; omega, by rw [HE.out]; exact HRs.out, HDs.out⟩
      case measure => simp [intOf]; omega
    · obtain rfl : m = k := by omega
      go_wp2
      go_ret
      exact ⟨_, rfl, Nat.le_refl _, HR.out, HD.out⟩
end Go.Proofs.Ytbgekacfimgkeaa
