/- The program's wayCost. -/
import Derived.Test.YtclhamemlpbpiaaWi
import Derived.Test.YtclhamemlpbpiaaHs
namespace Go.Proofs.Ytclhamemlpbpiaa
open Go.RowKit

set_option maxHeartbeats 4000000 in
set_option maxRecDepth 1000000 in
theorem wayCost_any (A B : Option Addr) (m c n k cB : Nat) (F : Nat → Nat → Int) (f : Nat → Int) (w : World) (h : Recs 3 w A m F) (hI : Ints w B k f) (hok : okM n m F = true) (hk : k ≤ 10000) (hkc : k ≤ cB) :
    Lr 37 #[.agg #[.int .i64 n, .slice A m c], .slice B k cB] w (.tuple (if wkB n f k = true then #[.int .i64 (wkS (stT n m F) f k), .bool (decide (0 < k) && decide (wkS (stT n m F) f k < 400))] else #[.int .i64 0, .bool false])) := by
  unfold Lr
  obtain ⟨⟨hn1, hn8⟩, hm16, hrd⟩ := okM_iff.1 hok
  have hB1 := MapB.new w n (.slice A m c)
  have hb1 := (Below.refl w.heap.size w).alloc (Nat.le_refl _) (.cells #[.int .i64 n, .slice A m c] 31)
  obtain ⟨W1, hW1⟩ : ∃ W1, W1 = w.alloc (.cells #[.int .i64 n, .slice A m c] 31) := ⟨_, rfl⟩
  rw [← hW1] at hB1 hb1
  have HWW : Hid (w.alloc (.cells #[.int .i64 n, .slice A m c] 31) = W1) := Lib.hid hW1.symm
  have HMB : Hid (∀ w', Below W1.heap.size W1 w' → MapB w' w.heap.size n (.slice A m c) ∧ Below w.heap.size w w') := Lib.hid (fun w' hb => ⟨hB1.keep hb, hb1.trans (hb.mono hb1.size)⟩)
  have HIn := Lib.hid (fun w' (hb : Below W1.heap.size W1 w') => hI.keep (hb1.trans (hb.mono hb1.size)))
  have HSt := Lib.hid (steps_any A m c n F W1 (h.keep hb1) hm16 (by omega) (fun k hk => ⟨(hrd k hk).1, (hrd k hk).2.1, (hrd k hk).2.2.1⟩))
  have HIs := Lib.hid (fun (x : Int) w' => isStop_any A m c n x w')
  have HNn := Lib.hid (fun k => wkS_nn (f := f) hok k)
  have HBd := Lib.hid (stT_bd (n := n) (m := m) (F := F) (fun k hk => by have := hrd k hk; omega))
  have HTn := Lib.hid ((stT_met hok).nn)
  generalize hRS : (Value.tuple (if wkB n f k = true then #[.int .i64 (wkS (stT n m F) f k), .bool (decide (0 < k) && decide (wkS (stT n m F) f k < 400))] else #[.int .i64 0, .bool false])) = RS
  have HOut : Hid (∀ i, i < k → (inB n (f i) = false ∨ hasB f (f i) i = true) → RS = .tuple #[.int .i64 0, .bool false]) := Lib.hid (fun i hi h => by
    have : wkB n f k = false := by
      unfold wkB
      refine allB_f hi ?_
      rcases h with h | h
      · rw [h]
        rfl
      · rw [h]
        simp
    rw [← hRS, this]
    rfl)
  have HEnd : Hid (wkB n f k = true → RS = .tuple #[.int .i64 (wkS (stT n m F) f k), .bool (decide (0 < k) && decide (wkS (stT n m F) f k < 400))]) := Lib.hid (fun h => by
    rw [← hRS, if_pos h])
  clear hB1 hb1 hW1 h hI hok hm16 hrd hRS
  generalize stT n m F = T at *
  go_enter Try.func37, Try.ntmps37
  go_wp2_with fail
  rw [HWW.out]
  clear HWW
  refine HSt.out.mono ?_
  rintro e w2 ⟨rfl, hb2⟩
  have HB2 := Lib.hid hb2
  clear hb2 HSt
  go_wp2_with fail
  have HY5 := TabI.zero w2
  rw [run_storeTab _ _ _ T HY5]
  simp only [Result.andThen_ok]
  rw [Oper.upon_skip]
  have HY6 := Lib.hid (TabI.stored (T := T) HY5)
  have HB6 := Lib.hid (below_setCells (tabL T) 0 (show W1.heap.size ≤ w2.heap.size from HB2.out.size) (HB2.out.trans ((tab_below w2).mono HB2.out.size)))
  clear HY5
  generalize World.setCells _ w2.heap.size 0 (tabL T) = W6 at *
  generalize w2.heap.size = Y at *
  go_wp2
  go_loopw [7, 14] (fun s i wr => ∃ j : Nat, j ≤ k ∧ i = .int .i64 j ∧ s = .int .i64 (wkS T f j) ∧ wkB n f j = true ∧ TabI wr Y T ∧ Below W1.heap.size W1 wr) (fun _ i _ => k - (intOf i).toNat)
  case atStart => exact ⟨0, Nat.zero_le _, rfl, rfl, rfl, HY6.out, HB6.out⟩
  case round =>
    obtain ⟨i, hi, rfl, rfl, hw, hY, hB⟩ := hrel
    have HW := Lib.hid hw
    have HY := Lib.hid hY
    have HB := Lib.hid hB
    clear hw hY hB HY6 HB6
    by_cases hlt : i < k
    · obtain ⟨b0, o0, rfl, hcf⟩ := (HIn.out wr HB.out).at hlt
      have q0 := (HMB.out wr HB.out).1.c0
      have q1 := (HMB.out wr HB.out).1.c1
      have HSi := Lib.hid (HIs.out (f i) wr)
      have hin1 : inB n (f i) = true ↔ 0 ≤ f i ∧ f i < n := inB_t
      cases hin : inB n (f i) with
      | false =>
        have E := Lib.hid (HOut.out i hlt (.inl hin))
        rw [hin] at HSi
        clear hin hin1
        go_wp2_with fail
        refine HSi.out.use fun w7 hb7 => ?_
        have HB7 := Lib.hid (HB.out.trans (hb7.mono HB.out.size))
        clear hb7 q0 q1 hcf
        go_wp2
        go_returns
        exact ⟨by rw [E.out]; rfl, (HMB.out _ HB7.out).2⟩
      | true =>
        obtain ⟨hx0, hxn⟩ := hin1.1 hin
        obtain ⟨y, hy⟩ : ∃ y : Nat, f i = y := ⟨(f i).toNat, by omega⟩
        have HIn1 := Lib.hid hin
        rw [hin, hy] at HSi
        have HOc := Lib.hid (fun h => HOut.out i hlt (.inr h))
        rw [hy] at hcf
        have hyn : y < n := by omega
        have HFy := Lib.hid hy
        clear hin hin1 hx0 hxn hy
        go_wp2_with fail
        refine HSi.out.use fun w7 hb7 => ?_
        have HB7 := Lib.hid (HB.out.trans (hb7.mono HB.out.size))
        have HY7 := Lib.hid (HY.out.keep (hb7.mono (Nat.le_refl _)))
        have HI7 := Lib.hid (HIn.out w7 HB7.out)
        have HC := Lib.hid (contains_any (some ⟨b0, o0, none⟩) i cB f (y : Int) w7 (fun _ => ⟨b0, o0, rfl, fun p hp => Ints.cell HI7.out (by omega)⟩) (by omega))
        clear hb7 q0 q1 hcf HY HB HSi
        have hki : (i : Int) ≤ cB := by omega
        cases hh : hasB f (y : Int) i with
        | true =>
          have E := Lib.hid (HOc.out (by rw [HFy.out]; exact hh))
          rw [hh] at HC
          clear hh
          go_wp2_with fail
          refine HC.out.mono ?_
          rintro e w8 ⟨rfl, rfl⟩
          go_wp2
          go_returns
          exact ⟨by rw [E.out]; rfl, (HMB.out _ HB7.out).2⟩
        | false =>
          have HWs := Lib.hid (wkB_succ HW.out HIn1.out (fun j hj e => by
            have : hasB f (y : Int) i = true := hasW_iff.2 ⟨j, hj, by rw [e]; exact HFy.out⟩
            rw [hh] at this
            cases this))
          rw [hh] at HC
          clear hh
          rcases Nat.eq_zero_or_pos i with h0 | h0
          · subst h0
            go_wp2_with fail
            refine HC.out.mono ?_
            rintro e w8 ⟨rfl, rfl⟩
            go_wp2
            go_roundw
            case rel => exact ⟨1, by omega, by go_num, by simp [wkS], HWs.out, HY7.out, HB7.out⟩
            case measure => simp [intOf]; omega
          · have hwx := wkB_iff.1 HW.out (i - 1) (by omega)
            obtain ⟨x, hx⟩ : ∃ x : Nat, f (i - 1) = x := ⟨(f (i - 1)).toNat, by omega⟩
            have hxn : x < n := by omega
            have hc1 := Ints.cell HI7.out (show i - 1 < k by omega)
            rw [hx] at hc1
            have HSum : Hid (wkS T f (i + 1) = wkS T f i + T (8 * x + y)) := Lib.hid (by rw [wkS, if_neg (by omega), hx, HFy.out, Int.toNat_natCast, Int.toNat_natCast])
            clear hwx hx
            have hct := HY7.out.cell (x := x) (y := y) (by omega) (by omega)
            have hx8 : (x : Int) < 8 := by omega
            have hy8 : (y : Int) < 8 := by omega
            have hs1 := (HNn.out i).1
            have hs2 := (HNn.out i).2
            have ht1 := HTn.out (8 * x + y)
            have ht2 := HBd.out (8 * x + y)
            have hd0 : decide (0 < (i : Int)) = true := decide_eq_true (by omega)
            have hik : (i : Int) ≤ 10000 := by omega
            have hir : (i : Int) - 1 < k := by omega
            generalize wkS T f i = cs at *
            generalize T (8 * x + y) = tv at *
            go_wp2_with fail
            refine HC.out.mono ?_
            rintro e w8 ⟨rfl, rfl⟩
            go_wp2
            go_roundw
            case rel => exact ⟨i + 1, by omega, by go_num, by rw [HSum.out], HWs.out, HY7.out, HB7.out⟩
            case measure => simp [intOf]; omega
    · obtain rfl : i = k := by omega
      have E := Lib.hid (HEnd.out HW.out)
      have HM9 := Lib.hid (HMB.out _ HB.out).2
      generalize wkS T f i = cs at *
      rcases Nat.eq_zero_or_pos i with h0 | h0
      · subst h0
        have d1 : decide (0 < ((0 : Nat) : Int)) = false := by decide
        go_wp2
        go_returns
        exact ⟨by rw [E.out]; rfl, HM9.out⟩
      · have d1 : decide (0 < (i : Int)) = true := decide_eq_true (by omega)
        have d0 : decide (0 < i) = true := decide_eq_true h0
        by_cases hl : cs < 400
        · have d2 : decide (cs < 400) = true := decide_eq_true hl
          rw [d0, d2] at E
          go_wp2
          go_returns
          exact ⟨by rw [E.out]; rfl, HM9.out⟩
        · have d2 : decide (cs < 400) = false := decide_eq_false hl
          rw [d0, d2] at E
          go_wp2
          go_returns
          exact ⟨by rw [E.out]; rfl, HM9.out⟩
end Go.Proofs.Ytclhamemlpbpiaa
