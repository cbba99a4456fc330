/- Pairs: the law's pairs, validBefores, the reference's Befores. -/
import Derived.Test.YtbgekacfimgkeaaQg
import Derived.Test.YtbgekacfimgkeaaQo
namespace Go.Proofs.Ytbgekacfimgkeaa
open Go.RowKit

theorem infoP2 : (Try.prog.info? 52).map (fun i => (i.zero, i.size, i.bytes)) = some (some (.agg #[.int .i64 0, .int .i64 0]), 2, 16) := by kernel_rfl
theorem Recs.two {w : World} {A : Option Addr} {n : Nat} {F : Nat → Nat → Int} (h : Recs 2 w A n F) {k : Nat} (hk : k < n) : ∃ b o, A = some ⟨b, o, none⟩ ∧ w.cell? ⟨b, o + k * 2, none⟩ = some (.int .i64 (F k 0)) ∧ w.cell? ⟨b, o + k * 2 + 1, none⟩ = some (.int .i64 (F k 1)) := by
  obtain ⟨b, o, hA, hc⟩ := h.at hk
  exact ⟨b, o, hA, hc 0 (by omega), hc 1 (by omega)⟩
theorem Recs.none_ {s : Nat} {w : World} {n : Nat} {F : Nat → Nat → Int} (h : Recs s w none n F) : n = 0 := by
  rcases Nat.eq_zero_or_pos n with h0 | h0
  · exact h0
  · obtain ⟨b, o, e, -⟩ := h h0
    cases e

set_option maxHeartbeats 1000000 in
theorem clone2_addr (a : Addr) (n c : Nat) (F : Nat → Nat → Int) (w : World) (h : ∀ j u, (recL 2 F n)[j]? = some u → w.cell? (a.add j) = some u) (hn : n ≤ 10000) :
    Calls Try.prog 64 #[.slice (some a) n c] w fun e w' => ∃ v', e = .returned v' ∧ OwnK 2 52 w' w.heap.size v' n F ∧ Below w.heap.size w w' := by
  have q := fun (w : World) (a : Option Addr) (n c n' c' : Nat) => Lib.run_eql_slice_nil (P := Try.prog) w 43 52 a n c n' c' Try.underlying43
  obtain ⟨i0, hi, hz0, hz1, hz2⟩ := info_parts infoP2
  have H := Lib.hid h
  clear h
  go_enter Try.func64, Try.ntmps64
  go_wp2_with (at_builtin; refine wpList_append_own _ rfl _ _ 43 rfl w.heap.size 52 i0 (.agg #[.int .i64 0, .int .i64 0]) 2 16 Try.underlying43 hi hz0 hz1 hz2 rfl (by decide) _ _ _ rfl (World.ownsRow_made w #[] 0 (Nat.le_refl _) (Nat.zero_le _) rfl) a n c (recL 2 F n) rfl ?qc1 ?qc2 ?qc3 ?qc4 ?qc5 ?qc6 ?_)
  case qc1 => rw [recL_len]
  case qc2 => exact fun j u hu => Lib.cell?_alloc_some _ (H.out j u hu)
  case qc3 => exact one_of_recL 2 F n
  case qc4 => unfold maxLen; omega
  case qc5 => omega
  case qc6 => simp
  intro v' w1 hown hgrow hnil
  go_wp2
  go_ret
  refine ⟨v', rfl, ?_, ?_⟩
  · unfold OwnK; simpa using hown
  · exact ((Below.refl _ w).alloc (Nat.le_refl _) _).grown hgrow (by simp) (by intro k hk; simp [Value.ownBlock] at hk; omega)
theorem clone2_some (b o n c : Nat) (F : Nat → Nat → Int) (w : World) (h : ∀ k, k < n → ∀ i, i < 2 → w.cell? ⟨b, o + k * 2 + i, none⟩ = some (.int .i64 (F k i))) (hn : n ≤ 10000) :
    Calls Try.prog 64 #[.slice (some ⟨b, o, none⟩) n c] w fun e w' => ∃ v', e = .returned v' ∧ OwnK 2 52 w' w.heap.size v' n F ∧ Below w.heap.size w w' := by
  refine clone2_addr ⟨b, o, none⟩ n c F w (fun j u hu => ?_) hn
  have hj : j < n * 2 := by
    rcases Nat.lt_or_ge j (n * 2) with h1 | h1
    · exact h1
    · rw [List.getElem?_eq_none (by rw [recL_len]; exact h1)] at hu
      cases hu
  obtain ⟨k, i, hi2, rfl⟩ : ∃ k i, i < 2 ∧ j = k * 2 + i := ⟨j / 2, j % 2, Nat.mod_lt _ (by omega), by omega⟩
  have hk : k < n := by omega
  rw [recL_get 2 F n k i hk hi2] at hu
  rw [Addr.add_lit, ← hu, ← Nat.add_assoc]
  exact h k hk i hi2
theorem clone2_nil (n c : Nat) (w : World) : Calls Try.prog 64 #[.slice none n c] w fun e w' => e = .returned (.slice none 0 0) ∧ w = w' := by
  have q := fun (w : World) (a : Option Addr) (n c n' c' : Nat) => Lib.run_eql_slice_nil (P := Try.prog) w 43 52 a n c n' c' Try.underlying43
  go_enter Try.func64, Try.ntmps64
  go_wp2
  go_ret
  exact ⟨rfl, rfl⟩

theorem pairs_any (A : Option Addr) (n c : Nat) (F : Nat → Nat → Int) (w : World) (h : ArgK 2 w A n c F) :
    Calls Try.prog 30 #[.slice A n c] w fun e w' => ∃ v', e = .returned v' ∧ OwnK 2 52 w' w.heap.size v' (min n 18) F ∧ Below w.heap.size w w' := by
  obtain ⟨h1, h2, h3, h4⟩ := h
  have H4 := Lib.hid h4
  clear h4
  rcases A with _ | a
  · obtain rfl := H4.out.none_
    obtain rfl := h3 rfl
    go_enter Try.func30, Try.ntmps30
    go_wp2_with fail
    refine (clone2_nil _ _ _).mono ?_
    rintro e w' ⟨rfl, rfl⟩
    go_wp2
    go_ret
    exact ⟨_, rfl, OwnK.nil_ _ _ _ _ _, Below.refl _ _⟩
  · clear h3
    by_cases hn : n ≤ 18
    · have hm := Lib.hid (Nat.min_eq_left hn)
      rcases Nat.eq_zero_or_pos n with h0 | h0
      · subst h0
        go_enter Try.func30, Try.ntmps30
        go_wp2_with fail
        refine (clone2_addr a 0 c F _ (fun j u hu => by simp [recL] at hu) (by omega)).mono ?_
        rintro e w' ⟨v', rfl, ho, hb⟩
        go_wp2
        go_ret
        exact ⟨_, rfl, ho, hb⟩
      · obtain ⟨b, o, e, hc⟩ := H4.out h0
        injection e with e
        subst e
        go_enter Try.func30, Try.ntmps30
        go_wp2_with fail
        refine (clone2_some b o n c F _ hc (by omega)).mono ?_
        rintro e w' ⟨v', rfl, ho, hb⟩
        go_wp2
        go_ret
        exact ⟨_, rfl, by rw [hm.out]; exact ho, hb⟩
    · have hm := Lib.hid (Nat.min_eq_right (show 18 ≤ n by omega))
      have h19 : 19 ≤ n := by omega
      obtain ⟨b, o, e, hc⟩ := H4.out (by omega)
      injection e with e
      subst e
      go_enter Try.func30, Try.ntmps30
      go_wp2_with fail
      refine (clone2_some b o 18 c F _ (fun k hk i hi => hc k (by omega) i hi) (by omega)).mono ?_
      rintro e w' ⟨v', rfl, ho, hb⟩
      go_wp2
      go_ret
      exact ⟨_, rfl, by rw [hm.out]; exact ho, hb⟩

/-- Pairs are befores of n jobs. -/
def bfP (n : Nat) (F : Nat → Nat → Int) (k : Nat) : Bool := witB (F k 0) 0 ((n : Int) - 1) && witB (F k 1) 0 ((n : Int) - 1)
def bfB (n m : Nat) (F : Nat → Nat → Int) : Bool := decide (m ≤ 16) && allB (bfP n F) m
set_option maxHeartbeats 1000000 in
set_option maxRecDepth 1000000 in
theorem validBefores_any (A : Option Addr) (n m c : Nat) (F : Nat → Nat → Int) (w : World) (h : Recs 2 w A m F) (hn : 1 ≤ n ∧ n ≤ 8) (hm : m ≤ maxLen) :
    Lr 61 #[.slice A m c, .int .i64 n] w (.bool (bfB n m F)) := by
  unfold Lr
  have H := Lib.hid h
  have hm2 : m ≤ 9223372036854775807 := by unfold maxLen at hm; omega
  have HF : Hid (∀ k, k < m → bfP n F k = false → bfB n m F = false) := Lib.hid (fun k hk h => by unfold bfB; rw [allB_f hk h, Bool.and_false])
  have HT : Hid (AllLt (bfP n F) m → m ≤ 16 → bfB n m F = true) := Lib.hid (fun h h1 => by unfold bfB; rw [allB_t h]; simp [h1])
  have hmi : IntKind.i64.wrap ((n : Int) - 1) = (n : Int) - 1 := IntWalk.i64_in _ ⟨by omega, by omega⟩
  obtain ⟨hn1, hn8⟩ := hn
  clear h hm
  go_enter Try.func61, Try.ntmps61
  by_cases h16 : 16 < m
  · have E := Lib.hid (show bfB n m F = false by unfold bfB; rw [decide_eq_false (by omega), Bool.false_and])
    go_wp2
    go_ret
    exact ⟨ret_bool E.out.symm, Below.refl _ _⟩
  · go_wp2
    go_loopw [12] (fun i wr => ∃ k : Nat, k ≤ m ∧ i = .int .i64 k ∧ AllLt (bfP n F) k ∧ Below w.heap.size w wr) (fun i _ => m - (intOf i).toNat)
    case atStart => exact ⟨0, Nat.zero_le _, rfl, AllLt.zero, Below.refl _ _⟩
    case round =>
      obtain ⟨k, hk, rfl, hA, hD⟩ := hrel
      have HA := Lib.hid hA
      clear hA
      by_cases hlt : k < m
      · obtain ⟨b, o, rfl, c0, c1⟩ := (H.out.keep hD).two hlt
        have HD1 := Lib.hid (hD.alloc hD.size (.cells #[.int .i64 (F k 0), .int .i64 (F k 1)] 52))
        have HP : Hid (bfP n F k = (witB (F k 0) 0 ((n : Int) - 1) && witB (F k 1) 0 ((n : Int) - 1))) := Lib.hid rfl
        have x0 : (wr.alloc (.cells #[.int .i64 (F k 0), .int .i64 (F k 1)] 52)).cell? ⟨wr.heap.size, 1, none⟩ = some (.int .i64 (F k 1)) := by simp [World.cell?_alloc_at]
        clear hD
        go_wp2_with fail
        refine Ro.use (within_any _ _ _ _) fun w1 d1 => ?_
        have HD2 := Lib.hid (HD1.out.trans (d1.below _))
        have x1 : w1.cell? ⟨wr.heap.size, 1, none⟩ = some (.int .i64 (F k 1)) := ((d1.below _).cell (World.block_lt_of_cell? _ _ x0)).trans x0
        clear d1 x0
        cases hw1 : witB (F k 0) 0 ((n : Int) - 1) with
        | false =>
          have HE := Lib.hid (HF.out k hlt (by rw [HP.out, hw1, Bool.false_and]))
          go_wp2
          go_ret
          exact ⟨ret_bool HE.out.symm, HD2.out⟩
        | true =>
          go_wp2_with fail
          refine Ro.use (within_any _ _ _ _) fun w2 d2 => ?_
          have HD3 := Lib.hid (HD2.out.trans (d2.below _))
          clear d2
          cases hw2 : witB (F k 1) 0 ((n : Int) - 1) with
          | false =>
            have HE := Lib.hid (HF.out k hlt (by rw [HP.out, hw2, Bool.and_false]))
            go_wp2
            go_ret
            exact ⟨ret_bool HE.out.symm, HD3.out⟩
          | true =>
            have HN := Lib.hid (show bfP n F k = true by rw [HP.out, hw1, hw2]; rfl)
            go_wp2
            go_roundw
            case rel => exact ⟨k + 1, by omega, by go_num, HA.out.succ HN.out, HD3.out⟩
            case measure => simp [intOf]; omega
      · obtain rfl : k = m := by omega
        go_wp2
        go_ret
        exact ⟨ret_bool (HT.out HA.out (by omega)).symm, hD⟩
end Go.Proofs.Ytbgekacfimgkeaa
