/- counts and ballots of the laws across the layers. -/
import Derived.Test.YtdbeblmlikkjhaaWf
import Derived.Test.YtdbeblmlikkjhaaAk
namespace Go.Proofs.Ytdbeblmlikkjhaa
open Go.RowKit

theorem aw_top : IsTop (fun x => (fpN awV x 3 : Int)) 2 1 :=
  ⟨by omega, fun j hj => by
    have : j = 0 ∨ j = 1 := by omega
    rcases this with rfl | rfl <;> decide, fun j hj => by
    obtain rfl : j = 0 := by omega
    decide⟩

set_option maxHeartbeats 1000000 in
set_option maxRecDepth 1000000 in
theorem counts_any (w : World) : Lr 5 #[] w (.bool true) := by
  obtain ⟨W1, hW1⟩ : ∃ W1, W1 = w.alloc (.cells #[.int .i64 1, .int .i64 0] 3) := ⟨_, rfl⟩
  obtain ⟨W2, hW2⟩ : ∃ W2, W2 = W1.alloc (.cells #[.int .i64 0, .int .i64 1] 3) := ⟨_, rfl⟩
  obtain ⟨W3, hW3⟩ : ∃ W3, W3 = W2.alloc (.cells #[.int .i64 1, .int .i64 0] 3) := ⟨_, rfl⟩
  obtain ⟨W4, hW4⟩ : ∃ W4, W4 = W3.alloc (.cells #[.slice (some ⟨w.heap.size, 0, none⟩) 2 2, .slice (some ⟨w.heap.size + 1, 0, none⟩) 2 2, .slice (some ⟨w.heap.size + 1 + 1, 0, none⟩) 2 2] 24) := ⟨_, rfl⟩
  have s1 : W1.heap.size = w.heap.size + 1 := by rw [hW1]; simp
  have s2 : W2.heap.size = w.heap.size + 1 + 1 := by rw [hW2]; simp [s1]
  have s3 : W3.heap.size = w.heap.size + 1 + 1 + 1 := by rw [hW3]; simp [s2]
  have b1 : Below w.heap.size w W1 := by rw [hW1]; exact box_belowV _ _
  have b2 : Below W1.heap.size W1 W2 := by rw [hW2]; exact box_belowV _ _
  have b3 : Below W2.heap.size W2 W3 := by rw [hW3]; exact box_belowV _ _
  have b4 : Below W3.heap.size W3 W4 := by rw [hW4]; exact box_belowV _ _
  have c1 := cell_two w (.int .i64 1) (.int .i64 0) 3
  rw [← hW1] at c1
  have c2 := cell_two W1 (.int .i64 0) (.int .i64 1) 3
  rw [← hW2, s1] at c2
  have c3 := cell_two W2 (.int .i64 1) (.int .i64 0) 3
  rw [← hW3, s2] at c3
  have c4 := cell_three W3 (.slice (some ⟨w.heap.size, 0, none⟩) 2 2) (.slice (some ⟨w.heap.size + 1, 0, none⟩) 2 2) (.slice (some ⟨w.heap.size + 1 + 1, 0, none⟩) 2 2) 24
  rw [← hW4, s3] at c4
  have hr : RowsK W4 (some ⟨w.heap.size + 1 + 1 + 1, 0, none⟩) 3 (fun _ => 2) awV := fun _ => ⟨_, 0, rfl, fun i hi => by
    have : i = 0 ∨ i = 1 ∨ i = 2 := by omega
    rcases this with rfl | rfl | rfl
    · refine ⟨_, 2, c4.1, Nat.le_refl _, fun _ => ⟨_, 0, rfl, fun k hk => ?_⟩⟩
      have : k = 0 ∨ k = 1 := by
        have : k < 2 := hk
        omega
      rcases this with rfl | rfl
      · exact old_cellV (old_cellV (old_cellV c1.1 b2) b3) b4
      · exact old_cellV (old_cellV (old_cellV c1.2 b2) b3) b4
    · refine ⟨_, 2, c4.2.1, Nat.le_refl _, fun _ => ⟨_, 0, rfl, fun k hk => ?_⟩⟩
      have : k = 0 ∨ k = 1 := by
        have : k < 2 := hk
        omega
      rcases this with rfl | rfl
      · exact old_cellV (old_cellV c2.1 b3) b4
      · exact old_cellV (old_cellV c2.2 b3) b4
    · refine ⟨_, 2, c4.2.2, Nat.le_refl _, fun _ => ⟨_, 0, rfl, fun k hk => ?_⟩⟩
      have : k = 0 ∨ k = 1 := by
        have : k < 2 := hk
        omega
      rcases this with rfl | rfl
      · exact old_cellV c3.1 b4
      · exact old_cellV c3.2 b4⟩
  have Hb : Hid (Below w.heap.size w W4) := Lib.hid (((b1.trans (b2.mono (by omega))).trans (b3.mono (by omega))).trans (b4.mono (by omega)))
  have HW := Lib.hid (Win_first (some ⟨w.heap.size + 1 + 1 + 1, 0, none⟩) 3 3 1 (fun _ => 2) awV W4 hr aw_ok (Nat.le_refl _) aw_top)
  rw [hW4, hW3, hW2, hW1] at HW Hb
  clear hr c1 c2 c3 c4 b1 b2 b3 b4 s1 s2 s3 hW1 hW2 hW3 hW4
  show Calls _ _ _ _ _
  go_enter Try.func5, Try.ntmps5
  go_wp2_with fail
  refine Lr.use HW.out ?_
  intro w5 hb5
  have HB5 := Lib.hid (Hb.out.trans (hb5.mono Hb.out.size))
  clear hb5 HW Hb
  go_wp2
  go_ret
  exact ⟨rfl, HB5.out⟩
set_option maxHeartbeats 1000000 in
set_option maxRecDepth 1000000 in
theorem ballots_any (A : Option Addr) (n c : Nat) (L : Nat → Nat) (v : Nat → Nat → Int) (w : World) (h : ArgR w A n c L v) :
    Calls Try.prog 7 #[.slice A n c] w fun e w' => ∃ x, e = .returned x ∧ OwnS w' w.heap.size x (min n 11) (fun i => min (L i) 11) v ∧ Below w.heap.size w w' := by
  obtain ⟨i0, hi, hz0, hz1, hz2⟩ := info_parts infoInts
  have hsz : n ≤ 17592186044416 := Nat.le_trans h.1 h.2.1
  have H := Lib.hid h
  clear h
  go_enter Try.func7, Try.ntmps7
  go_wp2
  go_loopw [3, 8] (fun s i wr => ∃ k : Nat, k ≤ n ∧ i = .int .i64 k ∧ OwnS wr w.heap.size s (min k 11) (fun i => min (L i) 11) v ∧ Below w.heap.size w wr) (fun _ i _ => n - (intOf i).toNat)
  case atStart => exact ⟨0, Nat.zero_le _, rfl, ⟨[], rfl, World.ownsRow_nil _ _ _ _, (fun i x hx => by simp at hx), (fun i j x y a b hij hx => by simp at hx)⟩, Below.refl _ _⟩
  case round =>
    obtain ⟨k, hk, rfl, ⟨vals, hvl, hown, hvals, hsep⟩, hbel⟩ := hrel
    have HSep := Lib.hid hsep
    clear hsep
    by_cases hlt : k < n
    · obtain ⟨b, o, R, cR, rfl, hc, hR⟩ := (H.out.below hbel).at hlt
      have HO := Lib.hid hown
      have HV := Lib.hid hvals
      have HL := Lib.hid hvl
      clear hown hvals hvl
      by_cases h6 : k < 11
      · obtain ⟨q1, q2, q3, q4⟩ := hR
        have HQ := Lib.hid q4
        have hcase : (L k ≤ 11 ∧ R = none ∧ L k = 0 ∧ cR = 0) ∨ (L k ≤ 11 ∧ ∃ a, R = some a) ∨ (12 ≤ L k ∧ ∃ a, R = some a) := by
          rcases R with _ | a
          · have h0 := q4.none_
            exact .inl ⟨by omega, rfl, h0, q3 rfl⟩
          · rcases Nat.lt_or_ge (L k) 12 with hl | hl
            · exact .inr (.inl ⟨by omega, a, rfl⟩)
            · exact .inr (.inr ⟨hl, a, rfl⟩)
        clear q3 q4
        generalize hlk : L k = m at *
        have HLK := Lib.hid hlk
        clear hlk
        rcases hcase with ⟨hl, rfl, rfl, rfl⟩ | ⟨hl, a, rfl⟩ | ⟨hl, a, rfl⟩
        · go_wp2_with fail
          refine (clone_any none 0 0 (v k) _ HQ.out (by omega)).mono ?_
          rintro e w1 ⟨x, rfl, hx, -, hb1⟩
          have hx : OwnL w1 wr.heap.size x (lst (min (L k) 11) (v k)) := by rw [HLK.out]; exact hx
          have HO1 := Lib.hid (ownsRow_below HO.out hb1)
          have HV1 := Lib.hid (HV.out.below hb1)
          obtain ⟨A', c', hxe, -⟩ := hx.form
          rw [lst_len] at hxe
          subst hxe
          have HX := Lib.hid hx
          have hs1 := hb1.size
          have hs0 := hbel.size
          have hbase : w.heap.size ≤ w1.heap.size + 1 := by omega
          clear hx
          go_wp2_with (at_builtin; go_loud (refine wpList_append_own _ rfl _ _ 22 rfl w.heap.size 24 i0 (.slice none 0 0) 1 24 Try.underlying22 hi hz0 hz1 hz2 rfl (by decide) _ _ _ rfl (HO1.out.alloc _) ⟨w1.heap.size, 0, none⟩ 1 1 [.slice A' (min (L k) 11) c'] rfl rfl (news1 _ _ _) (one1 HX.out.one) (by unfold maxLen; omega) (by omega) (by simp; omega) ?_))
          intro v' w2 hown2 hgrow2 _
          have HO2 := Lib.hid hown2
          have HG2 := Lib.hid hgrow2
          clear hown2 hgrow2
          go_wp2
          go_roundw
          case rel =>
            have hbA : Below w.heap.size w w2 := by
              refine ((hbel.trans (hb1.mono hbel.size)).alloc (Nat.le_trans hbel.size hb1.size) _).grown HG2.out (by simp; omega) ?_
              intro g hg
              exact (World.ownsRow.lt HO.out g hg).1
            have HK : ∀ (x : Value) (xs : List Int), OwnL w1 w.heap.size x xs → OwnL w2 w.heap.size x xs := fun x xs hx =>
              World.ownsRow.kept (World.ownsRow.alloc hx _) HG2.out (own_other hx HO1.out (by decide))
            have hsn : Sep (vals ++ [.slice A' (min (L k) 11) c']) := HSep.out.snoc (B := wr.heap.size) (fun i y a hy hya => (World.ownsRow.lt (HV.out i y hy) a hya).2) (fun a ha => (World.ownsRow.lt HX.out a ha).1)
            refine ⟨k + 1, by omega, by go_num, ⟨vals ++ [.slice A' (min (L k) 11) c'], ?_, ?_, ?_, hsn⟩, hbA⟩
            · simp [HL.out]; omega
            · have e : min (k + 1) 11 = min k 11 + 1 := by omega
              rw [e]
              exact HO2.out
            · refine OwnVals.snoc ?_ (n := k) (by rw [HL.out]; omega) ?_
              · exact fun i x hx => HK _ _ (HV1.out i x hx)
              · exact HK _ _ (HX.out.rebase hs0)
          case measure => simp [intOf]; omega
        · have hm := Lib.hid (Nat.min_eq_left hl)
          go_wp2_with fail
          refine (clone_any (some a) m cR (v k) _ HQ.out (by omega)).mono ?_
          rintro e w1 ⟨x, rfl, hx, -, hb1⟩
          have hx : OwnL w1 wr.heap.size x (lst (min (L k) 11) (v k)) := by rw [HLK.out, hm.out]; exact hx
          have HO1 := Lib.hid (ownsRow_below HO.out hb1)
          have HV1 := Lib.hid (HV.out.below hb1)
          obtain ⟨A', c', hxe, -⟩ := hx.form
          rw [lst_len] at hxe
          subst hxe
          have HX := Lib.hid hx
          have hs1 := hb1.size
          have hs0 := hbel.size
          have hbase : w.heap.size ≤ w1.heap.size + 1 := by omega
          clear hx
          go_wp2_with (at_builtin; go_loud (refine wpList_append_own _ rfl _ _ 22 rfl w.heap.size 24 i0 (.slice none 0 0) 1 24 Try.underlying22 hi hz0 hz1 hz2 rfl (by decide) _ _ _ rfl (HO1.out.alloc _) ⟨w1.heap.size, 0, none⟩ 1 1 [.slice A' (min (L k) 11) c'] rfl rfl (news1 _ _ _) (one1 HX.out.one) (by unfold maxLen; omega) (by omega) (by simp; omega) ?_))
          intro v' w2 hown2 hgrow2 _
          have HO2 := Lib.hid hown2
          have HG2 := Lib.hid hgrow2
          clear hown2 hgrow2
          go_wp2
          go_roundw
          case rel =>
            have hbA : Below w.heap.size w w2 := by
              refine ((hbel.trans (hb1.mono hbel.size)).alloc (Nat.le_trans hbel.size hb1.size) _).grown HG2.out (by simp; omega) ?_
              intro g hg
              exact (World.ownsRow.lt HO.out g hg).1
            have HK : ∀ (x : Value) (xs : List Int), OwnL w1 w.heap.size x xs → OwnL w2 w.heap.size x xs := fun x xs hx =>
              World.ownsRow.kept (World.ownsRow.alloc hx _) HG2.out (own_other hx HO1.out (by decide))
            have hsn : Sep (vals ++ [.slice A' (min (L k) 11) c']) := HSep.out.snoc (B := wr.heap.size) (fun i y a hy hya => (World.ownsRow.lt (HV.out i y hy) a hya).2) (fun a ha => (World.ownsRow.lt HX.out a ha).1)
            refine ⟨k + 1, by omega, by go_num, ⟨vals ++ [.slice A' (min (L k) 11) c'], ?_, ?_, ?_, hsn⟩, hbA⟩
            · simp [HL.out]; omega
            · have e : min (k + 1) 11 = min k 11 + 1 := by omega
              rw [e]
              exact HO2.out
            · refine OwnVals.snoc ?_ (n := k) (by rw [HL.out]; omega) ?_
              · exact fun i x hx => HK _ _ (HV1.out i x hx)
              · exact HK _ _ (HX.out.rebase hs0)
          case measure => simp [intOf]; omega
        · have hm := Lib.hid (Nat.min_eq_right (show 11 ≤ m by omega))
          go_wp2_with fail
          refine (clone_any (some a) 11 cR (v k) _ (fun _ => by
            obtain ⟨b, o, e, hc⟩ := HQ.out (by omega)
            exact ⟨b, o, e, fun k hk => hc k (by omega)⟩) (by omega)).mono ?_
          rintro e w1 ⟨x, rfl, hx, -, hb1⟩
          have hx : OwnL w1 wr.heap.size x (lst (min (L k) 11) (v k)) := by rw [HLK.out, hm.out]; exact hx
          have HO1 := Lib.hid (ownsRow_below HO.out hb1)
          have HV1 := Lib.hid (HV.out.below hb1)
          obtain ⟨A', c', hxe, -⟩ := hx.form
          rw [lst_len] at hxe
          subst hxe
          have HX := Lib.hid hx
          have hs1 := hb1.size
          have hs0 := hbel.size
          have hbase : w.heap.size ≤ w1.heap.size + 1 := by omega
          clear hx
          go_wp2_with (at_builtin; go_loud (refine wpList_append_own _ rfl _ _ 22 rfl w.heap.size 24 i0 (.slice none 0 0) 1 24 Try.underlying22 hi hz0 hz1 hz2 rfl (by decide) _ _ _ rfl (HO1.out.alloc _) ⟨w1.heap.size, 0, none⟩ 1 1 [.slice A' (min (L k) 11) c'] rfl rfl (news1 _ _ _) (one1 HX.out.one) (by unfold maxLen; omega) (by omega) (by simp; omega) ?_))
          intro v' w2 hown2 hgrow2 _
          have HO2 := Lib.hid hown2
          have HG2 := Lib.hid hgrow2
          clear hown2 hgrow2
          go_wp2
          go_roundw
          case rel =>
            have hbA : Below w.heap.size w w2 := by
              refine ((hbel.trans (hb1.mono hbel.size)).alloc (Nat.le_trans hbel.size hb1.size) _).grown HG2.out (by simp; omega) ?_
              intro g hg
              exact (World.ownsRow.lt HO.out g hg).1
            have HK : ∀ (x : Value) (xs : List Int), OwnL w1 w.heap.size x xs → OwnL w2 w.heap.size x xs := fun x xs hx =>
              World.ownsRow.kept (World.ownsRow.alloc hx _) HG2.out (own_other hx HO1.out (by decide))
            have hsn : Sep (vals ++ [.slice A' (min (L k) 11) c']) := HSep.out.snoc (B := wr.heap.size) (fun i y a hy hya => (World.ownsRow.lt (HV.out i y hy) a hya).2) (fun a ha => (World.ownsRow.lt HX.out a ha).1)
            refine ⟨k + 1, by omega, by go_num, ⟨vals ++ [.slice A' (min (L k) 11) c'], ?_, ?_, ?_, hsn⟩, hbA⟩
            · simp [HL.out]; omega
            · have e : min (k + 1) 11 = min k 11 + 1 := by omega
              rw [e]
              exact HO2.out
            · refine OwnVals.snoc ?_ (n := k) (by rw [HL.out]; omega) ?_
              · exact fun i x hx => HK _ _ (HV1.out i x hx)
              · exact HK _ _ (HX.out.rebase hs0)
          case measure => simp [intOf]; omega
      · have e6 : min (k + 1) 11 = min k 11 := by omega
        go_wp2
        go_roundw
        case rel =>
          refine ⟨k + 1, by omega, by go_num, ⟨vals, ?_, ?_, HV.out, HSep.out⟩, hbel⟩
          · rw [HL.out]; omega
          · have e : min (k + 1) 11 = min k 11 := by omega
            rw [e]
            exact HO.out
        case measure => simp [intOf]; omega
    · go_wp2
      go_ret
      obtain rfl : k = n := by omega
      exact ⟨_, rfl, ⟨vals, hvl, hown, hvals, HSep.out⟩, hbel⟩
theorem ballotsF (A : Option Addr) (n c : Nat) (L : Nat → Nat) (v : Nat → Nat → Int) (w : World) (h : ArgR w A n c L v) :
    Calls Try.prog 7 #[.slice A n c] w fun e w' => ∃ A' k c', e = .returned (.slice A' k c') ∧ k = min n 11 ∧ RowsK w' A' k (fun i => min (L i) 11) v ∧ k ≤ c' ∧ Below w.heap.size w w' := by
  refine (ballots_any A n c L v w h).mono ?_
  rintro e w' ⟨x, rfl, hx, hb⟩
  obtain ⟨A', c', rfl, h1, h2⟩ := hx.own.rowsKc
  exact ⟨A', _, c', rfl, rfl, h1, h2, hb⟩
theorem wrap_pw (a : Nat) (h : a < 62) : wrap64 (2 ^ a) = ((2 ^ a : Nat) : Int) := by
  have h1 : (2 : Nat) ^ a ≤ 2 ^ 61 := Nat.pow_le_pow_right (by omega) (by omega)
  have e : ((2 : Int) ^ a) = ((2 ^ a : Nat) : Int) := by simp
  rw [e]
  generalize 2 ^ a = q at *
  unfold wrap64
  omega
end Go.Proofs.Ytdbeblmlikkjhaa
