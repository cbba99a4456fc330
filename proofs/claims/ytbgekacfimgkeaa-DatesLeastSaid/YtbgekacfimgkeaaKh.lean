/- The reference's search: its step, the whole, and the reference's Least. -/
import Derived.Test.YtbgekacfimgkeaaKg
namespace Go.Proofs.Ytbgekacfimgkeaa
open Go.RowKit

set_option maxHeartbeats 4000000 in
set_option maxRecDepth 1000000 in
theorem refleast_first (A B : Option Addr) (n c m c2 r : Nat) (J F : Nat → Nat → Int) (hok : okJ n J = true) (hbf : bfB n m F = true) (ih : LsOk A B n c m c2 J F r) (g : Nat → Int) (v : Value) (x : Int) (opt : Option (List Int)) (w : World)
    (hi : 0 + (r + 1) = n) (hA : Recs 4 w A n J) (hB : Recs 2 w B m F) (hg : Ints w none 0 g) (hc3 : 0 ≤ 0) (hr : ∀ a, a < 0 → 0 ≤ g a ∧ g a < n) (hnew : ∀ a, a < 0 → btN (pfS g a) (g a).toNat = false) (hv : BestV w v n opt) :
    Calls Try.prog 65 #[.slice A n c, .slice B m c2, .slice none 0 0, v, .int .i64 x] w fun e w' => ∃ v', e = .returned (.tuple #[v', .int .i64 (lsR n J (nF F m) (r + 1) g 0 (opt, x)).2]) ∧ BestV w' v' n (lsR n J (nF F m) (r + 1) g 0 (opt, x)).1 ∧ Below w.heap.size w w' := by
  obtain ⟨hn1, hn8⟩ := (okJ_iff.1 hok).1
  have hp := Nat.pow_le_pow_right (n := 2) (by omega) hn8
  have hm16 := (bf_rng hbf).1
  have hs256 : pfS g 0 < 256 := by have := pfS_lt (n := n) 0 hr; omega
  skip
  have HA := Lib.hid hA
  have HB := Lib.hid hB
  have HG := Lib.hid hg
  have HIH := Lib.hid ih
  have HR := Lib.hid hr
  have HMay : Hid (∀ w' k, Below w.heap.size w w' → k < n → Lr 84 #[.slice A n c, .slice B m c2, .slice none 0 0, .int .i64 k] w' (.bool (cfB (nF F m) (pfS g 0) k))) := Lib.hid (fun w' k hb hk => by
    rw [← my_cf hn8 hbf hs256]
    exact may_any A B none n c m c2 0 0 k F g w' (hB.keep hb) hn8 (by unfold maxLen; omega) hbf (hg.keep hb) (by omega) hr hk)
  have HFin : Hid (lsR n J (nF F m) (r + 1) g 0 (opt, x) = lsS n J (nF F m) r g 0 (opt, x) n) := Lib.hid (by rw [lsR, lsS_fold])
  have HNext : Hid (∀ k, lsS n J (nF F m) r g 0 (opt, x) (k + 1) = if cfB (nF F m) (pfS g 0) k = true then lsR n J (nF F m) r (upd g 0 (k : Int)) (0 + 1) (lsS n J (nF F m) r g 0 (opt, x) k) else lsS n J (nF F m) r g 0 (opt, x) k) := Lib.hid (fun _ => rfl)
  have HNew : Hid (∀ k, k < n → cfB (nF F m) (pfS g 0) k = true → (∀ a, a < 0 + 1 → 0 ≤ upd g 0 (k : Int) a ∧ upd g 0 (k : Int) a < n) ∧ ∀ a, a < 0 + 1 → btN (pfS (upd g 0 (k : Int)) a) (upd g 0 (k : Int) a).toNat = false) := Lib.hid (fun k hk hc => by
    refine ⟨fun a ha => ?_, fun a ha => ?_⟩
    · by_cases e : a = 0
      · rw [e, upd_at]
        omega
      · rw [upd_ne _ _ e]
        exact hr a (by omega)
    · rw [pfS_congr (g := g) (fun b hb => upd_ne _ _ (by omega))]
      by_cases e : a = 0
      · rw [e, upd_at, Int.toNat_natCast]
        exact cf_no hc
      · rw [upd_ne _ _ e]
        exact hnew a (by omega))
  obtain ⟨i1, hi1, hz01, hz11, hz21⟩ := info_parts infoInt
  obtain ⟨A3, k3, cc3, rfl⟩ := hv.form
  have HV : Hid (BestV w (.slice A3 k3 cc3) n (lsS n J (nF F m) r g 0 (opt, x) 0).1) := Lib.hid hv
  have H0 : Hid ((lsS n J (nF F m) r g 0 (opt, x) 0).2 = x) := Lib.hid rfl
  clear hA hB hg ih hr hnew hv hok hbf hp hs256
  generalize hR : lsR n J (nF F m) (r + 1) g 0 (opt, x) = R at *
  have HRR := Lib.hid hR
  clear hR
  generalize lsS n J (nF F m) r g 0 (opt, x) = T at *
  go_enter Try.func65, Try.ntmps65
  have hbb : ((0 : Int) == (n : Int)) = false := beq_f (by omega)
  go_wp2
  go_loopw [3, 4, 33] (fun v' x' i' wr => ∃ k : Nat, k ≤ n ∧ i' = .int .i64 k ∧ x' = .int .i64 (T k).2 ∧ BestV wr v' n (T k).1 ∧ Below w.heap.size w wr) (fun _ _ i' _ => n - (intOf i').toNat)
  case atStart => exact ⟨0, Nat.zero_le _, rfl, by rw [H0.out], HV.out, Below.refl _ _⟩
  case round =>
    obtain ⟨k, hk, rfl, rfl, hV, hD⟩ := hrel
    obtain ⟨A5, k5, c5, rfl⟩ := hV.form
    have HD := Lib.hid hD
    have HVr := Lib.hid hV
    clear hV hD
    by_cases hlt : k < n
    · go_wp2_with fail
      refine (HMay.out wr k HD.out hlt).use fun w2 hb2 => ?_
      have HB2 := Lib.hid (HD.out.trans (hb2.mono HD.out.size))
      have HV2 := Lib.hid (HVr.out.keep hb2)
      clear hb2
      cases hc : cfB (nF F m) (pfS g 0) k with
      | false =>
        have HN := Lib.hid (show T (k + 1) = T k by rw [HNext.out, hc]; rfl)
        clear hc
        go_wp2
        go_roundw
        case rel => exact ⟨k + 1, by omega, by go_num, by rw [HN.out], by rw [HN.out]; exact HV2.out, HB2.out⟩
        case measure => simp [intOf]; omega
      | true =>
        have HN := Lib.hid (show T (k + 1) = lsR n J (nF F m) r (upd g 0 (k : Int)) (0 + 1) (T k) by rw [HNext.out, hc]; rfl)
        have HNw := Lib.hid (HNew.out k hlt hc)
        have hs0 : w.heap.size ≤ w2.heap.size := HB2.out.size
        have HG2 := Lib.hid (HG.out.keep HB2.out)
        clear hc
        go_wp2_with (at_builtin; go_loud (refine wpList_append_grows _ rfl _ _ 23 rfl 3 i1 (.int .i64 0) 1 8 Try.underlying23 hi1 hz01 hz11 hz21 rfl (by decide) none 0 0 ((lst 0 g).map (Value.int .i64)) rfl ?q1 ?q2 ?q3 ⟨w2.heap.size, 0, none⟩ 1 1 [.int .i64 k] rfl rfl (news1 _ _ _) (one1 rfl) (by omega) (by unfold maxLen; omega) (by omega) ?_))
        case q2 => simp [lst_len]
        case q3 =>
          exact fun b e => by cases e
        intro v5 w5 hown hgrow
        have hO : OwnL w5 (w2.heap.size + 1) v5 (lst (0 + 1) (upd g 0 (k : Int))) := by
          unfold OwnL
          rw [lst_len, lst_succ, List.map_append, upd_at, lst_congr (fun a ha => upd_ne g (k : Int) (show a ≠ 0 by omega))]
          exact hown
        have hb5 : Below w2.heap.size w2 w5 := ((Below.refl w2.heap.size w2).alloc (Nat.le_refl _) (.cells #[.int .i64 k] 3)).grown hgrow (by simp) (by intro q hq; cases hq)
        have HB5 := Lib.hid (HB2.out.trans (hb5.mono HB2.out.size))
        have HV5 := Lib.hid (HV2.out.keep hb5)
        obtain ⟨A4, c4, rfl, -, hI4, -, hc4⟩ := hO.form
        rw [lst_len] at hI4 hc4 ⊢
        have HI4 := Lib.hid (hI4.congr (fun q hq => lst_getD _ _ _ hq))
        have HC4 := Lib.hid hc4
        clear hO hown hgrow hI4 hb5 hc4
        go_wp2_with fail
        refine (HIH.out A4 c4 (0 + 1) (upd g 0 (k : Int)) (.slice A5 k5 c5) (T k).2 (T k).1 w5 (by omega) (HA.out.keep HB5.out) (HB.out.keep HB5.out) HI4.out HC4.out (fun h => absurd h (by omega)) HNw.out.1 HNw.out.2 HV5.out).mono ?_
        rintro e w6 ⟨v6, rfl, hv6, hb6⟩
        rw [show ((T k).1, (T k).2) = T k from rfl, ← HN.out] at hv6 ⊢
        have HV6 := Lib.hid hv6
        obtain ⟨A6, k6, c6, rfl⟩ := hv6.form
        have HB6 := Lib.hid (HB5.out.trans (hb6.mono HB5.out.size))
        clear hv6 hb6
        go_wp2
        go_roundw
        case rel => exact ⟨k + 1, by omega, by go_num, rfl, HV6.out, HB6.out⟩
        case measure => simp [intOf]; omega
    · obtain rfl : k = n := by omega
      have HV2 := Lib.hid (show BestV wr (.slice A5 k5 c5) k R.1 by rw [HFin.out]; exact HVr.out)
      go_wp2
      go_returns
      exact ⟨_, by rw [HFin.out]; rfl, HV2.out, HD.out⟩

set_option maxHeartbeats 4000000 in
set_option maxRecDepth 1000000 in
theorem refleast_later (A B : Option Addr) (n c m c2 r : Nat) (J F : Nat → Nat → Int) (hok : okJ n J = true) (hbf : bfB n m F = true) (ih : LsOk A B n c m c2 J F r) (b0 o0 c3 i : Nat) (g : Nat → Int) (v : Value) (x : Int) (opt : Option (List Int)) (w : World)
    (hi : i + (r + 1) = n) (hi0 : 0 < i) (hA : Recs 4 w A n J) (hB : Recs 2 w B m F) (hg : Ints w (some ⟨b0, o0, none⟩) i g) (hc3 : i ≤ c3) (hr : ∀ a, a < i → 0 ≤ g a ∧ g a < n) (hnew : ∀ a, a < i → btN (pfS g a) (g a).toNat = false) (hv : BestV w v n opt) :
    Calls Try.prog 65 #[.slice A n c, .slice B m c2, .slice (some ⟨b0, o0, none⟩) i c3, v, .int .i64 x] w fun e w' => ∃ v', e = .returned (.tuple #[v', .int .i64 (lsR n J (nF F m) (r + 1) g i (opt, x)).2]) ∧ BestV w' v' n (lsR n J (nF F m) (r + 1) g i (opt, x)).1 ∧ Below w.heap.size w w' := by
  obtain ⟨hn1, hn8⟩ := (okJ_iff.1 hok).1
  have hp := Nat.pow_le_pow_right (n := 2) (by omega) hn8
  have hm16 := (bf_rng hbf).1
  have hs256 : pfS g i < 256 := by have := pfS_lt (n := n) i hr; omega
  skip
  have HA := Lib.hid hA
  have HB := Lib.hid hB
  have HG := Lib.hid hg
  have HIH := Lib.hid ih
  have HR := Lib.hid hr
  have HMay : Hid (∀ w' k, Below w.heap.size w w' → k < n → Lr 84 #[.slice A n c, .slice B m c2, .slice (some ⟨b0, o0, none⟩) i c3, .int .i64 k] w' (.bool (cfB (nF F m) (pfS g i) k))) := Lib.hid (fun w' k hb hk => by
    rw [← my_cf hn8 hbf hs256]
    exact may_any A B (some ⟨b0, o0, none⟩) n c m c2 i c3 k F g w' (hB.keep hb) hn8 (by unfold maxLen; omega) hbf (hg.keep hb) (by omega) hr hk)
  have HFin : Hid (lsR n J (nF F m) (r + 1) g i (opt, x) = lsS n J (nF F m) r g i (opt, x) n) := Lib.hid (by rw [lsR, lsS_fold])
  have HNext : Hid (∀ k, lsS n J (nF F m) r g i (opt, x) (k + 1) = if cfB (nF F m) (pfS g i) k = true then lsR n J (nF F m) r (upd g i (k : Int)) (i + 1) (lsS n J (nF F m) r g i (opt, x) k) else lsS n J (nF F m) r g i (opt, x) k) := Lib.hid (fun _ => rfl)
  have HNew : Hid (∀ k, k < n → cfB (nF F m) (pfS g i) k = true → (∀ a, a < i + 1 → 0 ≤ upd g i (k : Int) a ∧ upd g i (k : Int) a < n) ∧ ∀ a, a < i + 1 → btN (pfS (upd g i (k : Int)) a) (upd g i (k : Int) a).toNat = false) := Lib.hid (fun k hk hc => by
    refine ⟨fun a ha => ?_, fun a ha => ?_⟩
    · by_cases e : a = i
      · rw [e, upd_at]
        omega
      · rw [upd_ne _ _ e]
        exact hr a (by omega)
    · rw [pfS_congr (g := g) (fun b hb => upd_ne _ _ (by omega))]
      by_cases e : a = i
      · rw [e, upd_at, Int.toNat_natCast]
        exact cf_no hc
      · rw [upd_ne _ _ e]
        exact hnew a (by omega))
  obtain ⟨i1, hi1, hz01, hz11, hz21⟩ := info_parts infoInt
  obtain ⟨A3, k3, cc3, rfl⟩ := hv.form
  have HV : Hid (BestV w (.slice A3 k3 cc3) n (lsS n J (nF F m) r g i (opt, x) 0).1) := Lib.hid hv
  have H0 : Hid ((lsS n J (nF F m) r g i (opt, x) 0).2 = x) := Lib.hid rfl
  clear hA hB hg ih hr hnew hv hok hbf hp hs256
  generalize hR : lsR n J (nF F m) (r + 1) g i (opt, x) = R at *
  have HRR := Lib.hid hR
  clear hR
  generalize lsS n J (nF F m) r g i (opt, x) = T at *
  go_enter Try.func65, Try.ntmps65
  have hbb : ((i : Int) == (n : Int)) = false := beq_f (by omega)
  go_wp2
  go_loopw [3, 4, 33] (fun v' x' i' wr => ∃ k : Nat, k ≤ n ∧ i' = .int .i64 k ∧ x' = .int .i64 (T k).2 ∧ BestV wr v' n (T k).1 ∧ Below w.heap.size w wr) (fun _ _ i' _ => n - (intOf i').toNat)
  case atStart => exact ⟨0, Nat.zero_le _, rfl, by rw [H0.out], HV.out, Below.refl _ _⟩
  case round =>
    obtain ⟨k, hk, rfl, rfl, hV, hD⟩ := hrel
    obtain ⟨A5, k5, c5, rfl⟩ := hV.form
    have HD := Lib.hid hD
    have HVr := Lib.hid hV
    clear hV hD
    by_cases hlt : k < n
    · go_wp2_with fail
      refine (HMay.out wr k HD.out hlt).use fun w2 hb2 => ?_
      have HB2 := Lib.hid (HD.out.trans (hb2.mono HD.out.size))
      have HV2 := Lib.hid (HVr.out.keep hb2)
      clear hb2
      cases hc : cfB (nF F m) (pfS g i) k with
      | false =>
        have HN := Lib.hid (show T (k + 1) = T k by rw [HNext.out, hc]; rfl)
        clear hc
        go_wp2
        go_roundw
        case rel => exact ⟨k + 1, by omega, by go_num, by rw [HN.out], by rw [HN.out]; exact HV2.out, HB2.out⟩
        case measure => simp [intOf]; omega
      | true =>
        have HN := Lib.hid (show T (k + 1) = lsR n J (nF F m) r (upd g i (k : Int)) (i + 1) (T k) by rw [HNext.out, hc]; rfl)
        have HNw := Lib.hid (HNew.out k hlt hc)
        have hs0 : w.heap.size ≤ w2.heap.size := HB2.out.size
        have HG2 := Lib.hid (HG.out.keep HB2.out)
        clear hc
        go_wp2_with (at_builtin; go_loud (refine wpList_append_grows _ rfl _ _ 23 rfl 3 i1 (.int .i64 0) 1 8 Try.underlying23 hi1 hz01 hz11 hz21 rfl (by decide) (some ⟨b0, o0, none⟩) i i ((lst i g).map (Value.int .i64)) rfl ?q1 ?q2 ?q3 ⟨w2.heap.size, 0, none⟩ 1 1 [.int .i64 k] rfl rfl (news1 _ _ _) (one1 rfl) (by omega) (by unfold maxLen; omega) (by omega) ?_))
        case q1 => exact fun e => by cases e
        case q2 => simp [lst_len]
        case q3 =>
          exact fun b e j u hu => by
            injection e with e
            subst e
            have hj : j < i := by
              have := (List.getElem?_eq_some_iff.1 hu).1
              simpa [lst_len] using this
            rw [List.getElem?_map, lst_get _ _ _ hj] at hu
            rw [Addr.add_lit]
            obtain ⟨b', o', e', h'⟩ := HG2.out hi0
            injection e' with e'
            injection e' with e1 e2
            subst e1 e2
            exact Lib.cell?_alloc_some _ ((h' j hj).trans hu)
        intro v5 w5 hown hgrow
        have hO : OwnL w5 (w2.heap.size + 1) v5 (lst (i + 1) (upd g i (k : Int))) := by
          unfold OwnL
          rw [lst_len, lst_succ, List.map_append, upd_at, lst_congr (fun a ha => upd_ne g (k : Int) (show a ≠ i by omega))]
          exact hown
        have hb5 : Below w2.heap.size w2 w5 := ((Below.refl w2.heap.size w2).alloc (Nat.le_refl _) (.cells #[.int .i64 k] 3)).grown hgrow (by simp) (by intro q hq; cases hq)
        have HB5 := Lib.hid (HB2.out.trans (hb5.mono HB2.out.size))
        have HV5 := Lib.hid (HV2.out.keep hb5)
        obtain ⟨A4, c4, rfl, -, hI4, -, hc4⟩ := hO.form
        rw [lst_len] at hI4 hc4 ⊢
        have HI4 := Lib.hid (hI4.congr (fun q hq => lst_getD _ _ _ hq))
        have HC4 := Lib.hid hc4
        clear hO hown hgrow hI4 hb5 hc4
        go_wp2_with fail
        refine (HIH.out A4 c4 (i + 1) (upd g i (k : Int)) (.slice A5 k5 c5) (T k).2 (T k).1 w5 (by omega) (HA.out.keep HB5.out) (HB.out.keep HB5.out) HI4.out HC4.out (fun h => absurd h (by omega)) HNw.out.1 HNw.out.2 HV5.out).mono ?_
        rintro e w6 ⟨v6, rfl, hv6, hb6⟩
        rw [show ((T k).1, (T k).2) = T k from rfl, ← HN.out] at hv6 ⊢
        have HV6 := Lib.hid hv6
        obtain ⟨A6, k6, c6, rfl⟩ := hv6.form
        have HB6 := Lib.hid (HB5.out.trans (hb6.mono HB5.out.size))
        clear hv6 hb6
        go_wp2
        go_roundw
        case rel => exact ⟨k + 1, by omega, by go_num, rfl, HV6.out, HB6.out⟩
        case measure => simp [intOf]; omega
    · obtain rfl : k = n := by omega
      have HV2 := Lib.hid (show BestV wr (.slice A5 k5 c5) k R.1 by rw [HFin.out]; exact HVr.out)
      go_wp2
      go_returns
      exact ⟨_, by rw [HFin.out]; rfl, HV2.out, HD.out⟩

theorem refleast_any (A B : Option Addr) (n c m c2 : Nat) (J F : Nat → Nat → Int) (hok : okJ n J = true) (hbf : bfB n m F = true) : ∀ r, LsOk A B n c m c2 J F r := by
  intro r
  induction r with
  | zero => exact refleast_leaf A B n c m c2 J F hok
  | succ r ih =>
    intro C c3 i g v x opt w hi hA hB hg hc3 hC hr hnew hv
    rcases Nat.eq_zero_or_pos i with h0 | h0
    · obtain ⟨rfl, h2⟩ := hC h0
      subst h0 h2
      exact refleast_first A B n c m c2 r J F hok hbf ih g v x opt w hi hA hB hg hc3 hr hnew hv
    · obtain ⟨b0, o0, rfl, -⟩ := hg h0
      exact refleast_later A B n c m c2 r J F hok hbf ih b0 o0 c3 i g v x opt w hi h0 hA hB hg hc3 hr hnew hv

set_option maxHeartbeats 4000000 in
set_option maxRecDepth 1000000 in
/-- The reference's Least. -/
theorem refLeast_ok (A B : Option Addr) (n c m c2 : Nat) (J F : Nat → Nat → Int) (w : World) (h : Recs 4 w A n J) (hF : Recs 2 w B m F) (hok : okJ n J = true) (hbf : bfB n m F = true) :
    Calls Try.prog 32 #[.slice A n c, .slice B m c2] w fun e w' => ((dT n J (nF F m) 0 = 161 ∧ e = .returned (.tuple #[.slice none 0 0, .int .i64 0, .int .i64 6])) ∨
      (dT n J (nF F m) 0 ≠ 161 ∧ ∃ b k f, e = .returned (.tuple #[.slice (some b) n k, .int .i64 (dT n J (nF F m) 0), .int .i64 0]) ∧ Ints w' (some b) n f ∧ lst n f = (frF n J (nF F m) (dT n J (nF F m)) (dT n J (nF F m) 0) n).2)) ∧ Below w.heap.size w w' := by
  have q := fun (w : World) (a : Option Addr) (n c n' c' : Nat) => Lib.run_eql_slice_nil (P := Try.prog) w 23 3 a n c n' c' Try.underlying23
  have HL := Lib.hid (refleast_any A B n c m c2 J F hok hbf n none 0 0 (fun _ => 0) (.slice none 0 0) 1073741824 none w (by omega) h hF (fun h => absurd h (by omega)) (Nat.le_refl _) (fun _ => ⟨rfl, rfl⟩) (fun a ha => absurd ha (by omega)) (fun a ha => absurd ha (by omega)) rfl)
  have hroot := lsR_root (N := nF F m) hok (fun _ => 0)
  have hrg : dT n J (nF F m) 0 ≤ 161 := (dpA_rng (N := nF F m) hok (2 ^ n - 1) 0).2
  rw [hroot] at HL
  clear h hF hok hbf hroot
  generalize dT n J (nF F m) 0 = ls at *
  generalize hO : (frF n J (nF F m) (dT n J (nF F m)) ls n).2 = O at *
  clear hO
  go_enter Try.func32, Try.ntmps32
  by_cases hlt : ls < 161
  · rw [if_pos hlt] at HL
    go_wp2_with fail
    refine HL.out.mono ?_
    rintro e w2 ⟨v, rfl, hv, hb⟩
    obtain ⟨b, k, f, rfl, hI, rfl⟩ := hv
    have HI := Lib.hid hI
    have HB := Lib.hid hb
    clear hI hb
    go_wp2
    go_returns
    exact ⟨.inr ⟨by omega, b, k, f, rfl, HI.out, rfl⟩, HB.out⟩
  · rw [if_neg hlt] at HL
    go_wp2_with fail
    refine HL.out.mono ?_
    rintro e w2 ⟨v, rfl, hv, hb⟩
    have hv : v = .slice none 0 0 := hv
    subst hv
    have HB := Lib.hid hb
    clear hb
    go_wp2
    go_returns
    exact ⟨.inl ⟨by omega, rfl⟩, HB.out⟩
end Go.Proofs.Ytbgekacfimgkeaa
