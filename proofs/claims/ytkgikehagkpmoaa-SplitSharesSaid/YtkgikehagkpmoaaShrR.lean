import Derived.Test.YtkgikehagkpmoaaParts
import Derived.Test.YtkgikehagkpmoaaAppAny
import Derived.Test.YtkgikehagkpmoaaRef1
namespace Go.Proofs.Ytkgikehagkpmoaa
open Go.RowKit

/-- A slice of the call's own, as a row of its whole block. -/
theorem OwnL.row {w : World} {base : Nat} {v : Value} {n : Nat} {f : Nat → Int} (h : OwnL w base v (lst n f)) (hp : 0 < n) :
    ∃ (g cap : Nat) (F : Nat → Value), v = .slice (some ⟨g, 0, none⟩) n cap ∧ base ≤ g ∧ w.rowIs g 3 cap F ∧ n ≤ cap ∧ ∀ i, i < n → F i = .int .i64 (f i) := by
  have hl := lst_len n f
  have h0 := h
  rcases h0.2 with ⟨_, hn⟩ | ⟨g, cap, cur, e, hg, hh, hnc, hcm, hcs, ht⟩
  · omega
  · have hr : w.rowIs g 3 cap (fun i => cur[i]?.getD (.int .i64 0)) := ⟨cur, hh, by omega, fun i hi => by
      have hi' : i < cur.size := by omega
      simp [Array.getElem?_eq_getElem hi']⟩
    subst e
    refine ⟨g, cap, fun i => cur[i]?.getD (.int .i64 0), by rw [hl], hg, hr, by omega, fun i hi => ?_⟩
    have hc := World.ownsRow.cellAt h i (by rw [hl]; omega)
    rw [World.rowIs.cell hr (by omega), List.getElem?_map, lst_get n f i hi, Option.map_some] at hc
    injection hc
/-- .. and one of its numbers is stored. -/
theorem row_set {w : World} {g n cap : Nat} {F : Nat → Value} {f : Nat → Int} (hr : w.rowIs g 3 cap F) (hn : n ≤ cap) (hF : ∀ i, i < n → F i = .int .i64 (f i)) (i : Nat) (x : Int) :
    Ints (w.setCell ⟨g, i, none⟩ (.int .i64 x)) (some ⟨g, 0, none⟩) n (upd f i x) := fun _ => ⟨g, 0, rfl, fun k hk => by
  rw [Nat.zero_add, World.rowIs.cell (World.rowIs.set hr i (.int .i64 x)) (by omega)]
  by_cases e : k = i
  · simp [e, upd]
  · simp [e, upd, hF k hk]⟩
theorem nil_lst (w : World) (base : Nat) (hb : base ≤ w.heap.size) : OwnL (w.alloc (.cells #[] 3)) base (.slice (some ⟨w.heap.size, 0, none⟩) 0 0) [] :=
  ⟨rfl, .inr ⟨w.heap.size, 0, _, rfl, hb, heap_alloc_new w _, Nat.le_refl _, by unfold maxLen; omega, rfl, rfl⟩⟩

set_option maxHeartbeats 1000000 in
theorem rlow_any (A : Option Addr) (n c : Nat) (S : Nat → Int) (w : World) (h : Ints w A (n + 1) S) (hn : n ≤ 8) :
    Calls Try.prog 48 #[.slice A ((n + 1 : Nat)) c] w fun e w' => e = .returned (.int .i64 (lowT S n)) ∧ w = w' := by
  obtain ⟨b, o, rfl, -⟩ := h.at (show 0 < n + 1 by omega)
  have h0 := h.cell0 (by omega)
  have HI := Lib.hid h
  clear h
  obtain ⟨l, hl⟩ : ∃ l, l = n + 1 := ⟨_, rfl⟩
  rw [← hl] at HI ⊢
  have hl9 : l ≤ 9 := by omega
  have hl1 : 0 < l := by omega
  have HL := Lib.hid hl
  clear hl
  go_enter Try.func48, Try.ntmps48
  go_wp2
  go_loop [3, 11] (fun m i => ∃ k : Nat, k ≤ l ∧ i = .int .i64 k ∧ m = .int .i64 (lowT S (k - 1))) (fun _ i => l - (intOf i).toNat)
  case atStart => exact ⟨0, Nat.zero_le _, rfl, rfl⟩
  case round =>
    obtain ⟨k, hk, rfl, rfl⟩ := hrel
    by_cases hlt : k < l
    · have hc := HI.out.cell hlt
      have HM : Hid (lowT S (k + 1 - 1) = min (lowT S (k - 1)) (S k)) := Lib.hid (by
        rcases k with _ | j
        · show S 0 = min (S 0) (S 0)
          omega
        · rfl)
      go_wp2
      go_round
      case rel => exact ⟨k + 1, by omega, by go_num, val_int (by rw [HM.out]; split <;> omega)⟩
      case measure => simp [intOf]; omega
    · obtain rfl : k = l := by omega
      have e : k - 1 = n := by have := HL.out; omega
      rw [e]
      go_wp2
      go_ret
      exact ⟨rfl, rfl⟩

set_option maxHeartbeats 1000000 in
set_option maxRecDepth 1000000 in
theorem rsums_any (A D : Option Addr) (m n c c' : Nat) (f d : Nat → Int) (N : Int) (w : World) (hf : Ints w A m f) (hd : Ints w D m d) (hb : Bd m f 100) (hm : m ≤ 7) (hn : n ≤ 9) (hO : Own n m d) (hN : N = (n : Int)) :
    Calls Try.prog 49 #[.slice A m c, .slice D m c', .int .i64 N] w fun e w' => e = .returned (.slice (some ⟨w.heap.size, 0, none⟩) n n) ∧ RowI w' w.heap.size n (wOf f d m) ∧ Below w.heap.size w w' := by
  subst hN
  have hmk := mk_ints n (by omega)
  have H := Lib.hid hf
  have HD := Lib.hid hd
  have HO := Lib.hid hO
  have HB := Lib.hid hb
  clear hf hd hO hb
  go_enter Try.func49, Try.ntmps49
  go_wp2
  clear hmk
  go_loopw [14] (fun i wr => ∃ k : Nat, k ≤ m ∧ i = .int .i64 k ∧ RowI wr w.heap.size n (wOf f d k) ∧ Below w.heap.size w wr) (fun i _ => m - (intOf i).toNat)
  case atStart => exact ⟨0, Nat.zero_le _, rfl, RowI.made w n, (Below.refl _ _).alloc (Nat.le_refl _) _⟩
  case round =>
    obtain ⟨k, hk, rfl, hR, hbel⟩ := hrel
    by_cases hlt : k < m
    · obtain ⟨b, o, rfl, hc⟩ := (HD.out.keep hbel).at hlt
      obtain ⟨j, hj⟩ : ∃ j : Nat, d k = j := ⟨(d k).toNat, by have := (HO.out k hlt).1; omega⟩
      have hjn : j < n := by have := (HO.out k hlt).2; omega
      obtain ⟨br, orr, rfl, hvc⟩ := (H.out.keep hbel).at hlt
      have hs := hR.cell hjn
      have hfz := hR.frozen j
      obtain ⟨h1, h2⟩ := HB.out k hlt
      obtain ⟨h3, h4⟩ := wOf_bd (D := d) (g := k) HB.out (by omega) hm j
      have HR := Lib.hid hR
      rw [hj] at hc
      have HJ := Lib.hid hj
      clear hR hj
      go_wp2
      go_region
      go_wp2
      go_roundw
      case rel =>
        refine ⟨k + 1, by omega, by go_num, ((HR.out.set j _).drew).congr (fun i hi => ?_), (hbel.setCell (Nat.le_refl _) _).drew⟩
        rw [wOf_put (D := d) (fun _ _ => rfl) HJ.out]
        simp only [upd, addAt]
        by_cases e : i = j
        · rw [if_pos e, if_pos e, e]
        · rw [if_neg e, if_neg e]
      case measure => simp [intOf]; omega
    · obtain rfl : k = m := by omega
      have HR := Lib.hid hR
      clear hR
      go_wp2
      go_ret
      exact ⟨rfl, HR.out, hbel⟩

set_option maxHeartbeats 1000000 in
set_option maxRecDepth 1000000 in
theorem shared_any (n : Nat) (hn : n ≤ 6) : ∀ (k : Nat) (A : Option Addr) (c : Nat) (f : Nat → Int) (B : Option Addr) (cB : Nat) (S : Nat → Int) (used : Nat) (u : Int) (w : World), u = (used : Int) → Ints w A k f → Bd k f 100 → k ≤ c → c ≤ maxLen → k ≤ 9 → Ints w B (n + 1) S → (∀ p, p ≤ n → 0 ≤ S p ∧ S p ≤ 10000 - 100 * (k : Int)) → used ≤ n + 1 →
    Calls Try.prog 47 #[.slice A k c, .slice B ((n + 1 : Nat)) cB, .int .i64 u] w fun e w' => e = .returned (.int .i64 (shR n k f S used)) ∧ Below w.heap.size w w' := by
  intro k
  induction k with
  | zero =>
    intro A c f B cB S used u w hu hf hb hc hcm hk9 hS hSb hus
    have HS := Lib.hid hS
    clear hf hb hS
    go_enter Try.func47, Try.ntmps47
    go_wp2_with fail
    refine (rlow_any B n cB S _ HS.out (by omega)).mono ?_
    rintro e w' ⟨rfl, rfl⟩
    go_wp2
    go_ret
    exact ⟨rfl, Below.refl _ _⟩
  | succ k ih =>
    intro A c f B cB S used u w hu hf hb hc hcm hk9 hS hSb hus
    subst hu
    have HIh := Lib.hid ih
    obtain ⟨b, o, rfl, -⟩ := hf.at (show 0 < k + 1 by omega)
    have HF := Lib.hid hf
    have HB := Lib.hid hb
    have HS := Lib.hid hS
    have HSb := Lib.hid hSb
    obtain ⟨C, hC⟩ : ∃ C, C = min (used + 1) (n + 1) := ⟨_, rfl⟩
    obtain ⟨ch, hch⟩ : ∃ ch : Nat → Int, ch = fun p => shR n k (fun j => f (j + 1)) (addAt S p (f 0)) (max used (p + 1)) := ⟨_, rfl⟩
    have HNext : Hid (shR n (k + 1) f S used = mxf 0 ch C) := Lib.hid (by rw [hch, hC]; rfl)
    have HCh := Lib.hid hch
    have HCs := Lib.hid hC
    have hC0 : 0 < C := by omega
    have hCn : C ≤ n + 1 := by omega
    obtain ⟨l, hl⟩ : ∃ l, l = k + 1 := ⟨_, rfl⟩
    rw [← hl]
    have HL := Lib.hid hl
    have hl0 : ¬ (l : Int) = 0 := by omega
    have hl1 : 1 ≤ l := by omega
    have hlc : l ≤ c := by omega
    clear ih hf hb hS hSb hch hC hl
    go_enter Try.func47, Try.ntmps47
    go_wp2_with fail
    all_goals
      first
        | rw [show ((used : Int) + 1) = (C : Int) by have := HCs.out; omega]
        | rw [show ((n : Int) + 1) = (C : Int) by have := HCs.out; omega]
      clear HCs
      go_loopw [7, 20] (fun s x wr => ∃ p : Nat, p ≤ C ∧ x = .int .i64 p ∧ s = .int .i64 (mxf 0 ch p) ∧ Below w.heap.size w wr) (fun _ x _ => C - (intOf x).toNat)
      case atStart => exact ⟨0, Nat.zero_le _, rfl, rfl, Below.refl _ _⟩
      case round =>
        obtain ⟨p, hp, rfl, rfl, hbel⟩ := hrel
        by_cases hlt : p < C
        · have Hbel := Lib.hid hbel
          have Hb2 := Lib.hid ((Below.refl wr.heap.size wr).alloc (Nat.le_refl _) (.cells #[] 3))
          have hszr := hbel.size
          clear hbel
          go_wp2_with (at_builtin; go_loud (refine wpList_append_ints rfl (.tmp 23) (.tmp 24) rfl wr.heap.size (.slice (some ⟨wr.heap.size, 0, none⟩) 0 0) [] rfl (nil_lst wr wr.heap.size (Nat.le_refl _)) B (n + 1) cB S rfl ((HS.out.keep Hbel.out).keep Hb2.out) (by simp; omega) (by simp) ?_))
          intro v2 w2 hv2 hg2 _
          replace hv2 : OwnL w2 wr.heap.size v2 (lst (n + 1) S) := hv2
          have hbw2 : Below wr.heap.size wr w2 := Hb2.out.grown hg2 (by simp) (fun g hg => by
            simp [Value.ownBlock] at hg
            omega)
          obtain ⟨g, cap, F, rfl, hgb, hrow, hncap, hF⟩ := hv2.row (by omega)
          have hpn : p < n + 1 := by omega
          have hcp := World.rowIs.cell hrow (show p < cap by omega)
          rw [hF p hpn] at hcp
          have hfz := World.rowIs.frozen hrow p
          have hf0 := ((HF.out.keep Hbel.out).keep hbw2).cell0 (by omega)
          obtain ⟨s1, s2⟩ := HSb.out p (by omega)
          obtain ⟨s3, s4⟩ := HB.out 0 (by omega)
          have hws : IntKind.i64.wrap (S p + f 0) = S p + f 0 := IntWalk.i64_in _ ⟨by omega, by omega⟩
          have hp0 : (0 : Int) ≤ p := by omega
          have hpn' : (p : Int) < (n : Int) + 1 := by omega
          have hl0' : (0 : Int) < l := by omega
          have HRow := Lib.hid hrow
          have HFF := Lib.hid hF
          have Hbw2 := Lib.hid (Hbel.out.trans (hbw2.mono hszr))
          clear hv2 hg2 hbw2 hrow hF
          go_wp2_with fail
          go_region
          have hI3 : Ints (w2.setCell ⟨g, p, none⟩ (.int .i64 (S p + f 0))).drew (some ⟨g, 0, none⟩) (n + 1) (addAt S p (f 0)) := (row_set HRow.out hncap HFF.out p (S p + f 0)).congr (fun q hq => by
            simp only [upd, addAt]
            by_cases e : q = p
            · rw [if_pos e, if_pos e, e]
            · rw [if_neg e, if_neg e])
          have hb3 : Below w.heap.size w (w2.setCell ⟨g, p, none⟩ (.int .i64 (S p + f 0))).drew := (Hbw2.out.setCell (by show w.heap.size ≤ g; omega) _).drew
          generalize (w2.setCell ⟨g, p, none⟩ (.int .i64 (S p + f 0))).drew = w3 at *
          have HI3 := Lib.hid hI3
          have Hb3 := Lib.hid hb3
          have HStep : Hid (mxf 0 ch (p + 1) = max (mxf 0 ch p) (shR n k (fun j => f (j + 1)) (addAt S p (f 0)) (max used (p + 1)))) := Lib.hid (by rw [HCh.out]; rfl)
          clear hI3 hb3 hcp hfz hf0 hws
          have hlk : l - 1 = k := by have := HL.out; omega
          have hA1 : ∀ o' : Nat, l - 1 = 0 ∨ o' = o + 1 → Ints w3 (some ⟨b, o', none⟩) k (fun j => f (j + 1)) := fun o' ho' hk => by
            rcases ho' with h | rfl
            · omega
            · exact ⟨b, o + 1, rfl, fun j hj => by rw [show o + 1 + j = o + (j + 1) by omega]; exact (HF.out.keep Hb3.out).cell (by omega)⟩
          have hA2 : ∀ q, q ≤ n → 0 ≤ addAt S p (f 0) q ∧ addAt S p (f 0) q ≤ 10000 - 100 * (k : Int) := by
            intro q hq
            have h1 := HSb.out q hq
            have h2 := HB.out 0 (by omega)
            have h3 : (((k + 1 : Nat) : Int)) = (k : Int) + 1 := by omega
            rw [h3] at h1
            simp only [addAt]
            split <;> omega
          have hA3 : Bd k (fun j => f (j + 1)) 100 := fun j hj => HB.out (j + 1) (by omega)
          have HCall : Hid (∀ (o' c' : Nat) (u : Int), (l - 1 = 0 ∨ o' = o + 1) → l - 1 ≤ c' → c' ≤ maxLen → u = ((max used (p + 1) : Nat) : Int) → Calls Try.prog 47 #[.slice (some ⟨b, o', none⟩) (l - 1) c', .slice (some ⟨g, 0, none⟩) (n + 1) cap, .int .i64 u] w3 fun e w' => e = .returned (.int .i64 (shR n k (fun j => f (j + 1)) (addAt S p (f 0)) (max used (p + 1)))) ∧ Below w3.heap.size w3 w') := Lib.hid (by
            rw [hlk]
            intro o' c' u ho' hc1 hc2 hu
            rw [hlk] at hA1
            exact HIh.out (some ⟨b, o', none⟩) c' (fun j => f (j + 1)) (some ⟨g, 0, none⟩) cap (addAt S p (f 0)) (max used (p + 1)) u w3 hu (hA1 o' ho') hA3 hc1 hc2 (by omega) HI3.out hA2 (by omega))
          clear hlk hA1 hA2 hA3
          go_wp2_with fail
          all_goals
            refine (HCall.out _ _ _ (by omega) (by omega) (by unfold maxLen at *; omega) (by omega)).mono ?_
            rintro e w4 ⟨rfl, hb4⟩
            have Hb4 := Lib.hid (Hb3.out.trans (hb4.mono Hb3.out.size))
            clear hb4
            generalize shR n k (fun j => f (j + 1)) (addAt S p (f 0)) (max used (p + 1)) = y at *
            go_wp2
            all_goals
              first
                | exact ⟨⟨p + 1, by omega, by go_num, val_int (by rw [HStep.out]; omega), Hb4.out⟩, by simp [intOf]; omega⟩
                | exact ⟨⟨.int .i64 (mxf 0 ch (p + 1)), _, _, .int .i64 ((p + 1 : Nat) : Int), ⟨p + 1, by omega, rfl, rfl, Hb4.out⟩, val_int (by rw [HStep.out]; omega), rfl, rfl, by go_num⟩, by simp [intOf]; omega⟩
        · obtain rfl : p = C := by omega
          have Hbel := Lib.hid hbel
          clear hbel
          go_wp2
          go_ret
          exact ⟨ret_int (by have h := HNext.out; rw [← HL.out] at h; exact h.symm), Hbel.out⟩

set_option maxRecDepth 1000000 in
theorem rgoods_any (A : Option Addr) (m c : Nat) (f : Nat → Int) (n : Int) (w : World) (h : Ints w A m f) (hm63 : m ≤ 9223372036854775807) :
    Calls Try.prog 23 #[.slice A m c, .int .i64 n] w fun e w' => e = .returned (.bool (okParts m f n)) ∧ w = w' := by
  by_cases h1 : 1 ≤ m
  · by_cases h7 : m ≤ 7
    · cases hw : bdB m f with
      | false =>
        have HW := Lib.hid hw
        have HE : Hid (okParts m f n = false) := Lib.hid (by
          simp only [bdB, decide_eq_false_iff_not] at hw
          simp [okParts, okRow, hw])
        clear hw
        go_enter Try.func23, Try.ntmps23
        go_wp2_with fail
        refine (rworths_any _ _ _ f _ h (by omega)).mono ?_
        rintro e w' ⟨rfl, rfl⟩
        rw [HW.out]
        go_wp2
        go_ret
        exact ⟨ret_bool HE.out.symm, rfl⟩
      | true =>
        have HW := Lib.hid hw
        have HE : Hid (okParts m f n = decide (1 ≤ n ∧ n ≤ 7)) := Lib.hid (by
          simp only [bdB, decide_eq_true_eq] at hw
          simp [okParts, okRow, hw, h1, h7])
        clear hw
        by_cases hn1 : 1 ≤ n
        · by_cases hn7 : n ≤ 7
          · go_enter Try.func23, Try.ntmps23
            go_wp2_with fail
            refine (rworths_any _ _ _ f _ h (by omega)).mono ?_
            rintro e w' ⟨rfl, rfl⟩
            rw [HW.out]
            go_wp2
            go_ret
            exact ⟨ret_bool (by rw [HE.out]; symm; exact decide_eq_true ⟨hn1, hn7⟩), rfl⟩
          · go_enter Try.func23, Try.ntmps23
            go_wp2_with fail
            refine (rworths_any _ _ _ f _ h (by omega)).mono ?_
            rintro e w' ⟨rfl, rfl⟩
            rw [HW.out]
            go_wp2
            go_ret
            exact ⟨ret_bool (by rw [HE.out]; (try rw [decide_eq_false (by omega : ¬ n ≤ 7)]); symm; exact decide_eq_false (by omega)), rfl⟩
        · go_enter Try.func23, Try.ntmps23
          go_wp2_with fail
          refine (rworths_any _ _ _ f _ h (by omega)).mono ?_
          rintro e w' ⟨rfl, rfl⟩
          rw [HW.out]
          go_wp2
          go_ret
          exact ⟨ret_bool (by rw [HE.out]; symm; exact decide_eq_false (by omega)), rfl⟩
    · have HE : Hid (okParts m f n = false) := Lib.hid (by simp [okParts, okRow, h7])
      go_enter Try.func23, Try.ntmps23
      go_wp2
      go_ret
      exact ⟨ret_bool HE.out.symm, rfl⟩
  · have HE : Hid (okParts m f n = false) := Lib.hid (by simp [okParts, okRow, h1])
    go_enter Try.func23, Try.ntmps23
    go_wp2
    go_ret
    exact ⟨ret_bool HE.out.symm, rfl⟩

set_option maxRecDepth 1000000 in
theorem rshare_any (A : Option Addr) (m c k : Nat) (f : Nat → Int) (n : Int) (w : World) (h : ArgI w A m c f) (hok : okParts m f n = true) (hk : n = ((k + 1 : Nat) : Int)) :
    Calls Try.prog 24 #[.slice A m c, .int .i64 n] w fun e w' => e = .returned (.int .i64 (shareN m f k)) ∧ Below w.heap.size w w' := by
  obtain ⟨k', e, hk6, hm0, hm7, hb⟩ := okParts_of hok
  obtain rfl : k = k' := by omega
  have hmk : (Instr.makeSlice 23 (.int .i64 n) (.int .i64 n)).run Try.prog w = .ok (.slice (some ⟨w.heap.size, 0, none⟩) (k + 1) (k + 1)) (w.alloc (.cells (madeCells #[.int .i64 0] (k + 1)) 3)) := by
    rw [hk]
    exact mk_ints (k + 1) (by omega) w
  have hb1 : Below w.heap.size w (w.alloc (.cells (madeCells #[.int .i64 0] (k + 1)) 3)) := (Below.refl _ _).alloc (Nat.le_refl _) _
  have hcall := shared_any k hk6 m A c f (some ⟨w.heap.size, 0, none⟩) (k + 1) (fun _ => 0) 0 0 _ rfl (h.2.2.2.keep hb1) hb h.1 h.2.1 (by omega) (RowI.made w (k + 1)).ints (fun p hp => ⟨by omega, by omega⟩) (by omega)
  have HCall := Lib.hid hcall
  have Hb1 := Lib.hid hb1
  clear hcall hb1 hb h hok hk e
  go_enter Try.func24, Try.ntmps24
  go_wp2_with fail
  refine HCall.out.mono ?_
  rintro e w2 ⟨rfl, hb2⟩
  have Hb2 := Lib.hid (Hb1.out.trans (hb2.mono Hb1.out.size))
  clear hb2
  go_wp2
  go_ret
  exact ⟨rfl, Hb2.out⟩

set_option maxHeartbeats 1000000 in
set_option maxRecDepth 1000000 in
theorem risSplit_ok (A Ad : Option Addr) (m c cd k : Nat) (f D : Nat → Int) (n : Int) (w : World) (h : ArgI w A m c f) (hd : Ints w Ad m D) (hok : okParts m f n = true) (hk : n = ((k + 1 : Nat) : Int)) (hO : Own (k + 1) m D) (hlow : lowT (wOf f D m) k = shareN m f k) :
    Calls Try.prog 25 #[.slice A m c, .int .i64 n, .slice Ad m cd] w fun e w' => e = .returned (.bool true) ∧ Below w.heap.size w w' := by
  obtain ⟨k', e, hk6, hm0, hm7, hb⟩ := okParts_of hok
  obtain rfl : k = k' := by omega
  have HV := Lib.hid h
  have HD := Lib.hid hd
  have HO := Lib.hid hO
  have HB := Lib.hid hb
  have HOk := Lib.hid hok
  have HK := Lib.hid hk
  have HLow := Lib.hid hlow
  have hn0 : 1 ≤ n := by omega
  clear h hd hO hb hok hk e hlow
  go_enter Try.func25, Try.ntmps25
  go_wp2
  go_loop [11] (fun i => ∃ j : Nat, j ≤ m ∧ i = .int .i64 j) (fun i => m - (intOf i).toNat)
  case atStart => exact ⟨0, Nat.zero_le _, rfl⟩
  case round =>
    obtain ⟨j, hj, rfl⟩ := hrel
    by_cases hlt : j < m
    · obtain ⟨b, o, rfl, hc⟩ := HD.out.at hlt
      obtain ⟨h1, h2⟩ := HO.out j hlt
      have h3 : D j < n := by have := HK.out; omega
      go_wp2
      go_round
      case rel => exact ⟨j + 1, by omega, by go_num⟩
      case measure => simp [intOf]; omega
    · obtain rfl : j = m := by omega
      have HSm := Lib.hid (rsums_any A Ad j (k + 1) c cd f D n w HV.out.2.2.2 HD.out HB.out hm7 (by omega) HO.out HK.out)
      go_wp2_with fail
      refine HSm.out.mono ?_
      rintro e w1 ⟨rfl, hR, hb1⟩
      have HR := Lib.hid hR
      have Hb1 := Lib.hid hb1
      clear hR hb1
      go_wp2_with fail
      refine (rlow_any _ k _ (wOf f D j) _ HR.out.ints (by omega)).mono ?_
      rintro e w1 ⟨rfl, rfl⟩
      rw [HLow.out]
      go_wp2_with fail
      refine (rshare_any A j c k f n _ (HV.out.below Hb1.out) HOk.out HK.out).mono ?_
      rintro e w2 ⟨rfl, hb2⟩
      have Hb2 := Lib.hid (Hb1.out.trans (hb2.mono Hb1.out.size))
      clear hb2
      generalize shareN j f k = y at *
      have hyy : y ≤ y := Int.le_refl _
      go_wp2
      go_ret
      exact ⟨rfl, Hb2.out⟩
end Go.Proofs.Ytkgikehagkpmoaa
