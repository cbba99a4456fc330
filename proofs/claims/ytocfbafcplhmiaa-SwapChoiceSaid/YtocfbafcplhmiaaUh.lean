/- The law's few, list, awake; Trade and Rounds of what few leaves. -/
import Derived.Test.YtocfbafcplhmiaaUg
import Derived.Test.YtocfbafcplhmiaaEq
namespace Go.Proofs.Ytocfbafcplhmiaa
open Go.RowKit

theorem list7_any (A : Option Addr) (n c : Nat) (f : Nat → Int) (w : World) (h : ArgI w A n c f) :
    Calls Try.prog 25 #[.slice A n c] w fun e w' => ∃ v', e = .returned v' ∧ OwnL w' w.heap.size v' (lst (min n 7) f) ∧ Below w.heap.size w w' := by
  obtain ⟨h1, h2, h3, h4⟩ := h
  have H4 := Lib.hid h4
  clear h4
  by_cases hn : n ≤ 7
  · have hm := Lib.hid (Nat.min_eq_left hn)
    rcases A with _ | a
    · obtain rfl := H4.out.none_
      obtain rfl := h3 rfl
      go_enter Try.func25, Try.ntmps25
      go_wp2_with fail
      refine (clone_any _ _ _ f _ H4.out (by omega)).mono ?_
      rintro e w' ⟨v', rfl, ho, -, hb⟩
      go_wp2
      go_ret
      exact ⟨_, rfl, ho, hb⟩
    · clear h3
      go_enter Try.func25, Try.ntmps25
      go_wp2_with fail
      refine (clone_any _ _ _ f _ H4.out (by omega)).mono ?_
      rintro e w' ⟨v', rfl, ho, -, hb⟩
      go_wp2
      go_ret
      exact ⟨_, rfl, by rw [hm.out]; exact ho, hb⟩
  · have hm := Lib.hid (Nat.min_eq_right (show 7 ≤ n by omega))
    have h10 : 8 ≤ n := by omega
    rcases A with _ | a
    · obtain rfl := H4.out.none_
      omega
    · clear h3
      go_enter Try.func25, Try.ntmps25
      go_wp2_with fail
      refine (clone_any (some a) 7 c f _ (fun _ => by
        obtain ⟨b, o, e, hc⟩ := H4.out (by omega)
        exact ⟨b, o, e, fun k hk => hc k (by omega)⟩) (by omega)).mono ?_
      rintro e w' ⟨v', rfl, ho, -, hb⟩
      go_wp2
      go_ret
      exact ⟨_, rfl, by rw [hm.out]; exact ho, hb⟩
set_option maxHeartbeats 1000000 in
set_option maxRecDepth 1000000 in
theorem few7_any (A : Option Addr) (n c : Nat) (L : Nat → Nat) (v : Nat → Nat → Int) (w : World) (h : ArgR w A n c L v) :
    Calls Try.prog 23 #[.slice A n c] w fun e w' => ∃ x, e = .returned x ∧ OwnS w' w.heap.size x (min n 7) (fun i => min (L i) 7) v ∧ Below w.heap.size w w' := by
  obtain ⟨i0, hi, hz0, hz1, hz2⟩ := info_parts infoInts
  have hsz : n ≤ 17592186044416 := Nat.le_trans h.1 h.2.1
  have H := Lib.hid h
  clear h
  go_enter Try.func23, Try.ntmps23
  go_wp2
  go_loopw [3, 8] (fun s i wr => ∃ k : Nat, k ≤ n ∧ i = .int .i64 k ∧ OwnS wr w.heap.size s (min k 7) (fun i => min (L i) 7) v ∧ Below w.heap.size w wr) (fun _ i _ => n - (intOf i).toNat)
  case atStart => exact ⟨0, Nat.zero_le _, rfl, ⟨[], rfl, World.ownsRow_nil _ _ _ _, (fun i x hx => by simp at hx), (fun i j x y a b hij hx => by simp at hx)⟩, Below.refl _ _⟩
  case round =>
    obtain ⟨k, hk, rfl, ⟨vals, hvl, hown, hvals, hsep⟩, hbel⟩ := hrel
    have HSep := Lib.hid hsep
    clear hsep
    by_cases hlt : k < n
    · obtain ⟨b, o, R, cR, rfl, hc, hR⟩ := (H.out.below hbel).at hlt
      have HO := Lib.hid hown
      have HV := Lib.hid hvals
      have HL := Lib.hid hvl
      clear hown hvals hvl
      by_cases h6 : k < 7
      · go_wp2_with fail
        refine (list7_any _ _ _ _ _ hR).mono ?_
        rintro e w1 ⟨x, rfl, hx, hb1⟩
        have HO1 := Lib.hid (ownsRow_below HO.out hb1)
        have HV1 := Lib.hid (HV.out.below hb1)
        obtain ⟨A', c', hxe, -⟩ := hx.form
        rw [lst_len] at hxe
        subst hxe
        have HX := Lib.hid hx
        have hs1 := hb1.size
        have hs0 := hbel.size
        have hbase : w.heap.size ≤ w1.heap.size + 1 := by omega
        clear hx
        go_wp2_with (at_builtin; go_loud (refine wpList_append_own _ rfl _ _ 22 rfl w.heap.size 23 i0 (.slice none 0 0) 1 24 Try.underlying22 hi hz0 hz1 hz2 rfl (by decide) _ _ _ rfl (HO1.out.alloc _) ⟨w1.heap.size, 0, none⟩ 1 1 [.slice A' (min (L k) 7) c'] rfl rfl (news1 _ _ _) (one1 HX.out.one) (by unfold maxLen; omega) (by omega) (by simp; omega) ?_))
        intro v' w2 hown2 hgrow2 _
        have HO2 := Lib.hid hown2
        have HG2 := Lib.hid hgrow2
        clear hown2 hgrow2
        go_wp2
        go_roundw
        case rel =>
          have hbA : Below w.heap.size w w2 := by
            refine ((hbel.trans (hb1.mono hbel.size)).alloc (Nat.le_trans hbel.size hb1.size) _).grown HG2.out (by simp; omega) ?_
            intro g hg
            exact (World.ownsRow.lt HO.out g hg).1
          have HK : ∀ (x : Value) (xs : List Int), OwnL w1 w.heap.size x xs → OwnL w2 w.heap.size x xs := fun x xs hx =>
            World.ownsRow.kept (World.ownsRow.alloc hx _) HG2.out (own_other hx HO1.out (by decide))
          have hsn : Sep (vals ++ [.slice A' (min (L k) 7) c']) := HSep.out.snoc (B := wr.heap.size) (fun i y a hy hya => (World.ownsRow.lt (HV.out i y hy) a hya).2) (fun a ha => (World.ownsRow.lt HX.out a ha).1)
          refine ⟨k + 1, by omega, by go_num, ⟨vals ++ [.slice A' (min (L k) 7) c'], ?_, ?_, ?_, hsn⟩, hbA⟩
          · simp [HL.out]; omega
          · have e : min (k + 1) 7 = min k 7 + 1 := by omega
            rw [e]
            exact HO2.out
          · refine OwnVals.snoc ?_ (n := k) (by rw [HL.out]; omega) ?_
            · exact fun i x hx => HK _ _ (HV1.out i x hx)
            · exact HK _ _ (HX.out.rebase hs0)
        case measure => simp [intOf]; omega
      · have e6 : min (k + 1) 7 = min k 7 := by omega
        go_wp2
        go_roundw
        case rel =>
          refine ⟨k + 1, by omega, by go_num, ⟨vals, ?_, ?_, HV.out, HSep.out⟩, hbel⟩
          · rw [HL.out]; omega
          · have e : min (k + 1) 7 = min k 7 := by omega
            rw [e]
            exact HO.out
        case measure => simp [intOf]; omega
    · go_wp2
      go_ret
      obtain rfl : k = n := by omega
      exact ⟨_, rfl, ⟨vals, hvl, hown, hvals, HSep.out⟩, hbel⟩
theorem OwnR.rowsKs {w : World} {base n : Nat} {x : Value} {L : Nat → Nat} {v : Nat → Nat → Int} (h : OwnR w base x n L v) : ∃ A c, x = .slice A n c ∧ RowsK w A n L v ∧ n ≤ c := by
  obtain ⟨A, c, e, h1⟩ := h.rowsK
  obtain ⟨A', c', e', -, h2⟩ := h.rows
  rw [e] at e'
  injection e' with e1 e2 e3
  subst e1 e3
  exact ⟨A, c, e, h1, h2⟩
theorem okS_few {n : Nat} {L : Nat → Nat} {v : Nat → Nat → Int} : okS (min n 7) (fun i => min (L i) 7) v = okS n L v := by
  rw [Bool.eq_iff_iff, okS_iff, okS_iff]
  constructor
  · rintro ⟨h1, h2⟩
    have e : min n 7 = n := by omega
    rw [e] at h2 h1
    refine ⟨h1, fun i hi => ?_⟩
    obtain ⟨h3, h4⟩ := h2 i hi
    exact ⟨by omega, h4⟩
  · rintro ⟨h1, h2⟩
    have e : min n 7 = n := by omega
    rw [e]
    refine ⟨h1, fun i hi => ?_⟩
    obtain ⟨h3, h4⟩ := h2 i hi
    exact ⟨by omega, h4⟩
/-- Wishes as numbers. -/
def tO (v : Nat → Nat → Int) : Nat → Nat → Nat := fun i k => (v i k).toNat
theorem okS_pm {n : Nat} {L : Nat → Nat} {v : Nat → Nat → Int} (h : okS n L v = true) : (1 ≤ n ∧ n ≤ 5) ∧ (∀ i, i < n → L i = n) ∧ (∀ i, i < n → Pm n (tO v i)) ∧ ∀ i k, i < n → k < n → v i k = (tO v i k : Int) := by
  obtain ⟨h1, h2⟩ := okS_iff.1 h
  have h3 : ∀ i k, i < n → k < n → v i k = (tO v i k : Int) := fun i k hi hk => by
    have := (h2 i hi).2.rng k hk
    unfold tO
    omega
  refine ⟨h1, fun i hi => (h2 i hi).1, fun i hi => ⟨fun k hk => ?_, fun a b ha hb e => ?_⟩, h3⟩
  · have := (h2 i hi).2.rng k hk
    unfold tO
    omega
  · exact (h2 i hi).2.uniq ha hb (by rw [h3 i a hi ha, h3 i b hi hb, e])
theorem RowsK.wis {w : World} {A : Option Addr} {n k : Nat} {L : Nat → Nat} {v : Nat → Nat → Int} (h : RowsK w A k (fun i => min (L i) 7) v) (hk : k = min n 7) (hok : okS n L v = true) : k = n ∧ Wis w A n (tO v) := by
  obtain ⟨h1, h2, h3, h4⟩ := okS_pm hok
  obtain rfl : k = n := by omega
  refine ⟨rfl, fun hp => ?_⟩
  obtain ⟨b, o, hA, hc⟩ := h hp
  refine ⟨b, o, hA, fun i hi => ?_⟩
  obtain ⟨A', c', q1, q2, q3⟩ := hc i hi
  have e : min (L i) 7 = k := by rw [h2 i hi]; omega
  dsimp only at q1 q2 q3
  rw [e] at q1 q2 q3
  exact ⟨A', c', q1, q2, q3.congr (fun j hj => h4 i j hi hj)⟩
/-- The outcome of trading, and the rounds, of what a law is given. -/
def trV (v : Nat → Nat → Int) (n : Nat) : Nat → Nat := trF (tO v) n (owF (fun k => k) n)
def rnV (v : Nat → Nat → Int) (n : Nat) : Nat → Nat := rnF (tO v) n (owF (fun k => k) n)
theorem TradeF {n k cA : Nat} {L : Nat → Nat} {v : Nat → Nat → Int} {A : Option Addr} {w : World} (h : RowsK w A k (fun i => min (L i) 7) v) (hk : k = min n 7) (hok : okS n L v = true) :
    Calls Try.prog 22 #[.slice A k cA] w fun e w' => ∃ B, e = .returned (.tuple #[.slice (some ⟨B, 0, none⟩) n n, .int .i64 0]) ∧ w.heap.size ≤ B ∧ RowI w' B n (fun p => (trV v n p : Int)) ∧ Below w.heap.size w w' := by
  obtain ⟨rfl, hw⟩ := h.wis hk hok
  obtain ⟨h1, h2, h3, h4⟩ := okS_pm hok
  exact Trade_ok A k cA (tO v) w hw h1.1 h1.2 h3
theorem RoundsF {n k cA : Nat} {L : Nat → Nat} {v : Nat → Nat → Int} {A : Option Addr} {w : World} (h : RowsK w A k (fun i => min (L i) 7) v) (hk : k = min n 7) (hok : okS n L v = true) :
    Calls Try.prog 35 #[.slice A k cA] w fun e w' => ∃ B, e = .returned (.tuple #[.slice (some ⟨B, 0, none⟩) n n, .int .i64 0]) ∧ w.heap.size ≤ B ∧ RowI w' B n (fun p => (rnV v n p : Int)) ∧ Below w.heap.size w w' := by
  obtain ⟨rfl, hw⟩ := h.wis hk hok
  obtain ⟨h1, h2, h3, h4⟩ := okS_pm hok
  exact Rounds_ok A k cA (tO v) w hw h1.1 h1.2 h3
theorem TradeFbad {n k cA : Nat} {L : Nat → Nat} {v : Nat → Nat → Int} {A : Option Addr} {w : World} (h : RowsK w A k (fun i => min (L i) 7) v) (hk : k = min n 7) (hok : okS n L v = false) :
    Lr 22 #[.slice A k cA] w (.tuple #[.slice none 0 0, .int .i64 2]) := by
  subst hk
  exact Trade_bad A (min n 7) cA (fun i => min (L i) 7) v w h (by omega) (fun i hi => by show min (L i) 7 ≤ 1000; omega) (by rw [okS_few]; exact hok)
theorem RoundsFbad {n k cA : Nat} {L : Nat → Nat} {v : Nat → Nat → Int} {A : Option Addr} {w : World} (h : RowsK w A k (fun i => min (L i) 7) v) (hk : k = min n 7) (hok : okS n L v = false) :
    Lr 35 #[.slice A k cA] w (.tuple #[.slice none 0 0, .int .i64 2]) := by
  subst hk
  exact Rounds_bad A (min n 7) cA (fun i => min (L i) 7) v w h (by omega) (fun i hi => by show min (L i) 7 ≤ 1000; omega) (by rw [okS_few]; exact hok)

def awT : Nat → Nat → Nat := fun i k => if i = 0 then 1 - k else k
theorem aw_pm : ∀ i, i < 2 → Pm 2 (awT i) := by
  intro i hi
  refine ⟨fun k hk => ?_, fun a b ha hb e => ?_⟩ <;> unfold awT at *
  · split <;> omega
  · split at e <;> omega
theorem aw_tr : trF awT 2 (owF (fun k => k) 2) 0 = 1 ∧ trF awT 2 (owF (fun k => k) 2) 1 = 0 := by decide +kernel
theorem box2_ints (w : World) (x y : Int) (f : Nat → Int) (h0 : f 0 = x) (h1 : f 1 = y) : Ints (w.alloc (.cells #[.int .i64 x, .int .i64 y] 3)) (some ⟨w.heap.size, 0, none⟩) 2 f := fun _ => ⟨_, 0, rfl, fun k hk => by
  have h := box2_at w (.int .i64 x) (.int .i64 y) 3
  have : k = 0 ∨ k = 1 := by omega
  rcases this with rfl | rfl
  · rw [h0]; exact h.1
  · rw [h1]; exact h.2⟩

set_option maxHeartbeats 2000000 in
set_option maxRecDepth 1000000 in
theorem awake_any (w : World) : Lr 20 #[] w (.bool true) := by
  obtain ⟨W1, hW1⟩ : ∃ W1, W1 = w.alloc (.cells #[.int .i64 1, .int .i64 0] 3) := ⟨_, rfl⟩
  obtain ⟨W2, hW2⟩ : ∃ W2, W2 = W1.alloc (.cells #[.int .i64 0, .int .i64 1] 3) := ⟨_, rfl⟩
  obtain ⟨W3, hW3⟩ : ∃ W3, W3 = W2.alloc (.cells #[.slice (some ⟨w.heap.size, 0, none⟩) 2 2, .slice (some ⟨w.heap.size + 1, 0, none⟩) 2 2] 23) := ⟨_, rfl⟩
  have s1 : W1.heap.size = w.heap.size + 1 := by rw [hW1]; simp
  have s2 : W2.heap.size = w.heap.size + 1 + 1 := by rw [hW2]; simp [s1]
  have b1 : Below w.heap.size w W1 := by rw [hW1]; exact box_bel _ _
  have b2 : Below W1.heap.size W1 W2 := by rw [hW2]; exact box_bel _ _
  have b3 : Below W2.heap.size W2 W3 := by rw [hW3]; exact box_bel _ _
  have i1 : Ints W1 (some ⟨w.heap.size, 0, none⟩) 2 (fun k => (awT 0 k : Int)) := by rw [hW1]; exact box2_ints w 1 0 _ rfl rfl
  have i2 : Ints W2 (some ⟨w.heap.size + 1, 0, none⟩) 2 (fun k => (awT 1 k : Int)) := by
    have := box2_ints W1 0 1 (fun k => (awT 1 k : Int)) rfl rfl
    rw [hW2]
    rw [s1] at this
    exact this
  have c3 := box2_at W2 (.slice (some ⟨w.heap.size, 0, none⟩) 2 2) (.slice (some ⟨w.heap.size + 1, 0, none⟩) 2 2) 23
  rw [← hW3, s2] at c3
  have hr : Wis W3 (some ⟨w.heap.size + 1 + 1, 0, none⟩) 2 awT := fun _ => ⟨_, 0, rfl, fun i hi => by
    have : i = 0 ∨ i = 1 := by omega
    rcases this with rfl | rfl
    · exact ⟨_, 2, c3.1, Nat.le_refl _, (i1.keep b2).keep b3⟩
    · exact ⟨_, 2, c3.2, Nat.le_refl _, i2.keep b3⟩⟩
  have Hb : Hid (Below w.heap.size w W3) := Lib.hid ((b1.trans (b2.mono (by omega))).trans (b3.mono (by omega)))
  have HW := Lib.hid (Trade_ok (some ⟨w.heap.size + 1 + 1, 0, none⟩) 2 2 awT W3 hr (by decide) (by decide) aw_pm)
  rw [hW3, hW2, hW1] at HW Hb
  clear hr c3 b1 b2 b3 s1 s2 hW1 hW2 hW3 i1 i2
  show Calls _ _ _ _ _
  go_enter Try.func20, Try.ntmps20
  go_wp2_with fail
  refine HW.out.mono ?_
  rintro e w5 ⟨B, rfl, hB, hR, hb5⟩
  have HB5 := Lib.hid (Hb.out.trans (hb5.mono Hb.out.size))
  have HI := Lib.hid ((hR.keep (box_bel w5 (.cells #[.int .i64 1, .int .i64 0] 3))).ints)
  have HJ := Lib.hid (box2_ints w5 1 0 (fun p => (trF awT 2 (owF (fun k => k) 2) p : Int)) (by rw [aw_tr.1]; rfl) (by rw [aw_tr.2]; rfl))
  have HB6 := Lib.hid (HB5.out.trans ((box_bel w5 (.cells #[.int .i64 1, .int .i64 0] 3)).mono HB5.out.size))
  have HE : Hid (eqB 2 2 (fun p => (trF awT 2 (owF (fun k => k) 2) p : Int)) (fun p => (trF awT 2 (owF (fun k => k) 2) p : Int)) = true) := Lib.hid (by
    unfold eqB
    rw [allB_t (fun k hk => by simp [eqP])]
    rfl)
  clear hb5 HW Hb hR hB
  go_wp2_with fail
  refine (equal_any (some ⟨B, 0, none⟩) (some ⟨w5.heap.size, 0, none⟩) 2 2 2 2 _ _ _ HI.out HJ.out (by omega) (by omega)).use fun w6 hd6 => ?_
  rw [HE.out]
  have HB7 := Lib.hid (HB6.out.trans (hd6.below _))
  clear hd6
  go_wp2
  go_ret
  exact ⟨rfl, HB7.out⟩
end Go.Proofs.Ytocfbafcplhmiaa
