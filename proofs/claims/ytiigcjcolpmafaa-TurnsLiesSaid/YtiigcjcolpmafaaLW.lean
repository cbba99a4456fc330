/- Part of the proof: LW. -/
import Derived.Test.YtiigcjcolpmafaaFi
import Derived.Deep.RegionHeld3
namespace Go.Proofs.Ytiigcjcolpmafaa
open Go.RowKit

/-- A slice of integers as it may come in. -/
def ArgI (w : World) (A : Option Addr) (n c : Nat) (f : Nat → Int) : Prop := n ≤ c ∧ c ≤ maxLen ∧ (A = none → c = 0) ∧ Ints w A n f
theorem ArgI.below {w w' : World} {A : Option Addr} {n c : Nat} {f : Nat → Int} (h : ArgI w A n c f) (hb : Below w.heap.size w w') : ArgI w' A n c f := ⟨h.1, h.2.1, h.2.2.1, h.2.2.2.keep hb⟩

theorem list_any (A : Option Addr) (n c : Nat) (f : Nat → Int) (w : World) (h : ArgI w A n c f) :
    Calls Try.prog 29 #[.slice A n c] w fun e w' => ∃ v', e = .returned v' ∧ OwnL w' w.heap.size v' (lst (min n 9) f) ∧ Below w.heap.size w w' := by
  obtain ⟨h1, h2, h3, h4⟩ := h
  have H4 := Lib.hid h4
  clear h4
  by_cases hn : n ≤ 9
  · have hm := Lib.hid (Nat.min_eq_left hn)
    rcases A with _ | a
    · obtain rfl := H4.out.none_
      obtain rfl := h3 rfl
      go_enter Try.func29, Try.ntmps29
      go_wp2_with fail
      refine (clone_any _ _ _ f _ H4.out (by omega)).mono ?_
      rintro e w' ⟨v', rfl, ho, -, hb⟩
      go_wp2
      go_ret
      exact ⟨_, rfl, ho, hb⟩
    · clear h3
      go_enter Try.func29, Try.ntmps29
      go_wp2_with fail
      refine (clone_any _ _ _ f _ H4.out (by omega)).mono ?_
      rintro e w' ⟨v', rfl, ho, -, hb⟩
      go_wp2
      go_ret
      exact ⟨_, rfl, by rw [hm.out]; exact ho, hb⟩
  · have hm := Lib.hid (Nat.min_eq_right (show 9 ≤ n by omega))
    have h10 : 10 ≤ n := by omega
    rcases A with _ | a
    · obtain rfl := H4.out.none_
      omega
    · clear h3
      go_enter Try.func29, Try.ntmps29
      go_wp2_with fail
      refine (clone_any (some a) 9 c f _ (fun _ => by
        obtain ⟨b, o, e, hc⟩ := H4.out (by omega)
        exact ⟨b, o, e, fun k hk => hc k (by omega)⟩) (by omega)).mono ?_
      rintro e w' ⟨v', rfl, ho, -, hb⟩
      go_wp2
      go_ret
      exact ⟨_, rfl, by rw [hm.out]; exact ho, hb⟩

/-- A slice of slices of integers as it may come in. -/
def ArgR (w : World) (A : Option Addr) (n c : Nat) (L : Nat → Nat) (v : Nat → Nat → Int) : Prop :=
  n ≤ c ∧ c ≤ maxLen ∧ (A = none → c = 0) ∧ (0 < n → ∃ b o, A = some ⟨b, o, none⟩ ∧ ∀ i, i < n → ∃ A' c', w.cell? ⟨b, o + i, none⟩ = some (.slice A' (L i) c') ∧ ArgI w A' (L i) c' (v i))
theorem ArgR.below {w w' : World} {A : Option Addr} {n c : Nat} {L : Nat → Nat} {v : Nat → Nat → Int} (h : ArgR w A n c L v) (hb : Below w.heap.size w w') : ArgR w' A n c L v := by
  obtain ⟨h1, h2, h3, h4⟩ := h
  refine ⟨h1, h2, h3, fun hn => ?_⟩
  obtain ⟨b, o, hA, hc⟩ := h4 hn
  refine ⟨b, o, hA, fun k hk => ?_⟩
  obtain ⟨A', c', h5, h6⟩ := hc k hk
  exact ⟨A', c', (hb.cell (World.block_lt_of_cell? _ _ h5)).trans h5, h6.below hb⟩
theorem ArgR.at {w : World} {A : Option Addr} {n c : Nat} {L : Nat → Nat} {v : Nat → Nat → Int} (h : ArgR w A n c L v) {i : Nat} (hi : i < n) :
    ∃ b o A' c', A = some ⟨b, o, none⟩ ∧ w.cell? ⟨b, o + i, none⟩ = some (.slice A' (L i) c') ∧ ArgI w A' (L i) c' (v i) := by
  obtain ⟨b, o, hA, hc⟩ := h.2.2.2 (by omega)
  obtain ⟨A', c', h1, h2⟩ := hc i hi
  exact ⟨b, o, A', c', hA, h1, h2⟩
theorem ArgR.rows {w : World} {A : Option Addr} {n c : Nat} {L : Nat → Nat} {v : Nat → Nat → Int} (h : ArgR w A n c L v) : Rows2 w A n L v := fun hn => by
  obtain ⟨b, o, hA, hc⟩ := h.2.2.2 hn
  refine ⟨b, o, hA, fun k hk => ?_⟩
  obtain ⟨A', c', h5, h6⟩ := hc k hk
  exact ⟨A', c', h5, h6.2.2.2⟩

/-- Rows of the call's own: value i is a slice of the call's own that holds v i. -/
def OwnVals (w : World) (base : Nat) (vals : List Value) (L : Nat → Nat) (v : Nat → Nat → Int) : Prop := ∀ i x, vals[i]? = some x → OwnL w base x (lst (L i) (v i))
def OwnR (w : World) (base : Nat) (x : Value) (n : Nat) (L : Nat → Nat) (v : Nat → Nat → Int) : Prop := ∃ vals : List Value, vals.length = n ∧ w.ownsRow base 23 1 x n vals ∧ OwnVals w base vals L v

theorem OwnVals.below {w w' : World} {base : Nat} {vals : List Value} {L : Nat → Nat} {v : Nat → Nat → Int} (h : OwnVals w base vals L v) (hb : Below w.heap.size w w') : OwnVals w' base vals L v :=
  fun i x hx => (h i x hx).below hb
theorem ownsRow_below {w w' : World} {base size n : Nat} {e : TypeId} {x : Value} {xs : List Value} (h : w.ownsRow base e size x n xs) (hb : Below w.heap.size w w') : w'.ownsRow base e size x n xs := by
  refine World.ownsRow.kept (row := none) h ⟨hb.os, hb.tape, hb.output, hb.size, fun k hk _ => hb.block k hk⟩ ?_
  cases x.ownBlock <;> simp
theorem OwnVals.snoc {w : World} {base : Nat} {vals : List Value} {L : Nat → Nat} {v : Nat → Nat → Int} {x : Value} {n : Nat} (h : OwnVals w base vals L v) (hn : vals.length = n) (hx : OwnL w base x (lst (L n) (v n))) : OwnVals w base (vals ++ [x]) L v := by
  intro i y hy
  rcases Nat.lt_or_ge i vals.length with hl | hl
  · rw [List.getElem?_append_left hl] at hy
    exact h i y hy
  · have hi : i = n := by
      have := (List.getElem?_eq_some_iff.1 hy).1
      simp at this
      omega
    subst hi
    rw [List.getElem?_append_right hl, hn] at hy
    simp at hy
    subst hy
    exact hx
theorem OwnR.rows {w : World} {base n : Nat} {x : Value} {L : Nat → Nat} {v : Nat → Nat → Int} (h : OwnR w base x n L v) : ∃ A c, x = .slice A n c ∧ Rows2 w A n L v ∧ n ≤ c := by
  obtain ⟨vals, hl, ho, hv⟩ := h
  have h0 := ho
  rcases h0.2 with ⟨rfl, hn⟩ | ⟨g, cap, cur, rfl, hg, hh, hnc, hcm, hcs, ht⟩
  · exact ⟨none, 0, by rw [hn], fun h => absurd h (by omega), by omega⟩
  · refine ⟨some ⟨g, 0, none⟩, cap, rfl, fun hp => ⟨g, 0, rfl, fun k hk => ?_⟩, hnc⟩
    have hx : vals[k]? = some vals[k] := List.getElem?_eq_getElem (by omega)
    obtain ⟨A', c', e, -, hI, -⟩ := (hv k _ hx).form
    rw [lst_len] at e hI
    refine ⟨A', c', ?_, hI.congr fun j hj => lst_getD _ _ _ hj⟩
    rw [Nat.zero_add, World.ownsRow.cellAt ho k (by omega), hx, e]

set_option maxHeartbeats 1000000 in
set_option maxRecDepth 1000000 in
theorem lists_any (A : Option Addr) (n c : Nat) (L : Nat → Nat) (v : Nat → Nat → Int) (w : World) (h : ArgR w A n c L v) :
    Calls Try.prog 54 #[.slice A n c] w fun e w' => ∃ x, e = .returned x ∧ OwnR w' w.heap.size x (min n 8) (fun i => min (L i) 9) v ∧ Below w.heap.size w w' := by
  obtain ⟨i0, hi, hz0, hz1, hz2⟩ := info_parts infoInts
  have hsz : n ≤ 9223372036854775807 := by
    have h0 := Nat.le_trans h.1 h.2.1
    unfold maxLen at h0
    omega
  have H := Lib.hid h
  clear h
  go_enter Try.func54, Try.ntmps54
  go_wp2
  go_loopw [3, 8] (fun s i wr => ∃ k : Nat, k ≤ n ∧ i = .int .i64 k ∧ OwnR wr w.heap.size s (min k 8) (fun i => min (L i) 9) v ∧ Below w.heap.size w wr) (fun _ i _ => n - (intOf i).toNat)
  case atStart => exact ⟨0, Nat.zero_le _, rfl, ⟨[], rfl, World.ownsRow_nil _ _ _ _, fun i x hx => by simp at hx⟩, Below.refl _ _⟩
  case round =>
    obtain ⟨k, hk, rfl, ⟨vals, hvl, hown, hvals⟩, hbel⟩ := hrel
    by_cases hlt : k < n
    · obtain ⟨b, o, R, cR, rfl, hc, hR⟩ := (H.out.below hbel).at hlt
      have HO := Lib.hid hown
      have HV := Lib.hid hvals
      have HL := Lib.hid hvl
      clear hown hvals hvl
      by_cases h6 : k < 8
      · go_wp2_with fail
        refine (list_any _ _ _ _ _ hR).mono ?_
        rintro e w1 ⟨x, rfl, hx, hb1⟩
        have HO1 := Lib.hid (ownsRow_below HO.out hb1)
        have HV1 := Lib.hid (HV.out.below hb1)
        obtain ⟨A', c', hxe, -⟩ := hx.form
        rw [lst_len] at hxe
        subst hxe
        have HX := Lib.hid hx
        have hs1 := hb1.size
        have hs0 := hbel.size
        have hbase : w.heap.size ≤ w1.heap.size + 1 := by omega
        clear hx
        go_wp2_with (at_builtin; go_loud (refine wpList_append_own _ rfl _ _ 22 rfl w.heap.size 23 i0 (.slice none 0 0) 1 24 Try.underlying22 hi hz0 hz1 hz2 rfl (by decide) _ _ _ rfl (HO1.out.alloc _) ⟨w1.heap.size, 0, none⟩ 1 1 [.slice A' (min (L k) 9) c'] rfl rfl (news1 _ _ _) (one1 HX.out.one) (by unfold maxLen; omega) (by omega) (by simp; omega) ?_))
        intro v' w2 hown2 hgrow2 _
        have HO2 := Lib.hid hown2
        have HG2 := Lib.hid hgrow2
        clear hown2 hgrow2
        go_wp2
        go_roundw
        case rel =>
          have hbA : Below w.heap.size w w2 := by
            refine ((hbel.trans (hb1.mono hbel.size)).alloc (Nat.le_trans hbel.size hb1.size) _).grown HG2.out (by simp; omega) ?_
            intro g hg
            exact (World.ownsRow.lt HO.out g hg).1
          have HK : ∀ (x : Value) (xs : List Int), OwnL w1 w.heap.size x xs → OwnL w2 w.heap.size x xs := fun x xs hx =>
            World.ownsRow.kept (World.ownsRow.alloc hx _) HG2.out (own_other hx HO1.out (by decide))
          refine ⟨k + 1, by omega, by go_num, ⟨vals ++ [.slice A' (min (L k) 9) c'], ?_, ?_, ?_⟩, hbA⟩
          · simp [HL.out]; omega
          · have e : min (k + 1) 8 = min k 8 + 1 := by omega
            rw [e]
            exact HO2.out
          · refine OwnVals.snoc ?_ (n := k) (by rw [HL.out]; omega) ?_
            · exact fun i x hx => HK _ _ (HV1.out i x hx)
            · exact HK _ _ (HX.out.rebase hs0)
        case measure => simp [intOf]; omega
      · have e6 : min (k + 1) 8 = min k 8 := by omega
        go_wp2
        go_roundw
        case rel =>
          refine ⟨k + 1, by omega, by go_num, ⟨vals, ?_, ?_, HV.out⟩, hbel⟩
          · rw [HL.out]; omega
          · have e : min (k + 1) 8 = min k 8 := by omega
            rw [e]
            exact HO.out
        case measure => simp [intOf]; omega
    · go_wp2
      go_ret
      obtain rfl : k = n := by omega
      exact ⟨_, rfl, ⟨vals, hvl, hown, hvals⟩, hbel⟩

theorem OwnR.rowsC {w : World} {base n : Nat} {x : Value} {L : Nat → Nat} {v : Nat → Nat → Int} (h : OwnR w base x n L v) : ∃ A c, x = .slice A n c ∧ RowsC w A n L v := by
  obtain ⟨vals, hl, ho, hv⟩ := h
  have h0 := ho
  rcases h0.2 with ⟨rfl, hn⟩ | ⟨g, cap, cur, rfl, hg, hh, hnc, hcm, hcs, ht⟩
  · exact ⟨none, 0, by rw [hn], fun h => absurd h (by omega)⟩
  · refine ⟨some ⟨g, 0, none⟩, cap, rfl, fun hp => ⟨g, 0, rfl, fun k hk => ?_⟩⟩
    have hx : vals[k]? = some vals[k] := List.getElem?_eq_getElem (by omega)
    obtain ⟨A', c', e, -, hI, -, hcap⟩ := (hv k _ hx).form
    rw [lst_len] at e hI hcap
    refine ⟨A', c', ?_, hcap, hI.congr fun j hj => lst_getD _ _ _ hj⟩
    rw [Nat.zero_add, World.ownsRow.cellAt ho k (by omega), hx, e]
end Go.Proofs.Ytiigcjcolpmafaa

namespace Go.Proofs.Ytiigcjcolpmafaa
open Go.RowKit

/-- A plan as it comes in. -/
structure PlanArg (w : World) (AH AS AP : Option Addr) (cH cS cP : Nat) (p : PlanD) : Prop where
  hands : ArgR w AH p.nH cH p.LH p.vH
  shifts : ArgR w AS p.nS cS p.LS p.vS
  places : ArgI w AP p.nP cP p.pl
theorem PlanArg.keep {w w' : World} {AH AS AP : Option Addr} {cH cS cP : Nat} {p : PlanD} (h : PlanArg w AH AS AP cH cS cP p) (hb : Below w.heap.size w w') : PlanArg w' AH AS AP cH cS cP p :=
  ⟨h.hands.below hb, h.shifts.below hb, h.places.below hb⟩

/-- A block of three nil slices. -/
def ZB (w : World) (g : Nat) : Prop := w.heap[g]? = some (.cells #[.slice none 0 0, .slice none 0 0, .slice none 0 0] 29 (0, 0))
theorem ZB.frozen {w : World} {g : Nat} (h : ZB w g) (i : Nat) : w.frozen? ⟨g, i, none⟩ = false := by
  have h : w.heap[g]? = _ := h
  simp [World.frozen?, h]
theorem ZB.cell {w : World} {g : Nat} (h : ZB w g) {i : Nat} (hi : i < 3) : w.cell? ⟨g, i, none⟩ = some (.slice none 0 0) := by
  have h : w.heap[g]? = _ := h
  have : i = 0 ∨ i = 1 ∨ i = 2 := by omega
  rcases this with rfl | rfl | rfl <;> simp [World.cell?, h]

theorem OwnR.below {w w' : World} {base n : Nat} {x : Value} {L : Nat → Nat} {v : Nat → Nat → Int} (h : OwnR w base x n L v) (hb : Below w.heap.size w w') : OwnR w' base x n L v := by
  obtain ⟨vals, h1, h2, h3⟩ := h
  exact ⟨vals, h1, ownsRow_below h2 hb, h3.below hb⟩
theorem own_exc {w w' : World} {base g size n : Nat} {e : TypeId} {x : Value} {xs : List Value} (h : w.ownsRow base e size x n xs) (he : Exc g w w') (hg : g < base) : w'.ownsRow base e size x n xs := by
  refine World.ownsRow.kept h he ?_
  cases hb : x.ownBlock with
  | none => exact .inl rfl
  | some k =>
    refine .inr (fun e => ?_)
    injection e with e
    have := (World.ownsRow.lt h k hb).1
    omega
theorem OwnR.exc {w w' : World} {base g n : Nat} {x : Value} {L : Nat → Nat} {v : Nat → Nat → Int} (h : OwnR w base x n L v) (he : Exc g w w') (hg : g < base) : OwnR w' base x n L v := by
  obtain ⟨vals, h1, h2, h3⟩ := h
  exact ⟨vals, h1, own_exc h2 he hg, fun i x hx => own_exc (h3 i x hx) he hg⟩
theorem OwnR.toC {w : World} {base n c : Nat} {A : Option Addr} {L : Nat → Nat} {v : Nat → Nat → Int} (h : OwnR w base (.slice A n c) n L v) : RowsC w A n L v := by
  obtain ⟨A', c', e, hr⟩ := h.rowsC
  injection e with e1 e2 e3
  rw [e1]
  exact hr
theorem OwnL.toI {w : World} {base n c : Nat} {A : Option Addr} {f : Nat → Int} (h : OwnL w base (.slice A n c) (lst n f)) : Ints w A n f := by
  obtain ⟨A', c', e, hI⟩ := h.shp (lst_len _ _)
  injection e with e1 e2 e3
  rw [e1]
  exact hI.congr (fun k hk => lst_getD _ _ _ hk)
/-- The world when three values are stored there. -/
def zW (w : World) (g : Nat) (a b c : Value) : World := ((w.setCell ⟨g, 0, none⟩ a).setCell ⟨g, 1, none⟩ b).setCell ⟨g, 2, none⟩ c
theorem zW_cells {w : World} {g : Nat} (h : ZB w g) (a b c : Value) : (zW w g a b c).cell? ⟨g, 0, none⟩ = some a ∧ (zW w g a b c).cell? ⟨g, 1, none⟩ = some b ∧ (zW w g a b c).cell? ⟨g, 2, none⟩ = some c := by
  have h0 := h.cell (show 0 < 3 by omega)
  have h1 := h.cell (show 1 < 3 by omega)
  have h2 := h.cell (show 2 < 3 by omega)
  have o : ∀ (w : World) (i j : Nat) (v : Value), i ≠ j → (w.setCell ⟨g, i, none⟩ v).cell? ⟨g, j, none⟩ = w.cell? ⟨g, j, none⟩ := fun w i j v hij => World.cell?_setCell_other w _ _ v (fun e => hij (by injection e))
  unfold zW
  refine ⟨?_, ?_, ?_⟩
  · rw [o _ 2 0 _ (by omega), o _ 1 0 _ (by omega)]
    exact World.cell?_setCell_same _ _ _ h0
  · rw [o _ 2 1 _ (by omega)]
    exact World.cell?_setCell_same _ _ _ (by rw [o _ 0 1 _ (by omega)]; exact h1)
  · exact World.cell?_setCell_same _ _ _ (by rw [o _ 1 2 _ (by omega), o _ 0 2 _ (by omega)]; exact h2)
theorem zW_exc (w : World) (g : Nat) (a b c : Value) : Exc g w (zW w g a b c) := (((Exc.refl g w).set 0 a).set 1 b).set 2 c
theorem zW_below {w0 w : World} {g B : Nat} (h : Below B w0 w) (hg : B ≤ g) (a b c : Value) : Below B w0 (zW w g a b c) :=
  ((h.setCell (p := ⟨g, 0, none⟩) hg a).setCell (p := ⟨g, 1, none⟩) hg b).setCell (p := ⟨g, 2, none⟩) hg c

set_option maxHeartbeats 4000000 in
set_option maxRecDepth 1000000 in
theorem of_any (AH AS AP : Option Addr) (cH cS cP : Nat) (p : PlanD) (w : World) (h : PlanArg w AH AS AP cH cS cP p) :
    Calls Try.prog 18 #[.agg #[.slice AH p.nH cH, .slice AS p.nS cS, .slice AP p.nP cP]] w fun e w' => ∃ BH dH BS dS BP dP, e = .returned (.agg #[.slice BH (min p.nH 8) dH, .slice BS (min p.nS 8) dS, .slice BP (min p.nP 9) dP]) ∧ PlanIn w' BH BS BP (fewP p) ∧ Below w.heap.size w w' := by
  obtain ⟨W, hW⟩ : ∃ W, W = (w.alloc (.cells #[.slice AH p.nH cH, .slice AS p.nS cS, .slice AP p.nP cP] 25)).alloc (.cells #[.slice none 0 0, .slice none 0 0, .slice none 0 0] 29) := ⟨_, rfl⟩
  have hbW : Below w.heap.size w W := by
    rw [hW]
    exact (below_box w _).trans ((below_box _ _).mono (by simp))
  have hB0 : BoxP W w.heap.size AH AS AP p.nH p.nS p.nP cH cS cP := by
    rw [hW]
    refine ⟨?_, ?_, ?_⟩ <;> simp [World.cell?_alloc_at]
  have hZ : W.heap[w.heap.size + 1]? = some (.cells #[.slice none 0 0, .slice none 0 0, .slice none 0 0] 29 (0, 0)) := by
    rw [hW]
    simpa using heap_alloc_new (w.alloc (.cells #[.slice AH p.nH cH, .slice AS p.nS cS, .slice AP p.nP cP] 25)) (.cells #[.slice none 0 0, .slice none 0 0, .slice none 0 0] 29)
  have hWs : W.heap.size = w.heap.size + 2 := by rw [hW]; simp
  have HA := Lib.hid (h.keep hbW)
  have HB0 := Lib.hid hB0
  have HbW := Lib.hid hbW
  have HZ := Lib.hid hZ
  clear h hB0 hbW hZ
  go_enter Try.func18, Try.ntmps18
  go_wp2_with fail
  rw [← hW]
  have hBc : Below W.heap.size W W.drew := (Dn.refl W).drew.below _
  obtain ⟨q0, q1, q2⟩ := HB0.out.keep hBc
  clear hW
  go_region_held3 (fun w' => w'.cell? ⟨w.heap.size, 0, none⟩ = some (.slice AH p.nH cH) ∧ w'.cell? ⟨w.heap.size, 1, none⟩ = some (.slice AS p.nS cS) ∧ w'.cell? ⟨w.heap.size, 2, none⟩ = some (.slice AP p.nP cP))
    (first | exact (HB0.out.keep hBc) | (refine ⟨?_, ?_, ?_⟩ <;> (rw [World.cell?_setCell_far _ _ _ _ (by simp), World.cell?_setCell_far _ _ _ _ (by simp), World.cell?_setCell_far _ _ _ _ (by simp)]; first | exact (HB0.out.keep hBc).1 | exact (HB0.out.keep hBc).2.1 | exact (HB0.out.keep hBc).2.2)))
    (first
      | (go_at_call_of 54 AH; refine (lists_any AH p.nH cH p.LH p.vH _ (HA.out.keep hBc).hands).mono ?_; rintro e w1 ⟨x1, rfl, hx1, hb1⟩; obtain ⟨BH, dH, rfl, hRH⟩ := hx1.rowsC; have hBc := hBc.trans (hb1.mono hBc.size))
      | (go_at_call_of 54 AS; refine (lists_any AS p.nS cS p.LS p.vS _ (HA.out.keep hBc).shifts).mono ?_; rintro e w2 ⟨x2, rfl, hx2, hb2⟩; obtain ⟨BS, dS, rfl, hRS⟩ := hx2.rowsC; have hBc := hBc.trans (hb2.mono hBc.size))
      | (go_at_call 29; refine (list_any AP p.nP cP p.pl _ (HA.out.keep hBc).places).mono ?_; rintro e w3 ⟨x3, rfl, hx3, hb3⟩; obtain ⟨BP, dP, rfl, hRP⟩ := hx3.shp (lst_len _ _); have hBc := hBc.trans (hb3.mono hBc.size); have hz3 : ZB w3 (w.heap.size + 1) := (hBc.block _ (by omega)).trans HZ.out; have f0 := hz3.frozen 0; have f1 := hz3.frozen 1; have f2 := hz3.frozen 2; have c0 := hz3.cell (show 0 < 3 by omega); have c1 := hz3.cell (show 1 < 3 by omega); have c2 := hz3.cell (show 2 < 3 by omega))
      | fail)
  have hz := zW_cells hz3 (.slice BH (min p.nH 8) dH) (.slice BS (min p.nS 8) dS) (.slice BP (min p.nP 9) dP)
  have hb := zW_below (HbW.out.trans (hBc.mono HbW.out.size)) (show w.heap.size ≤ w.heap.size + 1 by omega) (.slice BH (min p.nH 8) dH) (.slice BS (min p.nS 8) dS) (.slice BP (min p.nP 9) dP)
  have hex := zW_exc w3 (w.heap.size + 1) (.slice BH (min p.nH 8) dH) (.slice BS (min p.nS 8) dS) (.slice BP (min p.nP 9) dP)
  have hWd : W.drew.heap.size = w.heap.size + 2 := hWs
  have hs1 := hb1.size
  have hs2 := hb2.size
  have hpl : PlanIn (zW w3 (w.heap.size + 1) (.slice BH (min p.nH 8) dH) (.slice BS (min p.nS 8) dS) (.slice BP (min p.nP 9) dP)) BH BS BP (fewP p) :=
    ⟨(((hx1.below hb2).below hb3).exc hex (by omega)).toC, ((hx2.below hb3).exc hex (by omega)).toC, OwnL.toI (own_exc hx3 hex (by omega)), (show min p.nH 8 ≤ 9 by omega), (show min p.nS 8 ≤ 9 by omega), Nat.min_le_right _ _, fun _ _ => Nat.min_le_right _ _, fun _ _ => Nat.min_le_right _ _⟩
  have HP := Lib.hid hpl
  have Hb := Lib.hid hb
  change Exit.then _ _ _ _ (zW w3 (w.heap.size + 1) (.slice BH (min p.nH 8) dH) (.slice BS (min p.nS 8) dS) (.slice BP (min p.nP 9) dP))
  clear hpl hb hex hx1 hx2 hx3 hb1 hb2 hb3 hRH hRS hRP f0 f1 f2 c0 c1 c2 hz3 hs1 hs2 hWd q0 q1 q2
  generalize zW w3 (w.heap.size + 1) (.slice BH (min p.nH 8) dH) (.slice BS (min p.nS 8) dS) (.slice BP (min p.nP 9) dP) = WF at *
  obtain ⟨z0, z1, z2⟩ := hz
  go_wp2
  refine bodyPost_ret (v := .agg #[.slice BH (min p.nH 8) dH, .slice BS (min p.nS 8) dS, .slice BP (min p.nP 9) dP]) (by simp [results, Try.results18, go_sem, z0, z1, z2]) rfl ?_
  exact ⟨BH, dH, BS, dS, BP, dP, rfl, HP.out, Hb.out⟩
end Go.Proofs.Ytiigcjcolpmafaa

