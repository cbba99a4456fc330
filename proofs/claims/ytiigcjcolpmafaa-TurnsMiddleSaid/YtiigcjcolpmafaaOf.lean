import Derived.Test.YtiigcjcolpmafaaLw
import Derived.Deep.RegionHeld3
namespace Go.Proofs.Ytiigcjcolpmafaa
open Go.RowKit

/-- A plan as it comes in. -/
structure PlanArg (w : World) (AH AS AP : Option Addr) (cH cS cP : Nat) (p : PlanD) : Prop where
  hands : ArgR w AH p.nH cH p.LH p.vH
  shifts : ArgR w AS p.nS cS p.LS p.vS
  places : ArgI w AP p.nP cP p.pl
theorem PlanArg.keep {w w' : World} {AH AS AP : Option Addr} {cH cS cP : Nat} {p : PlanD} (h : PlanArg w AH AS AP cH cS cP p) (hb : Below w.heap.size w w') : PlanArg w' AH AS AP cH cS cP p :=
  ⟨h.hands.below hb, h.shifts.below hb, h.places.below hb⟩

/-- A block of three nil slices. -/
def ZB (w : World) (g : Nat) : Prop := w.heap[g]? = some (.cells #[.slice none 0 0, .slice none 0 0, .slice none 0 0] 29 (0, 0))
theorem ZB.frozen {w : World} {g : Nat} (h : ZB w g) (i : Nat) : w.frozen? ⟨g, i, none⟩ = false := by
  have h : w.heap[g]? = _ := h
  simp [World.frozen?, h]
theorem ZB.cell {w : World} {g : Nat} (h : ZB w g) {i : Nat} (hi : i < 3) : w.cell? ⟨g, i, none⟩ = some (.slice none 0 0) := by
  have h : w.heap[g]? = _ := h
  have : i = 0 ∨ i = 1 ∨ i = 2 := by omega
  rcases this with rfl | rfl | rfl <;> simp [World.cell?, h]

theorem OwnR.below {w w' : World} {base n : Nat} {x : Value} {L : Nat → Nat} {v : Nat → Nat → Int} (h : OwnR w base x n L v) (hb : Below w.heap.size w w') : OwnR w' base x n L v := by
  obtain ⟨vals, h1, h2, h3⟩ := h
  exact ⟨vals, h1, ownsRow_below h2 hb, h3.below hb⟩
theorem own_exc {w w' : World} {base g size n : Nat} {e : TypeId} {x : Value} {xs : List Value} (h : w.ownsRow base e size x n xs) (he : Exc g w w') (hg : g < base) : w'.ownsRow base e size x n xs := by
  refine World.ownsRow.kept h he ?_
  cases hb : x.ownBlock with
  | none => exact .inl rfl
  | some k =>
    refine .inr (fun e => ?_)
    injection e with e
    have := (World.ownsRow.lt h k hb).1
    omega
theorem OwnR.exc {w w' : World} {base g n : Nat} {x : Value} {L : Nat → Nat} {v : Nat → Nat → Int} (h : OwnR w base x n L v) (he : Exc g w w') (hg : g < base) : OwnR w' base x n L v := by
  obtain ⟨vals, h1, h2, h3⟩ := h
  exact ⟨vals, h1, own_exc h2 he hg, fun i x hx => own_exc (h3 i x hx) he hg⟩
theorem OwnR.toC {w : World} {base n c : Nat} {A : Option Addr} {L : Nat → Nat} {v : Nat → Nat → Int} (h : OwnR w base (.slice A n c) n L v) : RowsC w A n L v := by
  obtain ⟨A', c', e, hr⟩ := h.rowsC
  injection e with e1 e2 e3
  rw [e1]
  exact hr
theorem OwnL.toI {w : World} {base n c : Nat} {A : Option Addr} {f : Nat → Int} (h : OwnL w base (.slice A n c) (lst n f)) : Ints w A n f := by
  obtain ⟨A', c', e, hI⟩ := h.shp (lst_len _ _)
  injection e with e1 e2 e3
  rw [e1]
  exact hI.congr (fun k hk => lst_getD _ _ _ hk)
/-- The world when three values are stored there. -/
def zW (w : World) (g : Nat) (a b c : Value) : World := ((w.setCell ⟨g, 0, none⟩ a).setCell ⟨g, 1, none⟩ b).setCell ⟨g, 2, none⟩ c
theorem zW_cells {w : World} {g : Nat} (h : ZB w g) (a b c : Value) : (zW w g a b c).cell? ⟨g, 0, none⟩ = some a ∧ (zW w g a b c).cell? ⟨g, 1, none⟩ = some b ∧ (zW w g a b c).cell? ⟨g, 2, none⟩ = some c := by
  have h0 := h.cell (show 0 < 3 by omega)
  have h1 := h.cell (show 1 < 3 by omega)
  have h2 := h.cell (show 2 < 3 by omega)
  have o : ∀ (w : World) (i j : Nat) (v : Value), i ≠ j → (w.setCell ⟨g, i, none⟩ v).cell? ⟨g, j, none⟩ = w.cell? ⟨g, j, none⟩ := fun w i j v hij => World.cell?_setCell_other w _ _ v (fun e => hij (by injection e))
  unfold zW
  refine ⟨?_, ?_, ?_⟩
  · rw [o _ 2 0 _ (by omega), o _ 1 0 _ (by omega)]
    exact World.cell?_setCell_same _ _ _ h0
  · rw [o _ 2 1 _ (by omega)]
    exact World.cell?_setCell_same _ _ _ (by rw [o _ 0 1 _ (by omega)]; exact h1)
  · exact World.cell?_setCell_same _ _ _ (by rw [o _ 1 2 _ (by omega), o _ 0 2 _ (by omega)]; exact h2)
theorem zW_exc (w : World) (g : Nat) (a b c : Value) : Exc g w (zW w g a b c) := (((Exc.refl g w).set 0 a).set 1 b).set 2 c
theorem zW_below {w0 w : World} {g B : Nat} (h : Below B w0 w) (hg : B ≤ g) (a b c : Value) : Below B w0 (zW w g a b c) :=
  ((h.setCell (p := ⟨g, 0, none⟩) hg a).setCell (p := ⟨g, 1, none⟩) hg b).setCell (p := ⟨g, 2, none⟩) hg c

set_option maxHeartbeats 4000000 in
set_option maxRecDepth 1000000 in
theorem of_any (AH AS AP : Option Addr) (cH cS cP : Nat) (p : PlanD) (w : World) (h : PlanArg w AH AS AP cH cS cP p) :
    Calls Try.prog 18 #[.agg #[.slice AH p.nH cH, .slice AS p.nS cS, .slice AP p.nP cP]] w fun e w' => ∃ BH dH BS dS BP dP, e = .returned (.agg #[.slice BH (min p.nH 8) dH, .slice BS (min p.nS 8) dS, .slice BP (min p.nP 9) dP]) ∧ PlanIn w' BH BS BP (fewP p) ∧ Below w.heap.size w w' := by
  obtain ⟨W, hW⟩ : ∃ W, W = (w.alloc (.cells #[.slice AH p.nH cH, .slice AS p.nS cS, .slice AP p.nP cP] 25)).alloc (.cells #[.slice none 0 0, .slice none 0 0, .slice none 0 0] 29) := ⟨_, rfl⟩
  have hbW : Below w.heap.size w W := by
    rw [hW]
    exact (below_box w _).trans ((below_box _ _).mono (by simp))
  have hB0 : BoxP W w.heap.size AH AS AP p.nH p.nS p.nP cH cS cP := by
    rw [hW]
    refine ⟨?_, ?_, ?_⟩ <;> simp [World.cell?_alloc_at]
  have hZ : W.heap[w.heap.size + 1]? = some (.cells #[.slice none 0 0, .slice none 0 0, .slice none 0 0] 29 (0, 0)) := by
    rw [hW]
    simpa using heap_alloc_new (w.alloc (.cells #[.slice AH p.nH cH, .slice AS p.nS cS, .slice AP p.nP cP] 25)) (.cells #[.slice none 0 0, .slice none 0 0, .slice none 0 0] 29)
  have hWs : W.heap.size = w.heap.size + 2 := by rw [hW]; simp
  have HA := Lib.hid (h.keep hbW)
  have HB0 := Lib.hid hB0
  have HbW := Lib.hid hbW
  have HZ := Lib.hid hZ
  clear h hB0 hbW hZ
  go_enter Try.func18, Try.ntmps18
  go_wp2_with fail
  rw [← hW]
  have hBc : Below W.heap.size W W.drew := (Dn.refl W).drew.below _
  obtain ⟨q0, q1, q2⟩ := HB0.out.keep hBc
  clear hW
  go_region_held3 (fun w' => w'.cell? ⟨w.heap.size, 0, none⟩ = some (.slice AH p.nH cH) ∧ w'.cell? ⟨w.heap.size, 1, none⟩ = some (.slice AS p.nS cS) ∧ w'.cell? ⟨w.heap.size, 2, none⟩ = some (.slice AP p.nP cP))
    (first | exact (HB0.out.keep hBc) | (refine ⟨?_, ?_, ?_⟩ <;> (rw [World.cell?_setCell_far _ _ _ _ (by simp), World.cell?_setCell_far _ _ _ _ (by simp), World.cell?_setCell_far _ _ _ _ (by simp)]; first | exact (HB0.out.keep hBc).1 | exact (HB0.out.keep hBc).2.1 | exact (HB0.out.keep hBc).2.2)))
    (first
      | (go_at_call_of 54 AH; refine (lists_any AH p.nH cH p.LH p.vH _ (HA.out.keep hBc).hands).mono ?_; rintro e w1 ⟨x1, rfl, hx1, hb1⟩; obtain ⟨BH, dH, rfl, hRH⟩ := hx1.rowsC; have hBc := hBc.trans (hb1.mono hBc.size))
      | (go_at_call_of 54 AS; refine (lists_any AS p.nS cS p.LS p.vS _ (HA.out.keep hBc).shifts).mono ?_; rintro e w2 ⟨x2, rfl, hx2, hb2⟩; obtain ⟨BS, dS, rfl, hRS⟩ := hx2.rowsC; have hBc := hBc.trans (hb2.mono hBc.size))
      | (go_at_call 29; refine (list_any AP p.nP cP p.pl _ (HA.out.keep hBc).places).mono ?_; rintro e w3 ⟨x3, rfl, hx3, hb3⟩; obtain ⟨BP, dP, rfl, hRP⟩ := hx3.shp (lst_len _ _); have hBc := hBc.trans (hb3.mono hBc.size); have hz3 : ZB w3 (w.heap.size + 1) := (hBc.block _ (by omega)).trans HZ.out; have f0 := hz3.frozen 0; have f1 := hz3.frozen 1; have f2 := hz3.frozen 2; have c0 := hz3.cell (show 0 < 3 by omega); have c1 := hz3.cell (show 1 < 3 by omega); have c2 := hz3.cell (show 2 < 3 by omega))
      | fail)
  have hz := zW_cells hz3 (.slice BH (min p.nH 8) dH) (.slice BS (min p.nS 8) dS) (.slice BP (min p.nP 9) dP)
  have hb := zW_below (HbW.out.trans (hBc.mono HbW.out.size)) (show w.heap.size ≤ w.heap.size + 1 by omega) (.slice BH (min p.nH 8) dH) (.slice BS (min p.nS 8) dS) (.slice BP (min p.nP 9) dP)
  have hex := zW_exc w3 (w.heap.size + 1) (.slice BH (min p.nH 8) dH) (.slice BS (min p.nS 8) dS) (.slice BP (min p.nP 9) dP)
  have hWd : W.drew.heap.size = w.heap.size + 2 := hWs
  have hs1 := hb1.size
  have hs2 := hb2.size
  have hpl : PlanIn (zW w3 (w.heap.size + 1) (.slice BH (min p.nH 8) dH) (.slice BS (min p.nS 8) dS) (.slice BP (min p.nP 9) dP)) BH BS BP (fewP p) :=
    ⟨(((hx1.below hb2).below hb3).exc hex (by omega)).toC, ((hx2.below hb3).exc hex (by omega)).toC, OwnL.toI (own_exc hx3 hex (by omega)), (show min p.nH 8 ≤ 9 by omega), (show min p.nS 8 ≤ 9 by omega), Nat.min_le_right _ _, fun _ _ => Nat.min_le_right _ _, fun _ _ => Nat.min_le_right _ _⟩
  have HP := Lib.hid hpl
  have Hb := Lib.hid hb
  change Exit.then _ _ _ _ (zW w3 (w.heap.size + 1) (.slice BH (min p.nH 8) dH) (.slice BS (min p.nS 8) dS) (.slice BP (min p.nP 9) dP))
  clear hpl hb hex hx1 hx2 hx3 hb1 hb2 hb3 hRH hRS hRP f0 f1 f2 c0 c1 c2 hz3 hs1 hs2 hWd q0 q1 q2
  generalize zW w3 (w.heap.size + 1) (.slice BH (min p.nH 8) dH) (.slice BS (min p.nS 8) dS) (.slice BP (min p.nP 9) dP) = WF at *
  obtain ⟨z0, z1, z2⟩ := hz
  go_wp2
  refine bodyPost_ret (v := .agg #[.slice BH (min p.nH 8) dH, .slice BS (min p.nS 8) dS, .slice BP (min p.nP 9) dP]) (by simp [results, Try.results18, go_sem, z0, z1, z2]) rfl ?_
  exact ⟨BH, dH, BS, dS, BP, dP, rfl, HP.out, Hb.out⟩
end Go.Proofs.Ytiigcjcolpmafaa
