import Derived.Test.YtoeimngbpagegaaDoorExc
namespace Go.Proofs.YtoeimngbpagegaaDoor
open Go.RowKit

/-- Block g of cap cells begins with m integers. -/
def RowC (w : World) (g cap m : Nat) (D : Nat → Int) : Prop := ∃ F : Nat → Value, w.rowIs g 3 cap F ∧ m ≤ cap ∧ ∀ i, i < m → F i = .int .i64 (D i)
section
variable {w w' : World} {g cap m : Nat} {D : Nat → Int}
theorem RowI.rowC (h : RowI w g m D) : RowC w g m m D := ⟨_, h, Nat.le_refl _, fun _ _ => rfl⟩
theorem RowC.cell (h : RowC w g cap m D) {i : Nat} (hi : i < m) : w.cell? ⟨g, i, none⟩ = some (.int .i64 (D i)) := by
  obtain ⟨F, hr, hc, hF⟩ := h
  rw [World.rowIs.cell hr (by omega), hF i hi]
theorem RowC.frozen (h : RowC w g cap m D) (i : Nat) : w.frozen? ⟨g, i, none⟩ = false := by
  obtain ⟨F, hr, -⟩ := h
  exact World.rowIs.frozen hr i
theorem RowC.lt (h : RowC w g cap m D) : g < w.heap.size := by
  obtain ⟨F, hr, -⟩ := h
  exact World.rowIs.lt hr
theorem RowC.ints (h : RowC w g cap m D) : Ints w (some ⟨g, 0, none⟩) m D := fun _ => ⟨g, 0, rfl, fun k hk => by rw [Nat.zero_add]; exact h.cell hk⟩
theorem RowC.congr {D' : Nat → Int} (h : RowC w g cap m D) (e : ∀ i, i < m → D i = D' i) : RowC w g cap m D' := by
  obtain ⟨F, hr, hc, hF⟩ := h
  exact ⟨F, hr, hc, fun i hi => by rw [hF i hi, e i hi]⟩
theorem RowC.set (h : RowC w g cap m D) (i : Nat) (x : Int) : RowC (w.setCell ⟨g, i, none⟩ (.int .i64 x)) g cap m (upd D i x) := by
  obtain ⟨F, hr, hc, hF⟩ := h
  refine ⟨_, World.rowIs.set hr i (.int .i64 x), hc, fun j hj => ?_⟩
  by_cases e : j = i
  · simp [e, upd]
  · simp [e, upd, hF j hj]
theorem RowC.keep (h : RowC w g cap m D) (hb : Below w.heap.size w w') : RowC w' g cap m D := by
  obtain ⟨F, hr, hc, hF⟩ := h
  exact ⟨F, World.rowIs.of_block hr (hb.block g (World.rowIs.lt hr)), hc, hF⟩
theorem RowC.dn (h : RowC w g cap m D) (hd : Dn w w') : RowC w' g cap m D := by
  obtain ⟨k, rfl⟩ := hd
  exact h
end
theorem OwnL.rowC {w : World} {base : Nat} {v : Value} {n : Nat} {f : Nat → Int} (h : OwnL w base v (lst n f)) (hp : 0 < n) : ∃ g cap, v = .slice (some ⟨g, 0, none⟩) n cap ∧ base ≤ g ∧ RowC w g cap n f := by
  have hl := lst_len n f
  have h0 := h
  rcases h0.2 with ⟨_, hn⟩ | ⟨g, cap, cur, e, hg, hh, hnc, hcm, hcs, ht⟩
  · omega
  · have hr : w.rowIs g 3 cap (fun i => cur[i]?.getD (.int .i64 0)) := ⟨cur, hh, by omega, fun i hi => by
      have hi' : i < cur.size := by omega
      simp [Array.getElem?_eq_getElem hi']⟩
    subst e
    refine ⟨g, cap, by rw [hl], hg, _, hr, by omega, fun i hi => ?_⟩
    have hc := World.ownsRow.cellAt h i (by rw [hl]; omega)
    rw [World.rowIs.cell hr (by omega), List.getElem?_map, lst_get n f i hi, Option.map_some] at hc
    injection hc
theorem RowC.setOther {w : World} {g cap m : Nat} {D : Nat → Int} (h : RowC w g cap m D) {a : Addr} (ha : g ≠ a.block) (v : Value) : RowC (w.setCell a v) g cap m D := by
  obtain ⟨F, hr, hc, hF⟩ := h
  exact ⟨F, World.rowIs.setOther hr ha v, hc, hF⟩
/-- A world that has grown out of w: what lay there is as it was. -/
structure Later (w : World) where
  to : World
  below : Below w.heap.size w to
instance (w : World) : Inhabited (Later w) := ⟨⟨w, Below.refl _ _⟩⟩
theorem Later.cell {w : World} (p : Later w) {a : Addr} {v : Value} (h : w.cell? a = some v) : p.to.cell? a = some v := (p.below.cell (World.block_lt_of_cell? _ _ h)).trans h
/-- It returns v; it may lay blocks. -/
def Lr (f : FuncId) (args : Array Value) (w : World) (v : Value) : Prop := Calls Tryd.prog f args w fun e w' => e = .returned v ∧ Below w.heap.size w w'
theorem Ro.lr {f : FuncId} {args : Array Value} {w : World} {v : Value} (h : Ro f args w v) : Lr f args w v := h.mono fun _ _ ⟨he, hw⟩ => ⟨he, Dn.below hw _⟩
theorem Lr.same {f : FuncId} {args : Array Value} {w : World} {v : Value} (h : Calls Tryd.prog f args w fun e w' => e = .returned v ∧ w = w') : Lr f args w v := h.mono fun _ _ ⟨he, hw⟩ => ⟨he, by rw [hw]; exact Below.refl _ _⟩
theorem Lr.later {f : FuncId} {args : Array Value} {w : World} {v : Value} {p : Later w} (h : Lr f args p.to v) : Calls Tryd.prog f args p.to fun e w'' => e = .returned v ∧ ∃ q : Later w, w'' = q.to :=
  h.mono fun _ _ ⟨he, hb⟩ => ⟨he, ⟨_, p.below.trans (hb.mono p.below.size)⟩, rfl⟩
theorem Lr.use {f : FuncId} {args : Array Value} {w : World} {v : Value} {R : Ending → World → Prop} (h : Lr f args w v) (hR : ∀ w', Below w.heap.size w w' → R (.returned v) w') : Calls Tryd.prog f args w R :=
  h.mono fun _ _ ⟨he, hw⟩ => by subst he; exact hR _ hw
theorem wp_region_later {id : Nat} {Q : Exit → Act → World → Prop} {a : Act} {w : World} {l : List Oper} (hm : Tryd.prog.follows .mixedOrders = true) (hB : Region.lexB .any l.toArray = true)
    (h : wpQuiet Tryd.prog l.toArray (fun w' => ∃ p : Later w, w' = p.to) (fun a' => ∀ w', (∃ p : Later w, w' = p.to) → Q .normal a' w') l a) : (Code.region id l.toArray true).wp Tryd.prog Q a w :=
  wp_region_quiet (C := fun w' => ∃ p : Later w, w' = p.to) hm hB ⟨⟨{ w with drawn := w.drawn + 1 }, ⟨rfl, rfl, rfl, Nat.le_refl _, fun _ _ => rfl⟩⟩, rfl⟩ (by simpa using h)
theorem RowC.ownL {w : World} {g cap m : Nat} {D : Nat → Int} {base : Nat} (h : RowC w g cap m D) (hb : base ≤ g) (hm : cap ≤ maxLen) : OwnL w base (.slice (some ⟨g, 0, none⟩) m cap) (lst m D) := by
  obtain ⟨F, ⟨c, hc, hs, hF⟩, hmc, hD⟩ := h
  unfold OwnL
  rw [lst_len]
  refine ⟨by simp [lst_len], .inr ⟨g, cap, c, rfl, hb, hc, hmc, hm, by omega, ?_⟩⟩
  apply List.ext_getElem?
  intro i
  rw [Nat.mul_one]
  by_cases hi : i < m
  · rw [List.getElem?_take_of_lt hi, Array.getElem?_toList, hF i (by omega), hD i hi, List.getElem?_map, lst_get m D i hi]
    rfl
  · rw [List.getElem?_eq_none (by simp; omega), List.getElem?_eq_none (by simp [lst_len]; omega)]
theorem OwnL.rowCm {w : World} {base : Nat} {v : Value} {n : Nat} {f : Nat → Int} (h : OwnL w base v (lst n f)) (hp : 0 < n) : ∃ g cap, v = .slice (some ⟨g, 0, none⟩) n cap ∧ base ≤ g ∧ cap ≤ maxLen ∧ RowC w g cap n f := by
  obtain ⟨g, cap, e, hb, hr⟩ := h.rowC hp
  rcases h.2 with ⟨e2, -⟩ | ⟨g', cap', cur, e2, -, -, -, hcm, -⟩
  · rw [e2] at e
    cases e
  · rw [e2] at e
    injection e with e3 e4 e5
    exact ⟨g, cap, by rw [e2]; rw [e4, e3, e5], hb, by omega, hr⟩
end Go.Proofs.YtoeimngbpagegaaDoor
