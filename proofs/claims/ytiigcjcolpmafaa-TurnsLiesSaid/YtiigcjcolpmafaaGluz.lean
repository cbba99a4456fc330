/- A part of the proof: Gluz. -/
import Derived.Test.YtiigcjcolpmafaaRows
import Derived.Test.YtiigcjcolpmafaaLW
import Derived.Lib.SmallJoins
import Derived.ProofKit
import Derived.SizedLaws
import Derived.Deep.Matrix
namespace Go.Proofs.Ytiigcjcolpmafaa
open Go.ChangeShapes Go.WideShapes Go.ChangeAt Go.RowKit

theorem pOwn : ownKnob Try.prog.godebug = none := by kernel_rfl
theorem pLaid : laidOutB Try.prog = true := by kernel_rfl
theorem pCells1 : Try.prog.cellsOf 3 = 1 := by kernel_rfl
theorem pCells2 : Try.prog.cellsOf 23 = 1 := by kernel_rfl
theorem pBytes2 : Try.prog.bytesOf 23 = 24 := by kernel_rfl

theorem spot_none {w : World} {a : Addr} {x : Value} (h : w.cell? (a.add 0) = some x) : a.spot = none := by
  simpa [Addr.add] using World.cell?_spot h

section
variable {H : Type} {enc : TypeId × Value → H} {W : World} {A : Option Addr} {n c : Nat} {d : DataW H} {ps : List MemPlace}

theorem open_row (h : DataW.Trod enc Try.prog W 0 (fun _ => true) true 23 (.slice A n c) d ps) : ∃ f, ArgI W A n c f := by
  obtain ⟨fuel, hf⟩ := h
  rcases open_ints Try.underlying23 Try.underlying3 pCells1 hf with ⟨hcs, hx⟩ | ⟨a, len, cap, zs, hcs, hb, hl, hm, hz, hx, hcell, hw⟩
  · simp [Value.cells] at hcs
    obtain ⟨rfl, rfl, rfl⟩ := hcs
    exact ⟨fun _ => 0, Nat.le_refl _, Nat.zero_le _, fun _ => rfl, Ints.zero⟩
  · simp [Value.cells] at hcs
    obtain ⟨rfl, rfl, rfl⟩ := hcs
    simp only [if_true] at hz
    refine ⟨fun k => zs.getD k 0, hl, hm, (fun h => by cases h), fun hn => ?_⟩
    obtain ⟨b, o, sp⟩ := a
    have hs : sp = none := spot_none (hcell 0 (by omega))
    subst hs
    exact ⟨b, o, rfl, fun k hk => by rw [← add_plain]; exact hcell k (by omega)⟩

theorem open_rowC {fuel : Nat} {v : Value} {x : DataW H × List MemPlace} (hf : DataW.trod enc Try.prog W 0 (fun _ => true) true fuel 23 [v] = some x) : ∃ A n c f, v = .slice A n c ∧ ArgI W A n c f := by
  rcases open_ints Try.underlying23 Try.underlying3 pCells1 hf with ⟨hcs, hx⟩ | ⟨a, len, cap, zs, hcs, hb, hl, hm, hz, hx, hcell, hw⟩
  · injection hcs with hcs
    exact ⟨none, 0, 0, fun _ => 0, hcs, Nat.le_refl _, Nat.zero_le _, fun _ => rfl, Ints.zero⟩
  · injection hcs with hcs
    simp only [if_true] at hz
    refine ⟨some a, len, cap, fun k => zs.getD k 0, hcs, hl, hm, (fun h => by cases h), fun hn => ?_⟩
    obtain ⟨b, o, sp⟩ := a
    have hs : sp = none := spot_none (hcell 0 (by omega))
    subst hs
    exact ⟨b, o, rfl, fun k hk => by rw [← add_plain]; exact hcell k (by omega)⟩
theorem open_rowsC {fuel : Nat} {v : Value} {x : DataW H × List MemPlace} (hf : DataW.trod enc Try.prog W 0 (fun _ => true) true fuel 22 [v] = some x) : ∃ A n c L f, v = .slice A n c ∧ ArgR W A n c L f := by
  rcases Go.Deep.open_int_rows Try.underlying22 Try.underlying23 Try.underlying3 pCells2 pCells1 hf with ⟨hcs, hx⟩ | ⟨a, len, cap, R, L, C, Z, hcs, hb, hl, hm, hx, hrows⟩
  · injection hcs with hcs
    exact ⟨none, 0, 0, fun _ => 0, fun _ _ => 0, hcs, Nat.le_refl _, Nat.zero_le _, fun _ => rfl, fun h => absurd h (by omega)⟩
  · injection hcs with hcs
    refine ⟨some a, len, cap, L, fun i k => (Z i).getD k 0, hcs, hl, hm, (fun h => by cases h), fun hn => ?_⟩
    obtain ⟨b, o, sp⟩ := a
    have hs : sp = none := spot_none (hrows 0 (by omega)).1
    subst hs
    refine ⟨b, o, rfl, fun i hi => ?_⟩
    obtain ⟨h1, h2, h3, h4, _, h6, h7⟩ := hrows i (by omega)
    refine ⟨R i, C i, by rw [← add_plain]; exact h1, h2, h3, h6, fun hp => ?_⟩
    cases hR : R i with
    | none => have := h6 hR; omega
    | some a' =>
      obtain ⟨_, hcell⟩ := h7 a' hR
      obtain ⟨b', o', sp'⟩ := a'
      have hs : sp' = none := spot_none (hcell 0 (by omega))
      subst hs
      exact ⟨b', o', rfl, fun k hk => by rw [← add_plain]; exact hcell k (by omega)⟩
set_option maxRecDepth 100000 in
/-- A plan that comes in. -/
theorem open_plan {v : Value} {b0 : Nat} {r : Reach} (hv : Value.okWide Try.prog W r b0 25 v) (h : DataW.Trod enc Try.prog W 0 (fun _ => true) true 25 v d ps) :
    ∃ AH AS AP cH cS cP p, v = .agg #[.slice AH p.nH cH, .slice AS p.nS cS, .slice AP p.nP cP] ∧ PlanArg W AH AS AP cH cS cP p := by
  obtain ⟨v0, v1, v2, y0, y1, y2, n, rfl, -, -, h0, h1, h2⟩ := Go.Joins.open_agg3 Try.underlying25 (by kernel_rfl) (by kernel_rfl) hv h
  obtain ⟨AH, nH, cH, LH, vH, rfl, aH⟩ := open_rowsC h0
  obtain ⟨AS, nS, cS, LS, vS, rfl, aS⟩ := open_rowsC h1
  obtain ⟨AP, nP, cP, pl, rfl, aP⟩ := open_rowC h2
  exact ⟨AH, AS, AP, cH, cS, cP, ⟨nH, LH, vH, nS, LS, vS, nP, pl⟩, rfl, aH, aS, aP⟩

theorem post_of_below {P : Program} {f : Func} {s : ChangeSpec} {apart fresh handsOn again : Bool} {W W' : World} {args : Array Value} {v : Value} {ds gs : List (DataW H)} {before pa pv : List MemPlace}
    (hW : DataW.Whole enc P f.params.toList s.vars apart W args.toList ds gs before)
    (hres : ∀ (b : Nat) (sp : Nat → Bool) (hd : Bool), DataW.TrodAll enc P W' b sp hd f.resultTypes.toList (v.resultList f.resultTypes.size) (s.fn H (ds ++ gs)).results [])
    (hargs : ∀ sp : Nat → Bool, (∀ p ∈ before, sp p.block = true) → DataW.TrodAll enc P W' 0 sp true f.params.toList args.toList (s.fn H (ds ++ gs)).args pa)
    (hvars : ∀ sp : Nat → Bool, (∀ p ∈ before, sp p.block = true) → DataW.TrodVars enc P W' sp s.vars (s.fn H (ds ++ gs)).vars pv)
    (hps : before = pa ++ pv) (hb : Below W.heap.size W W')
    (hok : ∀ (j : Nat) (t : TypeId) (r : Value), f.resultTypes[j]? = some t → (v.resultList f.resultTypes.size)[j]? = some r → Value.okWide P W' .any 0 t r) :
    s.post enc P f apart fresh handsOn again W args v W' := by
  have hlt : ∀ p ∈ before, p.block < W.heap.size := fun p hp => hW.lt p hp
  have hold : ∀ p ∈ before, (fun b => decide (b < W.heap.size)) p.block = true := fun p hp => by simpa using hlt p hp
  refine ⟨ds, gs, before, [], pa, pv, hW, hres _ _ _, hargs _ hold, hvars _ hold, World.keptBut_mono (fun p hp => ⟨hp, ?_⟩) (hb.frame (· ∈ before)), fun _ => ?_⟩
  · rw [hps, List.mem_append] at hp
    exact Or.inr hp
  · obtain ⟨_, _, _, _, _, hz, hn⟩ := hW
    refine ⟨hok, _, _, ([] ++ pa) ++ pv, ⟨[] ++ pa, pv, trodAll_append (hargs _ (fun _ _ => rfl)) (hres _ _ _), hvars _ (fun _ _ => rfl), rfl, ?_, ?_⟩, ?_⟩
    · intro b off hp
      have hin : MemPlace.cell b off ∈ before := by rw [hps]; simpa using hp
      rw [hb.frozen (hlt _ hin)]
      exact hz b off hin
    · intro ha
      have := hn ha
      rw [hps] at this
      simpa using this
    · intro p hp _
      rw [hps]
      simpa using hp
end

/-- What a law's walk shows: it returns true; of what was there nothing has turned. -/
def TrueBelow (f : FuncId) (args : Array Value) (W : World) : Prop := Calls Try.prog f args W fun e W' => e = .returned (.bool true) ∧ Below W.heap.size W W'
end Go.Proofs.Ytiigcjcolpmafaa

