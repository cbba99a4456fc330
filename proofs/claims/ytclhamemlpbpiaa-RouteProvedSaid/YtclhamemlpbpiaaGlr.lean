import Derived.Test.YtclhamemlpbpiaaRows
import Derived.Test.YtclhamemlpbpiaaQa
import Derived.Lib.SmallJoins
import Derived.ProofKit
import Derived.SizedLaws
import Derived.Deep.Matrix
import Derived.Deep.Slices
import Derived.Deep.Fields
import Derived.ChangeSame
import Derived.Carry
namespace Go.Proofs.Ytclhamemlpbpiaa
open Go.ChangeShapes Go.WideShapes Go.ChangeAt Go.RowKit Go.Deep

theorem pOwn : ownKnob Try.prog.godebug = none := by kernel_rfl
theorem pLaid : laidOutB Try.prog = true := by kernel_rfl
theorem pCells1 : Try.prog.cellsOf 3 = 1 := by kernel_rfl

theorem spot_none {w : World} {a : Addr} {x : Value} (h : w.cell? (a.add 0) = some x) : a.spot = none := by
  simpa [Addr.add] using World.cell?_spot h

/-- A slice of integers as it may come in. -/
def ArgI (w : World) (A : Option Addr) (n c : Nat) (f : Nat → Int) : Prop := n ≤ c ∧ c ≤ maxLen ∧ (A = none → c = 0) ∧ Ints w A n f
theorem ArgI.below {w w' : World} {A : Option Addr} {n c : Nat} {f : Nat → Int} (h : ArgI w A n c f) (hb : Below w.heap.size w w') : ArgI w' A n c f := ⟨h.1, h.2.1, h.2.2.1, h.2.2.2.keep hb⟩

section
variable {H : Type} {enc : TypeId × Value → H} {W : World} {A : Option Addr} {n c : Nat} {d : DataW H} {ps : List MemPlace}

theorem trodAll_five {P : Program} {w : World} {base : Nat} {spare : Nat → Bool} {held : Bool} {t0 t1 t2 t3 t4 : TypeId} {args : Array Value} {ds : List (DataW H)} {ps : List MemPlace} (h : DataW.TrodAll enc P w base spare held [t0, t1, t2, t3, t4] args.toList ds ps) :
    ∃ v0 v1 v2 v3 v4 d0 d1 d2 d3 d4 p0 p1 p2 p3 p4, args = #[v0, v1, v2, v3, v4] ∧ ds = [d0, d1, d2, d3, d4] ∧ ps = p0 ++ p1 ++ p2 ++ p3 ++ p4 ∧ DataW.Trod enc P w base spare held t0 v0 d0 p0 ∧ DataW.Trod enc P w base spare held t1 v1 d1 p1 ∧ DataW.Trod enc P w base spare held t2 v2 d2 p2 ∧ DataW.Trod enc P w base spare held t3 v3 d3 p3 ∧ DataW.Trod enc P w base spare held t4 v4 d4 p4 := by
  obtain ⟨v0, vs0, d0, e0, p0, q0, hargs, rfl, rfl, h0, r0⟩ := trodAll_cons h
  obtain ⟨v1, vs1, d1, e1, p1, q1, rfl, rfl, rfl, h1, r1⟩ := trodAll_cons r0
  obtain ⟨v2, vs2, d2, e2, p2, q2, rfl, rfl, rfl, h2, r2⟩ := trodAll_cons r1
  obtain ⟨v3, vs3, d3, e3, p3, q3, rfl, rfl, rfl, h3, r3⟩ := trodAll_cons r2
  obtain ⟨v4, vs4, d4, e4, p4, q4, rfl, rfl, rfl, h4, r4⟩ := trodAll_cons r3
  obtain ⟨rfl, rfl, rfl⟩ := trodAll_nil r4
  exact ⟨v0, v1, v2, v3, v4, d0, d1, d2, d3, d4, p0, p1, p2, p3, p4, by cases args; simp_all, rfl, by simp, h0, h1, h2, h3, h4⟩
theorem trodAll_mk5 {P : Program} {w : World} {base : Nat} {spare : Nat → Bool} {held : Bool} {t0 t1 t2 t3 t4 : TypeId} {v0 v1 v2 v3 v4 : Value} {d0 d1 d2 d3 d4 : DataW H} {p0 p1 p2 p3 p4 : List MemPlace} (h0 : DataW.Trod enc P w base spare held t0 v0 d0 p0) (h1 : DataW.Trod enc P w base spare held t1 v1 d1 p1)
    (h2 : DataW.Trod enc P w base spare held t2 v2 d2 p2) (h3 : DataW.Trod enc P w base spare held t3 v3 d3 p3) (h4 : DataW.Trod enc P w base spare held t4 v4 d4 p4) : DataW.TrodAll enc P w base spare held [t0, t1, t2, t3, t4] [v0, v1, v2, v3, v4] [d0, d1, d2, d3, d4] (p0 ++ (p1 ++ (p2 ++ (p3 ++ p4)))) := ⟨p0, p1 ++ (p2 ++ (p3 ++ p4)), h0, trodAll_mk4 h1 h2 h3 h4, rfl⟩
theorem open_row (h : DataW.Trod enc Try.prog W 0 (fun _ => true) true 33 (.slice A n c) d ps) : ∃ f, ArgI W A n c f := by
  obtain ⟨fuel, hf⟩ := h
  rcases open_ints Try.underlying33 Try.underlying3 pCells1 hf with ⟨hcs, hx⟩ | ⟨a, len, cap, zs, hcs, hb, hl, hm, hz, hx, hcell, hw⟩
  · simp [Value.cells] at hcs
    obtain ⟨rfl, rfl, rfl⟩ := hcs
    exact ⟨fun _ => 0, Nat.le_refl _, Nat.zero_le _, fun _ => rfl, Ints.zero⟩
  · simp [Value.cells] at hcs
    obtain ⟨rfl, rfl, rfl⟩ := hcs
    simp only [if_true] at hz
    refine ⟨fun k => zs.getD k 0, hl, hm, (fun h => by cases h), fun hn => ?_⟩
    obtain ⟨b, o, sp⟩ := a
    have hs : sp = none := spot_none (hcell 0 (by omega))
    subst hs
    exact ⟨b, o, rfl, fun k hk => by rw [← add_plain]; exact hcell k (by omega)⟩

/-- A value of this type that can be read is s integers, a cell each. -/
def AllInts (enc : TypeId × Value → H) (W : World) (e : TypeId) (s : Nat) : Prop := ∀ (fuel : Nat) (cs : List Value) (x : DataW H × List MemPlace), DataW.trod enc Try.prog W 0 (fun _ => true) true fuel e cs = some x → ∀ j, j < s → ∃ z : Int, cs[j]? = some (.int .i64 z)
theorem take_one {cs : List Value} {j : Nat} {v : Value} (h : (cs.drop j).take 1 = [v]) : cs[j]? = some v := by
  have := congrArg (·[0]?) h
  simpa using this
theorem allInts_struct {e : TypeId} {fs : Array Field} (he : Try.prog.underlying e = some (.struct fs)) (hone : oneCellFields Try.prog fs = true) (hty : ∀ (j : Nat) (f : Field), fs[j]? = some f → f.type = 3) : AllInts enc W e fs.size := by
  intro fuel cs x h j hj
  obtain ⟨ys, n', -, -, -, hlen, hf⟩ := DataW.trod_struct he h
  have hg : fs[j]? = some fs[j] := Array.getElem?_eq_getElem hj
  obtain ⟨ho, hk⟩ := hone_of hone j _ hg
  have h1 := hf j _ hg
  rw [ho, hk, hty j _ hg, List.getElem?_eq_getElem (show j < ys.length by rw [hlen]; simpa using hj)] at h1
  obtain ⟨z, hz, -⟩ := DataW.trod_int Try.underlying3 h1
  exact ⟨z, take_one hz⟩
theorem allInts_array {e : TypeId} {s : Nat} (he : Try.prog.underlying e = some (.array s 3)) : AllInts enc W e s := by
  intro fuel cs x h j hj
  obtain ⟨xs, m, -, -, -, hlen, hf⟩ := DataW.trod_array he h
  have h1 := hf j hj
  rw [pCells1, Nat.mul_one, List.getElem?_eq_getElem (show j < xs.length by omega)] at h1
  obtain ⟨z, hz, -⟩ := DataW.trod_int Try.underlying3 h1
  exact ⟨z, take_one hz⟩
def cellI (W : World) (a : Addr) : Int := match W.cell? a with
  | some (.int .i64 z) => z
  | _ => 0
/-- A slice of such values that comes in. -/
theorem open_recs {t e : TypeId} {s : Nat} (ht : Try.prog.underlying t = some (.slice e)) (hC : Try.prog.cellsOf e = s) (hs0 : 0 < s) (hI : AllInts enc W e s) (h : DataW.Trod enc Try.prog W 0 (fun _ => true) true t (.slice A n c) d ps) : ∃ F, ArgK s W A n c F := by
  obtain ⟨fuel, hf⟩ := h
  rcases open_slice ht hf with ⟨hcs, hx⟩ | ⟨a, len, cap, m, n', D, Pl, hcs, hb, hl, hm, hmm, hx, hi⟩
  · simp [Value.cells] at hcs
    obtain ⟨rfl, rfl, rfl⟩ := hcs
    exact ⟨fun _ _ => 0, Nat.le_refl _, Nat.zero_le _, fun _ => rfl, Recs.zero⟩
  · simp [Value.cells] at hcs
    obtain ⟨rfl, rfl, rfl⟩ := hcs
    simp only [if_true] at hmm
    have hcell : ∀ i, i < m → ∀ j, j < s → ∃ z : Int, W.cell? (a.add (i * s + j)) = some (.int .i64 z) := by
      intro i him j hj
      obtain ⟨cs', hc, ht'⟩ := hi i him
      rw [hC] at hc
      obtain ⟨-, -, hat⟩ := World.cells?_some hc
      obtain ⟨z, hz⟩ := hI _ _ _ ht' j hj
      exact ⟨z, by rw [← add_add, hat j hj, hz]⟩
    refine ⟨fun i j => cellI W (a.add (i * s + j)), hl, hm, (fun h => by cases h), fun hn => ?_⟩
    obtain ⟨b, o, sp⟩ := a
    have hsp : sp = none := by
      obtain ⟨z, hz⟩ := hcell 0 (by omega) 0 hs0
      rw [Nat.zero_mul, Nat.zero_add] at hz
      exact spot_none hz
    subst hsp
    refine ⟨b, o, rfl, fun k hk i hi => ?_⟩
    obtain ⟨z, hz⟩ := hcell k (by omega) i hi
    rw [Nat.add_assoc, ← add_plain, hz]
    simp only [cellI, hz]
theorem three_of {p : Nat → Field → Prop} {a b c : Field} (h0 : p 0 a) (h1 : p 1 b) (h2 : p 2 c) : ∀ j f, (#[a, b, c] : Array Field)[j]? = some f → p j f := by
  intro j f hf
  match j, hf with
  | 0, hf => injection hf with hf; subst hf; exact h0
  | 1, hf => injection hf with hf; subst hf; exact h1
  | 2, hf => injection hf with hf; subst hf; exact h2
  | j + 3, hf => simp at hf
theorem four_of {p : Nat → Field → Prop} {a b c e : Field} (h0 : p 0 a) (h1 : p 1 b) (h2 : p 2 c) (h3 : p 3 e) : ∀ j f, (#[a, b, c, e] : Array Field)[j]? = some f → p j f := by
  intro j f hf
  match j, hf with
  | 0, hf => injection hf with hf; subst hf; exact h0
  | 1, hf => injection hf with hf; subst hf; exact h1
  | 2, hf => injection hf with hf; subst hf; exact h2
  | 3, hf => injection hf with hf; subst hf; exact h3
  | j + 4, hf => simp at hf
/-- A slice of such values, read from its one cell. -/
theorem open_recsC {t e : TypeId} {s : Nat} (ht : Try.prog.underlying t = some (.slice e)) (hC : Try.prog.cellsOf e = s) (hs0 : 0 < s) (hI : AllInts enc W e s) {fuel : Nat} {v : Value} {x : DataW H × List MemPlace} (hf : DataW.trod enc Try.prog W 0 (fun _ => true) true fuel t [v] = some x) : ∃ A n c F, v = .slice A n c ∧ ArgK s W A n c F := by
  rcases open_slice ht hf with ⟨hcs, hx⟩ | ⟨a, len, cap, m, n', D, Pl, hcs, hb, hl, hm, hmm, hx, hi⟩
  · injection hcs with hcs
    exact ⟨none, 0, 0, fun _ _ => 0, hcs, Nat.le_refl _, Nat.zero_le _, fun _ => rfl, Recs.zero⟩
  · injection hcs with hcs
    simp only [if_true] at hmm
    have hcell : ∀ i, i < m → ∀ j, j < s → ∃ z : Int, W.cell? (a.add (i * s + j)) = some (.int .i64 z) := by
      intro i him j hj
      obtain ⟨cs', hc, ht'⟩ := hi i him
      rw [hC] at hc
      obtain ⟨-, -, hat⟩ := World.cells?_some hc
      obtain ⟨z, hz⟩ := hI _ _ _ ht' j hj
      exact ⟨z, by rw [← add_add, hat j hj, hz]⟩
    refine ⟨some a, len, cap, fun i j => cellI W (a.add (i * s + j)), hcs, hl, hm, (fun h => by cases h), fun hn => ?_⟩
    obtain ⟨b, o, sp⟩ := a
    have hsp : sp = none := by
      obtain ⟨z, hz⟩ := hcell 0 (by omega) 0 hs0
      rw [Nat.zero_mul, Nat.zero_add] at hz
      exact spot_none hz
    subst hsp
    refine ⟨b, o, rfl, fun k hk i hi => ?_⟩
    obtain ⟨z, hz⟩ := hcell k (by omega) i hi
    rw [Nat.add_assoc, ← add_plain, hz]
    simp only [cellI, hz]
theorem two_of {p : Nat → Field → Prop} {a b : Field} (h0 : p 0 a) (h1 : p 1 b) : ∀ j f, (#[a, b] : Array Field)[j]? = some f → p j f := by
  intro j f hf
  match j, hf with
  | 0, hf => injection hf with hf; subst hf; exact h0
  | 1, hf => injection hf with hf; subst hf; exact h1
  | j + 2, hf => simp at hf
/-- A map that comes in. -/
theorem open_map {v : Value} {b0 : Nat} {r : Reach} (hv : Value.okWide Try.prog W r b0 24 v) (h : DataW.Trod enc Try.prog W 0 (fun _ => true) true 24 v d ps) :
    ∃ N A m c F, v = .agg #[.int .i64 N, .slice A m c] ∧ ArgK 3 W A m c F := by
  obtain ⟨v0, v1, y0, y1, n, rfl, -, -, h0, h1⟩ := Go.Joins.open_agg2 Try.underlying24 (by kernel_rfl) (by kernel_rfl) hv h
  obtain ⟨z, hz, -⟩ := DataW.trod_int Try.underlying3 h0
  obtain ⟨A, m, c, F, rfl, aF⟩ := open_recsC (s := 3) Try.underlying22 (by kernel_rfl) (by decide) (allInts_struct Try.underlying65 (by kernel_rfl) (three_of (p := fun _ f => f.type = 3) rfl rfl rfl)) h1
  have hz0 : v0 = .int .i64 z := by simpa using hz
  subst hz0
  exact ⟨z, A, m, c, F, rfl, aF⟩
theorem open_moats (h : DataW.Trod enc Try.prog W 0 (fun _ => true) true 50 (.slice A n c) d ps) : ∃ F, ArgK 2 W A n c F :=
  open_recs (s := 2) Try.underlying50 (by kernel_rfl) (by decide) (allInts_struct Try.underlying82 (by kernel_rfl) (two_of (p := fun _ f => f.type = 3) rfl rfl)) h

theorem post_of_below {P : Program} {f : Func} {s : ChangeSpec} {apart fresh handsOn again : Bool} {W W' : World} {args : Array Value} {v : Value} {ds gs : List (DataW H)} {before pa pv : List MemPlace}
    (hW : DataW.Whole enc P f.params.toList s.vars apart W args.toList ds gs before)
    (hres : ∀ (b : Nat) (sp : Nat → Bool) (hd : Bool), DataW.TrodAll enc P W' b sp hd f.resultTypes.toList (v.resultList f.resultTypes.size) (s.fn H (ds ++ gs)).results [])
    (hargs : ∀ sp : Nat → Bool, (∀ p ∈ before, sp p.block = true) → DataW.TrodAll enc P W' 0 sp true f.params.toList args.toList (s.fn H (ds ++ gs)).args pa)
    (hvars : ∀ sp : Nat → Bool, (∀ p ∈ before, sp p.block = true) → DataW.TrodVars enc P W' sp s.vars (s.fn H (ds ++ gs)).vars pv)
    (hps : before = pa ++ pv) (hb : Below W.heap.size W W')
    (hok : ∀ (j : Nat) (t : TypeId) (r : Value), f.resultTypes[j]? = some t → (v.resultList f.resultTypes.size)[j]? = some r → Value.okWide P W' .any 0 t r) :
    s.post enc P f apart fresh handsOn again W args v W' := by
  have hlt : ∀ p ∈ before, p.block < W.heap.size := fun p hp => hW.lt p hp
  have hold : ∀ p ∈ before, (fun b => decide (b < W.heap.size)) p.block = true := fun p hp => by simpa using hlt p hp
  refine ⟨ds, gs, before, [], pa, pv, hW, hres _ _ _, hargs _ hold, hvars _ hold, World.keptBut_mono (fun p hp => ⟨hp, ?_⟩) (hb.frame (· ∈ before)), fun _ => ?_⟩
  · rw [hps, List.mem_append] at hp
    exact Or.inr hp
  · obtain ⟨_, _, _, _, _, hz, hn⟩ := hW
    refine ⟨hok, _, _, ([] ++ pa) ++ pv, ⟨[] ++ pa, pv, trodAll_append (hargs _ (fun _ _ => rfl)) (hres _ _ _), hvars _ (fun _ _ => rfl), rfl, ?_, ?_⟩, ?_⟩
    · intro b off hp
      have hin : MemPlace.cell b off ∈ before := by rw [hps]; simpa using hp
      rw [hb.frozen (hlt _ hin)]
      exact hz b off hin
    · intro ha
      have := hn ha
      rw [hps] at this
      simpa using this
    · intro p hp _
      rw [hps]
      simpa using hp
end

/-- What a law's walk shows: it returns true; of what was there nothing has turned. -/
def TrueBelow (f : FuncId) (args : Array Value) (W : World) : Prop := Calls Try.prog f args W fun e W' => e = .returned (.bool true) ∧ Below W.heap.size W W'
end Go.Proofs.Ytclhamemlpbpiaa
