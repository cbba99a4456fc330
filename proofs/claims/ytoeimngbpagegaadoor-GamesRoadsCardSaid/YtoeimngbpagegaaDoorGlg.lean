import Derived.Test.YtoeimngbpagegaaDoorRows
import Derived.Test.YtoeimngbpagegaaDoorCards
import Derived.Test.YtoeimngbpagegaaDoorTie
import Derived.Test.YtoeimngbpagegaaDoorGc
import Derived.Test.YtoeimngbpagegaaDoorFw
import Derived.Deep.DeepHandedRow
import Derived.Lib.LaidTab
import Derived.ProofKit
import Derived.SizedLaws
import Derived.Deep.Matrix
import Derived.Deep.Slices
import Derived.Deep.Fields
import Derived.ChangeSame
namespace Go.Proofs.YtoeimngbpagegaaDoor
open Go.ChangeShapes Go.WideShapes Go.ChangeAt Go.RowKit Go.Deep

theorem pOwn : ownKnob Tryd.prog.godebug = none := by kernel_rfl
theorem pLaid : laidOutB Tryd.prog = true := by kernel_rfl
theorem pCells1 : Tryd.prog.cellsOf 3 = 1 := by kernel_rfl

theorem spot_none {w : World} {a : Addr} {x : Value} (h : w.cell? (a.add 0) = some x) : a.spot = none := by
  simpa [Addr.add] using World.cell?_spot h

section
variable {H : Type} {enc : TypeId × Value → H} {W : World} {A : Option Addr} {n c : Nat} {d : DataW H} {ps : List MemPlace}

theorem open_row (h : DataW.Trod enc Tryd.prog W 0 (fun _ => true) true 22 (.slice A n c) d ps) : ∃ f, ArgI W A n c f := by
  obtain ⟨fuel, hf⟩ := h
  rcases open_ints Tryd.underlying22 Tryd.underlying3 pCells1 hf with ⟨hcs, hx⟩ | ⟨a, len, cap, zs, hcs, hb, hl, hm, hz, hx, hcell, hw⟩
  · simp [Value.cells] at hcs
    obtain ⟨rfl, rfl, rfl⟩ := hcs
    exact ⟨fun _ => 0, Nat.le_refl _, Nat.zero_le _, fun _ => rfl, Ints.zero⟩
  · simp [Value.cells] at hcs
    obtain ⟨rfl, rfl, rfl⟩ := hcs
    simp only [if_true] at hz
    refine ⟨fun k => zs.getD k 0, hl, hm, (fun h => by cases h), fun hn => ?_⟩
    obtain ⟨b, o, sp⟩ := a
    have hs : sp = none := spot_none (hcell 0 (by omega))
    subst hs
    exact ⟨b, o, rfl, fun k hk => by rw [← add_plain]; exact hcell k (by omega)⟩

/-- A value of this type that can be read is s integers, a cell each. -/
def AllInts (enc : TypeId × Value → H) (W : World) (e : TypeId) (s : Nat) : Prop := ∀ (fuel : Nat) (cs : List Value) (x : DataW H × List MemPlace), DataW.trod enc Tryd.prog W 0 (fun _ => true) true fuel e cs = some x → ∀ j, j < s → ∃ z : Int, cs[j]? = some (.int .i64 z)
theorem take_one {cs : List Value} {j : Nat} {v : Value} (h : (cs.drop j).take 1 = [v]) : cs[j]? = some v := by
  have := congrArg (·[0]?) h
  simpa using this
theorem allInts_struct {e : TypeId} {fs : Array Field} (he : Tryd.prog.underlying e = some (.struct fs)) (hone : oneCellFields Tryd.prog fs = true) (hty : ∀ (j : Nat) (f : Field), fs[j]? = some f → f.type = 3) : AllInts enc W e fs.size := by
  intro fuel cs x h j hj
  obtain ⟨ys, n', -, -, -, hlen, hf⟩ := DataW.trod_struct he h
  have hg : fs[j]? = some fs[j] := Array.getElem?_eq_getElem hj
  obtain ⟨ho, hk⟩ := hone_of hone j _ hg
  have h1 := hf j _ hg
  rw [ho, hk, hty j _ hg, List.getElem?_eq_getElem (show j < ys.length by rw [hlen]; simpa using hj)] at h1
  obtain ⟨z, hz, -⟩ := DataW.trod_int Tryd.underlying3 h1
  exact ⟨z, take_one hz⟩
theorem allInts_array {e : TypeId} {s : Nat} (he : Tryd.prog.underlying e = some (.array s 3)) : AllInts enc W e s := by
  intro fuel cs x h j hj
  obtain ⟨xs, m, -, -, -, hlen, hf⟩ := DataW.trod_array he h
  have h1 := hf j hj
  rw [pCells1, Nat.mul_one, List.getElem?_eq_getElem (show j < xs.length by omega)] at h1
  obtain ⟨z, hz, -⟩ := DataW.trod_int Tryd.underlying3 h1
  exact ⟨z, take_one hz⟩
def cellI (W : World) (a : Addr) : Int := match W.cell? a with
  | some (.int .i64 z) => z
  | _ => 0
/-- A slice of such values that comes in. -/
theorem open_recs {t e : TypeId} {s : Nat} (ht : Tryd.prog.underlying t = some (.slice e)) (hC : Tryd.prog.cellsOf e = s) (hs0 : 0 < s) (hI : AllInts enc W e s) (h : DataW.Trod enc Tryd.prog W 0 (fun _ => true) true t (.slice A n c) d ps) : ∃ F, ArgK s W A n c F := by
  obtain ⟨fuel, hf⟩ := h
  rcases open_slice ht hf with ⟨hcs, hx⟩ | ⟨a, len, cap, m, n', D, Pl, hcs, hb, hl, hm, hmm, hx, hi⟩
  · simp [Value.cells] at hcs
    obtain ⟨rfl, rfl, rfl⟩ := hcs
    exact ⟨fun _ _ => 0, Nat.le_refl _, Nat.zero_le _, fun _ => rfl, Recs.zero⟩
  · simp [Value.cells] at hcs
    obtain ⟨rfl, rfl, rfl⟩ := hcs
    simp only [if_true] at hmm
    have hcell : ∀ i, i < m → ∀ j, j < s → ∃ z : Int, W.cell? (a.add (i * s + j)) = some (.int .i64 z) := by
      intro i him j hj
      obtain ⟨cs', hc, ht'⟩ := hi i him
      rw [hC] at hc
      obtain ⟨-, -, hat⟩ := World.cells?_some hc
      obtain ⟨z, hz⟩ := hI _ _ _ ht' j hj
      exact ⟨z, by rw [← add_add, hat j hj, hz]⟩
    refine ⟨fun i j => cellI W (a.add (i * s + j)), hl, hm, (fun h => by cases h), fun hn => ?_⟩
    obtain ⟨b, o, sp⟩ := a
    have hsp : sp = none := by
      obtain ⟨z, hz⟩ := hcell 0 (by omega) 0 hs0
      rw [Nat.zero_mul, Nat.zero_add] at hz
      exact spot_none hz
    subst hsp
    refine ⟨b, o, rfl, fun k hk i hi => ?_⟩
    obtain ⟨z, hz⟩ := hcell k (by omega) i hi
    rw [Nat.add_assoc, ← add_plain, hz]
    simp only [cellI, hz]
theorem three_of {p : Nat → Field → Prop} {a b c : Field} (h0 : p 0 a) (h1 : p 1 b) (h2 : p 2 c) : ∀ j f, (#[a, b, c] : Array Field)[j]? = some f → p j f := by
  intro j f hf
  match j, hf with
  | 0, hf => injection hf with hf; subst hf; exact h0
  | 1, hf => injection hf with hf; subst hf; exact h1
  | 2, hf => injection hf with hf; subst hf; exact h2
  | j + 3, hf => simp at hf
theorem four_of {p : Nat → Field → Prop} {a b c e : Field} (h0 : p 0 a) (h1 : p 1 b) (h2 : p 2 c) (h3 : p 3 e) : ∀ j f, (#[a, b, c, e] : Array Field)[j]? = some f → p j f := by
  intro j f hf
  match j, hf with
  | 0, hf => injection hf with hf; subst hf; exact h0
  | 1, hf => injection hf with hf; subst hf; exact h1
  | 2, hf => injection hf with hf; subst hf; exact h2
  | 3, hf => injection hf with hf; subst hf; exact h3
  | j + 4, hf => simp at hf
theorem two_of {p : Nat → Field → Prop} {a b : Field} (h0 : p 0 a) (h1 : p 1 b) : ∀ j f, (#[a, b] : Array Field)[j]? = some f → p j f := by
  intro j f hf
  match j, hf with
  | 0, hf => injection hf with hf; subst hf; exact h0
  | 1, hf => injection hf with hf; subst hf; exact h1
  | j + 2, hf => simp at hf
theorem open_fracs (h : DataW.Trod enc Tryd.prog W 0 (fun _ => true) true 23 (.slice A n c) d ps) : ∃ F, ArgK 2 W A n c F :=
  open_recs (s := 2) Tryd.underlying23 (by kernel_rfl) (by decide) (allInts_struct Tryd.underlying48 (by kernel_rfl) (two_of (p := fun _ f => f.type = 3) rfl rfl)) h
theorem post_of_below {P : Program} {f : Func} {s : ChangeSpec} {apart fresh handsOn again : Bool} {W W' : World} {args : Array Value} {v : Value} {ds gs : List (DataW H)} {before pa pv : List MemPlace}
    (hW : DataW.Whole enc P f.params.toList s.vars apart W args.toList ds gs before)
    (hres : ∀ (b : Nat) (sp : Nat → Bool) (hd : Bool), DataW.TrodAll enc P W' b sp hd f.resultTypes.toList (v.resultList f.resultTypes.size) (s.fn H (ds ++ gs)).results [])
    (hargs : ∀ sp : Nat → Bool, (∀ p ∈ before, sp p.block = true) → DataW.TrodAll enc P W' 0 sp true f.params.toList args.toList (s.fn H (ds ++ gs)).args pa)
    (hvars : ∀ sp : Nat → Bool, (∀ p ∈ before, sp p.block = true) → DataW.TrodVars enc P W' sp s.vars (s.fn H (ds ++ gs)).vars pv)
    (hps : before = pa ++ pv) (hb : Below W.heap.size W W')
    (hok : ∀ (j : Nat) (t : TypeId) (r : Value), f.resultTypes[j]? = some t → (v.resultList f.resultTypes.size)[j]? = some r → Value.okWide P W' .any 0 t r) :
    s.post enc P f apart fresh handsOn again W args v W' := by
  have hlt : ∀ p ∈ before, p.block < W.heap.size := fun p hp => hW.lt p hp
  have hold : ∀ p ∈ before, (fun b => decide (b < W.heap.size)) p.block = true := fun p hp => by simpa using hlt p hp
  refine ⟨ds, gs, before, [], pa, pv, hW, hres _ _ _, hargs _ hold, hvars _ hold, World.keptBut_mono (fun p hp => ⟨hp, ?_⟩) (hb.frame (· ∈ before)), fun _ => ?_⟩
  · rw [hps, List.mem_append] at hp
    exact Or.inr hp
  · obtain ⟨_, _, _, _, _, hz, hn⟩ := hW
    refine ⟨hok, _, _, ([] ++ pa) ++ pv, ⟨[] ++ pa, pv, trodAll_append (hargs _ (fun _ _ => rfl)) (hres _ _ _), hvars _ (fun _ _ => rfl), rfl, ?_, ?_⟩, ?_⟩
    · intro b off hp
      have hin : MemPlace.cell b off ∈ before := by rw [hps]; simpa using hp
      rw [hb.frozen (hlt _ hin)]
      exact hz b off hin
    · intro ha
      have := hn ha
      rw [hps] at this
      simpa using this
    · intro p hp _
      rw [hps]
      simpa using hp
end

/-- What a law's walk shows: it returns true; of what was there nothing has turned. -/
def TrueBelow (f : FuncId) (args : Array Value) (W : World) : Prop := Calls Tryd.prog f args W fun e W' => e = .returned (.bool true) ∧ Below W.heap.size W W'

/-- The row's list gives the table. -/
theorem tabIs_second {P : Program} {W : World} {name : String} {k : IntKind} {zs : List Int} {x : String × DataW Unit} {rest : List (String × DataW Unit)} {g : Nat} {t e : TypeId} {n : Nat}
    (hg : P.globalNamed name = some g) (hty : (P.globals[g]?).map (·.type) = some t) (ht : P.underlying t = some (.array n e)) (he : P.underlying e = some (.int k)) (hce : P.cellsOf e = 1) (hct : P.cellsOf t = n)
    (h : laidMet P (x :: (name, Lib.tabData k zs) :: rest) W) : Lib.TabIs P W name k zs := by
  obtain ⟨ps, ⟨_, _, _, _, _, _, _, _, _, _, ⟨g', t', cs, fuel, p, q, hg', ht', hvar, hd, _, _⟩, _⟩, _⟩ := h
  obtain rfl := Option.some.inj (hg.symm.trans hg')
  obtain rfl := Option.some.inj (hty.symm.trans ht')
  unfold Lib.TabIs
  rw [hvar, ← Lib.cells_of_tab ht he hce hct hd]
theorem gTab : Tryd.prog.globalNamed "math/bits.deBruijn64tab" = some 1 := by kernel_rfl
def tabZ : List Int := [0, 1, 56, 2, 57, 49, 28, 3, 61, 58, 42, 50, 38, 29, 17, 4, 62, 47, 59, 36, 45, 43, 51, 22, 53, 39, 33, 30, 24, 18, 12, 5, 63, 55, 48, 27, 60, 41, 37, 16, 46, 35, 44, 21, 52, 32, 23, 11, 54, 26, 40, 15, 34, 20, 31, 10, 25, 14, 19, 9, 13, 8, 7, 6]
theorem tab_of_laid {W : World} (h : laidMetH Tryd.prog [("math/bits.deBruijn32tab", Rows.laid_math_bits_deBruijn32tab), ("math/bits.deBruijn64tab", Rows.laid_math_bits_deBruijn64tab)] W) : Tab W := by
  have h2 : laidMet Tryd.prog [("math/bits.deBruijn32tab", Rows.laid_math_bits_deBruijn32tab), ("math/bits.deBruijn64tab", Lib.tabData .u8 tabZ)] W := h
  have T := tabIs_second (t := 115) (e := 5) (n := 64) gTab (by kernel_rfl) Tryd.underlying115 Tryd.underlying5 (by kernel_rfl) (by kernel_rfl) h2
  have c := fun i hi => T.cell gTab i hi
  exact ⟨c 0 (by decide), c 1 (by decide), c 3 (by decide), c 7 (by decide), c 15 (by decide)⟩
/-- A world for the witness: the settled one, the tables laid. -/
def lay32 : Obj → Obj
  | .cells _ t frozen => .cells #[.int .u8 0, .int .u8 1, .int .u8 28, .int .u8 2, .int .u8 29, .int .u8 14, .int .u8 24, .int .u8 3, .int .u8 30, .int .u8 22, .int .u8 20, .int .u8 15, .int .u8 25, .int .u8 17, .int .u8 4, .int .u8 8, .int .u8 31, .int .u8 27, .int .u8 13, .int .u8 23, .int .u8 21, .int .u8 19, .int .u8 16, .int .u8 7, .int .u8 26, .int .u8 12, .int .u8 18, .int .u8 6, .int .u8 11, .int .u8 5, .int .u8 10, .int .u8 9] t frozen
  | o => o
def lay64 : Obj → Obj
  | .cells _ t frozen => .cells #[.int .u8 0, .int .u8 1, .int .u8 56, .int .u8 2, .int .u8 57, .int .u8 49, .int .u8 28, .int .u8 3, .int .u8 61, .int .u8 58, .int .u8 42, .int .u8 50, .int .u8 38, .int .u8 29, .int .u8 17, .int .u8 4, .int .u8 62, .int .u8 47, .int .u8 59, .int .u8 36, .int .u8 45, .int .u8 43, .int .u8 51, .int .u8 22, .int .u8 53, .int .u8 39, .int .u8 33, .int .u8 30, .int .u8 24, .int .u8 18, .int .u8 12, .int .u8 5, .int .u8 63, .int .u8 55, .int .u8 48, .int .u8 27, .int .u8 60, .int .u8 41, .int .u8 37, .int .u8 16, .int .u8 46, .int .u8 35, .int .u8 44, .int .u8 21, .int .u8 52, .int .u8 32, .int .u8 23, .int .u8 11, .int .u8 54, .int .u8 26, .int .u8 40, .int .u8 15, .int .u8 34, .int .u8 20, .int .u8 31, .int .u8 10, .int .u8 25, .int .u8 14, .int .u8 19, .int .u8 9, .int .u8 13, .int .u8 8, .int .u8 7, .int .u8 6] t frozen
  | o => o
noncomputable def laidWorld (os : Os) : World :=
  { World.holding Tryd.prog os ⟨#[], #[], []⟩ with heap := ((World.holding Tryd.prog os ⟨#[], #[], []⟩).heap.modify 0 lay32).modify 1 lay64 }
end Go.Proofs.YtoeimngbpagegaaDoor
