/- The statement GamesRoads: called with any values of its parameters' types, at a start at which the two tables of math/bits hold what the program's text lays into them (the card ties that to the text), the law returns true, and its arguments read as before. -/
import Derived.Test.YtoeimngbpagegaaDoorGlg
import Derived.Test.YtoeimngbpagegaaDoorGamesRoads
namespace Go.Proofs.YtoeimngbpagegaaDoor
open Go.ChangeShapes Go.WideShapes Go.ChangeAt Go.RowKit

theorem gamesRoads_met (os : Os) : laidMet Tryd.prog Rows.gamesRoadsRow.laid ((laidWorld os).forCall (fun _ _ => 0) ⟨#[], #[.slice none 0 0], []⟩).memory :=
  laidMet_of_run' 8 (by kernel_rfl) (by kernel_rfl)
theorem gamesRoads_reads (os : Os) {H : Type} (enc : TypeId × Value → H) : ∃ places, DataW.whole enc Tryd.prog ((laidWorld os).forCall (fun _ _ => 0) ⟨#[], #[.slice none 0 0], []⟩).memory Tryd.f7.params.toList Rows.gamesRoadsSpec.vars false #[.slice none 0 0].toList 8 = some ([.nil], [], places) :=
  ⟨[], by kernel_rfl⟩

set_option maxRecDepth 100000 in
set_option maxHeartbeats 1000000 in
theorem gamesRoads_lifted (os : Os) (started : os.Started) (H : Type) (enc : TypeId × Value → H) (F : Stop.Interp) :
    ReturnsInHanded {} Tryd.checked os 7 .any ((OpenSpec.ofChange Rows.gamesRoadsSpec).preRow enc Tryd.prog Tryd.f7 Rows.gamesRoadsRow.domain false Rows.gamesRoadsRow.laid) (((OpenSpec.ofChange Rows.gamesRoadsSpec).at F).post enc Tryd.prog Tryd.f7 false true false false) := by
  obtain ⟨places, hx⟩ := gamesRoads_reads os enc
  refine returnsInHanded_of_row (C := Tryd.checked) (s := OpenSpec.ofChange Rows.gamesRoadsSpec) pOwn started (by kernel_rfl) Tryd.func7
    (witness_row_at (enc := enc) (C := Tryd.checked) false (laidWorld os) #[.slice none 0 0] rfl (by kernel_rfl) (by kernel_rfl) (by kernel_rfl)
      (OpenSpec.preRow_of_cond 8 hx (by kernel_rfl) (fun k hk => by cases hk) (by kernel_rfl) (gamesRoads_met os))) ?_
  intro W base args ds gs before hval0 hW _ _ _ hL _ _
  have hTab : Tab W := tab_of_laid hL
  clear hL
  have hval : ∀ (j : Nat) t v, Tryd.f7.params[j]? = some t → args[j]? = some v → Value.okWide Tryd.prog W .any base t v := hval0
  have hW' := hW
  obtain ⟨p, q, hA0, hV, rfl, _, _⟩ := hW
  have hA : DataW.TrodAll enc Tryd.prog W 0 (fun _ => true) true Tryd.f7.params.toList args.toList ds p := hA0
  rw [Tryd.params7] at hA hval
  obtain ⟨v0, d0, rfl, rfl, h0⟩ := trodAll_one hA
  obtain ⟨rfl, rfl⟩ := trodVars_none hV
  obtain ⟨A0, n0, c0, rfl⟩ := okWide_slice Tryd.underlying22 (hval 0 22 v0 rfl rfl)
  obtain ⟨f0, a0⟩ := open_row h0
  clear hA0 hval0
  have hlt := fun x hx => hW'.lt x hx
  refine (gamesRoads_walk A0 n0 c0 f0 W a0 hTab).mono ?_
  rintro e W' ⟨rfl, hb⟩
  refine ⟨_, rfl, post_of_below (pv := []) hW' (fun _ _ _ => trodAll_mk1 (shut_bool Tryd.underlying4 _)) (fun sp hsp => ?_) (fun _ _ => rfl) rfl hb (ok_one (by kernel_rfl) rfl (okWide_bool_mk Tryd.underlying4 _))⟩
  have hbt : ∀ (t : TypeId) (v : Value) (d : DataW H) (ps : List MemPlace), Tryd.prog.readableRec t = true → t < Tryd.prog.types.size → DataW.Trod enc Tryd.prog W 0 (fun _ => true) true t v d ps → (∀ x ∈ ps, sp x.block = true) → (∀ x ∈ ps, x.block < W.heap.size) → DataW.Trod enc Tryd.prog W' 0 sp true t v d ps :=
    fun t v d ps h1 h2 h3 h4 h5 => Go.WideElems.Trod_stays pLaid h1 h2 h3 (fun x hx => hb.same (h5 x hx)) h4
  have hall := trodAll_mk1 (hbt _ _ _ _ (by kernel_rfl) (of_decide_eq_true (by kernel_rfl)) h0 (fun x hx => hsp x (by simp [hx])) (fun x hx => hlt x (by simp [hx])))
  first | exact hall | (rw [List.append_assoc]; exact hall) | (rw [List.append_assoc, List.append_assoc]; exact hall) | (rw [List.append_assoc, List.append_assoc, List.append_assoc]; exact hall) | (simp only [List.append_assoc] at hall ⊢; exact hall)

theorem gamesRoads_said : Rows.GamesRoadsSaid :=
  OpenClaim.holds_of_cond 7 Tryd.f7 rfl rfl rfl rfl rfl rfl rfl ⟨rfl, rfl, rfl, rfl, rfl⟩ rfl rfl rfl rfl rfl (by kernel_rfl) Tryd.func7 (by kernel_rfl)
    (of_decide_eq_true (by kernel_rfl)) (by unfold Func.isWrapper; first | (rw [if_pos (by decide +kernel)]; kernel_rfl) | (rw [if_neg (by decide +kernel)]; exact ⟨rfl, rfl⟩))
    (fun os started H enc _ F => by rw [OpenClaim.pre_eq_preRow]; exact gamesRoads_lifted os started H enc F)
theorem gamesRoads_plain (f : FuncId) (fn : Func) (hf : Tryd.pinned.checked.prog.funcNamed "corrody/corrodylaw07.GamesRoads" = some f) (hfn : Tryd.pinned.checked.prog.funcs[f]? = some fn) :
    false = Tryd.pinned.checked.prog.looks [] ∧ ∀ (j : Nat) t, fn.params[j]? = some t → Tryd.pinned.checked.prog.wantsStandIn t = false := by
  obtain rfl : f = 7 := Option.some.inj ((show Tryd.prog.funcNamed "corrody/corrodylaw07.GamesRoads" = some 7 by kernel_rfl).symm.trans hf) |>.symm
  obtain rfl : fn = Tryd.f7 := (Option.some.inj (Tryd.func7.symm.trans hfn)).symm
  refine ⟨by kernel_rfl, fun j t ht => ?_⟩
  rw [Tryd.params7] at ht
  obtain rfl : t = 22 := by simpa using Array.mem_of_getElem? ht
  exact (show Tryd.prog.wantsStandIn 22 = false by kernel_rfl)
theorem gamesRoads_holds : Rows.GamesRoadsCardSaid :=
  Claim7.holds_tied_plain_at .later [] _ _ _ _ gamesRoads_said (fun _ h => by cases h) (by kernel_rfl) (fun _ h => by cases h) gamesRoads_row_tie rfl ⟨rfl, rfl⟩ (by kernel_rfl) rfl gamesRoads_plain (by kernel_rfl)
#print axioms gamesRoads_holds
end Go.Proofs.YtoeimngbpagegaaDoor
