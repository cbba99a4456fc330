/- The statement TurnsLies holds for every input: called with any values of its parameters' types the law returns true, and its arguments read as before. Its only conditions are those of the given statement (the form's own reach on what is read). -/
import Derived.Test.YtiigcjcolpmafaaGluz
import Derived.Test.YtiigcjcolpmafaaTurnsLiesz
namespace Go.Proofs.Ytiigcjcolpmafaa
open Go.ChangeShapes Go.WideShapes Go.ChangeAt Go.RowKit

set_option maxRecDepth 100000 in
set_option maxHeartbeats 1000000 in
theorem turnsLies_lifted (os : Os) (started : os.Started) (H : Type) (enc : TypeId × Value → H) :
    ReturnsInHanded {} Try.checked os 11 .any (Rows.turnsLiesSpec.pre6 enc Try.prog Try.f11 Rows.turnsLiesRow.domain false) (Rows.turnsLiesSpec.post enc Try.prog Try.f11 false true false false) := by
  refine returnsInHanded_of_change_sized (C := Try.checked) pOwn started (by kernel_rfl) Try.func11
    (ChangeSpec.witness6 (enc := enc) (C := Try.checked) false ⟨#[], #[.agg #[.slice none 0 0, .slice none 0 0, .slice none 0 0], .int .i64 0], []⟩ 8 (by kernel_rfl) (by kernel_rfl) (by kernel_rfl) (by kernel_rfl)) ?_
  intro W base args ds gs before hval0 hW _ hsz0 _
  have hsz : (DataW.weightsEach Try.prog (Try.f11.params.toList ++ Rows.turnsLiesSpec.plain.varTypes Try.prog) (ds ++ gs)).all (· ≤ reachBytes) = true := hsz0
  clear hsz0
  have hval : ∀ (j : Nat) t v, Try.f11.params[j]? = some t → args[j]? = some v → Value.okWide Try.prog W .any base t v := hval0
  have hW' := hW
  obtain ⟨p, q, hA0, hV, rfl, _, _⟩ := hW
  have hA : DataW.TrodAll enc Try.prog W 0 (fun _ => true) true Try.f11.params.toList args.toList ds p := hA0
  rw [Try.params11] at hA hval hsz
  obtain ⟨v0, v1, d0, d1, p0, p1, rfl, rfl, rfl, h0, h1⟩ := trodAll_two hA
  obtain ⟨rfl, rfl⟩ := trodVars_none hV
  obtain ⟨AH0, AS0, AP0, cH0, cS0, cP0, q0, rfl, a0⟩ := open_plan (hval 0 25 v0 rfl rfl) h0
  obtain ⟨m1, rfl, rfl, rfl, wm1⟩ := open_int Try.underlying3 (hval 1 3 v1 rfl rfl) h1
  clear hA0 hval0
  have hlt := fun x hx => hW'.lt x hx
  refine (turnsLies_walk AH0 AS0 AP0 cH0 cS0 cP0 q0 m1 W a0 wm1).mono ?_
  rintro e W' ⟨rfl, hb⟩
  refine ⟨_, rfl, post_of_below (pv := []) hW' (fun _ _ _ => trodAll_mk1 (shut_bool Try.underlying4 _)) (fun sp hsp => ?_) (fun _ _ => rfl) rfl hb (ok_one (by kernel_rfl) rfl (okWide_bool_mk Try.underlying4 _))⟩
  have hbt : ∀ (t : TypeId) (v : Value) (d : DataW H) (ps : List MemPlace), Try.prog.readableRec t = true → t < Try.prog.types.size → DataW.Trod enc Try.prog W 0 (fun _ => true) true t v d ps → (∀ x ∈ ps, sp x.block = true) → (∀ x ∈ ps, x.block < W.heap.size) → DataW.Trod enc Try.prog W' 0 sp true t v d ps :=
    fun t v d ps h1 h2 h3 h4 h5 => Go.WideElems.Trod_stays pLaid h1 h2 h3 (fun x hx => hb.same (h5 x hx)) h4
  have hall := trodAll_mk2 (hbt _ _ _ _ (by kernel_rfl) (of_decide_eq_true (by kernel_rfl)) h0 (fun x hx => hsp x (by simp [hx])) (fun x hx => hlt x (by simp [hx]))) (shut_int Try.underlying3 wm1)
  first | exact hall | (rw [List.append_assoc]; exact hall) | (rw [List.append_assoc, List.append_assoc]; exact hall) | (rw [List.append_assoc, List.append_assoc, List.append_assoc]; exact hall) | (simp only [List.append_assoc] at hall ⊢; exact hall)

theorem turnsLies_holds : Rows.TurnsLiesSaid :=
  OpenClaim.holds_of_wide 11 Try.f11 rfl rfl rfl rfl rfl rfl rfl ⟨rfl, rfl, rfl, rfl, rfl⟩ rfl rfl rfl rfl rfl (by kernel_rfl) Try.func11 (by kernel_rfl)
    (of_decide_eq_true (by kernel_rfl)) (by unfold Func.isWrapper; first | (rw [if_pos (by decide +kernel)]; kernel_rfl) | (rw [if_neg (by decide +kernel)]; exact ⟨rfl, rfl⟩))
    (fun os started H enc _ => turnsLies_lifted os started H enc)
#print axioms turnsLies_holds
end Go.Proofs.Ytiigcjcolpmafaa

