/- Leaving over several marks (a range over a function inside a loop pushes one a round). -/
import Derived.Test.YtocfbafcplhmiaaRl
import Derived.RangeFuncLeaves
import Derived.RangeFuncRecord
namespace Go.Proofs.Ytocfbafcplhmiaa
open Go.RowKit

def markD (D : Nat) : Deferred := { target := .collected D, args := #[] }
/-- w' is w but for the blocks ds. -/
structure Shut (ds : List Nat) (w w' : World) : Prop where
  os : w'.os = w.os
  tape : w'.tape = w.tape
  output : w'.output = w.output
  size : w.heap.size ≤ w'.heap.size
  block : ∀ b, b < w.heap.size → b ∉ ds → w'.heap[b]? = w.heap[b]?
theorem Shut.below {ds : List Nat} {w w' : World} {B : Nat} (h : Shut ds w w') (hB : ∀ D ∈ ds, B ≤ D) (hw : B ≤ w.heap.size) : Below B w w' :=
  ⟨h.os, h.tape, h.output, h.size, fun k hk => h.block k (by omega) (fun hm => by have := hB k hm; omega)⟩
/-- The marks of the rounds so far: different blocks, all open. -/
def Marks (w : World) (B : Nat) (ds : List Nat) : Prop := ds.Nodup ∧ ∀ D ∈ ds, B ≤ D ∧ w.heap[D]? = some (.deferred (some []))
theorem Marks.nil (w : World) (B : Nat) : Marks w B [] := ⟨List.nodup_nil, fun D h => by cases h⟩
theorem Marks.lt {w : World} {B : Nat} {ds : List Nat} (h : Marks w B ds) {D : Nat} (hD : D ∈ ds) : D < w.heap.size := (Array.getElem?_eq_some_iff.1 (h.2 D hD).2).1
theorem Marks.keep {w w' : World} {B : Nat} {ds : List Nat} (h : Marks w B ds) (hb : ∀ D ∈ ds, w'.heap[D]? = w.heap[D]?) : Marks w' B ds := ⟨h.1, fun D hD => ⟨(h.2 D hD).1, (hb D hD).trans (h.2 D hD).2⟩⟩
theorem Marks.cons {w w' : World} {B D : Nat} {ds : List Nat} (h : Marks w B ds) (hb : ∀ D ∈ ds, w'.heap[D]? = w.heap[D]?) (hD : w.heap.size ≤ D) (hB : B ≤ w.heap.size) (hk : w'.heap[D]? = some (.deferred (some []))) : Marks w' B (D :: ds) := by
  refine ⟨List.nodup_cons.2 ⟨fun hm => by have := h.lt hm; omega, h.1⟩, fun D' hD' => ?_⟩
  rcases List.mem_cons.1 hD' with e | hD'
  · rw [e]; exact ⟨by omega, hk⟩
  · exact (h.keep hb).2 D' hD'
theorem leaves_marks {F : Fence} {n : Nat} {fn : Func} {tmps : Array Value} {R : Ending → World → Prop} {B : Nat} : ∀ (ds : List Nat) (w : World), Marks w B ds → (∀ w', Shut ds w w' → LeavesIn F n Try.prog fn tmps R [] .returning w') →
    LeavesInM F n Try.prog fn tmps R (ds.map markD) .returning w := by
  intro ds
  induction ds with
  | nil => intro w _ h; exact h w ⟨rfl, rfl, rfl, Nat.le_refl _, fun _ _ _ => rfl⟩
  | cons D ds ih =>
    intro w hm h
    refine ⟨by simp, .inl ⟨D, _, rfl, run_takeDeferred (hm.2 D (by simp)).2, ?_⟩⟩
    have e := exc_putObj w D (.deferred none)
    have hn := List.nodup_cons.1 hm.1
    have hbl : ∀ b, b < w.heap.size → b ≠ D → (w.putObj D (.deferred none)).heap[b]? = w.heap[b]? := fun b hb hne => e.block b hb (fun e => by injection e with e; exact hne e)
    refine ih _ ⟨hn.2, fun D' hD' => ⟨(hm.2 D' (by simp [hD'])).1, (hbl D' (hm.lt (by simp [hD'])) (fun e => hn.1 (by rw [← e]; exact hD'))).trans (hm.2 D' (by simp [hD'])).2⟩⟩ (fun w' hs => h w' ?_)
    refine ⟨hs.os.trans e.os, hs.tape.trans e.tape, hs.output.trans e.output, Nat.le_trans e.size hs.size, fun b hb hnm => ?_⟩
    rw [List.mem_cons] at hnm
    exact (hs.block b (Nat.lt_of_lt_of_le hb e.size) (fun hm => hnm (.inr hm))).trans (hbl b hb (fun e => hnm (.inl e)))
end Go.Proofs.Ytocfbafcplhmiaa
