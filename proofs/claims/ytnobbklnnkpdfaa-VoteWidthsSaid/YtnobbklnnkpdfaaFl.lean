/- orders: what fill does. -/
import Derived.RangeFuncBound
import Derived.RangeFuncLeaves
import Derived.Shelf.Abstract
import Derived.WalkKit
import Derived.OwnWalkIn
import Derived.TacticsInMore
import Derived.Test.YtnobbklnnkpdfaaRl
namespace Go.Proofs.Ytnobbklnnkpdfaa
open Go.RowKit
attribute [local go_sem] Oper.semAt_some

theorem fill_end (F : Fence) (hd : F.depth = none) (hf : F.fn 68) (hro : F.round = none) (l n m ps py pr pt pf B : Nat) (R : Ending → World → Prop) (W : World)
    (h1 : W.cell? ⟨ps, 0, none⟩ = some (.int .i64 m)) (h2 : W.cell? ⟨py, 0, none⟩ = some (.func (.yield l) #[] #[])) (h3 : W.cell? ⟨pr, 0, none⟩ = some (.slice (some ⟨B, 0, none⟩) m m))
    (hY : ∀ k, YieldAt F k Try.prog l #[.slice (some ⟨B, 0, none⟩) m m] W fun e W' => (∃ b, e = .returned (.bool b)) ∧ R e W') :
    CallsIn F n Try.prog 68 #[.int .i64 m, .pointer (some ⟨ps, 0, none⟩), .pointer (some ⟨py, 0, none⟩), .pointer (some ⟨pr, 0, none⟩), .pointer (some ⟨pt, 0, none⟩), .pointer (some ⟨pf, 0, none⟩)] W R := by
  have hdd : ∀ k : Nat, (F.depth.isSome = true → 1 ≤ k) := fun k h => by rw [hd] at h; cases h
  obtain ⟨fn, tmps, assign, body, hy, hR⟩ := hY (n - 1)
  refine callsIn_of_wp Try.func68 rfl hf ?_ hro
  simp only [Try.ntmps68, List.size_toArray, List.length_cons, List.length_nil, Nat.reduceAdd, Nat.reduceSub, Array.replicate_succ, Array.replicate_zero, List.push_toArray, List.append_toArray, List.nil_append, List.cons_append]
  gi_wp2_with (first
    | ((try refine ⟨hdd _, ?_⟩); refine hR.mono ?_; clear hR; rintro e W2 ⟨⟨b, rfl⟩, hW2⟩))
  exact hW2
/-- The five boxes of fill, and the things. -/
structure FillB (W : World) (l m ps py pr pt pf B : Nat) (A : Option Addr) (cT : Nat) (T : List Nat) : Prop where
  size : W.cell? ⟨ps, 0, none⟩ = some (.int .i64 m)
  yld : W.cell? ⟨py, 0, none⟩ = some (.func (.yield l) #[] #[])
  row : W.cell? ⟨pr, 0, none⟩ = some (.slice (some ⟨B, 0, none⟩) m m)
  things : W.cell? ⟨pt, 0, none⟩ = some (.slice A T.length cT)
  self : W.cell? ⟨pf, 0, none⟩ = some (.func (.func 68) #[] #[.pointer (some ⟨ps, 0, none⟩), .pointer (some ⟨py, 0, none⟩), .pointer (some ⟨pr, 0, none⟩), .pointer (some ⟨pt, 0, none⟩), .pointer (some ⟨pf, 0, none⟩)])
  ints : Ints W A T.length (rowF T)
  ne : ps ≠ B ∧ py ≠ B ∧ pr ≠ B ∧ pt ≠ B ∧ pf ≠ B ∧ ∀ b o, A = some ⟨b, o, none⟩ → b ≠ B
theorem cell_of_block {W W' : World} {a : Addr} {v : Value} (h : W'.heap[a.block]? = W.heap[a.block]?) (hc : W.cell? a = some v) : W'.cell? a = some v := by
  unfold World.cell? at hc ⊢
  rw [h]
  exact hc
theorem cell_lt {W : World} {a : Addr} {v : Value} (hc : W.cell? a = some v) : a.block < W.heap.size := by
  obtain ⟨o, ho, _⟩ := cells_of_cell hc
  exact (Array.getElem?_eq_some_iff.1 ho).1
theorem FillB.keep {W W' : World} {l m ps py pr pt pf B : Nat} {A : Option Addr} {cT : Nat} {T : List Nat} (h : FillB W l m ps py pr pt pf B A cT T)
    (hk : ∀ b, (b = ps ∨ b = py ∨ b = pr ∨ b = pt ∨ b = pf ∨ ∃ o, A = some ⟨b, o, none⟩) → b < W.heap.size → W'.heap[b]? = W.heap[b]?) : FillB W' l m ps py pr pt pf B A cT T where
  size := cell_of_block (hk _ (.inl rfl) (cell_lt h.size)) h.size
  yld := cell_of_block (hk _ (.inr (.inl rfl)) (cell_lt h.yld)) h.yld
  row := cell_of_block (hk _ (.inr (.inr (.inl rfl))) (cell_lt h.row)) h.row
  things := cell_of_block (hk _ (.inr (.inr (.inr (.inl rfl)))) (cell_lt h.things)) h.things
  self := cell_of_block (hk _ (.inr (.inr (.inr (.inr (.inl rfl))))) (cell_lt h.self)) h.self
  ints := fun hp => by
    obtain ⟨b, o, hA, hc⟩ := h.ints hp
    exact ⟨b, o, hA, fun k hk' => cell_of_block (hk _ (.inr (.inr (.inr (.inr (.inr ⟨o, hA⟩))))) (cell_lt (hc k hk'))) (hc k hk')⟩
  ne := h.ne
theorem FillB.exc {W W' : World} {l m ps py pr pt pf B : Nat} {A : Option Addr} {cT : Nat} {T : List Nat} (h : FillB W l m ps py pr pt pf B A cT T) (he : Exc B W W') : FillB W' l m ps py pr pt pf B A cT T :=
  h.keep (fun b hb hlt => he.block b hlt (fun e => by
    injection e with e
    obtain ⟨n1, n2, n3, n4, n5, n6⟩ := h.ne
    rcases hb with rfl | rfl | rfl | rfl | rfl | ⟨o, ho⟩
    · exact n1 e
    · exact n2 e
    · exact n3 e
    · exact n4 e
    · exact n5 e
    · exact n6 _ _ ho e))
/-- What a call of fill leaves. -/
def FillPost (l m ps py pr pt pf B : Nat) (A : Option Addr) (cT : Nat) (T : List Nat) (J Jx : List (List Nat) → World → Prop) (came : List (List Nat)) (s at_ : Nat) (p : List Nat) (e : Ending) (W' : World) : Prop :=
  (e = .returned (.bool true) ∧ J (came ++ ordL T s p) W' ∧ FillB W' l m ps py pr pt pf B A cT T ∧ ∃ f, RowI W' B m f ∧ ∀ i, i < at_ → f i = rowF p i) ∨ (e = .returned (.bool false) ∧ ∃ q, Jx q W')
theorem fill_zero (l m ps py pr pt pf B : Nat) (A : Option Addr) (cT : Nat) (T : List Nat) (J Jx : List (List Nat) → World → Prop) (L : List (List Nat))
    (hY : ∀ k pre x W1, J pre W1 → (∃ r, L = pre ++ x :: r) → RowI W1 B m (rowF x) → FillB W1 l m ps py pr pt pf B A cT T → YieldAt Fence.wide k Try.prog l #[.slice (some ⟨B, 0, none⟩) m m] W1 fun e W' =>
      FillB W' l m ps py pr pt pf B A cT T ∧ RowI W' B m (rowF x) ∧ ((e = .returned (.bool true) ∧ J (pre ++ [x]) W') ∨ (e = .returned (.bool false) ∧ Jx (pre ++ [x]) W')))
    (p : List Nat) (came : List (List Nat)) (W : World) (n : Nat) (f : Nat → Int) (hB : FillB W l m ps py pr pt pf B A cT T) (hJ : J came W) (hL : ∃ r, L = came ++ ordL T 0 p ++ r) (hR : RowI W B m f) (hf : ∀ i, i < m → f i = rowF p i) :
    CallsIn Fence.wide n Try.prog 68 #[.int .i64 m, .pointer (some ⟨ps, 0, none⟩), .pointer (some ⟨py, 0, none⟩), .pointer (some ⟨pr, 0, none⟩), .pointer (some ⟨pt, 0, none⟩), .pointer (some ⟨pf, 0, none⟩)] W (FillPost l m ps py pr pt pf B A cT T J Jx came 0 m p) := by
  refine fill_end Fence.wide rfl trivial rfl l n m ps py pr pt pf B _ W hB.size hB.yld hB.row (fun k => ?_)
  obtain ⟨r, hr⟩ := hL
  refine YieldAt.mono (hY k came p W hJ ⟨r, by rw [hr]; simp [ordL]⟩ (hR.congr hf) hB) ?_
  rintro e W' ⟨h1, h2, ⟨rfl, h3⟩ | ⟨rfl, h3⟩⟩
  · exact ⟨⟨true, rfl⟩, .inl ⟨rfl, h3, h1, _, h2, fun i _ => rfl⟩⟩
  · exact ⟨⟨false, rfl⟩, .inr ⟨rfl, _, h3⟩⟩
end Go.Proofs.Ytnobbklnnkpdfaa
