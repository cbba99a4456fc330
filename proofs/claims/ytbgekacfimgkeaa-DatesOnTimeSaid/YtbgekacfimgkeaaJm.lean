/- A slice of the call's own is sorted; two of them are put together. -/
import Derived.Test.YtbgekacfimgkeaaJi
import Derived.Test.YtbgekacfimgkeaaJl
namespace Go.Proofs.Ytbgekacfimgkeaa
open Go.RowKit

theorem Recs.grown {s : Nat} {w w' : World} {A : Option Addr} {n : Nat} {F : Nat → Nat → Int} {row : Option Nat} (h : Recs s w A n F) (hg : w.grownBy w' row) (hne : ∀ b o, A = some ⟨b, o, none⟩ → some b ≠ row) : Recs s w' A n F := fun hn => by
  obtain ⟨b, o, hA, hc⟩ := h hn
  exact ⟨b, o, hA, fun k hk i hi => World.grownBy.cell hg (hc k hk i hi) (hne b o hA)⟩
set_option maxHeartbeats 1000000 in
theorem sortOwnQ (base bx N c : Nat) (v : Value) (L1 : List Int) (A : Option Addr) (J : Nat → Nat → Int) (w : World) (hown : OwnL w base v L1) (hnil : L1 = [] → v = .slice none 0 0) (hn : L1.length ≤ 12) (hF : ∀ x ∈ L1, 0 ≤ x ∧ x < (N : Int))
    (hb : w.cell? ⟨bx, 0, none⟩ = some (.slice A N c)) (hbx : bx < base) (hI : Recs 4 w A N J) (hIA : 0 < N → ∀ b o, A = some ⟨b, o, none⟩ → b < base) (hN : N ≤ 12) (hJ : ∀ k, k < N → 0 ≤ J k 2 ∧ J k 2 ≤ 200) :
    Calls Try.prog 46 #[v, .func (.func 47) #[] #[.pointer (some ⟨bx, 0, none⟩)]] w fun e w' =>
      e = .returned (.tuple #[]) ∧ ∃ F', OwnL w' base v (lst L1.length F') ∧ (lst L1.length F').Perm L1 ∧ Srt (fun x => J x.toNat 2) F' L1.length ∧ w.grownBy w' v.ownBlock := by
  by_cases he : L1 = []
  · obtain rfl := hnil he
    subst he
    refine (sortZQ none 0 bx w).mono ?_
    rintro e w' ⟨rfl, rfl⟩
    exact ⟨rfl, fun _ => 0, OwnL.nil_ _ _, List.Perm.refl _, fun x y h1 h2 => absurd h2 (by simp), World.grownBy.refl _ _⟩
  · have hp : 0 < L1.length := List.length_pos_iff.2 he
    have hcap : ∀ g cap, v = .slice (some ⟨g, 0, none⟩) L1.length cap → cap ≤ maxLen := fun g cap hv => by
      rcases hown.2 with ⟨e, -⟩ | ⟨g', cap', cur, e, hbg, hg, hnc, hcm, -⟩
      · rw [hv] at e
        injection e with e1
        cases e1
      · rw [hv] at e
        injection e with e1 e2 e3
        omega
    have hown2 : OwnL w base v (lst L1.length (fun k => L1.getD k 0)) := by rw [lst_of]; exact hown
    obtain ⟨g, cap, rfl, hg, hR⟩ := hown2.rowC hp
    have hcm := hcap g cap rfl
    refine (sortQ g cap L1.length bx N c (fun k => L1.getD k 0) A J w hR hp hn (fun k hk => hF _ (by
      have : L1[k]? = some (L1.getD k 0) := by simp [List.getD, List.getElem?_eq_getElem hk]
      exact List.mem_of_getElem? this)) hb hI hN hJ (by omega) (fun h0 b o e => by have := hIA h0 b o e; omega)).mono ?_
    rintro e w' ⟨rfl, F', hR', hP, hS, hE⟩
    refine ⟨rfl, F', hR'.ownL hg hcm, ?_, hS, hE⟩
    rw [lst_of] at hP
    exact hP
set_option maxHeartbeats 1000000 in
theorem append_two (w : World) (base : Nat) (ty : TypeId) (v1 v2 : Value) (L1 L2 : List Int) (h1 : OwnL w base v1 L1) (h2 : OwnL w base v2 L2) (hnil : L2 = [] → v2 = .slice none 0 0) (hn : L1.length + L2.length ≤ 100) (hbase : base ≤ w.heap.size) :
    ∃ v' w', (Builtin.append_ #[23, 23] ty #[v1, v2]).run Try.prog w = .ok v' w' ∧ OwnL w' base v' (L1 ++ L2) ∧ w.grownBy w' v1.ownBlock ∧ ∀ A1 c1, v1 = .slice A1 L1.length c1 → Ints w' A1 L1.length (fun k => L1.getD k 0) := by
  by_cases he : L2 = []
  · obtain rfl := hnil he
    subst he
    refine ⟨v1, w, append_none w base ty v1 L1 h1, by rw [List.append_nil]; exact h1, World.grownBy.refl _ _, fun A1 c1 e => ?_⟩
    obtain ⟨A0, c0, e0, -, hI, -⟩ := h1.form
    rw [e] at e0
    injection e0 with e1 e2 e3
    rw [e1]
    exact hI
  · have hp : 0 < L2.length := List.length_pos_iff.2 he
    obtain ⟨A2, c2, rfl, -, hI2, -⟩ := h2.form
    obtain ⟨b, o, rfl, hc⟩ := hI2 hp
    obtain ⟨v', w', hr, hO, hg, hk⟩ := append_ints w base ty v1 L1 L2 h1 b o L2.length c2 rfl hc (by omega) hbase
    refine ⟨v', w', hr, hO, hg, fun A1 c1 e => ?_⟩
    obtain ⟨A0, c0, e0, -, hI, hbk, -⟩ := h1.form
    rw [e] at e0
    injection e0 with e1 e2 e3
    subst e1
    intro h0
    obtain ⟨b1, o1, rfl, hc1⟩ := hI h0
    obtain ⟨-, -, rfl⟩ := hbk b1 o1 rfl
    refine ⟨b1, 0, rfl, fun k hk1 => ?_⟩
    have h3 := hk b1 c1 e k hk1
    have h4 := hc1 k hk1
    rw [Nat.zero_add] at h4 ⊢
    rw [h3]
    exact h4
end Go.Proofs.Ytbgekacfimgkeaa
