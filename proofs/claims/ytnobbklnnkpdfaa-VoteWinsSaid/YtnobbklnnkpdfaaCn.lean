/- slices.Clone of rows. -/
import Derived.Test.YtnobbklnnkpdfaaLl
import Derived.Test.YtnobbklnnkpdfaaVp
namespace Go.Proofs.Ytnobbklnnkpdfaa
open Go.RowKit

set_option maxHeartbeats 1000000 in
set_option maxRecDepth 1000000 in
theorem cloneR_some (a : Addr) (n c : Nat) (vals : List Value) (w : World) (hl : vals.length = n) (h : ∀ j u, vals[j]? = some u → w.cell? (a.add j) = some u) (hone : ∀ u ∈ vals, u.oneCell' = true) (hn : n ≤ 10000) :
    Calls Try.prog 35 #[.slice (some a) n c] w fun e w' => ∃ v', e = .returned v' ∧ w'.ownsRow w.heap.size 23 1 v' n vals ∧ Below w.heap.size w w' := by
  have q := fun (w : World) (a : Option Addr) (n c n' c' : Nat) => Lib.run_eql_slice_nil (P := Try.prog) w 22 23 a n c n' c' Try.underlying22
  obtain ⟨i0, hi, hz0, hz1, hz2⟩ := info_parts infoInts
  have H := Lib.hid h
  clear h
  go_enter Try.func35, Try.ntmps35
  go_wp2_with (at_builtin; refine wpList_append_own _ rfl _ _ 22 rfl w.heap.size 23 i0 (.slice none 0 0) 1 24 Try.underlying22 hi hz0 hz1 hz2 rfl (by decide) _ _ _ rfl (World.ownsRow_made w #[] 0 (Nat.le_refl _) (Nat.zero_le _) rfl) a n c vals rfl ?qc1 ?qc2 ?qc3 ?qc4 ?qc5 ?qc6 ?_)
  case qc1 => simp [hl]
  case qc2 => exact fun j u hu => Lib.cell?_alloc_some _ (H.out j u hu)
  case qc3 => exact hone
  case qc4 => unfold maxLen; omega
  case qc5 => omega
  case qc6 => simp
  intro v' w1 hown hgrow hnil
  go_wp2
  go_ret
  refine ⟨v', rfl, ?_, ?_⟩
  · simpa using hown
  · exact ((Below.refl _ w).alloc (Nat.le_refl _) _).grown hgrow (by simp) (by intro k hk; simp [Value.ownBlock] at hk; omega)

/-- A copy's block G: its cells are the rows' own slices. -/
theorem cloneK_any (A : Option Addr) (n cA : Nat) (L : Nat → Nat) (v : Nat → Nat → Int) (w : World) (h : RowsK w A n L v) (hn1 : 1 ≤ n) (hn : n ≤ 10000) :
    Calls Try.prog 35 #[.slice A n cA] w fun e w' => ∃ (G cap : Nat) (D : Nat → Value), e = .returned (.slice (some ⟨G, 0, none⟩) n cap) ∧ w.heap.size ≤ G ∧ n ≤ cap ∧ w'.rowIs G 23 cap D ∧
      (∀ i, i < n → ∃ A' c', D i = .slice A' (L i) c' ∧ L i ≤ c' ∧ Ints w A' (L i) (v i)) ∧ Below w.heap.size w w' := by
  obtain ⟨b, o, rfl, hc⟩ := h hn1
  have hcell : ∀ i, ∃ x, i < n → w.cell? ⟨b, o + i, none⟩ = some x ∧ ∃ A' c', x = .slice A' (L i) c' ∧ L i ≤ c' ∧ Ints w A' (L i) (v i) := fun i => by
    by_cases hi : i < n
    · obtain ⟨A', c', k1, k2, k3⟩ := hc i hi
      exact ⟨_, fun _ => ⟨k1, A', c', rfl, k2, k3⟩⟩
    · exact ⟨.int .i64 0, fun e => absurd e hi⟩
  obtain ⟨X, hX⟩ := Classical.axiomOfChoice hcell
  refine (cloneR_some ⟨b, o, none⟩ n cA ((List.range n).map X) w (by simp) (fun j u hu => ?_) (fun u hu => ?_) hn).mono ?_
  · have hj : j < n := by have := (List.getElem?_eq_some_iff.1 hu).1; simpa using this
    rw [List.getElem?_map, List.getElem?_range hj] at hu
    injection hu with hu
    rw [Addr.add_lit, ← hu]
    exact (hX j hj).1
  · obtain ⟨j, hj, rfl⟩ := List.mem_map.1 hu
    obtain ⟨-, A', c', e, -⟩ := hX j (List.mem_range.1 hj)
    rw [e]
    rfl
  · rintro e w' ⟨v', rfl, hown, hb⟩
    have hown0 := hown
    rcases hown0.2 with ⟨-, h0⟩ | ⟨G, cap, cur, rfl, hg, hh, hnc, hcm, hcs, ht⟩
    · omega
    refine ⟨G, cap, fun i => cur[i]?.getD (.int .i64 0), rfl, hg, hnc, ⟨cur, hh, by omega, fun i hi => by
      have hi' : i < cur.size := by omega
      simp [Array.getElem?_eq_getElem hi']⟩, fun i hi => ?_, hb⟩
    obtain ⟨-, A', c', e, k1, k2⟩ := hX i hi
    have hca := World.ownsRow.cellAt hown i (by omega)
    have hrow : w'.rowIs G 23 cap (fun i => cur[i]?.getD (.int .i64 0)) := ⟨cur, hh, by omega, fun i hi => by
      have hi' : i < cur.size := by omega
      simp [Array.getElem?_eq_getElem hi']⟩
    rw [World.rowIs.cell hrow (by omega), List.getElem?_map, List.getElem?_range hi] at hca
    injection hca with hca
    exact ⟨A', c', hca.trans e, k1, k2⟩
end Go.Proofs.Ytnobbklnnkpdfaa
