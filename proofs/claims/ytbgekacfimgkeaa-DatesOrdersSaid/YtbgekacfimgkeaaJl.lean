/- append(a, b...) of slices of integers. -/
import Derived.Test.YtbgekacfimgkeaaQn
import Derived.Maps.AppendAt
namespace Go.Proofs.Ytbgekacfimgkeaa
open Go.RowKit

theorem wpList_append_run {P : Program} {w : World} {ops : Array Oper} {rest : List Oper} {o : Oper} {a : Act} {Q : Exit → Act → World → Prop} (hgd : o.guard = none) (s x : Operand) (t : TypeId)
    (ho : o.op = .call { callee := .builtin .append, args := #[s, x], argTypes := #[t, t] }) (v vx v' : Value) (w' : World) (hs : a.eval s = v) (hx : a.eval x = vx)
    (hr : (Builtin.append_ #[t, t] o.type #[v, vx]).run P w = .ok v' w') (h : wpList P ops Q rest (a.put o.dst v') w') : wpList P ops Q (o :: rest) a w := by
  refine wpList_plain hgd fun K hK => ?_
  unfold Oper.wp execOp
  simp only [ho, resolve, invoke, builtin, Sem.run_bind, Sem.run_pure, Result.andThen_ok, List.map_toArray, List.map_cons, List.map_nil, hs, hx, hr]
  exact hK _ _ h
set_option maxRecDepth 100000 in
set_option maxHeartbeats 1000000 in
theorem append_ints (w : World) (base : Nat) (ty : TypeId) (v : Value) (L1 L2 : List Int) (hown : OwnL w base v L1) (b o m c : Nat) (hl : L2.length = m) (hs : ∀ j, j < m → w.cell? ⟨b, o + j, none⟩ = some (.int .i64 (L2.getD j 0))) (hn : L1.length + m ≤ 10000) (hbase : base ≤ w.heap.size) :
    ∃ v' w', (Builtin.append_ #[23, 23] ty #[v, .slice (some ⟨b, o, none⟩) m c]).run Try.prog w = .ok v' w' ∧ OwnL w' base v' (L1 ++ L2) ∧ w.grownBy w' v.ownBlock ∧ ∀ g cap, v = .slice (some ⟨g, 0, none⟩) L1.length cap → ∀ j, j < L1.length → w'.cell? ⟨g, j, none⟩ = w.cell? ⟨g, j, none⟩ := by
  obtain ⟨i1, hi1, hz01, hz11, hz21⟩ := info_parts infoInt
  have hnews : ∀ j u, (L2.map (Value.int .i64))[j]? = some u → w.cell? ((⟨b, o, none⟩ : Addr).add j) = some u := fun j u hu => by
    rw [List.getElem?_map] at hu
    by_cases hj : j < m
    · rw [Addr.add_lit, hs j hj, ← hu, List.getElem?_eq_getElem (by omega)]
      simp [List.getD, List.getElem?_eq_getElem (show j < L2.length by omega)]
    · rw [List.getElem?_eq_none (by omega)] at hu
      cases hu
  have hone : ∀ u ∈ L2.map (Value.int .i64), u.oneCell' = true := fun u hu => by
    obtain ⟨x, -, rfl⟩ := List.mem_map.1 hu
    rfl
  have hown0 : w.ownsRow base 3 1 v L1.length (L1.map (Value.int .i64)) := hown
  obtain ⟨v', w', hr, h2, h3, h4, h5⟩ := run_append_own_at (P := Try.prog) w base 23 ty 3 i1 (.int .i64 0) 1 8 Try.underlying23 hi1 hz01 hz11 hz21 rfl (by decide) v L1.length (L1.map (Value.int .i64)) hown0 ⟨b, o, none⟩ m c (L2.map (Value.int .i64)) (by simp [hl]) hnews hone (by unfold maxLen; omega) (by omega) hbase
  have hO2 : OwnL w' base v' (L1 ++ L2) := by
    unfold OwnL
    rw [List.length_append, List.map_append, hl]
    exact h2
  refine ⟨v', w', hr, hO2, h3, ?_⟩
  intro g cap hv j hj
  subst hv
  have hc0 := World.ownsRow.cellAt hown0 j (by omega)
  rw [List.getElem?_map, List.getElem?_eq_getElem hj] at hc0
  rcases hown0.2 with ⟨e, -⟩ | ⟨g', cap', cur, e, hbg, hg, hnc, hcm, hcs, ht⟩
  · injection e with e1
    cases e1
  injection e with e1 e2 e3
  injection e1 with e1
  injection e1 with e1
  subst e1 e3
  by_cases hroom : L1.length + m ≤ cap
  · have hr2 := run_append_room (P := Try.prog) w 23 ty 3 i1 Try.underlying23 hi1 g L1.length cap cur hg ⟨b, o, none⟩ m c (L2.map (Value.int .i64)) (by rw [hz11]; simp [hl]) hnews hone hroom (by rw [hz11]; simp [hl]; omega)
    rw [hr] at hr2
    injection hr2 with e1 e2
    subst e1
    have hc1 := World.ownsRow.cellAt h2 j (by omega)
    rw [List.getElem?_append_left (by simp; omega), List.getElem?_map, List.getElem?_eq_getElem hj] at hc1
    rw [hc0, hc1]
  · have hr2 := run_append_grow (P := Try.prog) w 23 ty 3 i1 (.int .i64 0) Try.underlying23 hi1 hz01 ⟨g, 0, none⟩ L1.length cap (L1.map (Value.int .i64)) (by rw [hz11]; simp) (fun j' u hu => by
        rw [Addr.add_lit, Nat.zero_add]
        have hj' : j' < L1.length := by
          rw [List.getElem?_map] at hu
          rcases Nat.lt_or_ge j' L1.length with h | h
          · exact h
          · rw [List.getElem?_eq_none h] at hu
            cases hu
        have := World.ownsRow.cellAt hown0 j' (by omega)
        rw [this]
        exact hu) ⟨b, o, none⟩ m c (L2.map (Value.int .i64)) (by rw [hz11]; simp [hl]) hnews (by omega) (by omega) (by rw [hz21]; exact growslice_fits (by omega) (by omega))
    rw [hr] at hr2
    injection hr2 with e1 e2
    rw [e2, hc0]
    exact Lib.cell?_alloc_some _ (by exact hc0)
set_option maxRecDepth 100000 in
set_option maxHeartbeats 1000000 in
theorem append_none (w : World) (base : Nat) (ty : TypeId) (v : Value) (L1 : List Int) (hown : OwnL w base v L1) :
    (Builtin.append_ #[23, 23] ty #[v, .slice none 0 0]).run Try.prog w = .ok v w := by
  obtain ⟨i1, hi1, hz01, hz11, hz21⟩ := info_parts infoInt
  rcases hown.2 with ⟨rfl, h⟩ | ⟨g', cap', cur, rfl, hbg, hg, hnc, hcm, hcs, ht⟩
  · simp [Builtin.append_, run_underlying Try.underlying23, sizeOf, typeInfo, hi1, Builtin.lenOf, Builtin.firstCells, loadCells, loadCellsFrom]
  · simp [Builtin.append_, run_underlying Try.underlying23, sizeOf, typeInfo, hi1, Builtin.lenOf, Builtin.firstCells, loadCells, loadCellsFrom, hnc, storeCells]
end Go.Proofs.Ytbgekacfimgkeaa
