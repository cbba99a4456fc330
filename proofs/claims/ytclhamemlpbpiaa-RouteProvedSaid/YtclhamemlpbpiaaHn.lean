/- append of one integer onto an owned slice, and where it lies: in its block, with the capacity it had, or in a new block. -/
import Derived.Test.YtclhamemlpbpiaaExc
import Derived.Maps.AppendAt
import Derived.OrdersHeld
import Derived.Deep.DeepAppendRoom
namespace Go.Proofs.Ytclhamemlpbpiaa
open Go.RowKit

theorem run_append_way (w : World) (base : Nat) (ty : TypeId) (v : Value) (L : List Int) (hown : OwnL w base v L) (a : Addr) (x : Int) (hc : w.cell? a = some (.int .i64 x)) (hn : L.length ≤ 10000) (hbase : base ≤ w.heap.size) :
    ∃ g cap w', (Builtin.append_ #[33, 33] ty #[v, .slice (some a) 1 1]).run Try.prog w = .ok (.slice (some ⟨g, 0, none⟩) (L.length + 1) cap) w' ∧ OwnL w' base (.slice (some ⟨g, 0, none⟩) (L.length + 1) cap) (L ++ [x]) ∧
      ((v = .slice (some ⟨g, 0, none⟩) L.length cap ∧ w.grownBy w' (some g)) ∨ (g = w.heap.size ∧ w.grownBy w' none)) := by
  obtain ⟨i1, hi1, hz01, hz11, hz21⟩ := info_parts infoInt
  have hown0 : w.ownsRow base 3 1 v L.length (L.map (Value.int .i64)) := hown
  have hnews : ∀ j u, [Value.int .i64 x][j]? = some u → w.cell? (a.add j) = some u := by
    intro j u hu
    cases j with
    | zero =>
      injection hu with hu
      subst hu
      have e : a.add 0 = a := by
        obtain ⟨b, o, r⟩ := a
        cases r <;> simp [Addr.add]
      rw [e]
      exact hc
    | succ j => cases hu
  have hone : ∀ u ∈ [Value.int .i64 x], u.oneCell' = true := fun u hu => by
    obtain rfl := List.mem_singleton.1 hu
    rfl
  have hL : ∀ {v' : Value} {w' : World}, w'.ownsRow base 3 1 v' (L.length + 1) (L.map (Value.int .i64) ++ [.int .i64 x]) → OwnL w' base v' (L ++ [x]) := fun h => by
    unfold OwnL
    rw [List.length_append, List.map_append]
    exact h
  rcases hown0.2 with ⟨rfl, h0⟩ | ⟨g, cap, cur, rfl, hbg, hg, hnc, hcm, hcs, ht⟩
  · obtain ⟨v', w', hr, h2, h3, -, h5⟩ := run_append_own_at (P := Try.prog) w base 33 ty 3 i1 (.int .i64 0) 1 8 Try.underlying33 hi1 hz01 hz11 hz21 rfl (by decide) _ L.length _ hown0 a 1 1 [.int .i64 x] rfl hnews hone (by unfold maxLen; omega) (by omega) hbase
    have hO := hL h2
    obtain ⟨A1, c1, e1, hnil, -, -, -⟩ := hO.form
    rw [List.length_append] at e1
    rcases h2.2 with ⟨-, h6⟩ | ⟨g, cap, cur, rfl, hbg, hg, hnc, hcm, hcs, ht⟩
    · omega
    · refine ⟨g, cap, w', hr, hO, .inr ⟨?_, h3⟩⟩
      rcases h5 with h5 | h5
      · cases h5
      · injection h5
  · by_cases hroom : L.length + 1 ≤ cap
    · obtain ⟨w', hr, h2, h3⟩ := run_append_own_spare (P := Try.prog) w base 33 ty 3 i1 1 Try.underlying33 hi1 hz11 g L.length cap _ hown0 a 1 1 [.int .i64 x] rfl hnews hone hroom
      exact ⟨g, cap, w', hr, hL h2, .inl ⟨rfl, h3⟩⟩
    · obtain ⟨v', w', hr, h2, h3, -, -⟩ := run_append_own_at (P := Try.prog) w base 33 ty 3 i1 (.int .i64 0) 1 8 Try.underlying33 hi1 hz01 hz11 hz21 rfl (by decide) _ L.length _ hown0 a 1 1 [.int .i64 x] rfl hnews hone (by unfold maxLen; omega) (by omega) hbase
      have hr2 := run_append_grow (P := Try.prog) w 33 ty 3 i1 (.int .i64 0) Try.underlying33 hi1 hz01 ⟨g, 0, none⟩ L.length cap (L.map (Value.int .i64)) (by rw [hz11]; simp) (hown0.cells (g := g) rfl) a 1 1 [.int .i64 x] (by rw [hz11]; rfl) hnews (by omega) (by omega) (by rw [hz21]; exact growslice_fits (by omega) (by omega))
      rw [hr] at hr2
      injection hr2 with e1 e2
      subst e1
      have h2' := hL h2
      refine ⟨w.heap.size, _, w', hr, h2', .inr ⟨rfl, ?_⟩⟩
      rw [e2]
      exact ⟨rfl, rfl, rfl, by simp, fun j hj _ => heap_alloc_old w.drew _ hj⟩

theorem wpList_append_way {w : World} {ops : Array Oper} {rest : List Oper} {o : Oper} {a : Act} {Q : Exit → Act → World → Prop} (hgd : o.guard = none) (s x : Operand)
    (ho : o.op = .call { callee := .builtin .append, args := #[s, x], argTypes := #[33, 33] })
    (base : Nat) (v : Value) (L : List Int) (hs : a.eval s = v) (hown : OwnL w base v L) (ad : Addr) (hx : a.eval x = .slice (some ad) 1 1) (y : Int) (hc : w.cell? ad = some (.int .i64 y)) (hn : L.length ≤ 10000) (hbase : base ≤ w.heap.size)
    (h : ∀ g cap w', OwnL w' base (.slice (some ⟨g, 0, none⟩) (L.length + 1) cap) (L ++ [y]) → ((v = .slice (some ⟨g, 0, none⟩) L.length cap ∧ w.grownBy w' (some g)) ∨ (g = w.heap.size ∧ w.grownBy w' none)) → wpList Try.prog ops Q rest (a.put o.dst (.slice (some ⟨g, 0, none⟩) (L.length + 1) cap)) w') : wpList Try.prog ops Q (o :: rest) a w := by
  refine wpList_plain hgd fun K hK => ?_
  obtain ⟨g, cap, w', hr, h2, h3⟩ := run_append_way w base o.type v L hown ad y hc hn hbase
  unfold Oper.wp execOp
  simp only [ho, resolve, invoke, builtin, Sem.run_bind, Sem.run_pure, Result.andThen_ok, List.map_toArray, List.map_cons, List.map_nil, hs, hx, hr]
  exact hK _ _ (h g cap w' h2 h3)

/-- .. as one step of a region that draws its order. -/
theorem step_append_way {w : World} {ops : Array Oper} {o : Oper} {a : Act} {K : Act → World → Prop} {Q : Exit → Act → World → Prop} {E : Prop} (hgd : o.guard = none) (s x : Operand)
    (ho : o.op = .call { callee := .builtin .append, args := #[s, x], argTypes := #[33, 33] })
    (base : Nat) (v : Value) (L : List Int) (hs : a.eval s = v) (hown : OwnL w base v L) (ad : Addr) (hx : a.eval x = .slice (some ad) 1 1) (y : Int) (hc : w.cell? ad = some (.int .i64 y)) (hn : L.length ≤ 10000) (hbase : base ≤ w.heap.size)
    (h : ∀ g cap w', OwnL w' base (.slice (some ⟨g, 0, none⟩) (L.length + 1) cap) (L ++ [y]) → ((v = .slice (some ⟨g, 0, none⟩) L.length cap ∧ w.grownBy w' (some g)) ∨ (g = w.heap.size ∧ w.grownBy w' none)) → K (a.put o.dst (.slice (some ⟨g, 0, none⟩) (L.length + 1) cap)) w') :
    if Region.wanted o (yielded ops a.tmps) = true then Oper.wp Try.prog o a w K Q else E := by
  have hw : Region.wanted o (yielded ops a.tmps) = true := by simp [Region.wanted, hgd]
  rw [if_pos hw]
  obtain ⟨g, cap, w', hr, h2, h3⟩ := run_append_way w base o.type v L hown ad y hc hn hbase
  unfold Oper.wp execOp
  simp only [ho, resolve, invoke, builtin, Sem.run_bind, Sem.run_pure, Result.andThen_ok, List.map_toArray, List.map_cons, List.map_nil, hs, hx, hr]
  exact h g cap w' h2 h3

theorem wpOp_ofW {P : Program} {ops : Array Oper} {Q : Exit → Act → World → Prop} {i : Nat} {K : Act → World → Prop} {a : Act} {w : World} {o : Oper} (hi : ops[i]? = some o) (hw : Region.wanted o (yielded ops a.tmps) = true) (h : o.wp P a w K Q) : wpOp P ops Q i K a w := by
  unfold wpOp
  rw [hi]
  simp only [hw, if_true]
  exact .inl h
theorem wp_append_way {w : World} {o : Oper} {a : Act} {K : Act → World → Prop} {Q : Exit → Act → World → Prop} (s x : Operand)
    (ho : o.op = .call { callee := .builtin .append, args := #[s, x], argTypes := #[33, 33] })
    (base : Nat) (v : Value) (L : List Int) (hs : a.eval s = v) (hown : OwnL w base v L) (ad : Addr) (hx : a.eval x = .slice (some ad) 1 1) (y : Int) (hc : w.cell? ad = some (.int .i64 y)) (hn : L.length ≤ 10000) (hbase : base ≤ w.heap.size)
    (h : ∀ g cap w', OwnL w' base (.slice (some ⟨g, 0, none⟩) (L.length + 1) cap) (L ++ [y]) → ((v = .slice (some ⟨g, 0, none⟩) L.length cap ∧ w.grownBy w' (some g)) ∨ (g = w.heap.size ∧ w.grownBy w' none)) → K (a.put o.dst (.slice (some ⟨g, 0, none⟩) (L.length + 1) cap)) w') :
    Oper.wp Try.prog o a w K Q := by
  obtain ⟨g, cap, w', hr, h2, h3⟩ := run_append_way w base o.type v L hown ad y hc hn hbase
  unfold Oper.wp execOp
  simp only [ho, resolve, invoke, builtin, Sem.run_bind, Sem.run_pure, Result.andThen_ok, List.map_toArray, List.map_cons, List.map_nil, hs, hx, hr]
  exact h g cap w' h2 h3

/-- Blocks of before are as they were, but those of a list. -/
structure Kp (bs : List Nat) (w w' : World) : Prop where
  os : w'.os = w.os
  tape : w'.tape = w.tape
  output : w'.output = w.output
  size : w.heap.size ≤ w'.heap.size
  block : ∀ k, k < w.heap.size → k ∉ bs → w'.heap[k]? = w.heap[k]?
theorem Kp.refl (bs : List Nat) (w : World) : Kp bs w w := ⟨rfl, rfl, rfl, Nat.le_refl _, fun _ _ _ => rfl⟩
theorem Kp.trans {bs : List Nat} {a w w' : World} (h : Kp bs a w) (k : Kp bs w w') : Kp bs a w' :=
  ⟨k.os.trans h.os, k.tape.trans h.tape, k.output.trans h.output, Nat.le_trans h.size k.size, fun i hi hne => (k.block i (Nat.lt_of_lt_of_le hi h.size) hne).trans (h.block i hi hne)⟩
theorem Kp.drew {bs : List Nat} {a w : World} (h : Kp bs a w) : Kp bs a w.drew := h.trans ⟨rfl, rfl, rfl, Nat.le_refl _, fun _ _ _ => rfl⟩
theorem Kp.mono {bs cs : List Nat} {a w : World} (h : Kp bs a w) (hs : ∀ b, b ∈ bs → b < a.heap.size → b ∈ cs) : Kp cs a w :=
  ⟨h.os, h.tape, h.output, h.size, fun k hk hne => h.block k hk (fun hm => hne (hs k hm hk))⟩
theorem Kp.trans2 {bs cs : List Nat} {a w w' : World} (h : Kp bs a w) (k : Kp cs w w') (hs : ∀ b, b ∈ cs → b ∈ bs ∨ a.heap.size ≤ b) : Kp bs a w' :=
  ⟨k.os.trans h.os, k.tape.trans h.tape, k.output.trans h.output, Nat.le_trans h.size k.size, fun i hi hne => (k.block i (Nat.lt_of_lt_of_le hi h.size) (fun hm => by
    rcases hs i hm with h1 | h1
    · exact hne h1
    · omega)).trans (h.block i hi hne)⟩
theorem Kp.below {bs : List Nat} {a w : World} {B : Nat} (h : Kp bs a w) (hs : ∀ b, b ∈ bs → B ≤ b) (hB : B ≤ a.heap.size) : Below B a w := ⟨h.os, h.tape, h.output, h.size, fun k hk => h.block k (by omega) (fun hm => by have := hs k hm; omega)⟩
theorem Kp.of_below {bs : List Nat} {a w : World} (h : Below a.heap.size a w) : Kp bs a w := ⟨h.os, h.tape, h.output, h.size, fun k hk _ => h.block k hk⟩
theorem Kp.of_grown {g : Nat} {a w : World} (h : a.grownBy w (some g)) : Kp [g] a w := ⟨h.os, h.tape, h.output, h.size, fun k hk hne => h.block k hk (fun e => by injection e with e; subst e; exact hne (List.mem_cons_self ..))⟩
theorem Kp.of_none {bs : List Nat} {a w : World} (h : a.grownBy w none) : Kp bs a w := ⟨h.os, h.tape, h.output, h.size, fun k hk _ => h.block k hk (fun e => by cases e)⟩
theorem Kp.ownL {bs : List Nat} {a w : World} {base : Nat} {v : Value} {xs : List Int} (h : Kp bs a w) (ho : OwnL a base v xs) (hne : ∀ g, v.ownBlock = some g → g ∉ bs) : OwnL w base v xs := by
  rcases ho.2 with ⟨rfl, h0⟩ | ⟨g, cap, cur, rfl, hbg, hg, r⟩
  · exact ⟨ho.1, .inl ⟨rfl, h0⟩⟩
  · have hlt : g < a.heap.size := (Array.getElem?_eq_some_iff.1 hg).1
    exact ⟨ho.1, .inr ⟨g, cap, cur, rfl, hbg, (h.block g hlt (hne g rfl)).trans hg, r⟩⟩
/-- An owned slice's first cells are an owned slice of the same capacity. -/
theorem OwnL.front {w : World} {base g cap : Nat} {L : List Int} {x : Int} (h : OwnL w base (.slice (some ⟨g, 0, none⟩) (L.length + 1) cap) (L ++ [x])) : OwnL w base (.slice (some ⟨g, 0, none⟩) L.length cap) L := by
  unfold OwnL at h ⊢
  rcases h.2 with ⟨e, -⟩ | ⟨g', cap', cur, e, hbg, hg, hnc, hcm, hcs, ht⟩
  · cases e
  · injection e with e1 e2 e3
    injection e1 with e1
    injection e1 with e1
    subst e1 e3
    refine ⟨by simp, .inr ⟨g, cap, cur, rfl, hbg, hg, ?_, hcm, hcs, ?_⟩⟩
    · rw [List.length_append] at hnc
      simp at hnc
      omega
    · have h2 := congrArg (List.take L.length) ht
      rw [List.take_take, List.map_append, List.length_append] at h2
      simp at h2
      rw [Nat.mul_one]
      exact h2
end Go.Proofs.Ytclhamemlpbpiaa
