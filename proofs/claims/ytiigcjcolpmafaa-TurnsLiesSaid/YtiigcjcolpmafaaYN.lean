/- Part of the proof: YN. -/
import Derived.Test.YtiigcjcolpmafaaExc
import Derived.Maps.AppendAt
import Derived.OrdersHeld
import Derived.Deep.DeepAppendRoom
import Derived.Test.YtiigcjcolpmafaaBool
import Derived.Test.YtiigcjcolpmafaaSo
import Derived.Test.YtiigcjcolpmafaaRowC
import Derived.IntWalk
import Derived.Deep.RegionWith
/- append of one integer onto an owned slice, and where it lies: in its block, with the capacity it had, or in a new block. -/
set_option maxRecDepth 1000000
set_option maxHeartbeats 2000000
namespace Go.Proofs.Ytiigcjcolpmafaa
open Go.RowKit

theorem run_append_way (w : World) (base : Nat) (ty : TypeId) (v : Value) (L : List Int) (hown : OwnL w base v L) (a : Addr) (x : Int) (hc : w.cell? a = some (.int .i64 x)) (hn : L.length ≤ 10000) (hbase : base ≤ w.heap.size) :
    ∃ g cap w', (Builtin.append_ #[23, 23] ty #[v, .slice (some a) 1 1]).run Try.prog w = .ok (.slice (some ⟨g, 0, none⟩) (L.length + 1) cap) w' ∧ OwnL w' base (.slice (some ⟨g, 0, none⟩) (L.length + 1) cap) (L ++ [x]) ∧
      ((v = .slice (some ⟨g, 0, none⟩) L.length cap ∧ w.grownBy w' (some g)) ∨ (g = w.heap.size ∧ w.grownBy w' none)) := by
  obtain ⟨i1, hi1, hz01, hz11, hz21⟩ := info_parts infoInt
  have hown0 : w.ownsRow base 3 1 v L.length (L.map (Value.int .i64)) := hown
  have hnews : ∀ j u, [Value.int .i64 x][j]? = some u → w.cell? (a.add j) = some u := by
    intro j u hu
    cases j with
    | zero =>
      injection hu with hu
      subst hu
      have e : a.add 0 = a := by
        obtain ⟨b, o, r⟩ := a
        cases r <;> simp [Addr.add]
      rw [e]
      exact hc
    | succ j => cases hu
  have hone : ∀ u ∈ [Value.int .i64 x], u.oneCell' = true := fun u hu => by
    obtain rfl := List.mem_singleton.1 hu
    rfl
  have hL : ∀ {v' : Value} {w' : World}, w'.ownsRow base 3 1 v' (L.length + 1) (L.map (Value.int .i64) ++ [.int .i64 x]) → OwnL w' base v' (L ++ [x]) := fun h => by
    unfold OwnL
    rw [List.length_append, List.map_append]
    exact h
  rcases hown0.2 with ⟨rfl, h0⟩ | ⟨g, cap, cur, rfl, hbg, hg, hnc, hcm, hcs, ht⟩
  · obtain ⟨v', w', hr, h2, h3, -, h5⟩ := run_append_own_at (P := Try.prog) w base 23 ty 3 i1 (.int .i64 0) 1 8 Try.underlying23 hi1 hz01 hz11 hz21 rfl (by decide) _ L.length _ hown0 a 1 1 [.int .i64 x] rfl hnews hone (by unfold maxLen; omega) (by omega) hbase
    have hO := hL h2
    obtain ⟨A1, c1, e1, hnil, -, -, -⟩ := hO.form
    rw [List.length_append] at e1
    rcases h2.2 with ⟨-, h6⟩ | ⟨g, cap, cur, rfl, hbg, hg, hnc, hcm, hcs, ht⟩
    · omega
    · refine ⟨g, cap, w', hr, hO, .inr ⟨?_, h3⟩⟩
      rcases h5 with h5 | h5
      · cases h5
      · injection h5
  · by_cases hroom : L.length + 1 ≤ cap
    · obtain ⟨w', hr, h2, h3⟩ := run_append_own_spare (P := Try.prog) w base 23 ty 3 i1 1 Try.underlying23 hi1 hz11 g L.length cap _ hown0 a 1 1 [.int .i64 x] rfl hnews hone hroom
      exact ⟨g, cap, w', hr, hL h2, .inl ⟨rfl, h3⟩⟩
    · obtain ⟨v', w', hr, h2, h3, -, -⟩ := run_append_own_at (P := Try.prog) w base 23 ty 3 i1 (.int .i64 0) 1 8 Try.underlying23 hi1 hz01 hz11 hz21 rfl (by decide) _ L.length _ hown0 a 1 1 [.int .i64 x] rfl hnews hone (by unfold maxLen; omega) (by omega) hbase
      have hr2 := run_append_grow (P := Try.prog) w 23 ty 3 i1 (.int .i64 0) Try.underlying23 hi1 hz01 ⟨g, 0, none⟩ L.length cap (L.map (Value.int .i64)) (by rw [hz11]; simp) (hown0.cells (g := g) rfl) a 1 1 [.int .i64 x] (by rw [hz11]; rfl) hnews (by omega) (by omega) (by rw [hz21]; exact growslice_fits (by omega) (by omega))
      rw [hr] at hr2
      injection hr2 with e1 e2
      subst e1
      have h2' := hL h2
      refine ⟨w.heap.size, _, w', hr, h2', .inr ⟨rfl, ?_⟩⟩
      rw [e2]
      exact ⟨rfl, rfl, rfl, by simp, fun j hj _ => heap_alloc_old w.drew _ hj⟩

theorem wpList_append_way {w : World} {ops : Array Oper} {rest : List Oper} {o : Oper} {a : Act} {Q : Exit → Act → World → Prop} (hgd : o.guard = none) (s x : Operand)
    (ho : o.op = .call { callee := .builtin .append, args := #[s, x], argTypes := #[23, 23] })
    (base : Nat) (v : Value) (L : List Int) (hs : a.eval s = v) (hown : OwnL w base v L) (ad : Addr) (hx : a.eval x = .slice (some ad) 1 1) (y : Int) (hc : w.cell? ad = some (.int .i64 y)) (hn : L.length ≤ 10000) (hbase : base ≤ w.heap.size)
    (h : ∀ g cap w', OwnL w' base (.slice (some ⟨g, 0, none⟩) (L.length + 1) cap) (L ++ [y]) → ((v = .slice (some ⟨g, 0, none⟩) L.length cap ∧ w.grownBy w' (some g)) ∨ (g = w.heap.size ∧ w.grownBy w' none)) → wpList Try.prog ops Q rest (a.put o.dst (.slice (some ⟨g, 0, none⟩) (L.length + 1) cap)) w') : wpList Try.prog ops Q (o :: rest) a w := by
  refine wpList_plain hgd fun K hK => ?_
  obtain ⟨g, cap, w', hr, h2, h3⟩ := run_append_way w base o.type v L hown ad y hc hn hbase
  unfold Oper.wp execOp
  simp only [ho, resolve, invoke, builtin, Sem.run_bind, Sem.run_pure, Result.andThen_ok, List.map_toArray, List.map_cons, List.map_nil, hs, hx, hr]
  exact hK _ _ (h g cap w' h2 h3)

/-- .. as one step of a region that draws its order. -/
theorem step_append_way {w : World} {ops : Array Oper} {o : Oper} {a : Act} {K : Act → World → Prop} {Q : Exit → Act → World → Prop} {E : Prop} (hgd : o.guard = none) (s x : Operand)
    (ho : o.op = .call { callee := .builtin .append, args := #[s, x], argTypes := #[23, 23] })
    (base : Nat) (v : Value) (L : List Int) (hs : a.eval s = v) (hown : OwnL w base v L) (ad : Addr) (hx : a.eval x = .slice (some ad) 1 1) (y : Int) (hc : w.cell? ad = some (.int .i64 y)) (hn : L.length ≤ 10000) (hbase : base ≤ w.heap.size)
    (h : ∀ g cap w', OwnL w' base (.slice (some ⟨g, 0, none⟩) (L.length + 1) cap) (L ++ [y]) → ((v = .slice (some ⟨g, 0, none⟩) L.length cap ∧ w.grownBy w' (some g)) ∨ (g = w.heap.size ∧ w.grownBy w' none)) → K (a.put o.dst (.slice (some ⟨g, 0, none⟩) (L.length + 1) cap)) w') :
    if Region.wanted o (yielded ops a.tmps) = true then Oper.wp Try.prog o a w K Q else E := by
  have hw : Region.wanted o (yielded ops a.tmps) = true := by simp [Region.wanted, hgd]
  rw [if_pos hw]
  obtain ⟨g, cap, w', hr, h2, h3⟩ := run_append_way w base o.type v L hown ad y hc hn hbase
  unfold Oper.wp execOp
  simp only [ho, resolve, invoke, builtin, Sem.run_bind, Sem.run_pure, Result.andThen_ok, List.map_toArray, List.map_cons, List.map_nil, hs, hx, hr]
  exact h g cap w' h2 h3

theorem wpOp_ofW {P : Program} {ops : Array Oper} {Q : Exit → Act → World → Prop} {i : Nat} {K : Act → World → Prop} {a : Act} {w : World} {o : Oper} (hi : ops[i]? = some o) (hw : Region.wanted o (yielded ops a.tmps) = true) (h : o.wp P a w K Q) : wpOp P ops Q i K a w := by
  unfold wpOp
  rw [hi]
  simp only [hw, if_true]
  exact .inl h
theorem wp_append_way {w : World} {o : Oper} {a : Act} {K : Act → World → Prop} {Q : Exit → Act → World → Prop} (s x : Operand)
    (ho : o.op = .call { callee := .builtin .append, args := #[s, x], argTypes := #[23, 23] })
    (base : Nat) (v : Value) (L : List Int) (hs : a.eval s = v) (hown : OwnL w base v L) (ad : Addr) (hx : a.eval x = .slice (some ad) 1 1) (y : Int) (hc : w.cell? ad = some (.int .i64 y)) (hn : L.length ≤ 10000) (hbase : base ≤ w.heap.size)
    (h : ∀ g cap w', OwnL w' base (.slice (some ⟨g, 0, none⟩) (L.length + 1) cap) (L ++ [y]) → ((v = .slice (some ⟨g, 0, none⟩) L.length cap ∧ w.grownBy w' (some g)) ∨ (g = w.heap.size ∧ w.grownBy w' none)) → K (a.put o.dst (.slice (some ⟨g, 0, none⟩) (L.length + 1) cap)) w') :
    Oper.wp Try.prog o a w K Q := by
  obtain ⟨g, cap, w', hr, h2, h3⟩ := run_append_way w base o.type v L hown ad y hc hn hbase
  unfold Oper.wp execOp
  simp only [ho, resolve, invoke, builtin, Sem.run_bind, Sem.run_pure, Result.andThen_ok, List.map_toArray, List.map_cons, List.map_nil, hs, hx, hr]
  exact h g cap w' h2 h3

/-- Blocks of before are as they were, but those of a list. -/
structure Kp (bs : List Nat) (w w' : World) : Prop where
  os : w'.os = w.os
  tape : w'.tape = w.tape
  output : w'.output = w.output
  size : w.heap.size ≤ w'.heap.size
  block : ∀ k, k < w.heap.size → k ∉ bs → w'.heap[k]? = w.heap[k]?
theorem Kp.refl (bs : List Nat) (w : World) : Kp bs w w := ⟨rfl, rfl, rfl, Nat.le_refl _, fun _ _ _ => rfl⟩
theorem Kp.trans {bs : List Nat} {a w w' : World} (h : Kp bs a w) (k : Kp bs w w') : Kp bs a w' :=
  ⟨k.os.trans h.os, k.tape.trans h.tape, k.output.trans h.output, Nat.le_trans h.size k.size, fun i hi hne => (k.block i (Nat.lt_of_lt_of_le hi h.size) hne).trans (h.block i hi hne)⟩
theorem Kp.drew {bs : List Nat} {a w : World} (h : Kp bs a w) : Kp bs a w.drew := h.trans ⟨rfl, rfl, rfl, Nat.le_refl _, fun _ _ _ => rfl⟩
theorem Kp.mono {bs cs : List Nat} {a w : World} (h : Kp bs a w) (hs : ∀ b, b ∈ bs → b < a.heap.size → b ∈ cs) : Kp cs a w :=
  ⟨h.os, h.tape, h.output, h.size, fun k hk hne => h.block k hk (fun hm => hne (hs k hm hk))⟩
theorem Kp.trans2 {bs cs : List Nat} {a w w' : World} (h : Kp bs a w) (k : Kp cs w w') (hs : ∀ b, b ∈ cs → b ∈ bs ∨ a.heap.size ≤ b) : Kp bs a w' :=
  ⟨k.os.trans h.os, k.tape.trans h.tape, k.output.trans h.output, Nat.le_trans h.size k.size, fun i hi hne => (k.block i (Nat.lt_of_lt_of_le hi h.size) (fun hm => by
    rcases hs i hm with h1 | h1
    · exact hne h1
    · omega)).trans (h.block i hi hne)⟩
theorem Kp.below {bs : List Nat} {a w : World} {B : Nat} (h : Kp bs a w) (hs : ∀ b, b ∈ bs → B ≤ b) (hB : B ≤ a.heap.size) : Below B a w := ⟨h.os, h.tape, h.output, h.size, fun k hk => h.block k (by omega) (fun hm => by have := hs k hm; omega)⟩
theorem Kp.of_below {bs : List Nat} {a w : World} (h : Below a.heap.size a w) : Kp bs a w := ⟨h.os, h.tape, h.output, h.size, fun k hk _ => h.block k hk⟩
theorem Kp.of_grown {g : Nat} {a w : World} (h : a.grownBy w (some g)) : Kp [g] a w := ⟨h.os, h.tape, h.output, h.size, fun k hk hne => h.block k hk (fun e => by injection e with e; subst e; exact hne (List.mem_cons_self ..))⟩
theorem Kp.of_none {bs : List Nat} {a w : World} (h : a.grownBy w none) : Kp bs a w := ⟨h.os, h.tape, h.output, h.size, fun k hk _ => h.block k hk (fun e => by cases e)⟩
theorem Kp.ownL {bs : List Nat} {a w : World} {base : Nat} {v : Value} {xs : List Int} (h : Kp bs a w) (ho : OwnL a base v xs) (hne : ∀ g, v.ownBlock = some g → g ∉ bs) : OwnL w base v xs := by
  rcases ho.2 with ⟨rfl, h0⟩ | ⟨g, cap, cur, rfl, hbg, hg, r⟩
  · exact ⟨ho.1, .inl ⟨rfl, h0⟩⟩
  · have hlt : g < a.heap.size := (Array.getElem?_eq_some_iff.1 hg).1
    exact ⟨ho.1, .inr ⟨g, cap, cur, rfl, hbg, (h.block g hlt (hne g rfl)).trans hg, r⟩⟩
/-- An owned slice's first cells are an owned slice of the same capacity. -/
theorem OwnL.front {w : World} {base g cap : Nat} {L : List Int} {x : Int} (h : OwnL w base (.slice (some ⟨g, 0, none⟩) (L.length + 1) cap) (L ++ [x])) : OwnL w base (.slice (some ⟨g, 0, none⟩) L.length cap) L := by
  unfold OwnL at h ⊢
  rcases h.2 with ⟨e, -⟩ | ⟨g', cap', cur, e, hbg, hg, hnc, hcm, hcs, ht⟩
  · cases e
  · injection e with e1 e2 e3
    injection e1 with e1
    injection e1 with e1
    subst e1 e3
    refine ⟨by simp, .inr ⟨g, cap, cur, rfl, hbg, hg, ?_, hcm, hcs, ?_⟩⟩
    · rw [List.length_append] at hnc
      simp at hnc
      omega
    · have h2 := congrArg (List.take L.length) ht
      rw [List.take_take, List.map_append, List.length_append] at h2
      simp at h2
      rw [Nat.mul_one]
      exact h2
end Go.Proofs.Ytiigcjcolpmafaa

/- append of a list of integers onto an owned slice. -/
set_option maxRecDepth 1000000
set_option maxHeartbeats 2000000
namespace Go.Proofs.Ytiigcjcolpmafaa
open Go.RowKit

theorem run_append_ints (w : World) (base : Nat) (ty : TypeId) (v : Value) (L : List Int) (hown : OwnL w base v L) (X : Option Addr) (n c : Nat) (f : Nat → Int) (hX : Ints w X n f) (hXn : X = none → n = 0 ∧ c = 0) (hn : L.length + n ≤ 1000000) (hbase : base ≤ w.heap.size) :
    ∃ v' w', (Builtin.append_ #[23, 23] ty #[v, .slice X n c]).run Try.prog w = .ok v' w' ∧ OwnL w' base v' (L ++ lst n f) ∧ w.grownBy w' v.ownBlock ∧ (v'.ownBlock = v.ownBlock ∨ v'.ownBlock = some w.heap.size) := by
  obtain ⟨i1, hi1, hz01, hz11, hz21⟩ := info_parts infoInt
  have hown0 : w.ownsRow base 3 1 v L.length (L.map (Value.int .i64)) := hown
  cases X with
  | some a =>
    have hnews : ∀ j u, ((lst n f).map (Value.int .i64))[j]? = some u → w.cell? (a.add j) = some u := by
      intro j u hu
      rw [List.getElem?_map] at hu
      have hj : j < n := by
        rcases Nat.lt_or_ge j n with g | g
        · exact g
        · rw [List.getElem?_eq_none (by rw [lst_len]; exact g)] at hu
          cases hu
      rw [lst_get _ _ _ hj] at hu
      obtain ⟨b, o, e, hc⟩ := hX.at hj
      injection e with e
      subst e
      have : (⟨b, o, none⟩ : Addr).add j = ⟨b, o + j, none⟩ := by simp [Addr.add]
      rw [this, hc]
      exact hu
    obtain ⟨v', w', hr, h2, h3, -, h5⟩ := run_append_own_at (P := Try.prog) w base 23 ty 3 i1 (.int .i64 0) 1 8 Try.underlying23 hi1 hz01 hz11 hz21 rfl (by decide) v L.length _ hown0 a n c ((lst n f).map (Value.int .i64)) (by simp [lst_len]) hnews (fun u hu => by
      obtain ⟨x, -, rfl⟩ := List.mem_map.1 hu
      rfl) (by unfold maxLen; omega) (by omega) hbase
    refine ⟨v', w', hr, ?_, h3, h5⟩
    unfold OwnL
    rw [List.length_append, lst_len, List.map_append]
    exact h2
  | none =>
    obtain ⟨rfl, rfl⟩ := hXn rfl
    refine ⟨v, w, ?_, by simpa [lst] using hown, ⟨rfl, rfl, rfl, Nat.le_refl _, fun _ _ _ => rfl⟩, .inl rfl⟩
    rcases hown0.2 with ⟨rfl, h0⟩ | ⟨g, cap, cur, rfl, hbg, hg, hnc, hcm, hcs, ht⟩
    · simp [Builtin.append_, run_underlying (P := Try.prog) Try.underlying23, sizeOf, typeInfo, hi1, Builtin.lenOf, Builtin.firstCells, loadCells, loadCellsFrom]
    · simp [Builtin.append_, run_underlying (P := Try.prog) Try.underlying23, sizeOf, typeInfo, hi1, Builtin.lenOf, Builtin.firstCells, loadCells, loadCellsFrom, hnc, storeCells]
theorem step_append_ints {w : World} {ops : Array Oper} {o : Oper} {a : Act} {K : Act → World → Prop} {Q : Exit → Act → World → Prop} {E : Prop} (hgd : o.guard = none) (s x : Operand)
    (ho : o.op = .call { callee := .builtin .append, args := #[s, x], argTypes := #[23, 23] })
    (base : Nat) (v : Value) (L : List Int) (hs : a.eval s = v) (hown : OwnL w base v L) (X : Option Addr) (n c : Nat) (f : Nat → Int) (hx : a.eval x = .slice X n c) (hX : Ints w X n f) (hXn : X = none → n = 0 ∧ c = 0) (hn : L.length + n ≤ 1000000) (hbase : base ≤ w.heap.size)
    (h : ∀ v' w', OwnL w' base v' (L ++ lst n f) → w.grownBy w' v.ownBlock → (v'.ownBlock = v.ownBlock ∨ v'.ownBlock = some w.heap.size) → K (a.put o.dst v') w') :
    if Region.wanted o (yielded ops a.tmps) = true then Oper.wp Try.prog o a w K Q else E := by
  have hw : Region.wanted o (yielded ops a.tmps) = true := by simp [Region.wanted, hgd]
  rw [if_pos hw]
  obtain ⟨v', w', hr, h2, h3, h4⟩ := run_append_ints w base o.type v L hown X n c f hX hXn hn hbase
  unfold Oper.wp execOp
  simp only [ho, resolve, invoke, builtin, Sem.run_bind, Sem.run_pure, Result.andThen_ok, List.map_toArray, List.map_cons, List.map_nil, hs, hx, hr]
  exact h v' w' h2 h3 h4
end Go.Proofs.Ytiigcjcolpmafaa

/- slices.Sort of few numbers. -/
namespace Go.Proofs.Ytiigcjcolpmafaa
open Go.RowKit

theorem isNaNG_any (x : Int) (w : World) : Ro 118 #[.int .i64 x] w (.bool false) := by
  refine Ro.of ?_
  have hB := bne_f (a := x) rfl
  go_enter Try.func118, Try.ntmps118
  go_wp2
  go_ret
  exact ⟨rfl, Dn.refl _⟩
theorem lessG_any (x y : Int) (w : World) : Ro 101 #[.int .i64 x, .int .i64 y] w (.bool (decide (x < y))) := by
  refine Ro.of ?_
  have HN := Lib.hid (fun w => isNaNG_any x w)
  go_enter Try.func101, Try.ntmps101
  go_wp2_with fail
  refine Ro.use (HN.out _) ?_
  intro w1 hd1
  have HD := Lib.hid hd1
  clear hd1
  by_cases h : x < y
  · have d := decide_eq_true h
    go_wp2
    go_ret
    exact ⟨ret_bool d.symm, HD.out⟩
  · have d := decide_eq_false h
    go_wp2
    go_ret
    exact ⟨ret_bool d.symm, HD.out⟩
set_option maxHeartbeats 2000000 in
set_option maxRecDepth 1000000 in
theorem insG (g cap n : Nat) (F : Nat → Int) (w : World) (hR : RowC w g cap n F) (hn0 : 0 < n) (hn : n ≤ 12) :
    Calls Try.prog 95 #[.slice (some ⟨g, 0, none⟩) n cap, .int .i64 0, .int .i64 n] w fun e w' =>
      e = .returned (.tuple #[]) ∧ ∃ F', RowC w' g cap n F' ∧ (lst n F').Perm (lst n F) ∧ Srt (fun x => x) F' n ∧ Exc g w w' := by
  have HR := Lib.hid hR
  obtain ⟨r, hr⟩ : ∃ r : Int → Int, r = fun x => x := ⟨_, rfl⟩
  have HV : Hid (∀ x, r x = x) := Lib.hid (by rw [hr]; exact fun _ => rfl)
  rw [← hr]
  clear hR hr
  go_enter Try.func95, Try.ntmps95
  go_wp2
  go_loopw [6] (fun x wr => ∃ (k : Nat) (G : Nat → Int), 1 ≤ k ∧ k ≤ n ∧ x = .int .i64 k ∧ RowC wr g cap n G ∧ (lst n G).Perm (lst n F) ∧ Srt r G k ∧ Exc g w wr) (fun x _ => n - (intOf x).toNat)
  case atStart => exact ⟨1, F, Nat.le_refl _, by omega, rfl, HR.out, List.Perm.refl _, Srt.one _ _, Exc.refl _ _⟩
  case round =>
    obtain ⟨k, G, hk1, hk, rfl, hRG, hP, hS, hE⟩ := hrel
    have HRG := Lib.hid hRG
    have HP := Lib.hid hP
    have HS := Lib.hid hS
    have HE := Lib.hid hE
    clear hRG hP hS hE
    by_cases hlt : k < n
    · go_wp2
      go_loopw [7] (fun x wi => ∃ (j : Nat) (G : Nat → Int), j ≤ k ∧ x = .int .i64 j ∧ RowC wi g cap n G ∧ (lst n G).Perm (lst n F) ∧ SrtX r G (k + 1) j ∧ Exc g w wi) (fun x _ => (intOf x).toNat)
      case atStart => exact ⟨k, G, Nat.le_refl _, rfl, HRG.out, HP.out, HS.out.open_, HE.out⟩
      case round =>
        obtain ⟨j, G, hj, rfl, hRG, hP, hS, hE⟩ := hrel
        have HRG := Lib.hid hRG
        have HP := Lib.hid hP
        have HS := Lib.hid hS
        have HE := Lib.hid hE
        clear hRG hP hS hE
        rcases j with _ | j
        · have HD := Lib.hid HS.out.done0
          have hd0 : decide ((0 : Int) < ((0 : Nat) : Int)) = false := by simp
          go_wp2_with fail
          go_quiet (fail)
          go_wp2
          go_roundw
          case rel => exact ⟨k + 1, G, by omega, by omega, by go_num, HRG.out.dn ((Dn.refl _).drewN _), HP.out, HD.out, HE.out.trans (Exc.of_below (((Dn.refl _).drewN _).below _))⟩
          case measure => simp [intOf]; omega
        · obtain ⟨K, hJ⟩ : ∃ K, K = j + 1 := ⟨_, rfl⟩
          have HJ := Lib.hid hJ
          have hJn : K < n := by omega
          have hcJ := HRG.out.cell hJn
          have hcj := HRG.out.cell (show j < n by omega)
          have hfJ := HRG.out.frozen K
          have hfj := HRG.out.frozen j
          have hJ0 : 0 < K := by omega
          have hJ1 : (K : Int) < n := by omega
          have u0 : (0 : Int) ≤ K := by omega
          have u1 : IntKind.i64.wrap ((K : Int) - 1) = (K : Int) - 1 := IntWalk.i64_in _ ⟨by omega, by omega⟩
          have u2 : ((K : Int) - 1).toNat = j := by omega
          have u3 : (0 : Int) ≤ (K : Int) - 1 := by omega
          have u4 : (K : Int) - 1 < n := by omega
          have HCm : ∀ q, Hid (Ro 101 #[.int .i64 (G K), .int .i64 (G j)] (wr.drewN q) (.bool (decide (G K < G j)))) := fun q => Lib.hid (lessG_any _ _ _)
          have hvK := HV.out (G K)
          have hvj := HV.out (G j)
          rw [← hJ]
          by_cases hlt2 : r (G K) < r (G j)
          · have HSt := Lib.hid (HS.out.step (by omega) (by rw [← hJ]; exact hlt2))
            have HPm := Lib.hid ((swp_perm G j n (by omega)).trans HP.out)
            have hcm : decide (G K < G j) = true := decide_eq_true (by omega)
            clear hJ hvK hvj hlt2
            go_wp2_with fail
            go_quiet ((go_at_call 101; exact Ro.quiet (HCm _).out))
            go_wp2_with fail
            go_region
            go_wp2
            go_roundw
            case rel =>
              refine ⟨j, swp G j, by omega, val_int (by omega), (((HRG.out.dn ((Dn.refl _).drewN _)).set K (G j)).set j (G K)).congr (fun i _ => ?_), HPm.out, HSt.out, ((HE.out.trans (Exc.of_below (((Dn.refl _).drewN _).below _))).set K _).set j _⟩
              unfold swp
              rw [HJ.out]
            case measure => simp [intOf]; omega
          · have HD := Lib.hid (HS.out.done (by omega) (by rw [← hJ]; omega))
            have hcm : decide (G K < G j) = false := decide_eq_false (by omega)
            clear hJ hvK hvj hlt2
            go_wp2_with fail
            go_quiet ((go_at_call 101; exact Ro.quiet (HCm _).out))
            go_wp2
            go_roundw
            case rel => exact ⟨k + 1, G, by omega, by omega, by go_num, HRG.out.dn ((Dn.refl _).drewN _), HP.out, HD.out, HE.out.trans (Exc.of_below (((Dn.refl _).drewN _).below _))⟩
            case measure => simp [intOf]; omega
    · obtain rfl : k = n := by omega
      go_wp2
      go_returns
      exact ⟨rfl, G, HRG.out, HP.out, HS.out, HE.out⟩

set_option maxHeartbeats 4000000 in
set_option maxRecDepth 1000000 in
theorem len64G_any (s : Nat) (hs : s < 16) (w : World) : Calls Try.prog 105 #[.int .u64 s] w fun e w' => ∃ z, e = .returned (.int .i64 z) ∧ w = w' := by
  have : s = 0 ∨ s = 1 ∨ s = 2 ∨ s = 3 ∨ s = 4 ∨ s = 5 ∨ s = 6 ∨ s = 7 ∨ s = 8 ∨ s = 9 ∨ s = 10 ∨ s = 11 ∨ s = 12 ∨ s = 13 ∨ s = 14 ∨ s = 15 := by omega
  rcases this with rfl | rfl | rfl | rfl | rfl | rfl | rfl | rfl | rfl | rfl | rfl | rfl | rfl | rfl | rfl | rfl
  all_goals
    go_enter Try.func105, Try.ntmps105
    go_wp2
    go_ret
    exact ⟨_, rfl, rfl⟩
theorem lenG_any (s : Nat) (hs : s < 16) (w : World) : Calls Try.prog 65 #[.int .u64 s] w fun e w' => ∃ z, e = .returned (.int .i64 z) ∧ w = w' := by
  have H := Lib.hid (len64G_any s hs w)
  go_enter Try.func65, Try.ntmps65
  go_wp2_with fail
  refine H.out.mono ?_
  rintro e w' ⟨z, rfl, rfl⟩
  go_wp2
  go_ret
  exact ⟨_, rfl, rfl⟩
set_option maxHeartbeats 2000000 in
set_option maxRecDepth 1000000 in
theorem pdqG (g cap n : Nat) (z : Int) (F : Nat → Int) (w : World) (hR : RowC w g cap n F) (hn0 : 0 < n) (hn : n ≤ 12) :
    Calls Try.prog 64 #[.slice (some ⟨g, 0, none⟩) n cap, .int .i64 0, .int .i64 n, .int .i64 z] w fun e w' =>
      e = .returned (.tuple #[]) ∧ ∃ F', RowC w' g cap n F' ∧ (lst n F').Perm (lst n F) ∧ Srt (fun x => x) F' n ∧ Exc g w w' := by
  have H := Lib.hid (insG g cap n F w hR hn0 hn)
  have hn12 : (n : Int) ≤ 12 := by omega
  clear hR
  go_enter Try.func64, Try.ntmps64
  go_wp2
  refine wp_loop_rounds 1 ?_
  rw [rounds_succ]
  go_wp2_with fail
  refine H.out.mono ?_
  rintro e w' ⟨rfl, hp⟩
  have HP := Lib.hid hp
  clear hp
  go_wp2
  go_returns
  exact ⟨rfl, HP.out⟩
set_option maxHeartbeats 2000000 in
set_option maxRecDepth 1000000 in
theorem sortG (g cap n : Nat) (F : Nat → Int) (w : World) (hR : RowC w g cap n F) (hn0 : 0 < n) (hn : n ≤ 12) :
    Calls Try.prog 30 #[.slice (some ⟨g, 0, none⟩) n cap] w fun e w' =>
      e = .returned (.tuple #[]) ∧ ∃ F', RowC w' g cap n F' ∧ (lst n F').Perm (lst n F) ∧ Srt (fun x => x) F' n ∧ Exc g w w' := by
  have H := Lib.hid (fun z => pdqG g cap n z F w hR hn0 hn)
  have HL := Lib.hid (lenG_any n (by omega) w)
  clear hR
  go_enter Try.func30, Try.ntmps30
  go_wp2_with fail
  refine HL.out.mono ?_
  rintro e w' ⟨z, rfl, rfl⟩
  go_wp2_with fail
  refine (H.out z).mono ?_
  rintro e w' ⟨rfl, hp⟩
  have HP := Lib.hid hp
  clear hp
  go_wp2
  go_returns
  exact ⟨rfl, HP.out⟩
end Go.Proofs.Ytiigcjcolpmafaa

/- Two owned lists side by side; slices.Sort of one of them. -/
namespace Go.Proofs.Ytiigcjcolpmafaa
open Go.RowKit

structure Two (w : World) (B : Nat) (x : Value) (X : List Int) (y : Value) (Y : List Int) : Prop where
  ox : OwnL w B x X
  oy : OwnL w B y Y
  ne : ∀ g, x.ownBlock = some g → y.ownBlock = some g → False
theorem Two.symm {w : World} {B : Nat} {x y : Value} {X Y : List Int} (h : Two w B x X y Y) : Two w B y Y x X := ⟨h.oy, h.ox, fun g a b => h.ne g b a⟩
theorem Two.below {w w' : World} {B : Nat} {x y : Value} {X Y : List Int} (h : Two w B x X y Y) (hb : Below w.heap.size w w') : Two w' B x X y Y := ⟨h.ox.below hb, h.oy.below hb, h.ne⟩
theorem Two.nil (w : World) (B : Nat) : Two w B (.slice none 0 0) [] (.slice none 0 0) [] := ⟨OwnL.nil_ w B, OwnL.nil_ w B, fun g h => by cases h⟩
theorem own_lt {w : World} {B g : Nat} {x : Value} {X : List Int} (h : OwnL w B x X) (e : x.ownBlock = some g) : B ≤ g ∧ g < w.heap.size := World.ownsRow.lt h g e
theorem Two.push {w w' : World} {B g cap : Nat} {x y : Value} {X Y : List Int} {v : Int} (h : Two w B x X y Y) (hB : B ≤ w.heap.size) (hO : OwnL w' B (.slice (some ⟨g, 0, none⟩) (X.length + 1) cap) (X ++ [v]))
    (hk : (x = .slice (some ⟨g, 0, none⟩) X.length cap ∧ w.grownBy w' (some g)) ∨ (g = w.heap.size ∧ w.grownBy w' none)) :
    Two w' B (.slice (some ⟨g, 0, none⟩) (X.length + 1) cap) (X ++ [v]) y Y ∧ Below B w w' := by
  rcases hk with ⟨rfl, hk⟩ | ⟨rfl, hk⟩
  · have hg := own_lt h.ox rfl
    refine ⟨⟨hO, Exc.ownL hk h.oy ?_, fun k e1 e2 => h.ne k e1 e2⟩, Exc.below hk hg.1 hB⟩
    cases hb : y.ownBlock with
    | none => exact .inl rfl
    | some k => exact .inr (fun e => by injection e with e; subst e; exact h.ne k rfl hb)
  · refine ⟨⟨hO, (Kp.of_none (bs := []) hk).ownL h.oy (fun _ _ => by simp), fun k e1 e2 => ?_⟩, (Kp.of_none (bs := []) hk).below (by simp) hB⟩
    have := (own_lt h.oy e2).2
    have e3 : w.heap.size = k := by simpa [Value.ownBlock] using e1
    omega
set_option maxHeartbeats 2000000 in
set_option maxRecDepth 1000000 in
theorem ins0 (A : Option Addr) (c : Nat) (w : World) : Calls Try.prog 95 #[.slice A 0 c, .int .i64 0, .int .i64 0] w fun e w' => e = .returned (.tuple #[]) ∧ w = w' := by
  go_enter Try.func95, Try.ntmps95
  go_wp2
  refine wp_loop_rounds 1 ?_
  rw [rounds_succ]
  go_wp2
  go_returns
  exact ⟨rfl, rfl⟩
set_option maxHeartbeats 2000000 in
set_option maxRecDepth 1000000 in
theorem pdq0 (A : Option Addr) (c : Nat) (z : Int) (w : World) : Calls Try.prog 64 #[.slice A 0 c, .int .i64 0, .int .i64 0, .int .i64 z] w fun e w' => e = .returned (.tuple #[]) ∧ w = w' := by
  have H := Lib.hid (ins0 A c w)
  go_enter Try.func64, Try.ntmps64
  go_wp2
  refine wp_loop_rounds 1 ?_
  rw [rounds_succ]
  go_wp2_with fail
  refine H.out.mono ?_
  rintro e w' ⟨rfl, rfl⟩
  go_wp2
  go_returns
  exact ⟨rfl, rfl⟩
set_option maxHeartbeats 2000000 in
set_option maxRecDepth 1000000 in
theorem sort0 (A : Option Addr) (c : Nat) (w : World) : Calls Try.prog 30 #[.slice A 0 c] w fun e w' => e = .returned (.tuple #[]) ∧ w = w' := by
  have H := Lib.hid (fun z => pdq0 A c z w)
  have HL := Lib.hid (lenG_any 0 (by omega) w)
  go_enter Try.func30, Try.ntmps30
  go_wp2_with fail
  refine HL.out.mono ?_
  rintro e w' ⟨z, rfl, rfl⟩
  go_wp2_with fail
  refine (H.out z).mono ?_
  rintro e w' ⟨rfl, rfl⟩
  go_wp2
  go_returns
  exact ⟨rfl, rfl⟩
theorem Two.sort {w : World} {B : Nat} {x y : Value} {X Y : List Int} (h : Two w B x X y Y) (hB : B ≤ w.heap.size) (hn : X.length ≤ 12) :
    Calls Try.prog 30 #[x] w fun e w' => e = .returned (.tuple #[]) ∧ ∃ F, Two w' B x (lst X.length F) y Y ∧ (lst X.length F).Perm X ∧ (∀ i j, i ≤ j → j < X.length → F i ≤ F j) ∧ Below B w w' := by
  rcases Nat.eq_zero_or_pos X.length with e | e
  · have hX : X = [] := List.length_eq_zero_iff.1 e
    subst hX
    obtain ⟨A, c, rfl, -⟩ := OwnL.form h.ox
    show Calls Try.prog _ #[.slice A 0 c] w _
    refine (sort0 A c w).mono ?_
    rintro r w' ⟨rfl, rfl⟩
    exact ⟨rfl, fun _ => 0, h, List.Perm.refl _, fun i j _ hj => absurd hj (Nat.not_lt_zero _), Below.refl _ _⟩
  · have hx := h.ox
    rw [← lst_of X] at hx
    obtain ⟨g, cap, rfl, hg, hcm, hR⟩ := hx.rowCm e
    refine (sortG g cap X.length _ w hR e hn).mono ?_
    rintro r w' ⟨rfl, F, hR', hP, hS, hE⟩
    rw [lst_of X] at hP
    refine ⟨rfl, F, ⟨hR'.ownL hg hcm, Exc.ownL hE h.oy ?_, h.ne⟩, hP, fun i j hij hj => ?_, hE.below hg hB⟩
    · cases hb : y.ownBlock with
      | none => exact .inl rfl
      | some k => exact .inr (fun e => by injection e with e; subst e; exact h.ne k rfl hb)
    · rcases Nat.lt_or_eq_of_le hij with q | q
      · exact hS i j q hj
      · rw [q]; exact Int.le_refl _
end Go.Proofs.Ytiigcjcolpmafaa

