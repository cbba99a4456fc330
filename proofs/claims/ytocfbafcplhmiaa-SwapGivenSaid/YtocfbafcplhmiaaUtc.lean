/- The reference: table, Chances. -/
import Derived.Test.YtocfbafcplhmiaaUtb
import Derived.Test.YtocfbafcplhmiaaUzs
namespace Go.Proofs.Ytocfbafcplhmiaa
open Go.RowKit

/-- In block g n rows of n numbers, which lie in the blocks R. -/
structure MatR (W : World) (g : Nat) (R : Nat → Nat) (n : Nat) (F : Nat → Nat → Nat) : Prop where
  cell : ∀ i, i < n → W.cell? ⟨g, i, none⟩ = some (.slice (some ⟨R i, 0, none⟩) n n)
  row : ∀ i, i < n → RowI W (R i) n (fun j => (F i j : Int))
  ne : ∀ i, i < n → R i ≠ g
  inj : ∀ i j, i < n → j < n → R i = R j → i = j
theorem MatR.keep {W W' : World} {g : Nat} {R : Nat → Nat} {n : Nat} {F : Nat → Nat → Nat} (h : MatR W g R n F) (hb : Below W.heap.size W W') : MatR W' g R n F :=
  ⟨fun i hi => cell_on (h.cell i hi) hb, fun i hi => World.rowIs.of_block (h.row i hi) (hb.block _ (World.rowIs.lt (h.row i hi))), h.ne, h.inj⟩
theorem MatR.congr {W : World} {g : Nat} {R : Nat → Nat} {n : Nat} {F F' : Nat → Nat → Nat} (h : MatR W g R n F) (e : ∀ i j, i < n → j < n → F i j = F' i j) : MatR W g R n F' :=
  ⟨h.cell, fun i hi => (h.row i hi).congr (fun j hj => by rw [e i j hi hj]), h.ne, h.inj⟩
theorem MatR.set {W : World} {g : Nat} {R : Nat → Nat} {n : Nat} {F : Nat → Nat → Nat} (h : MatR W g R n F) {i : Nat} (hi : i < n) (j : Nat) (x : Nat) : MatR (W.setCell ⟨R i, j, none⟩ (.int .i64 (x : Int))) g R n (fun a b => if a = i ∧ b = j then x else F a b) := by
  have e1 : Exc (R i) W (W.setCell ⟨R i, j, none⟩ (.int .i64 (x : Int))) := (Exc.refl _ _).set _ _
  refine ⟨fun a ha => cell_of_block (e1.block _ (cell_lt (h.cell a ha)) (fun e => h.ne i hi (by injection e with e; exact e.symm))) (h.cell a ha), fun a ha => ?_, h.ne, h.inj⟩
  by_cases e : a = i
  · subst e
    refine ((h.row a ha).set j (x : Int)).congr (fun b _ => ?_)
    unfold upd
    by_cases e2 : b = j
    · rw [if_pos e2, if_pos ⟨rfl, e2⟩]
    · rw [if_neg e2, if_neg (fun h => e2 h.2)]
  · refine ((h.row a ha).setOther (a := ⟨R i, j, none⟩) (by show R a ≠ R i; exact fun e2 => e (h.inj a i ha hi e2)) _).congr (fun b _ => ?_)
    rw [if_neg (fun h => e h.1)]
/-- A table under way. -/
structure TabI (w W : World) (s : Value) (k n : Nat) (R : Nat → Nat) : Prop where
  own : W.ownsRow w.heap.size 23 1 s k ((List.range k).map (fun i => .slice (some ⟨R i, 0, none⟩) n n))
  low : ∀ i, i < k → w.heap.size ≤ R i
  row : ∀ i, i < k → RowI W (R i) n (fun _ => 0)
  inj : ∀ i j, i < k → j < k → R i = R j → i = j
theorem TabI.ne {w W : World} {s : Value} {k n : Nat} {R : Nat → Nat} (h : TabI w W s k n R) {i g : Nat} (hi : i < k) (hg : s.ownBlock = some g) : R i ≠ g := by
  intro e
  obtain ⟨c, hc, -, -⟩ := h.row i hi
  rcases h.own.2 with ⟨rfl, -⟩ | ⟨g', cap, cur, rfl, -, hb, -⟩
  · cases hg
  · have hg' : g' = g := by simpa [Value.ownBlock] using hg
    rw [hg', ← e, hc] at hb
    injection hb with hb
    injection hb with _ hb
    cases hb
set_option maxHeartbeats 2000000 in
set_option maxRecDepth 1000000 in
theorem table_any (n : Nat) (hn1 : 1 ≤ n) (hn : n ≤ 5) (w : World) : Calls Try.prog 71 #[.int .i64 n] w fun e w' => ∃ g cap R, e = .returned (.slice (some ⟨g, 0, none⟩) n cap) ∧ MatR w' g R n (fun _ _ => 0) ∧ (∀ i, i < n → w.heap.size ≤ R i) ∧ w.heap.size ≤ g ∧ Below w.heap.size w w' := by
  obtain ⟨j0, ji, jz0, jz1, jz2⟩ := info_parts infoInts
  have hmk := mk_ints n (by omega)
  go_enter Try.func71, Try.ntmps71
  go_wp2
  go_loopw [3, 5] (fun s i wr => ∃ (k : Nat) (R : Nat → Nat), k ≤ n ∧ i = .int .i64 k ∧ TabI w wr s k n R ∧ Below w.heap.size w wr) (fun _ i _ => n - (intOf i).toNat)
  case atStart => exact ⟨0, fun _ => 0, Nat.zero_le _, rfl, ⟨World.ownsRow_nil _ _ _ _, fun i hi => absurd hi (by omega), fun i hi => absurd hi (by omega), fun i j hi => absurd hi (by omega)⟩, Below.refl _ _⟩
  case round =>
    obtain ⟨k, R, hk, rfl, hT, hB⟩ := hrel
    have HT := Lib.hid hT
    have HB := Lib.hid hB
    have hs0 := hB.size
    clear hT hB
    by_cases hlt : k < n
    · have HO1 := Lib.hid (World.ownsRow.alloc (World.ownsRow.alloc HT.out.own (.cells (madeCells #[.int .i64 0] n) 3)) (.cells #[.slice (some ⟨wr.heap.size, 0, none⟩) n n] 23))
      have hnews := news1 (wr.alloc (.cells (madeCells #[.int .i64 0] n) 3)) (.slice (some ⟨wr.heap.size, 0, none⟩) n n) 23
      rw [World.size_alloc] at hnews
      have HNw := Lib.hid hnews
      clear hnews
      go_wp2_with (at_builtin; go_loud (refine wpList_append_own _ rfl _ _ 22 rfl w.heap.size 23 j0 (.slice none 0 0) 1 24 Try.underlying22 ji jz0 jz1 jz2 rfl (by decide) _ _ _ rfl HO1.out ⟨wr.heap.size + 1, 0, none⟩ 1 1 [.slice (some ⟨wr.heap.size, 0, none⟩) n n] rfl rfl HNw.out (one1 rfl) (by unfold maxLen; omega) (by omega) (by simp; omega) ?_))
      intro v' w2 hown2 hgrow2 _
      have HO2 := Lib.hid hown2
      have HG2 := Lib.hid hgrow2
      clear hown2 hgrow2
      go_wp2
      go_roundw
      case rel =>
        have b1 := box_bel wr (.cells (madeCells #[.int .i64 0] n) 3)
        have b2 := box_bel (wr.alloc (.cells (madeCells #[.int .i64 0] n) 3)) (.cells #[.slice (some ⟨wr.heap.size, 0, none⟩) n n] 23)
        have b12 := b1.trans (b2.mono (by simp))
        have hsz : ((wr.alloc (.cells (madeCells #[.int .i64 0] n) 3)).alloc (.cells #[.slice (some ⟨wr.heap.size, 0, none⟩) n n] 23)).heap.size = wr.heap.size + 2 := by simp
        have hbe := (HB.out.trans (b12.mono hs0)).grown HG2.out (by rw [hsz]; omega) (fun g hg => (World.ownsRow.lt HT.out.own g hg).1)
        have hRk : ∀ i, i < k → R i < wr.heap.size := fun i hi => World.rowIs.lt (HT.out.row i hi)
        have hkeep : ∀ i, i < k → RowI w2 (R i) n (fun _ => 0) := fun i hi => by
          have h1 := World.rowIs.of_block (HT.out.row i hi) (b12.block _ (hRk i hi))
          refine World.rowIs.of_block h1 (HG2.out.block _ (World.rowIs.lt h1) ?_)
          intro e
          exact HT.out.ne hi e.symm rfl
        have hnew : RowI w2 wr.heap.size n (fun _ => 0) := by
          have h1 := World.rowIs.of_block (RowI.made wr n) (b2.block _ (World.rowIs.lt (RowI.made wr n)))
          refine World.rowIs.of_block h1 (HG2.out.block _ (World.rowIs.lt h1) ?_)
          intro e
          have := (World.ownsRow.lt HT.out.own _ e.symm).2
          omega
        refine ⟨k + 1, fun i => if i < k then R i else wr.heap.size, by omega, by go_num, ⟨?_, fun i hi => ?_, fun i hi => ?_, fun i j hi hj e => ?_⟩, hbe⟩
        · have e : (List.range (k + 1)).map (fun i => Value.slice (some ⟨if i < k then R i else wr.heap.size, 0, none⟩) n n) = (List.range k).map (fun i => Value.slice (some ⟨R i, 0, none⟩) n n) ++ [.slice (some ⟨wr.heap.size, 0, none⟩) n n] := by
            rw [List.range_succ, List.map_append]
            congr 1
            · apply List.map_congr_left
              intro i hi
              rw [if_pos (List.mem_range.1 hi)]
            · simp
          rw [e]
          exact HO2.out
        · show w.heap.size ≤ if i < k then R i else wr.heap.size
          by_cases e : i < k
          · rw [if_pos e]; exact HT.out.low i e
          · rw [if_neg e]; exact hs0
        · show RowI w2 (if i < k then R i else wr.heap.size) n (fun _ => 0)
          by_cases e : i < k
          · rw [if_pos e]; exact hkeep i e
          · rw [if_neg e]; exact hnew
        · have e : (if i < k then R i else wr.heap.size) = (if j < k then R j else wr.heap.size) := e
          by_cases e1 : i < k
          · by_cases e2 : j < k
            · rw [if_pos e1, if_pos e2] at e
              exact HT.out.inj i j e1 e2 e
            · rw [if_pos e1, if_neg e2] at e
              have := hRk i e1
              omega
          · by_cases e2 : j < k
            · rw [if_neg e1, if_pos e2] at e
              have := hRk j e2
              omega
            · omega
      case measure => simp [intOf]; omega
    · obtain rfl : k = n := by omega
      rcases HT.out.own.2 with ⟨rfl, h0⟩ | ⟨g, cap, cur, rfl, hg, -⟩
      · omega
      · have hm : MatR wr g R k (fun _ _ => 0) := ⟨fun i hi => by
          rw [World.ownsRow.cellAt HT.out.own i (by omega), List.getElem?_map, List.getElem?_range hi]
          rfl, fun i hi => HT.out.row i hi, fun i hi => HT.out.ne hi rfl, HT.out.inj⟩
        have HM := Lib.hid hm
        clear hm
        go_wp2
        go_ret
        exact ⟨g, cap, R, rfl, HM.out, HT.out.low, hg, HB.out⟩
end Go.Proofs.Ytocfbafcplhmiaa
