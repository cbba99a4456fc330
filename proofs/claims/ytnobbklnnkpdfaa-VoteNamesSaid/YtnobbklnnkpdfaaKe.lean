/- kemeny. -/
import Derived.Test.YtnobbklnnkpdfaaFa
import Derived.Test.YtnobbklnnkpdfaaKo
import Derived.Test.YtnobbklnnkpdfaaUp
import Derived.Test.YtnobbklnnkpdfaaDa
import Derived.Test.YtnobbklnnkpdfaaRowC
import Derived.RangeFuncCalls
namespace Go.Proofs.Ytnobbklnnkpdfaa
open Go.RowKit
attribute [local go_sem] Oper.semAt_some

theorem wpListIn_load_mid {F : Fence} {n : Nat} {P : Program} {ops : Array Oper} {rest : List Oper} {op : Oper} {a : Act} {w : World} {Q : Exit → Act → World → Prop} (hgd : op.guard = none) (ty : TypeId) (x : Operand) (ho : op.op = .load ty x)
    (b o : Nat) (hx : a.eval x = .pointer (some ⟨b, o, none⟩)) (cs : List Value) (d : TypeDesc) (hc : w.rangeAt b o cs)
    (hu : P.underlying ty = some d) (hd : d.isRow = true) (hi : (P.info? ty).map (·.size) = some cs.length)
    (h : wpListIn F n P ops Q rest (a.put op.dst (.agg cs.toArray)) w) : wpListIn F n P ops Q (op :: rest) a w := by
  refine wpListIn_plain hgd fun K hK => ?_
  unfold Oper.wpIn
  refine ⟨?_, ?_⟩
  · simp [Oper.about, ho]
  · rw [Oper.semAt_plain F _ _ (by rw [ho]; intro c hc'; cases hc')]
    unfold execOp
    simp only [ho, hx, Instr.loadAt, Instr.sureAddr, Sem.run_bind, Sem.run_pure, Result.andThen_ok, run_loadVar_mid w b o ty cs d hc hu hd hi]
    exact hK _ _ h

/-- The best so far, and how far it is. -/
structure KemI (w : World) (A : Option Addr) (n cA c : Nat) (T : Nat → Int) (gB gL l B : Nat) (pre : List (List Nat)) (W : World) : Prop where
  best : ∃ q cq, W.rowIs gB 23 1 (fun _ => .slice (some ⟨q, 0, none⟩) c cq) ∧ RowC W q cq c (rowF (minF (fun x => disS n T (rowF x) c) (List.range c) pre)) ∧ cq ≤ maxLen ∧ w.heap.size < q ∧ q ≠ gB ∧ q ≠ gL ∧ q ≠ l ∧ q ≠ B ∧ q + 1 ≠ l
  least : W.rowIs gL 3 1 (fun _ => .int .i64 (disS n T (rowF (minF (fun x => disS n T (rowF x) c) (List.range c) pre)) c))
  poll : PollI W w.heap.size A n cA c T
  bel : Below w.heap.size w W
theorem RowC.of_block {w w' : World} {g cap m : Nat} {D : Nat → Int} (h : RowC w g cap m D) (e : w'.heap[g]? = w.heap[g]?) : RowC w' g cap m D := by
  obtain ⟨F, h1, h2, h3⟩ := h
  exact ⟨F, World.rowIs.of_block h1 e, h2, h3⟩
theorem KemI.exc {w W1 W2 : World} {A : Option Addr} {n cA c : Nat} {T : Nat → Int} {gB gL l B b : Nat} {pre : List (List Nat)} (h : KemI w A n cA c T gB gL l B pre W1) (he : Exc b W1 W2) (hb : b = l ∨ b = B) (h1 : w.heap.size < l) (h2 : w.heap.size < B)
    (hB : gB ≠ l ∧ gB ≠ B) (hL : gL ≠ l ∧ gL ≠ B) : KemI w A n cA c T gB gL l B pre W2 := by
  have hbl : ∀ g, g ≠ l → g ≠ B → g < W1.heap.size → W2.heap[g]? = W1.heap[g]? := fun g k1 k2 k3 => he.block g k3 (fun e => by
    injection e with e
    rcases hb with rfl | rfl
    · exact k1 e
    · exact k2 e)
  obtain ⟨q, cq, r1, r2, r3, r4, r5, r6, r7, r8, r9⟩ := h.best
  refine ⟨⟨q, cq, World.rowIs.of_block r1 (hbl _ hB.1 hB.2 (World.rowIs.lt r1)), r2.of_block (hbl _ r7 r8 r2.lt), r3, r4, r5, r6, r7, r8, r9⟩, World.rowIs.of_block h.least (hbl _ hL.1 hL.2 (World.rowIs.lt h.least)), World.rowIs.of_block h.poll (hbl _ (by omega) (by omega) h.poll.lt), ?_⟩
  exact h.bel.trans (he.below (by rcases hb with rfl | rfl <;> omega) h.bel.size)
theorem KemI.below {w W1 W2 : World} {A : Option Addr} {n cA c : Nat} {T : Nat → Int} {gB gL l B : Nat} {pre : List (List Nat)} (h : KemI w A n cA c T gB gL l B pre W1) (hb : Below W1.heap.size W1 W2) : KemI w A n cA c T gB gL l B pre W2 := by
  obtain ⟨q, cq, r1, r2, r3, r4, r5, r6, r7, r8, r9⟩ := h.best
  exact ⟨⟨q, cq, World.rowIs.of_block r1 (hb.block _ (World.rowIs.lt r1)), r2.of_block (hb.block _ r2.lt), r3, r4, r5, r6, r7, r8, r9⟩, World.rowIs.of_block h.least (hb.block _ (World.rowIs.lt h.least)), h.poll.keep hb, h.bel.trans (hb.mono h.bel.size)⟩

set_option maxHeartbeats 2000000 in
set_option maxRecDepth 1000000 in
theorem kemeny_any (A : Option Addr) (n cA c : Nat) (T : Nat → Int) (hc1 : 1 ≤ c) (hc : c ≤ 5) (hn : n ≤ 9) (hT : ∀ a b, a < c → b < c → -(n : Int) ≤ T (5 * a + b) ∧ T (5 * a + b) ≤ n) (w : World) :
    Calls Try.prog 61 #[.agg (pollL A n cA c T).toArray] w fun e w' => ∃ x, e = .returned x ∧ OwnL w' w.heap.size x (lst c (rowF (kemL n T c))) ∧ Below w.heap.size w w' := by
  have HP0 := Lib.hid (PollI.box w A n cA c T)
  have hb0 := (Below.refl w.heap.size w).alloc (Nat.le_refl _) (.cells (pollL A n cA c T).toArray 56)
  have Hb0 := Lib.hid hb0
  have HT := Lib.hid hT
  have hs0 : (w.alloc (.cells (pollL A n cA c T).toArray 56)).heap.size = w.heap.size + 1 := by simp
  clear hb0 hT
  refine (callsIn_wide (n := 3)).1 (callsIn_of_wp_marks Try.func61 rfl trivial ?_ rfl)
  simp only [Try.ntmps61, List.size_toArray, List.length_cons, List.length_nil, Nat.reduceAdd, Nat.reduceSub, Array.replicate_succ, Array.replicate_zero, List.push_toArray, List.append_toArray, List.nil_append, List.cons_append]
  rw [wpIn_wide]
  have hpl : (pollL A n cA c T)[1]? = some (.int .i64 c) := pollL_at A n cA c T (by omega)
  go_wp2_with fail
  generalize w.alloc (.cells (pollL A n cA c T).toArray 56) = X at *
  clear hpl
  refine (upTo_any c X (by omega)).mono ?_
  rintro e w2 ⟨rfl, hr2, he2⟩
  have hb2 : Below X.heap.size X w2 := he2.below (Nat.le_refl _) (Nat.le_refl _)
  have HP2 := Lib.hid (HP0.out.keep hb2)
  have HR2 := Lib.hid hr2
  have HB2 := Lib.hid (Hb0.out.trans (hb2.mono (by omega)))
  have hs2 := hr2.lt
  have hal := (Below.refl w2.heap.size w2).alloc (Nat.le_refl _) (.cells #[.slice (some ⟨w.heap.size + 1, 0, none⟩) c c] 23)
  have HP3 := Lib.hid (HP2.out.keep hal)
  have HR3 := Lib.hid (HR2.out.keep hal)
  have HB3 := Lib.hid (HB2.out.trans (hal.mono HB2.out.size))
  have HQ3 := Lib.hid (box_row w2 (.slice (some ⟨w.heap.size + 1, 0, none⟩) c c) 23)
  have hs3 : (w2.alloc (.cells #[.slice (some ⟨w.heap.size + 1, 0, none⟩) c c] 23)).heap.size = w2.heap.size + 1 := by simp
  clear hal hr2 he2 hb2 HP0 Hb0 HP2 HR2 HB2
  rw [hs0] at HR3 hs2
  go_wp2_with (first
    | (refine wpList_load_mid rfl 56 _ rfl w.heap.size 0 rfl (pollL A n cA c T) _ HP3.out.range Try.underlying56 rfl (by rw [pollL_len]; exact infoPoll) ?_)
    | fail)
  generalize w2.alloc (.cells #[.slice (some ⟨w.heap.size + 1, 0, none⟩) c c] 23) = X3 at *
  refine Lr.use (disagreement_any A (some ⟨w.heap.size + 1, 0, none⟩) n cA c c T (fun j => (j : Int)) hc hn HT.out (ord_id c) X3 HR3.out.ints (Nat.le_refl _)) ?_
  intro w4 hb4
  have hal := (Below.refl w4.heap.size w4).alloc (Nat.le_refl _) (.cells #[.int .i64 (disS n T (fun j => (j : Int)) c)] 3)
  have hb5 := hb4.trans (hal.mono hb4.size)
  have hs4 := hb4.size
  have HP5 := Lib.hid (HP3.out.keep hb5)
  have HR5 := Lib.hid (HR3.out.keep hb5)
  have HB5 := Lib.hid (HB3.out.trans (hb5.mono HB3.out.size))
  have hcb := cell_keep (HQ3.out.cell (i := 0) (by omega)) hb5
  have hzb : (w4.alloc (.cells #[.int .i64 (disS n T (fun j => (j : Int)) c)] 3)).frozen? ⟨w2.heap.size, 0, none⟩ = false := by
    exact (World.frozen?_of_block (hb5.block w2.heap.size (by omega))).trans (HQ3.out.frozen 0)
  have HQ5 := Lib.hid (box_row w4 (.int .i64 (disS n T (fun j => (j : Int)) c)) 3)
  have hq1 := HP5.out.c1
  have hB4 := hb5
  clear hal hb4 hb5
  go_wp2_with fail
  have hs5 : (w4.alloc (.cells #[.int .i64 (disS n T (fun j => (j : Int)) c)] 3)).heap.size = w4.heap.size + 1 := by simp
  generalize w4.alloc (.cells #[.int .i64 (disS n T (fun j => (j : Int)) c)] 3) = X5 at *
  refine (orders_any (some ⟨w.heap.size + 1, 0, none⟩) c c c X5).mono ?_
  rintro e w6 ⟨ps, pt, rfl, hps, hpt, hne, hcs, hct, hb6⟩
  have hs6 := hb6.size
  go_wp2_with fail
  rw [← wpIn_wide (n := 3)]
  have HR6 := Lib.hid (HR5.out.keep hb6)
  have hK0 : KemI w A n cA c T w2.heap.size w4.heap.size (w6.heap.size + 1) (w6.heap.size + 2 + 1) [] w6 :=
    { best := ⟨w.heap.size + 1, c, World.rowIs.of_block (World.rowIs.of_block HQ3.out (hB4.block _ (by omega))) (hb6.block _ (by omega)), (HR6.out.congr (fun i hi => by simp [minF, rowF, List.getD, hi])).rowC, by unfold maxLen; omega, by omega, by omega, by omega, by omega, by omega, by omega⟩
      least := by
        have e : disS n T (rowF (minF (fun x => disS n T (rowF x) c) (List.range c) [])) c = disS n T (fun j => (j : Int)) c := dis_congr (fun k hk => by simp [minF, rowF, List.getD, hk])
        rw [e]
        exact World.rowIs.of_block HQ5.out (hb6.block _ (by omega))
      poll := HP5.out.keep hb6
      bel := HB5.out.trans (hb6.mono HB5.out.size) }
  have HK0 := Lib.hid hK0
  have hpsl : ps < w6.heap.size := cell_lt hcs
  have hptl : pt < w6.heap.size := cell_lt hct
  clear hK0 hcb hzb hq1 HP3 HR3 HB3 HQ3 HP5 HB5 HQ5 HR5 hB4
  refine wpIn_rangeRows (F := Fence.wide) (n := 3) (gf := 67) (lb := #[.pointer (some ⟨ps, 0, none⟩), .pointer (some ⟨pt, 0, none⟩)]) (B := w6.heap.size + 2 + 1) (m := c) (Kb := fun b => b ≠ w2.heap.size ∧ b ≠ w4.heap.size) (L := ordL (List.range c) c [])
    rfl (by omega) rfl trivial (enters_of Try.func67 (by kernel_rfl) rfl) (fun b hb => ⟨by omega, by omega⟩) ?seq rfl
    (KemI w A n cA c T w2.heap.size w4.heap.size (w6.heap.size + 1) (w6.heap.size + 2 + 1)) (fun _ _ _ => False)
    (fun s W1 W2 b hb hi he => hi.exc he hb (by omega) (by omega) ⟨by omega, by omega⟩ ⟨by omega, by omega⟩) (fun _ _ _ _ h _ => h.elim) (by omega) HK0.out
    ?act ?assign ?body ?done (fun _ _ _ _ _ h _ => h.elim)
  case seq =>
    intro W hW hWb
    have := orders1_rows (some ⟨w.heap.size + 1, 0, none⟩) c c (List.range c) (by omega) (by simp; omega) ps pt (w6.heap.size + 1) (3 - 1) (fun b => b ≠ w2.heap.size ∧ b ≠ w4.heap.size) W (cell_of_block (hWb _ hpsl) hcs) (by rw [List.length_range]; exact cell_of_block (hWb _ hptl) hct)
      (by
        rw [List.length_range]
        have h1 : RowI W (w.heap.size + 1) c (fun j => (j : Int)) := World.rowIs.of_block HR6.out (hWb _ HR6.out.lt)
        exact (h1.congr (fun i hi => by simp [rowF, List.getD, hi])).ints)
      (fun b o e => by injection e with e; injection e with e1 e2; have := HR6.out.lt; exact ⟨by omega, ⟨by omega, by omega⟩, by omega⟩) (by omega) ⟨⟨by omega, by omega⟩, by omega⟩ ⟨⟨by omega, by omega⟩, by omega⟩ (fun b hb => ⟨by omega, by omega⟩)
    rw [hW] at this
    exact this
  case assign =>
    intro W K hK
    gi_wp2
    exact hK
  case body =>
    intro pre x W hI hL hrow
    obtain ⟨r, hr⟩ := hL
    have hx := ord_of_mem (show x ∈ ordL (List.range c) c [] by rw [hr]; simp)
    have HM := minF_append (fun x => disS n T (rowF x) c) x pre (List.range c)
    have HD := Lib.hid (disagreement_any A (some ⟨w6.heap.size + 2 + 1, 0, none⟩) n cA c c T (rowF x) hc hn HT.out hx.2 W hrow.ints (Nat.le_refl _))
    have HP := Lib.hid hI.poll
    have HIn := Lib.hid hI
    have HRw := Lib.hid hrow
    obtain ⟨q, cq, r1, r2, r3, r4, r5, r6, r7, r8, r9⟩ := hI.best
    have cl := World.rowIs.cell hI.least (i := 0) (by omega)
    have zl := World.rowIs.frozen hI.least 0
    have cb := World.rowIs.cell r1 (i := 0) (by omega)
    have zb := World.rowIs.frozen r1 0
    have HR2 := Lib.hid r2
    have hsW := hrow.lt
    have hKm : Hid (minF (fun x => disS n T (rowF x) c) (List.range c) (pre ++ [x]) = if disS n T (rowF x) c < disS n T (rowF (minF (fun x => disS n T (rowF x) c) (List.range c) pre)) c then x else minF (fun x => disS n T (rowF x) c) (List.range c) pre) := Lib.hid HM
    clear hI hrow hr hx HM r1 r2 HK0 HR6
    have HN : Hid (∀ W' : World, Below W.heap.size W W' → ¬ disS n T (rowF x) c < disS n T (rowF (minF (fun x => disS n T (rowF x) c) (List.range c) pre)) c → KemI w A n cA c T w2.heap.size w4.heap.size (w6.heap.size + 1) (w6.heap.size + 2 + 1) (pre ++ [x]) W') := Lib.hid (fun W' hb hnl => by
      have h := HIn.out.below hb
      rw [if_neg hnl] at hKm
      obtain ⟨b1, b2, b3, b4⟩ := h
      refine ⟨?_, ?_, b3, b4⟩
      · rw [hKm.out]; exact b1
      · rw [hKm.out]; exact b2)
    have HY : Hid (∀ (W' : World) (g cap : Nat), Below w.heap.size w W' → W'.rowIs w2.heap.size 23 1 (fun _ => .slice (some ⟨g, 0, none⟩) c cap) → RowC W' g cap c (rowF x) → cap ≤ maxLen → W.heap.size ≤ g → W'.rowIs w4.heap.size 3 1 (fun _ => .int .i64 (disS n T (rowF x) c)) → PollI W' w.heap.size A n cA c T → disS n T (rowF x) c < disS n T (rowF (minF (fun x => disS n T (rowF x) c) (List.range c) pre)) c → KemI w A n cA c T w2.heap.size w4.heap.size (w6.heap.size + 1) (w6.heap.size + 2 + 1) (pre ++ [x]) W') := Lib.hid (fun W' g cap h1 h2 h3 h4 h5 h6 h7 hl => by
      rw [if_pos hl] at hKm
      refine ⟨⟨g, cap, h2, ?_, h4, by omega, by omega, by omega, by omega, by omega, by omega⟩, ?_, h7, h1⟩
      · rw [hKm.out]; exact h3
      · rw [hKm.out]; exact h6)
    have HLs := Lib.hid (World.rowIs.congr HIn.out.least (fun _ _ => rfl))
    obtain ⟨q', cq', r1', -⟩ := HIn.out.best
    have HBs := Lib.hid r1'
    clear r1' hKm
    generalize disS n T (rowF x) c = d at *
    generalize disS n T (rowF (minF (fun x => disS n T (rowF x) c) (List.range c) pre)) c = e0 at *
    by_cases hlt : d < e0
    · gi_wp2_with (first
        | (refine wpListIn_load_mid rfl 56 _ rfl w.heap.size 0 rfl (pollL A n cA c T) _ HP.out.range Try.underlying56 rfl (by rw [pollL_len]; exact infoPoll) ?_)
        | fail)
      refine ⟨trivial, ?_⟩
      refine CallsIn.mono (CallsIn.inRound _ (callsIn_wide.2 HD.out)) ?_
      rintro e W4 ⟨rfl, hb4⟩
      have cl4 := cell_keep cl hb4
      gi_wp2
      refine ⟨trivial, ?_⟩
      refine CallsIn.mono (CallsIn.inRound _ (callsIn_wide.2 (clone_any (some ⟨w6.heap.size + 2 + 1, 0, none⟩) c c (rowF x) W4 (HRw.out.keep hb4).ints (by omega)))) ?_
      rintro e W5 ⟨y, rfl, hy, -, hb5⟩
      obtain ⟨g, cap, rfl, hg, hcap, hG⟩ := hy.rowCm hc1
      have hb45 := hb4.trans (hb5.mono hb4.size)
      have cl5 := cell_keep cl4 hb5
      have zl5 := (World.frozen?_of_block (hb45.block w4.heap.size (cell_lt cl))).trans zl
      have cb5 := cell_keep cb hb45
      have zb5 := (World.frozen?_of_block (hb45.block w2.heap.size (cell_lt cb))).trans zb
      gi_wp2
      have e1 : Exc w2.heap.size W5 (W5.setCell ⟨w2.heap.size, 0, none⟩ (.slice (some ⟨g, 0, none⟩) c cap)) := (Exc.refl _ _).set 0 _
      have q1 : World.rowIs (W5.setCell ⟨w2.heap.size, 0, none⟩ (.slice (some ⟨g, 0, none⟩) c cap)) w2.heap.size 23 1 (fun _ => .slice (some ⟨g, 0, none⟩) c cap) := World.rowIs.congr (World.rowIs.set (World.rowIs.of_block HBs.out (hb45.block _ (cell_lt cb))) 0 (.slice (some ⟨g, 0, none⟩) c cap)) (fun j hj => by rw [if_pos (show j = 0 by omega)])
      have g1 := hG.setOther (a := ⟨w2.heap.size, 0, none⟩) (show g ≠ w2.heap.size by have := hb4.size; omega) (.slice (some ⟨g, 0, none⟩) c cap)
      have l1 := World.rowIs.of_block (World.rowIs.of_block HLs.out (hb45.block _ (cell_lt cl))) (e1.block _ (by have := hb45.size; have := cell_lt cl; show w4.heap.size < _; omega) (fun e => by injection e with e; omega))
      have p1 := World.rowIs.of_block (HP.out.keep hb45) (e1.block w.heap.size (by have := hb45.size; have := hb4.size; omega) (fun e => by injection e with e; omega))
      have s1 : (W5.setCell ⟨w2.heap.size, 0, none⟩ (.slice (some ⟨g, 0, none⟩) c cap)).heap.size = W5.heap.size := World.size_setCell _ _ _
      generalize W5.setCell ⟨w2.heap.size, 0, none⟩ (.slice (some ⟨g, 0, none⟩) c cap) = W6 at *
      have e2 : Exc w4.heap.size W6 (W6.setCell ⟨w4.heap.size, 0, none⟩ (.int .i64 d)) := (Exc.refl _ _).set 0 _
      have q2 := World.rowIs.of_block q1 (e2.block _ (World.rowIs.lt q1) (fun e => by injection e with e; omega))
      have g2 := g1.setOther (a := ⟨w4.heap.size, 0, none⟩) (show g ≠ w4.heap.size by have := hb4.size; omega) (.int .i64 d)
      have l2 : World.rowIs (W6.setCell ⟨w4.heap.size, 0, none⟩ (.int .i64 d)) w4.heap.size 3 1 (fun _ => .int .i64 d) := World.rowIs.congr (World.rowIs.set l1 0 (.int .i64 d)) (fun j hj => by rw [if_pos (show j = 0 by omega)])
      have p2 := World.rowIs.of_block p1 (e2.block w.heap.size (by have := hb45.size; have := hb4.size; omega) (fun e => by injection e with e; omega))
      have s2 : (W6.setCell ⟨w4.heap.size, 0, none⟩ (.int .i64 d)).heap.size = W6.heap.size := World.size_setCell _ _ _
      generalize W6.setCell ⟨w4.heap.size, 0, none⟩ (.int .i64 d) = W7 at *
      have hsz := hb45.size
      have hgW : W.heap.size ≤ g := Nat.le_trans hb4.size hg
      refine ⟨⟨by omega, fun b hb hlt2 => ?_⟩, HY.out W7 g cap ?_ q2 g2 hcap hgW l2 p2 hlt⟩
      · exact (e2.block b (by omega) (fun e => by injection e with e; exact hb.2 e)).trans ((e1.block b (by omega) (fun e => by injection e with e; exact hb.1 e)).trans (hb45.block b hlt2))
      · have hw := HIn.out.bel
        exact (hw.trans (hb45.mono hw.size)).trans ((e1.below (by omega) (Nat.le_trans hw.size hsz)).trans (e2.below (by omega) (by have := hw.size; omega)))
    · gi_wp2_with (first
        | (refine wpListIn_load_mid rfl 56 _ rfl w.heap.size 0 rfl (pollL A n cA c T) _ HP.out.range Try.underlying56 rfl (by rw [pollL_len]; exact infoPoll) ?_)
        | fail)
      refine ⟨trivial, ?_⟩
      refine CallsIn.mono (CallsIn.inRound _ (callsIn_wide.2 HD.out)) ?_
      rintro e W4 ⟨rfl, hb4⟩
      have cl4 := cell_keep cl hb4
      gi_wp2
      exact ⟨⟨hb4.size, fun b _ hb => hb4.block b hb⟩, HN.out _ hb4 hlt⟩
  case done =>
    intro D W hD hI hk
    obtain ⟨q, cq, r1, r2, r3, r4, r5, r6, r7, r8, r9⟩ := hI.best
    have cb := World.rowIs.cell r1 (i := 0) (by omega)
    have hbw := hI.bel
    clear r1 hI
    go_wp2
    refine ⟨by simp, .inl ⟨_, _, rfl, run_takeDeferred hk, ?_⟩⟩
    refine ⟨_, results_tmp rfl _ _ _, _, rfl, ?_, ?_⟩
    · exact (r2.of_block ((exc_putObj W D (.deferred none)).block q r2.lt (fun e => by injection e with e; omega))).ownL (by omega) r3
    · exact hbw.trans ((exc_putObj W D (.deferred none)).below (by omega) hbw.size)
end Go.Proofs.Ytnobbklnnkpdfaa
