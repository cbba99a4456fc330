/- axisOf and Axis. -/
import Derived.Test.YtnobbklnnkpdfaaFa
import Derived.Test.YtnobbklnnkpdfaaKo
import Derived.Test.YtnobbklnnkpdfaaUp
import Derived.Test.YtnobbklnnkpdfaaPk
import Derived.Test.YtnobbklnnkpdfaaRowC
import Derived.RangeFuncCalls
namespace Go.Proofs.Ytnobbklnnkpdfaa
open Go.RowKit
attribute [local go_sem] Oper.semAt_some

/-- The first order of the candidates that is an axis. -/
def axF (n : Nat) (L : Nat → Nat) (v : Nat → Nat → Int) (T : List Nat) : Option (List Nat) := (ordL T T.length []).find? (fun x => pkB n L v (rowF x) T.length)

theorem Ints.blocks {w W : World} {A : Option Addr} {n : Nat} {f : Nat → Int} (h : Ints w A n f) (hb : ∀ b, b < w.heap.size → W.heap[b]? = w.heap[b]?) : Ints W A n f := fun hn => by
  obtain ⟨b, o, e, hc⟩ := h hn
  exact ⟨b, o, e, fun k hk => cell_of_block (hb _ (World.block_lt_of_cell? _ _ (hc k hk))) (hc k hk)⟩
theorem find_at {α : Type} {p : α → Bool} {x : α} {r : List α} : ∀ {l : List α}, (∀ y ∈ l, p y = false) → p x = true → (l ++ x :: r).find? p = some x := by
  intro l
  induction l with
  | nil => intro _ hx; simp [hx]
  | cons a l ih =>
    intro h hx
    simp [h a (by simp), ih (fun y hy => h y (by simp [hy])) hx]
/-- None so far. -/
structure AxI (w : World) (A : Option Addr) (n cA : Nat) (L : Nat → Nat) (v : Nat → Nat → Int) (m : Nat) (pre : List (List Nat)) (W : World) : Prop where
  bal : W.rowIs w.heap.size 22 1 (fun _ => .slice A n cA)
  res : W.rowIs (w.heap.size + 1) 23 1 (fun _ => .slice none 0 0)
  ok : W.rowIs (w.heap.size + 2) 4 1 (fun _ => .bool false)
  bel : Below w.heap.size w W
  no : ∀ x ∈ pre, pkB n L v (rowF x) m = false
theorem AxI.exc {w W1 W2 : World} {A : Option Addr} {n cA m b : Nat} {L : Nat → Nat} {v : Nat → Nat → Int} {pre : List (List Nat)} (h : AxI w A n cA L v m pre W1) (he : Exc b W1 W2) (hb : w.heap.size + 2 < b) : AxI w A n cA L v m pre W2 := by
  have hbl : ∀ g, g ≤ w.heap.size + 2 → g < W1.heap.size → W2.heap[g]? = W1.heap[g]? := fun g k1 k3 => he.block g k3 (fun e => by injection e with e; omega)
  exact ⟨World.rowIs.of_block h.bal (hbl _ (by omega) (World.rowIs.lt h.bal)), World.rowIs.of_block h.res (hbl _ (by omega) (World.rowIs.lt h.res)), World.rowIs.of_block h.ok (hbl _ (by omega) (World.rowIs.lt h.ok)), h.bel.trans (he.below (by omega) h.bel.size), h.no⟩
theorem AxI.below {w W1 W2 : World} {A : Option Addr} {n cA m : Nat} {L : Nat → Nat} {v : Nat → Nat → Int} {pre : List (List Nat)} (h : AxI w A n cA L v m pre W1) (hb : Below W1.heap.size W1 W2) : AxI w A n cA L v m pre W2 :=
  ⟨World.rowIs.of_block h.bal (hb.block _ (World.rowIs.lt h.bal)), World.rowIs.of_block h.res (hb.block _ (World.rowIs.lt h.res)), World.rowIs.of_block h.ok (hb.block _ (World.rowIs.lt h.ok)), h.bel.trans (hb.mono h.bel.size), h.no⟩
/-- One was found. -/
structure AxJ (w : World) (n : Nat) (L : Nat → Nat) (v : Nat → Nat → Int) (m B : Nat) (all : List (List Nat)) (W : World) : Prop where
  res : W.rowIs (w.heap.size + 1) 23 1 (fun _ => .slice (some ⟨B, 0, none⟩) m m)
  ok : W.rowIs (w.heap.size + 2) 4 1 (fun _ => .bool true)
  bel : Below w.heap.size w W
  it : ∃ p x r, all = p ++ x :: r ∧ (∀ y ∈ p, pkB n L v (rowF y) m = false) ∧ pkB n L v (rowF x) m = true ∧ RowI W B m (rowF x)
theorem AxJ.exc {w W1 W2 : World} {n m B l : Nat} {L : Nat → Nat} {v : Nat → Nat → Int} {all : List (List Nat)} (h : AxJ w n L v m B all W1) (he : Exc l W1 W2) (hl : w.heap.size + 2 < l) (hB : l ≠ B) : AxJ w n L v m B all W2 := by
  have hbl : ∀ g, g ≠ l → g < W1.heap.size → W2.heap[g]? = W1.heap[g]? := fun g k1 k3 => he.block g k3 (fun e => by injection e with e; omega)
  obtain ⟨p, x, r, e1, e2, e3, e4⟩ := h.it
  exact ⟨World.rowIs.of_block h.res (hbl _ (by omega) (World.rowIs.lt h.res)), World.rowIs.of_block h.ok (hbl _ (by omega) (World.rowIs.lt h.ok)), h.bel.trans (he.below (by omega) h.bel.size), ⟨p, x, r, e1, e2, e3, World.rowIs.of_block e4 (hbl _ (fun e => hB e.symm) e4.lt)⟩⟩

set_option maxHeartbeats 2000000 in
set_option maxRecDepth 1000000 in
theorem axisOf_any (A D : Option Addr) (n cA cap : Nat) (L : Nat → Nat) (v : Nat → Nat → Int) (T : List Nat) (w : World) (h : RowsK w A n L v) (hn : n ≤ 1000) (hL : ∀ i, i < n → L i ≤ 1000) (hD : Ints w D T.length (rowF T)) (_hcap : T.length ≤ cap) (hT : T.length ≤ 9) (hDb : ∀ b o, D = some ⟨b, o, none⟩ → b < w.heap.size) :
    Calls Try.prog 54 #[.slice A n cA, .slice D T.length cap] w fun e w' => (∃ g x, axF n L v T = some x ∧ e = .returned (.tuple #[.slice (some ⟨g, 0, none⟩) T.length T.length, .bool true]) ∧ w.heap.size ≤ g ∧ RowI w' g T.length (rowF x) ∧ Below w.heap.size w w') ∨
      (axF n L v T = none ∧ e = .returned (.tuple #[.slice none 0 0, .bool false]) ∧ Below w.heap.size w w') := by
  have H := Lib.hid h
  have HL := Lib.hid hL
  have HD := Lib.hid hD
  have HDb := Lib.hid hDb
  have HF : Hid (axF n L v T = (ordL T T.length []).find? (fun x => pkB n L v (rowF x) T.length)) := Lib.hid rfl
  clear h hL hD hDb
  refine (callsIn_wide (n := 3)).1 (callsIn_of_wp_marks Try.func54 rfl trivial ?_ rfl)
  simp only [Try.ntmps54, List.size_toArray, List.length_cons, List.length_nil, Nat.reduceAdd, Nat.reduceSub, Array.replicate_succ, Array.replicate_zero, List.push_toArray, List.append_toArray, List.nil_append, List.cons_append]
  rw [wpIn_wide]
  go_wp2_with fail
  have r0 := box_row w (.slice A n cA) 22
  have b1 : Below w.heap.size w (w.alloc (.cells #[.slice A n cA] 22)) := (Below.refl _ w).alloc (Nat.le_refl _) _
  have s1 : (w.alloc (.cells #[.slice A n cA] 22)).heap.size = w.heap.size + 1 := by simp
  generalize w.alloc (.cells #[.slice A n cA] 22) = X1 at *
  have r1 := box_row X1 (.slice none 0 0) 23
  have b2 : Below X1.heap.size X1 (X1.alloc (.cells #[.slice none 0 0] 23)) := (Below.refl _ X1).alloc (Nat.le_refl _) _
  have s2 : (X1.alloc (.cells #[.slice none 0 0] 23)).heap.size = w.heap.size + 2 := by simp [s1]
  generalize X1.alloc (.cells #[.slice none 0 0] 23) = X2 at *
  have r2 := box_row X2 (.bool false) 4
  have b3 : Below X2.heap.size X2 (X2.alloc (.cells #[.bool false] 4)) := (Below.refl _ X2).alloc (Nat.le_refl _) _
  have s3 : (X2.alloc (.cells #[.bool false] 4)).heap.size = w.heap.size + 3 := by simp [s2]
  generalize X2.alloc (.cells #[.bool false] 4) = X3 at *
  rw [s1] at r1
  rw [s2] at r2
  refine (orders_any D T.length cap T.length X3).mono ?_
  rintro e w6 ⟨ps, pt, rfl, hps, hpt, hne, hcs, hct, hb6⟩
  have hs6 := hb6.size
  have hb63 := b3.trans (hb6.mono (by omega))
  have hb62 := b2.trans (hb63.mono (by omega))
  have HB6 := Lib.hid (b1.trans (hb62.mono (by omega)))
  have HI0 : Hid (AxI w A n cA L v T.length [] w6) := Lib.hid
    { bal := World.rowIs.of_block r0 (hb62.block _ (by omega))
      res := World.rowIs.of_block r1 (hb63.block _ (by omega))
      ok := World.rowIs.of_block r2 (hb6.block _ (by omega))
      bel := HB6.out
      no := by simp }
  have hpsl : ps < w6.heap.size := cell_lt hcs
  have hptl : pt < w6.heap.size := cell_lt hct
  clear r0 r1 r2 b1 b2 b3 hb6 hb62 hb63
  go_wp2_with fail
  rw [← wpIn_wide (n := 3)]
  refine wpIn_rangeRows (F := Fence.wide) (n := 3) (gf := 67) (lb := #[.pointer (some ⟨ps, 0, none⟩), .pointer (some ⟨pt, 0, none⟩)]) (B := w6.heap.size + 2 + 1) (m := T.length) (Kb := fun b => b ≠ w.heap.size + 1 ∧ b ≠ w.heap.size + 2) (L := ordL T T.length [])
    rfl (by omega) rfl trivial (enters_of Try.func67 (by kernel_rfl) rfl) (fun b hb => ⟨by omega, by omega⟩) ?seq rfl
    (AxI w A n cA L v T.length) (fun c _ W => c = .ret ∧ AxJ w n L v T.length (w6.heap.size + 2 + 1) (ordL T T.length []) W)
    (fun s W1 W2 b hb hi he => hi.exc he (by omega)) (fun c s W1 W2 hx he => ⟨hx.1, hx.2.exc he (by omega) (by omega)⟩) (by omega) HI0.out
    ?act ?assign ?body ?done ?stop
  case seq =>
    intro W hW hWb
    have := orders1_rows D cap T.length T hT hT ps pt (w6.heap.size + 1) (3 - 1) (fun b => b ≠ w.heap.size + 1 ∧ b ≠ w.heap.size + 2) W (cell_of_block (hWb _ hpsl) hcs) (cell_of_block (hWb _ hptl) hct)
      (HD.out.blocks (fun b hb => (hWb b (by omega)).trans (HB6.out.block b hb)))
      (fun b o e => by have := HDb.out b o e; exact ⟨by omega, ⟨by omega, by omega⟩, by omega⟩) (by omega) ⟨⟨by omega, by omega⟩, by omega⟩ ⟨⟨by omega, by omega⟩, by omega⟩ (fun b hb => ⟨by omega, by omega⟩)
    rw [hW] at this
    exact this
  case assign =>
    intro W K hK
    gi_wp2
    exact hK
  case body =>
    intro pre x W hI hL hrow
    have HIn := Lib.hid hI
    have c0 := World.rowIs.cell hI.bal (i := 0) (by omega)
    have c1 := World.rowIs.cell hI.res (i := 0) (by omega)
    have z1 := World.rowIs.frozen hI.res 0
    have c2 := World.rowIs.cell hI.ok (i := 0) (by omega)
    have z2 := World.rowIs.frozen hI.ok 0
    have HRw := Lib.hid hrow
    have hsW := hrow.lt
    have HO := Lib.hid (onePeak_any A (some ⟨w6.heap.size + 2 + 1, 0, none⟩) n cA T.length T.length L v (rowF x) W (H.out.keep hI.bel) hn HL.out hrow.ints (Nat.le_refl _) (by omega))
    have HLr := Lib.hid hL
    clear hI hrow hL HI0
    cases hpk : pkB n L v (rowF x) T.length with
    | false =>
      rw [hpk] at HO
      have HP := Lib.hid hpk
      clear hpk
      gi_wp2
      refine ⟨trivial, ?_⟩
      refine CallsIn.mono (CallsIn.inRound _ (callsIn_wide.2 HO.out)) ?_
      rintro e W4 ⟨rfl, hd4⟩
      have hb4 : Below W.heap.size W W4 := (show Dn W W4 from hd4).below _
      gi_wp2
      refine ⟨⟨hb4.size, fun b _ hb => hb4.block b hb⟩, ?_⟩
      have h := HIn.out.below hb4
      exact { bal := h.bal, res := h.res, ok := h.ok, bel := h.bel, no := fun y hy => by
                rcases List.mem_append.1 hy with hy | hy
                · exact h.no y hy
                · rw [List.mem_singleton] at hy
                  rw [hy]; exact HP.out }
    | true =>
      rw [hpk] at HO
      have HP := Lib.hid hpk
      clear hpk
      gi_wp2
      refine ⟨trivial, ?_⟩
      refine CallsIn.mono (CallsIn.inRound _ (callsIn_wide.2 HO.out)) ?_
      rintro e W4 ⟨rfl, hd4⟩
      have hb4 : Below W.heap.size W W4 := (show Dn W W4 from hd4).below _
      have d1 := cell_keep c1 hb4
      have y1 := (World.frozen?_of_block (hb4.block (w.heap.size + 1) (cell_lt c1))).trans z1
      have d2 := cell_keep c2 hb4
      have y2 := (World.frozen?_of_block (hb4.block (w.heap.size + 2) (cell_lt c2))).trans z2
      gi_wp2
      have e1 : Exc (w.heap.size + 1) W4 (W4.setCell ⟨w.heap.size + 1, 0, none⟩ (.slice (some ⟨w6.heap.size + 2 + 1, 0, none⟩) T.length T.length)) := (Exc.refl _ _).set 0 _
      have q1 : World.rowIs (W4.setCell ⟨w.heap.size + 1, 0, none⟩ (.slice (some ⟨w6.heap.size + 2 + 1, 0, none⟩) T.length T.length)) (w.heap.size + 1) 23 1 (fun _ => .slice (some ⟨w6.heap.size + 2 + 1, 0, none⟩) T.length T.length) := World.rowIs.congr (World.rowIs.set (World.rowIs.of_block HIn.out.res (hb4.block _ (cell_lt c1))) 0 (.slice (some ⟨w6.heap.size + 2 + 1, 0, none⟩) T.length T.length)) (fun j hj => by rw [if_pos (show j = 0 by omega)])
      have o1 := World.rowIs.of_block (World.rowIs.of_block HIn.out.ok (hb4.block _ (cell_lt c2))) (e1.block _ (by have := hb4.size; have := cell_lt c2; show w.heap.size + 2 < _; omega) (fun e => by injection e with e; omega))
      have s1' : (W4.setCell ⟨w.heap.size + 1, 0, none⟩ (.slice (some ⟨w6.heap.size + 2 + 1, 0, none⟩) T.length T.length)).heap.size = W4.heap.size := World.size_setCell _ _ _
      generalize W4.setCell ⟨w.heap.size + 1, 0, none⟩ (.slice (some ⟨w6.heap.size + 2 + 1, 0, none⟩) T.length T.length) = W5 at *
      have e2 : Exc (w.heap.size + 2) W5 (W5.setCell ⟨w.heap.size + 1 + 1, 0, none⟩ (.bool true)) := (Exc.refl _ _).set 0 _
      have o2 : World.rowIs (W5.setCell ⟨w.heap.size + 1 + 1, 0, none⟩ (.bool true)) (w.heap.size + 2) 4 1 (fun _ => .bool true) := World.rowIs.congr (World.rowIs.set o1 0 (.bool true)) (fun j hj => by rw [if_pos (show j = 0 by omega)])
      have q2 := World.rowIs.of_block q1 (e2.block _ (World.rowIs.lt q1) (fun e => by injection e with e; omega))
      have s2' : (W5.setCell ⟨w.heap.size + 1 + 1, 0, none⟩ (.bool true)).heap.size = W5.heap.size := World.size_setCell _ _ _
      generalize W5.setCell ⟨w.heap.size + 1 + 1, 0, none⟩ (.bool true) = W6 at *
      have hsz := hb4.size
      have hblk : ∀ b, b ≠ w.heap.size + 1 → b ≠ w.heap.size + 2 → b < W.heap.size → W6.heap[b]? = W.heap[b]? := fun b k1 k2 k3 =>
        (e2.block b (by omega) (fun e => by injection e with e; omega)).trans ((e1.block b (by omega) (fun e => by injection e with e; omega)).trans (hb4.block b k3))
      refine ⟨⟨by omega, fun b hb hlt2 => hblk b hb.1 hb.2 hlt2⟩, rfl, ?_⟩
      have hw := HIn.out.bel
      refine { res := q2, ok := o2, bel := ?_, it := ⟨pre, x, HLr.out.choose, HLr.out.choose_spec, HIn.out.no, HP.out, World.rowIs.of_block HRw.out (hblk _ (by omega) (by omega) hsW)⟩ }
      exact (hw.trans (hb4.mono hw.size)).trans ((e1.below (by omega) (Nat.le_trans hw.size hsz)).trans (e2.below (by omega) (by have := hw.size; omega)))
  case done =>
    intro D W hD hI hk
    have c1 := World.rowIs.cell hI.res (i := 0) (by omega)
    have z1 := World.rowIs.frozen hI.res 0
    have c2 := World.rowIs.cell hI.ok (i := 0) (by omega)
    have z2 := World.rowIs.frozen hI.ok 0
    have HIn := Lib.hid hI
    clear hI
    go_wp2
    have e1 : Exc (w.heap.size + 1) W (W.setCell ⟨w.heap.size + 1, 0, none⟩ (.slice none 0 0)) := (Exc.refl _ _).set 0 _
    have q1 : World.rowIs (W.setCell ⟨w.heap.size + 1, 0, none⟩ (.slice none 0 0)) (w.heap.size + 1) 23 1 (fun _ => .slice none 0 0) := World.rowIs.congr (World.rowIs.set HIn.out.res 0 (.slice none 0 0)) (fun j hj => by rw [if_pos (show j = 0 by omega)])
    have o1 := World.rowIs.of_block HIn.out.ok (e1.block _ (cell_lt c2) (fun e => by injection e with e; omega))
    have k1 := (e1.block D (by have := (Array.getElem?_eq_some_iff.1 hk).1; exact this) (fun e => by injection e with e; omega)).trans hk
    generalize W.setCell ⟨w.heap.size + 1, 0, none⟩ (.slice none 0 0) = W5 at *
    have e2 : Exc (w.heap.size + 2) W5 (W5.setCell ⟨w.heap.size + 1 + 1, 0, none⟩ (.bool false)) := (Exc.refl _ _).set 0 _
    have o2 : World.rowIs (W5.setCell ⟨w.heap.size + 1 + 1, 0, none⟩ (.bool false)) (w.heap.size + 2) 4 1 (fun _ => .bool false) := World.rowIs.congr (World.rowIs.set o1 0 (.bool false)) (fun j hj => by rw [if_pos (show j = 0 by omega)])
    have q2 := World.rowIs.of_block q1 (e2.block _ (World.rowIs.lt q1) (fun e => by injection e with e; omega))
    have k2 := (e2.block D (by have := (Array.getElem?_eq_some_iff.1 k1).1; exact this) (fun e => by injection e with e; omega)).trans k1
    generalize W5.setCell ⟨w.heap.size + 1 + 1, 0, none⟩ (.bool false) = W6 at *
    have HB := Lib.hid (HIn.out.bel.trans ((e1.below (by omega) HIn.out.bel.size).trans (e2.below (by omega) (by have := HIn.out.bel.size; have := e1.size; omega))))
    refine ⟨by simp, .inl ⟨_, _, rfl, run_takeDeferred k2, ?_⟩⟩
    have e3 := exc_putObj W6 D (.deferred none)
    have q3 := World.rowIs.cell (World.rowIs.of_block q2 (e3.block _ (World.rowIs.lt q2) (fun e => by injection e with e; omega))) (i := 0) (by omega)
    have o3 := World.rowIs.cell (World.rowIs.of_block o2 (e3.block _ (World.rowIs.lt o2) (fun e => by injection e with e; omega))) (i := 0) (by omega)
    refine ⟨.tuple #[.slice none 0 0, .bool false], by simp [results, Try.results54, go_sem, q3, o3], .inr ⟨?_, rfl, HB.out.trans (e3.below (by omega) HB.out.size)⟩⟩
    rw [HF.out]
    exact List.find?_eq_none.2 (fun x hx => by rw [HIn.out.no x hx]; decide)
  case stop =>
    intro D c pre W hD hx hk
    obtain ⟨rfl, hx⟩ := hx
    obtain ⟨p, x, r, e1, h2, h3, h4⟩ := hx.it
    have HX := Lib.hid hx
    clear hx
    gi_wp2
    refine ⟨by simp, .inl ⟨_, _, rfl, run_takeDeferred hk, ?_⟩⟩
    have e3 := exc_putObj W D (.deferred none)
    have q3 := World.rowIs.cell (World.rowIs.of_block HX.out.res (e3.block _ (World.rowIs.lt HX.out.res) (fun e => by injection e with e; omega))) (i := 0) (by omega)
    have o3 := World.rowIs.cell (World.rowIs.of_block HX.out.ok (e3.block _ (World.rowIs.lt HX.out.ok) (fun e => by injection e with e; omega))) (i := 0) (by omega)
    refine ⟨.tuple #[.slice (some ⟨w6.heap.size + 2 + 1, 0, none⟩) T.length T.length, .bool true], by simp [results, Try.results54, go_sem, q3, o3], .inl ⟨w6.heap.size + 2 + 1, x, ?_, rfl, by omega, World.rowIs.of_block h4 (e3.block _ h4.lt (fun e => by injection e with e; omega)), HX.out.bel.trans (e3.below (by omega) HX.out.bel.size)⟩⟩
    rw [HF.out, e1]
    exact find_at (fun y hy => by simpa using h2 y hy) h3
end Go.Proofs.Ytnobbklnnkpdfaa
