/- swap: Better, Order (ranges over orders that hand back an order). -/
import Derived.Test.YtocfbafcplhmiaaUy
import Derived.Test.YtocfbafcplhmiaaEq
import Derived.Test.YtocfbafcplhmiaaMk
namespace Go.Proofs.Ytocfbafcplhmiaa
open Go.RowKit Go.Sort
attribute [local go_sem] Oper.semAt_some

theorem find_atU {α : Type} {p : α → Bool} {x : α} {r : List α} : ∀ {l : List α}, (∀ y ∈ l, p y = false) → p x = true → (l ++ x :: r).find? p = some x := by
  intro l
  induction l with
  | nil => intro _ hx; simp [hx]
  | cons a l ih =>
    intro h hx
    simp [h a (by simp), ih (fun y hy => h y (by simp [hy])) hx]
/-- None so far: an outcome's box, two results, the wishes in block g. -/
structure BeI (w : World) (g : Nat) (A : Option Addr) (n c : Nat) (G : Option Addr) (cG : Nat) (p : List Nat → Bool) (pre : List (List Nat)) (W : World) : Prop where
  out : W.cell? ⟨w.heap.size, 0, none⟩ = some (.slice G n cG)
  res : W.rowIs (w.heap.size + 1) 23 1 (fun _ => .slice none 0 0)
  err : W.rowIs (w.heap.size + 2) 27 1 (fun _ => .int .i64 0)
  wish : Bx2 W g (.int .i64 n) (.slice A n c)
  bel : Below w.heap.size w W
  no : ∀ x ∈ pre, p x = false
section
variable {w W1 W2 : World} {g : Nat} {A : Option Addr} {n c : Nat} {G : Option Addr} {cG : Nat} {p : List Nat → Bool} {pre : List (List Nat)}
theorem BeI.of_blocks (h : BeI w g A n c G cG p pre W1) (hb : ∀ b, w.heap.size ≤ b → b ≤ w.heap.size + 2 ∨ b = g → b < W1.heap.size → W2.heap[b]? = W1.heap[b]?) (hg : w.heap.size ≤ g) (hB : Below w.heap.size w W2) : BeI w g A n c G cG p pre W2 where
  out := cell_of_block (hb _ (by simp) (by simp) (cell_lt h.out)) h.out
  res := World.rowIs.of_block h.res (hb _ (by simp) (by simp) (World.rowIs.lt h.res))
  err := World.rowIs.of_block h.err (hb _ (by simp) (by simp) (World.rowIs.lt h.err))
  wish := ⟨cell_of_block (hb _ hg (.inr rfl) (cell_lt h.wish.1)) h.wish.1, cell_of_block (hb _ hg (.inr rfl) (cell_lt h.wish.2)) h.wish.2⟩
  bel := hB
  no := h.no
theorem BeI.exc {b : Nat} (h : BeI w g A n c G cG p pre W1) (he : Exc b W1 W2) (hb : w.heap.size + 2 < b) (hbg : b ≠ g) (hg : w.heap.size ≤ g) : BeI w g A n c G cG p pre W2 :=
  h.of_blocks (fun q k1 k2 k3 => he.block q k3 (fun e => by injection e with e; omega)) hg (h.bel.trans (he.below (by omega) h.bel.size))
theorem BeI.below (h : BeI w g A n c G cG p pre W1) (hb : Below W1.heap.size W1 W2) (hg : w.heap.size ≤ g) : BeI w g A n c G cG p pre W2 :=
  h.of_blocks (fun q _ _ k3 => hb.block q k3) hg (h.bel.trans (hb.mono h.bel.size))
theorem BeI.snoc {x : List Nat} (h : BeI w g A n c G cG p pre W1) (hx : p x = false) : BeI w g A n c G cG p (pre ++ [x]) W1 :=
  ⟨h.out, h.res, h.err, h.wish, h.bel, fun y hy => by
    rcases List.mem_append.1 hy with hy | hy
    · exact h.no y hy
    · rw [List.mem_singleton] at hy
      rw [hy]
      exact hx⟩
/-- One was found, and a clone of it laid. -/
structure BeJ (w : World) (n : Nat) (l B : Nat) (p : List Nat → Bool) (all : List (List Nat)) (W : World) : Prop where
  res : ∃ q cq, W.rowIs (w.heap.size + 1) 23 1 (fun _ => .slice (some ⟨q, 0, none⟩) n cq) ∧ q ≠ l ∧ w.heap.size + 2 < q ∧ cq ≤ maxLen ∧ ∃ f x r, all = f ++ x :: r ∧ (∀ y ∈ f, p y = false) ∧ p x = true ∧ RowC W q cq n (rowF x)
  err : W.rowIs (w.heap.size + 2) 27 1 (fun _ => .int .i64 0)
  bel : Below w.heap.size w W
theorem BeJ.exc {l B : Nat} {all : List (List Nat)} (h : BeJ w n l B p all W1) (he : Exc l W1 W2) (hl : w.heap.size + 2 < l) : BeJ w n l B p all W2 := by
  obtain ⟨q, cq, h1, h2, h3, h4, f, x, r, e1, e2, e3, F, k1, k2, k3⟩ := h.res
  exact ⟨⟨q, cq, World.rowIs.of_block h1 (he.block _ (World.rowIs.lt h1) (fun e => by injection e with e; omega)), h2, h3, h4, f, x, r, e1, e2, e3, F, World.rowIs.of_block k1 (he.block _ (World.rowIs.lt k1) (fun e => by injection e with e; omega)), k2, k3⟩, World.rowIs.of_block h.err (he.block _ (World.rowIs.lt h.err) (fun e => by injection e with e; omega)), h.bel.trans (he.below (by omega) h.bel.size)⟩
end
/-- h gets better. -/
def btP (t : Nat → Nat → Nat) (n : Nat) (h : Nat → Nat) (x : List Nat) : Bool := gnB t n (2 ^ n - 1) (rN x) h
/-- Choosing in this order gives h. -/
def odP (t : Nat → Nat → Nat) (n : Nat) (h : Nat → Nat) (x : List Nat) : Bool := eqB n n (fun k => (chF t n (rN x) k : Int)) (fun k => (h k : Int))

set_option maxHeartbeats 2000000 in
set_option maxRecDepth 1000000 in
theorem Better_bad (A : Option Addr) (n c : Nat) (L : Nat → Nat) (v : Nat → Nat → Int) (G : Option Addr) (m cG : Nat) (w : World) (h : RowsK w A n L v) (hn : n ≤ 1000) (hL : ∀ i, i < n → L i ≤ 1000) (hok : okS n L v = false) :
    Lr 31 #[.slice A n c, .slice G m cG] w (.tuple #[.slice none 0 0, .int .i64 2]) := by
  unfold Lr
  have HRd := Lib.hid (fun w' (hb : Below w.heap.size w w') => read_any A n c L v w' (h.keep hb) hn hL)
  rw [hok] at HRd
  clear h hL hok
  refine (callsIn_wide (n := 3)).1 (callsIn_of_wp_marks Try.func31 rfl trivial ?_ rfl)
  simp only [Try.ntmps31, List.size_toArray, List.length_cons, List.length_nil, Nat.reduceAdd, Nat.reduceSub, Array.replicate_succ, Array.replicate_zero, List.push_toArray, List.append_toArray, List.nil_append, List.cons_append]
  rw [wpIn_wide]
  go_wp2_with fail
  have r0 := box1_at w (.slice G m cG) 23
  have b1 := box_bel w (.cells #[.slice G m cG] 23)
  have s1 : (w.alloc (.cells #[.slice G m cG] 23)).heap.size = w.heap.size + 1 := by simp
  generalize w.alloc (.cells #[.slice G m cG] 23) = X1 at *
  have r1 := box_row X1 (.slice none 0 0) 23
  have b2 := box_bel X1 (.cells #[.slice none 0 0] 23)
  have s2 : (X1.alloc (.cells #[.slice none 0 0] 23)).heap.size = w.heap.size + 2 := by simp [s1]
  generalize X1.alloc (.cells #[.slice none 0 0] 23) = X2 at *
  have r2 := box_row X2 (.int .i64 0) 27
  have b3 := box_bel X2 (.cells #[.int .i64 0] 27)
  have s3 : (X2.alloc (.cells #[.int .i64 0] 27)).heap.size = w.heap.size + 3 := by simp [s2]
  generalize X2.alloc (.cells #[.int .i64 0] 27) = X3 at *
  rw [s1] at r1
  rw [s2] at r2
  have b23 := b2.trans (b3.mono (by omega))
  have r0 := cell_on r0 b23
  have r1 := World.rowIs.of_block r1 (b3.block _ (World.rowIs.lt r1))
  have HB3 := Lib.hid (b1.trans (b23.mono (by omega)))
  clear b1 b2 b3 b23 s1 s2
  refine (HRd.out X3 HB3.out).use fun w4 hb4 => ?_
  have hs4 := hb4.size
  have hal := hb4.trans ((box_bel w4 (.cells #[.int .i64 0, .slice none 0 0] 50)).mono hb4.size)
  have hx := box2_at w4 (.int .i64 0) (.slice none 0 0) 50
  have hsg : (w4.alloc (.cells #[.int .i64 0, .slice none 0 0] 50)).heap.size = w4.heap.size + 1 := by simp
  have r0 := cell_on r0 hal
  have r1 := World.rowIs.of_block r1 (hal.block _ (World.rowIs.lt r1))
  have r2 := World.rowIs.of_block r2 (hal.block _ (World.rowIs.lt r2))
  have HB4 := Lib.hid (HB3.out.trans (hal.mono HB3.out.size))
  clear hal hb4 HRd
  unfold rdV
  simp only [Bool.false_eq_true, if_false]
  obtain ⟨X, hX⟩ : ∃ X, X = w4.alloc (.cells #[.int .i64 0, .slice none 0 0] 50) := ⟨_, rfl⟩
  rw [← hX] at hx hsg r0 r1 r2 HB4
  have e1 : Exc (w.heap.size + 1) X (X.setCell ⟨w.heap.size + 1, 0, none⟩ (.slice none 0 0)) := (Exc.refl _ _).set 0 _
  have q1 : World.rowIs (X.setCell ⟨w.heap.size + 1, 0, none⟩ (.slice none 0 0)) (w.heap.size + 1) 23 1 (fun _ => .slice none 0 0) := World.rowIs.congr (World.rowIs.set r1 0 (.slice none 0 0)) (fun j hj => by rw [if_pos (show j = 0 by omega)])
  have o1 := World.rowIs.of_block r2 (e1.block _ (World.rowIs.lt r2) (fun e => by injection e with e; omega))
  have c2 : (X.setCell ⟨w.heap.size + 1, 0, none⟩ (.slice none 0 0)).cell? ⟨w.heap.size + 1 + 1, 0, none⟩ = some (.int .i64 0) := World.rowIs.cell o1 (i := 0) (by omega)
  have z2 : (X.setCell ⟨w.heap.size + 1, 0, none⟩ (.slice none 0 0)).frozen? ⟨w.heap.size + 1 + 1, 0, none⟩ = false := World.rowIs.frozen o1 0
  have hbe := HB4.out.trans (e1.below (by omega) HB4.out.size)
  have c1 := World.rowIs.cell r1 (i := 0) (by omega)
  have z1 := World.rowIs.frozen r1 0
  have e2 : Exc (w.heap.size + 2) (X.setCell ⟨w.heap.size + 1, 0, none⟩ (.slice none 0 0)) ((X.setCell ⟨w.heap.size + 1, 0, none⟩ (.slice none 0 0)).setCell ⟨w.heap.size + 1 + 1, 0, none⟩ (.int .i64 2)) := (Exc.refl _ _).set 0 _
  have o2 : World.rowIs ((X.setCell ⟨w.heap.size + 1, 0, none⟩ (.slice none 0 0)).setCell ⟨w.heap.size + 1 + 1, 0, none⟩ (.int .i64 2)) (w.heap.size + 2) 27 1 (fun _ => .int .i64 2) := World.rowIs.congr (World.rowIs.set o1 0 (.int .i64 2)) (fun j hj => by rw [if_pos (show j = 0 by omega)])
  have q2 := World.rowIs.of_block q1 (e2.block _ (World.rowIs.lt q1) (fun e => by injection e with e; omega))
  have HBf := Lib.hid (hbe.trans (e2.below (by omega) hbe.size))
  have HD1 := Lib.hid q2
  have HD2 := Lib.hid o2
  rw [hX] at c1 z1 c2 z2 HBf HD1 HD2
  clear hx hsg r0 r1 r2 q1 q2 o1 o2 e1 e2 hbe hX
  go_wp2
  refine leaves_marks (B := 0) [] _ (Marks.nil _ _) (fun w' hs => ?_)
  have g1 := World.rowIs.cell (World.rowIs.of_block HD1.out (hs.block _ (World.rowIs.lt HD1.out) (by simp))) (i := 0) (by omega)
  have g2 := World.rowIs.cell (World.rowIs.of_block HD2.out (hs.block _ (World.rowIs.lt HD2.out) (by simp))) (i := 0) (by omega)
  exact ⟨.tuple #[.slice none 0 0, .int .i64 2], by simp [results, Try.results31, go_sem, g1, g2], rfl, HBf.out.trans (hs.below (B := w.heap.size) (by simp) HBf.out.size)⟩
set_option maxHeartbeats 2000000 in
set_option maxRecDepth 1000000 in
theorem Better_bad2 (A : Option Addr) (n c : Nat) (L : Nat → Nat) (v : Nat → Nat → Int) (G : Option Addr) (m cG : Nat) (f : Nat → Int) (w : World) (h : RowsK w A n L v) (hn : n ≤ 1000) (hL : ∀ i, i < n → L i ≤ 1000) (hok : okS n L v = true)
    (hG : Ints w G m f) (hm : m ≤ 1000) (hmc : m ≤ cG) (hof : ordB n m f = false) :
    Lr 31 #[.slice A n c, .slice G m cG] w (.tuple #[.slice none 0 0, .int .i64 2]) := by
  unfold Lr
  have HRd := Lib.hid (fun w' (hb : Below w.heap.size w w') => read_any A n c L v w' (h.keep hb) hn hL)
  rw [hok] at HRd
  have hn15 := (okS_iff.1 hok).1
  have HO := Lib.hid (fun w (h : Ints w G m f) => isOrder_any G m cG n f w h hm hmc hn15)
  rw [hof] at HO
  have HG := Lib.hid hG
  clear h hL hok hG hof
  refine (callsIn_wide (n := 3)).1 (callsIn_of_wp_marks Try.func31 rfl trivial ?_ rfl)
  simp only [Try.ntmps31, List.size_toArray, List.length_cons, List.length_nil, Nat.reduceAdd, Nat.reduceSub, Array.replicate_succ, Array.replicate_zero, List.push_toArray, List.append_toArray, List.nil_append, List.cons_append]
  rw [wpIn_wide]
  go_wp2_with fail
  have r0 := box1_at w (.slice G m cG) 23
  have b1 := box_bel w (.cells #[.slice G m cG] 23)
  have s1 : (w.alloc (.cells #[.slice G m cG] 23)).heap.size = w.heap.size + 1 := by simp
  generalize w.alloc (.cells #[.slice G m cG] 23) = X1 at *
  have r1 := box_row X1 (.slice none 0 0) 23
  have b2 := box_bel X1 (.cells #[.slice none 0 0] 23)
  have s2 : (X1.alloc (.cells #[.slice none 0 0] 23)).heap.size = w.heap.size + 2 := by simp [s1]
  generalize X1.alloc (.cells #[.slice none 0 0] 23) = X2 at *
  have r2 := box_row X2 (.int .i64 0) 27
  have b3 := box_bel X2 (.cells #[.int .i64 0] 27)
  have s3 : (X2.alloc (.cells #[.int .i64 0] 27)).heap.size = w.heap.size + 3 := by simp [s2]
  generalize X2.alloc (.cells #[.int .i64 0] 27) = X3 at *
  rw [s1] at r1
  rw [s2] at r2
  have b23 := b2.trans (b3.mono (by omega))
  have r0 := cell_on r0 b23
  have r1 := World.rowIs.of_block r1 (b3.block _ (World.rowIs.lt r1))
  have HB3 := Lib.hid (b1.trans (b23.mono (by omega)))
  clear b1 b2 b3 b23 s1 s2
  refine (HRd.out X3 HB3.out).use fun w4 hb4 => ?_
  have hs4 := hb4.size
  have hal := hb4.trans ((box_bel w4 (.cells #[.int .i64 n, .slice A n c] 50)).mono hb4.size)
  have hx := box2_at w4 (.int .i64 n) (.slice A n c) 50
  have hsg : (w4.alloc (.cells #[.int .i64 n, .slice A n c] 50)).heap.size = w4.heap.size + 1 := by simp
  have r0 := cell_on r0 hal
  have r1 := World.rowIs.of_block r1 (hal.block _ (World.rowIs.lt r1))
  have r2 := World.rowIs.of_block r2 (hal.block _ (World.rowIs.lt r2))
  have HB4 := Lib.hid (HB3.out.trans (hal.mono HB3.out.size))
  clear hal hb4 HRd
  unfold rdV
  simp only [if_true]
  obtain ⟨X, hX⟩ : ∃ X, X = w4.alloc (.cells #[.int .i64 n, .slice A n c] 50) := ⟨_, rfl⟩
  rw [← hX] at hx hsg r0 r1 r2 HB4
  have x0 := hx.1
  have HOx := Lib.hid (HO.out X (HG.out.keep HB4.out))
  have e1 : Exc (w.heap.size + 1) X (X.setCell ⟨w.heap.size + 1, 0, none⟩ (.slice none 0 0)) := (Exc.refl _ _).set 0 _
  have q1 : World.rowIs (X.setCell ⟨w.heap.size + 1, 0, none⟩ (.slice none 0 0)) (w.heap.size + 1) 23 1 (fun _ => .slice none 0 0) := World.rowIs.congr (World.rowIs.set r1 0 (.slice none 0 0)) (fun j hj => by rw [if_pos (show j = 0 by omega)])
  have o1 := World.rowIs.of_block r2 (e1.block _ (World.rowIs.lt r2) (fun e => by injection e with e; omega))
  have c2 : (X.setCell ⟨w.heap.size + 1, 0, none⟩ (.slice none 0 0)).cell? ⟨w.heap.size + 1 + 1, 0, none⟩ = some (.int .i64 0) := World.rowIs.cell o1 (i := 0) (by omega)
  have z2 : (X.setCell ⟨w.heap.size + 1, 0, none⟩ (.slice none 0 0)).frozen? ⟨w.heap.size + 1 + 1, 0, none⟩ = false := World.rowIs.frozen o1 0
  have hbe := HB4.out.trans (e1.below (by omega) HB4.out.size)
  have c1 := World.rowIs.cell r1 (i := 0) (by omega)
  have z1 := World.rowIs.frozen r1 0
  have e2 : Exc (w.heap.size + 2) (X.setCell ⟨w.heap.size + 1, 0, none⟩ (.slice none 0 0)) ((X.setCell ⟨w.heap.size + 1, 0, none⟩ (.slice none 0 0)).setCell ⟨w.heap.size + 1 + 1, 0, none⟩ (.int .i64 2)) := (Exc.refl _ _).set 0 _
  have o2 : World.rowIs ((X.setCell ⟨w.heap.size + 1, 0, none⟩ (.slice none 0 0)).setCell ⟨w.heap.size + 1 + 1, 0, none⟩ (.int .i64 2)) (w.heap.size + 2) 27 1 (fun _ => .int .i64 2) := World.rowIs.congr (World.rowIs.set o1 0 (.int .i64 2)) (fun j hj => by rw [if_pos (show j = 0 by omega)])
  have q2 := World.rowIs.of_block q1 (e2.block _ (World.rowIs.lt q1) (fun e => by injection e with e; omega))
  have HBf := Lib.hid (hbe.trans (e2.below (by omega) hbe.size))
  have HD1 := Lib.hid q2
  have HD2 := Lib.hid o2
  rw [hX] at c1 z1 c2 z2 HBf HD1 HD2 HOx x0 r0
  clear hx hsg r1 r2 q1 q2 o1 o2 e1 e2 hbe hX
  go_wp2_with fail
  refine HOx.out.mono ?_
  rintro e w' ⟨rfl, rfl⟩
  go_wp2
  refine leaves_marks (B := 0) [] _ (Marks.nil _ _) (fun w' hs => ?_)
  have g1 := World.rowIs.cell (World.rowIs.of_block HD1.out (hs.block _ (World.rowIs.lt HD1.out) (by simp))) (i := 0) (by omega)
  have g2 := World.rowIs.cell (World.rowIs.of_block HD2.out (hs.block _ (World.rowIs.lt HD2.out) (by simp))) (i := 0) (by omega)
  exact ⟨.tuple #[.slice none 0 0, .int .i64 2], by simp [results, Try.results31, go_sem, g1, g2], rfl, HBf.out.trans (hs.below (B := w.heap.size) (by simp) HBf.out.size)⟩

set_option maxHeartbeats 8000000 in
set_option maxRecDepth 1000000 in
theorem Better_ok (A : Option Addr) (n c : Nat) (t : Nat → Nat → Nat) (G : Option Addr) (cG : Nat) (h : Nat → Nat) (w : World) (hw : Wis w A n t) (hG : Ints w G n (fun k => (h k : Int))) (hcG : n ≤ cG) (hn1 : 1 ≤ n) (hn : n ≤ 5) (ht : ∀ i, i < n → Pm n (t i)) (hp : Pm n h) :
    Calls Try.prog 31 #[.slice A n c, .slice G n cG] w fun e w' => (∃ x v', (ordL (List.range n) n []).find? (btP t n h) = some x ∧ e = .returned (.tuple #[v', .int .i64 0]) ∧ OwnL w' w.heap.size v' (lst n (rowF x)) ∧ Below w.heap.size w w') ∨
      ((ordL (List.range n) n []).find? (btP t n h) = none ∧ e = .returned (.tuple #[.slice none 0 0, .int .i64 4]) ∧ Below w.heap.size w w') := by
  have HW := Lib.hid hw
  have HG := Lib.hid hG
  have HT := Lib.hid ht
  have HHl := Lib.hid hp.lt
  have hok : okS n (fun _ => n) (fun i k => (t i k : Int)) = true := okS_iff.2 ⟨⟨hn1, hn⟩, fun i hi => ⟨rfl, (ht i hi).ord⟩⟩
  have HRd := Lib.hid (fun w' (hb : Below w.heap.size w w') => read_any A n c (fun _ => n) (fun i k => (t i k : Int)) w' (hw.keep hb) (by omega) (fun _ _ => by omega))
  rw [hok] at HRd
  have HO := Lib.hid (fun w (h' : Ints w G n (fun k => (h k : Int))) => isOrder_any G n cG n (fun k => (h k : Int)) w h' (by omega) hcG ⟨hn1, hn⟩)
  rw [show ordB n n (fun k => (h k : Int)) = true from ordB_iff.2 ⟨rfl, hp.ord⟩] at HO
  clear hw hG ht hok hp
  refine (callsIn_wide (n := 3)).1 (callsIn_of_wp_marks Try.func31 rfl trivial ?_ rfl)
  simp only [Try.ntmps31, List.size_toArray, List.length_cons, List.length_nil, Nat.reduceAdd, Nat.reduceSub, Array.replicate_succ, Array.replicate_zero, List.push_toArray, List.append_toArray, List.nil_append, List.cons_append]
  rw [wpIn_wide]
  go_wp2_with fail
  have r0 := box1_at w (.slice G n cG) 23
  have b1 := box_bel w (.cells #[.slice G n cG] 23)
  have s1 : (w.alloc (.cells #[.slice G n cG] 23)).heap.size = w.heap.size + 1 := by simp
  generalize w.alloc (.cells #[.slice G n cG] 23) = X1 at *
  have r1 := box_row X1 (.slice none 0 0) 23
  have b2 := box_bel X1 (.cells #[.slice none 0 0] 23)
  have s2 : (X1.alloc (.cells #[.slice none 0 0] 23)).heap.size = w.heap.size + 2 := by simp [s1]
  generalize X1.alloc (.cells #[.slice none 0 0] 23) = X2 at *
  have r2 := box_row X2 (.int .i64 0) 27
  have b3 := box_bel X2 (.cells #[.int .i64 0] 27)
  have s3 : (X2.alloc (.cells #[.int .i64 0] 27)).heap.size = w.heap.size + 3 := by simp [s2]
  generalize X2.alloc (.cells #[.int .i64 0] 27) = X3 at *
  rw [s1] at r1
  rw [s2] at r2
  have b23 := b2.trans (b3.mono (by omega))
  have r0 := cell_on r0 b23
  have r1 := World.rowIs.of_block r1 (b3.block _ (World.rowIs.lt r1))
  have HB3 := Lib.hid (b1.trans (b23.mono (by omega)))
  clear b1 b2 b3 b23 s1 s2
  refine (HRd.out X3 HB3.out).use fun w4 hb4 => ?_
  have hs4 := hb4.size
  have hal := hb4.trans ((box_bel w4 (.cells #[.int .i64 n, .slice A n c] 50)).mono hb4.size)
  have hx := box2_at w4 (.int .i64 n) (.slice A n c) 50
  have hsg : (w4.alloc (.cells #[.int .i64 n, .slice A n c] 50)).heap.size = w4.heap.size + 1 := by simp
  have r0 := cell_on r0 hal
  have r1 := World.rowIs.of_block r1 (hal.block _ (World.rowIs.lt r1))
  have r2 := World.rowIs.of_block r2 (hal.block _ (World.rowIs.lt r2))
  have HB4 := Lib.hid (HB3.out.trans (hal.mono HB3.out.size))
  clear hal hb4 HRd
  unfold rdV
  simp only [if_true]
  obtain ⟨X, hX⟩ : ∃ X, X = w4.alloc (.cells #[.int .i64 n, .slice A n c] 50) := ⟨_, rfl⟩
  rw [← hX] at hx hsg r0 r1 r2 HB4
  have HIX : Hid (BeI w w4.heap.size A n c G cG (btP t n h) [] X) := Lib.hid ⟨r0, r1, r2, hx, HB4.out, by simp⟩
  have x0 := hx.1
  have HOx := Lib.hid (HO.out X (HG.out.keep HB4.out))
  have HXe := Lib.hid hX
  rw [hX] at HOx x0 r0
  clear hx r1 r2 hX
  go_wp2_with fail
  refine HOx.out.mono ?_
  rintro e w' ⟨rfl, rfl⟩
  rw [← HXe.out] at x0 r0 ⊢
  clear HOx HXe
  obtain ⟨g, hg⟩ : ∃ g, g = w4.heap.size := ⟨_, rfl⟩
  rw [← hg] at HIX x0 hs4 hsg ⊢
  clear hg
  go_wp2_with fail
  refine (orders_any n X).mono ?_
  rintro e w6 ⟨rfl, hcs, hb6⟩
  have HI6 := Lib.hid (HIX.out.below hb6 (by omega))
  rw [hsg] at hcs
  have hs6 : g + 1 < w6.heap.size := cell_lt hcs
  clear hb6 HIX x0 r0
  go_wp2_with fail
  rw [← wpIn_wide (n := 3)]
  refine wpIn_rangeRows (F := Fence.wide) (n := 3) (gf := 81) (lb := #[.pointer (some ⟨g + 1, 0, none⟩)]) (B := w6.heap.size + 2 + 1) (m := n) (Kb := fun b => b ≠ w.heap.size + 1 ∧ b ≠ w.heap.size + 2) (L := ordL (List.range n) n [])
    rfl (by omega) rfl trivial (enters_of Try.func81 (by kernel_rfl) rfl) (fun b hb => ⟨by omega, by omega⟩) ?seq rfl
    (BeI w g A n c G cG (btP t n h)) (fun c' _ W => c' = .ret ∧ BeJ w n (w6.heap.size + 1) (w6.heap.size + 2 + 1) (btP t n h) (ordL (List.range n) n []) W)
    (fun s W1 W2 b hb hi he => hi.exc he (by omega) (by omega) (by omega)) (fun c' s W1 W2 hx he => ⟨hx.1, hx.2.exc he (by omega)⟩) (by omega) HI6.out
    ?act ?assign ?body ?done ?stop
  case seq =>
    intro W hW hWb
    have := orders1_rows n (by omega) (g + 1) (w6.heap.size + 1) (3 - 1) (fun b => b ≠ w.heap.size + 1 ∧ b ≠ w.heap.size + 2) W (cell_of_block (hWb _ hs6) hcs) (by omega) ⟨⟨by omega, by omega⟩, by omega⟩ (fun b hb => ⟨by omega, by omega⟩)
    rw [hW] at this
    exact this
  case assign =>
    intro W K hK
    gi_wp2
    exact hK
  case body =>
    intro pre x W hI hL hrow
    have HIn := Lib.hid hI
    have HLr := Lib.hid hL
    have HRw := Lib.hid hrow
    have hsW := hrow.lt
    have hmem : x ∈ ordL (List.range n) n [] := by
      obtain ⟨r, hr⟩ := hL
      rw [hr]
      simp
    have hpm := (pm_of_mem hmem).2
    have hwW := hI.bel.size
    have hgW : g < W.heap.size := cell_lt hI.wish.1
    have HWq := Lib.hid (fun q : Later W => HW.out.keep (hI.bel.trans (q.below.mono hI.bel.size)))
    have HGq := Lib.hid (fun q : Later W => HG.out.keep (hI.bel.trans (q.below.mono hI.bel.size)))
    have HRq : Hid (∀ q : Later W, Ints q.to (some ⟨w6.heap.size + 2 + 1, 0, none⟩) n (fun k => (rN x k : Int))) := Lib.hid (fun q => (hrow.keep q.below).ints)
    have HEv := Lib.hid (fun q : Later W => everyone_any A n c hn q.to)
    have HGn := Lib.hid (fun q : Later W => gains_any A n c t (2 ^ n - 1) (some ⟨w6.heap.size + 2 + 1, 0, none⟩) n (rN x) G cG h q.to (HWq.out q) (HRq.out q) (HGq.out q) hn HT.out hpm.lt HHl.out)
    have k0 : ∀ q : Later W, q.to.cell? ⟨g, 0, none⟩ = some (.int .i64 n) := fun q => q.cell hI.wish.1
    have k1 : ∀ q : Later W, q.to.cell? ⟨g, 1, none⟩ = some (.slice A n c) := fun q => q.cell hI.wish.2
    have k2 : ∀ q : Later W, q.to.cell? ⟨w.heap.size, 0, none⟩ = some (.slice G n cG) := fun q => q.cell hI.out
    have HUx : Hid (btP t n h x = gnB t n (2 ^ n - 1) (rN x) h) := Lib.hid rfl
    clear hI hrow hL hmem hpm HI6
    generalize gnB t n (2 ^ n - 1) (rN x) h = gb at *
    gi_wp2
    refine wp_region_round (by kernel_rfl) (by kernel_rfl) ?nodef ?_
    case nodef =>
      intro j o hj c hc
      rcases j with _ | _ | _ | _ | _ | _ | j
      all_goals (simp at hj)
      all_goals (subst hj; cases hc)
    repeat
      (with_reducible refine wpQuiet_step ?_
       intro K hK
       go_simp
       first
         | (refine hK _ ?_; clear hK K)
         | (apply Exists.intro
            refine ⟨fun _ => ?_, hK _ ?_⟩
            (first | (go_at_call 61; exact Lr.later (HEv.out _)) | (go_at_call 64; exact Lr.later (HGn.out _)))
            clear hK K))
    with_reducible refine wpQuiet_nil ?_
    intro W5 hw'
    obtain ⟨p2, hw''⟩ := hw'
    have hb5 := p2.below
    rw [← hw''] at hb5
    clear hw'' p2
    clear k0 k1 k2 HEv HGn HRq HGq HWq
    cases gb with
    | false =>
      have HP := Lib.hid HUx.out
      gi_wp2
      exact ⟨⟨hb5.size, fun b _ hb => hb5.block b hb⟩, (HIn.out.below hb5 (by omega)).snoc HP.out⟩
    | true =>
      have HP := Lib.hid HUx.out
      have HI5 := Lib.hid (HIn.out.below hb5 (by omega))
      have HR5 := Lib.hid (HRw.out.keep hb5)
      have hs5 := hb5.size
      gi_wp2
      refine ⟨trivial, ?_⟩
      refine CallsIn.mono (CallsIn.inRound _ (callsIn_wide.2 (clone_any (some ⟨w6.heap.size + 2 + 1, 0, none⟩) n n (rowF x) W5 HR5.out.ints (by omega)))) ?_
      rintro e W7 ⟨y, rfl, hy, -, hb7⟩
      obtain ⟨q, cq, rfl, hq, hcq, hQ⟩ := hy.rowCm hn1
      have HI7 := Lib.hid (HI5.out.below hb7 (by omega))
      have c1 := World.rowIs.cell HI7.out.res (i := 0) (by omega)
      have z1 := World.rowIs.frozen HI7.out.res 0
      have e1 : Exc (w.heap.size + 1) W7 (W7.setCell ⟨w.heap.size + 1, 0, none⟩ (.slice (some ⟨q, 0, none⟩) n cq)) := (Exc.refl _ _).set 0 _
      have q1 : World.rowIs (W7.setCell ⟨w.heap.size + 1, 0, none⟩ (.slice (some ⟨q, 0, none⟩) n cq)) (w.heap.size + 1) 23 1 (fun _ => .slice (some ⟨q, 0, none⟩) n cq) := World.rowIs.congr (World.rowIs.set HI7.out.res 0 (.slice (some ⟨q, 0, none⟩) n cq)) (fun j hj => by rw [if_pos (show j = 0 by omega)])
      have o1 := World.rowIs.of_block HI7.out.err (e1.block _ (World.rowIs.lt HI7.out.err) (fun e => by injection e with e; omega))
      have c2 : (W7.setCell ⟨w.heap.size + 1, 0, none⟩ (.slice (some ⟨q, 0, none⟩) n cq)).cell? ⟨w.heap.size + 1 + 1, 0, none⟩ = some (.int .i64 0) := World.rowIs.cell o1 (i := 0) (by omega)
      have z2 : (W7.setCell ⟨w.heap.size + 1, 0, none⟩ (.slice (some ⟨q, 0, none⟩) n cq)).frozen? ⟨w.heap.size + 1 + 1, 0, none⟩ = false := World.rowIs.frozen o1 0
      have e2 : Exc (w.heap.size + 2) (W7.setCell ⟨w.heap.size + 1, 0, none⟩ (.slice (some ⟨q, 0, none⟩) n cq)) ((W7.setCell ⟨w.heap.size + 1, 0, none⟩ (.slice (some ⟨q, 0, none⟩) n cq)).setCell ⟨w.heap.size + 1 + 1, 0, none⟩ (.int .i64 0)) := (Exc.refl _ _).set 0 _
      have o2 : World.rowIs ((W7.setCell ⟨w.heap.size + 1, 0, none⟩ (.slice (some ⟨q, 0, none⟩) n cq)).setCell ⟨w.heap.size + 1 + 1, 0, none⟩ (.int .i64 0)) (w.heap.size + 2) 27 1 (fun _ => .int .i64 0) := World.rowIs.congr (World.rowIs.set o1 0 (.int .i64 0)) (fun j hj => by rw [if_pos (show j = 0 by omega)])
      have q2 := World.rowIs.of_block q1 (e2.block _ (World.rowIs.lt q1) (fun e => by injection e with e; omega))
      obtain ⟨FQ, k1, k2, k3⟩ := hQ
      have K1 := World.rowIs.of_block (World.rowIs.of_block k1 (e1.block _ (World.rowIs.lt k1) (fun e => by injection e with e; omega))) (e2.block _ (by have := World.rowIs.lt k1; have := e1.size; omega) (fun e => by injection e with e; omega))
      have hs7 := hb7.size
      have hbl : ∀ b, b ≠ w.heap.size + 1 → b ≠ w.heap.size + 2 → b < W.heap.size → ((W7.setCell ⟨w.heap.size + 1, 0, none⟩ (.slice (some ⟨q, 0, none⟩) n cq)).setCell ⟨w.heap.size + 1 + 1, 0, none⟩ (.int .i64 0)).heap[b]? = W.heap[b]? := fun b j1 j2 j3 =>
        (e2.block b (by have := e1.size; omega) (fun e => by injection e with e; omega)).trans ((e1.block b (by omega) (fun e => by injection e with e; omega)).trans ((hb7.block b (by omega)).trans (hb5.block b j3)))
      have hsz : W.heap.size ≤ ((W7.setCell ⟨w.heap.size + 1, 0, none⟩ (.slice (some ⟨q, 0, none⟩) n cq)).setCell ⟨w.heap.size + 1 + 1, 0, none⟩ (.int .i64 0)).heap.size := by have := e1.size; have := e2.size; omega
      have HBe := Lib.hid (HI7.out.bel.trans ((e1.below (by omega) HI7.out.bel.size).trans (e2.below (by omega) (by have := HI7.out.bel.size; have := e1.size; omega))))
      have HRes := Lib.hid q2
      have HErr := Lib.hid o2
      have HKq := Lib.hid K1
      have Hbl := Lib.hid hbl
      have hqW : W.heap.size ≤ q := by omega
      clear q1 o1 q2 o2 K1 k1 e1 e2 hbl hy hb7 hb5
      gi_wp2
      refine ⟨⟨hsz, fun b hb hlt => Hbl.out b hb.1 hb.2 hlt⟩, rfl, ?_⟩
      obtain ⟨r, hr⟩ := HLr.out
      exact ⟨⟨q, cq, HRes.out, by omega, by omega, hcq, pre, x, r, hr, HIn.out.no, HP.out, FQ, HKq.out, k2, k3⟩, HErr.out, HBe.out⟩
  case done =>
    intro D W hD hI hk
    have c1 := World.rowIs.cell hI.res (i := 0) (by omega)
    have z1 := World.rowIs.frozen hI.res 0
    have HIn := Lib.hid hI
    have e1 : Exc (w.heap.size + 1) W (W.setCell ⟨w.heap.size + 1, 0, none⟩ (.slice none 0 0)) := (Exc.refl _ _).set 0 _
    have q1 : World.rowIs (W.setCell ⟨w.heap.size + 1, 0, none⟩ (.slice none 0 0)) (w.heap.size + 1) 23 1 (fun _ => .slice none 0 0) := World.rowIs.congr (World.rowIs.set hI.res 0 (.slice none 0 0)) (fun j hj => by rw [if_pos (show j = 0 by omega)])
    have o1 := World.rowIs.of_block hI.err (e1.block _ (World.rowIs.lt hI.err) (fun e => by injection e with e; omega))
    have c2 : (W.setCell ⟨w.heap.size + 1, 0, none⟩ (.slice none 0 0)).cell? ⟨w.heap.size + 1 + 1, 0, none⟩ = some (.int .i64 0) := World.rowIs.cell o1 (i := 0) (by omega)
    have z2 : (W.setCell ⟨w.heap.size + 1, 0, none⟩ (.slice none 0 0)).frozen? ⟨w.heap.size + 1 + 1, 0, none⟩ = false := World.rowIs.frozen o1 0
    have e2 : Exc (w.heap.size + 2) (W.setCell ⟨w.heap.size + 1, 0, none⟩ (.slice none 0 0)) ((W.setCell ⟨w.heap.size + 1, 0, none⟩ (.slice none 0 0)).setCell ⟨w.heap.size + 1 + 1, 0, none⟩ (.int .i64 4)) := (Exc.refl _ _).set 0 _
    have o2 : World.rowIs ((W.setCell ⟨w.heap.size + 1, 0, none⟩ (.slice none 0 0)).setCell ⟨w.heap.size + 1 + 1, 0, none⟩ (.int .i64 4)) (w.heap.size + 2) 27 1 (fun _ => .int .i64 4) := World.rowIs.congr (World.rowIs.set o1 0 (.int .i64 4)) (fun j hj => by rw [if_pos (show j = 0 by omega)])
    have q2 := World.rowIs.of_block q1 (e2.block _ (World.rowIs.lt q1) (fun e => by injection e with e; omega))
    have hDW := (Array.getElem?_eq_some_iff.1 hk).1
    have k1 := (e1.block D hDW (fun e => by injection e with e; omega)).trans hk
    have k2 := (e2.block D (Nat.lt_of_lt_of_le hDW e1.size) (fun e => by injection e with e; omega)).trans k1
    have HB := Lib.hid (hI.bel.trans ((e1.below (by omega) hI.bel.size).trans (e2.below (by omega) (by have := hI.bel.size; have := e1.size; omega))))
    have HQ := Lib.hid q2
    have HO2 := Lib.hid o2
    have HK2 := Lib.hid k2
    clear hI q1 o1 e1 e2 q2 o2 k1 k2 hDW
    go_wp2
    generalize (W.setCell ⟨w.heap.size + 1, 0, none⟩ (.slice none 0 0)).setCell ⟨w.heap.size + 1 + 1, 0, none⟩ (.int .i64 4) = W6 at *
    refine ⟨by simp, .inl ⟨_, _, rfl, run_takeDeferred HK2.out, ?_⟩⟩
    have e3 := exc_putObj W6 D (.deferred none)
    have q3 := World.rowIs.cell (World.rowIs.of_block HQ.out (e3.block _ (World.rowIs.lt HQ.out) (fun e => by injection e with e; omega))) (i := 0) (by omega)
    have o3 := World.rowIs.cell (World.rowIs.of_block HO2.out (e3.block _ (World.rowIs.lt HO2.out) (fun e => by injection e with e; omega))) (i := 0) (by omega)
    refine ⟨.tuple #[.slice none 0 0, .int .i64 4], by simp [results, Try.results31, go_sem, q3, o3], .inr ⟨?_, rfl, HB.out.trans (e3.below (by omega) HB.out.size)⟩⟩
    exact List.find?_eq_none.2 (fun x hx => by rw [HIn.out.no x hx]; decide)
  case stop =>
    intro D c' pre W hD hx hk
    obtain ⟨rfl, hx⟩ := hx
    obtain ⟨q, cq, h1, h2, h3, h4, f, x, r, y1, y2, y3, FQ, y4, y5, y6⟩ := hx.res
    have HX := Lib.hid hx
    have H1 := Lib.hid h1
    have HY1 := Lib.hid y1
    have HY2 := Lib.hid y2
    have HY3 := Lib.hid y3
    have HY4 := Lib.hid y4
    have HY6 := Lib.hid y6
    clear hx h1 y1 y2 y3 y4 y6
    gi_wp2
    refine ⟨by simp, .inl ⟨_, _, rfl, run_takeDeferred hk, ?_⟩⟩
    have e3 := exc_putObj W D (.deferred none)
    have hDl : q ≠ D := by
      rintro rfl
      obtain ⟨cc, hcc, -, -⟩ := HY4.out
      rw [hk] at hcc
      cases hcc
    have q3 := World.rowIs.cell (World.rowIs.of_block H1.out (e3.block _ (World.rowIs.lt H1.out) (fun e => by injection e with e; omega))) (i := 0) (by omega)
    have o3 := World.rowIs.cell (World.rowIs.of_block HX.out.err (e3.block _ (World.rowIs.lt HX.out.err) (fun e => by injection e with e; omega))) (i := 0) (by omega)
    have y7 := World.rowIs.of_block HY4.out (e3.block _ (World.rowIs.lt HY4.out) (fun e => by injection e with e; omega))
    refine ⟨.tuple #[.slice (some ⟨q, 0, none⟩) n cq, .int .i64 0], by simp [results, Try.results31, go_sem, q3, o3], .inl ⟨x, .slice (some ⟨q, 0, none⟩) n cq, ?_, rfl, RowC.ownL ⟨FQ, y7, y5, HY6.out⟩ (by omega) h4, HX.out.bel.trans (e3.below (by omega) HX.out.bel.size)⟩⟩
    rw [HY1.out]
    exact find_atU HY2.out HY3.out
end Go.Proofs.Ytocfbafcplhmiaa
