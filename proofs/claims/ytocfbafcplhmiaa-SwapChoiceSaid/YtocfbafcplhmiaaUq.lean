/- swap: objects (a range over orders). -/
import Derived.Test.YtocfbafcplhmiaaUn
import Derived.Test.YtocfbafcplhmiaaUo
import Derived.RangeFuncCalls
namespace Go.Proofs.Ytocfbafcplhmiaa
open Go.RowKit
attribute [local go_sem] Oper.semAt_some

def rN (x : List Nat) : Nat → Nat := fun i => x.getD i 0
theorem rowF_rN (x : List Nat) : rowF x = fun i => (rN x i : Int) := rfl
theorem pm_of_mem {n : Nat} {x : List Nat} (h : x ∈ ordL (List.range n) n []) : x.length = n ∧ Pm n (rN x) := by
  obtain ⟨suf, e, h1, h2, h3⟩ := (mem_ordL _ _ _ _).1 h
  rw [List.nil_append] at e
  subst e
  refine ⟨h1, ⟨fun k hk => ?_, fun i j hi hj e => ?_⟩⟩
  · have hm : rN x k ∈ x := by
      unfold rN
      rw [List.getD_eq_getElem?_getD, List.getElem?_eq_getElem (by omega), Option.getD_some]
      exact List.getElem_mem _
    have := (h2 _ hm).1
    rw [List.mem_range] at this
    exact this
  · unfold rN at e
    rw [List.getD_eq_getElem?_getD, List.getElem?_eq_getElem (by omega), Option.getD_some, List.getD_eq_getElem?_getD, List.getElem?_eq_getElem (by omega), Option.getD_some] at e
    exact (List.getElem_inj h3).1 e
theorem mem_of_pm {n : Nat} {f : Nat → Nat} (h : Pm n f) : (List.range n).map f ∈ ordL (List.range n) n [] := by
  refine (mem_ordL _ _ _ _).2 ⟨(List.range n).map f, by simp, by simp, fun x hx => ?_, ?_⟩
  · obtain ⟨k, hk, rfl⟩ := List.mem_map.1 hx
    rw [List.mem_range] at hk
    exact ⟨List.mem_range.2 (h.lt k hk), by simp⟩
  · refine List.pairwise_map.2 ?_
    refine List.Pairwise.imp_of_mem ?_ List.nodup_range
    intro a b ha hb hab e
    rw [List.mem_range] at ha hb
    exact hab (h.inj a b ha hb e)
theorem rN_map {n : Nat} {f : Nat → Nat} {k : Nat} (hk : k < n) : rN ((List.range n).map f) k = f k := by
  unfold rN
  simp [List.getD_eq_getElem?_getD, hk]
/-- A group objects to h. -/
def obP (t : Nat → Nat → Nat) (n S : Nat) (h : Nat → Nat) (x : List Nat) : Bool := exB S (rN x) n && gnB t n S (rN x) h
def obB (t : Nat → Nat → Nat) (n S : Nat) (h : Nat → Nat) : Bool := (ordL (List.range n) n []).any (obP t n S h)

/-- Boxes of wishes, a set, an outcome, a Bool. -/
structure ObI (w : World) (A : Option Addr) (n c S : Nat) (G : Option Addr) (cG : Nat) (p : List Nat → Bool) (pre : List (List Nat)) (W : World) : Prop where
  wish : Bx2 W w.heap.size (.int .i64 n) (.slice A n c)
  set : W.cell? ⟨w.heap.size + 1, 0, none⟩ = some (.int .i64 S)
  out : W.cell? ⟨w.heap.size + 2, 0, none⟩ = some (.slice G n cG)
  res : W.rowIs (w.heap.size + 3) 4 1 (fun _ => .bool false)
  bel : Below w.heap.size w W
  no : ∀ x ∈ pre, p x = false
theorem ObI.of_blocks {w W1 W2 : World} {A : Option Addr} {n c S : Nat} {G : Option Addr} {cG : Nat} {p : List Nat → Bool} {pre : List (List Nat)} (h : ObI w A n c S G cG p pre W1) (hb : ∀ b, w.heap.size ≤ b → b ≤ w.heap.size + 3 → b < W1.heap.size → W2.heap[b]? = W1.heap[b]?) (hB : Below w.heap.size w W2) : ObI w A n c S G cG p pre W2 where
  wish := ⟨cell_of_block (hb _ (by simp) (by simp) (cell_lt h.wish.1)) h.wish.1, cell_of_block (hb _ (by simp) (by simp) (cell_lt h.wish.2)) h.wish.2⟩
  set := cell_of_block (hb _ (by simp) (by simp) (cell_lt h.set)) h.set
  out := cell_of_block (hb _ (by simp) (by simp) (cell_lt h.out)) h.out
  res := World.rowIs.of_block h.res (hb _ (by simp) (by simp) (World.rowIs.lt h.res))
  bel := hB
  no := h.no
theorem ObI.exc {w W1 W2 : World} {A : Option Addr} {n c S b : Nat} {G : Option Addr} {cG : Nat} {p : List Nat → Bool} {pre : List (List Nat)} (h : ObI w A n c S G cG p pre W1) (he : Exc b W1 W2) (hb : w.heap.size + 3 < b) : ObI w A n c S G cG p pre W2 :=
  h.of_blocks (fun g k1 k2 k3 => he.block g k3 (fun e => by injection e with e; omega)) (h.bel.trans (he.below (by omega) h.bel.size))
theorem ObI.below {w W1 W2 : World} {A : Option Addr} {n c S : Nat} {G : Option Addr} {cG : Nat} {p : List Nat → Bool} {pre : List (List Nat)} (h : ObI w A n c S G cG p pre W1) (hb : Below W1.heap.size W1 W2) : ObI w A n c S G cG p pre W2 :=
  h.of_blocks (fun g _ _ k3 => hb.block g k3) (h.bel.trans (hb.mono h.bel.size))
theorem ObI.snoc {w W : World} {A : Option Addr} {n c S : Nat} {G : Option Addr} {cG : Nat} {p : List Nat → Bool} {pre : List (List Nat)} {x : List Nat} (h : ObI w A n c S G cG p pre W) (hx : p x = false) : ObI w A n c S G cG p (pre ++ [x]) W :=
  ⟨h.wish, h.set, h.out, h.res, h.bel, fun y hy => by
    rcases List.mem_append.1 hy with hy | hy
    · exact h.no y hy
    · rw [List.mem_singleton] at hy
      rw [hy]
      exact hx⟩
/-- One was found. -/
structure ObJ (w : World) (p : List Nat → Bool) (all : List (List Nat)) (W : World) : Prop where
  res : W.rowIs (w.heap.size + 3) 4 1 (fun _ => .bool true)
  bel : Below w.heap.size w W
  it : ∃ x ∈ all, p x = true
theorem ObJ.exc {w W1 W2 : World} {l : Nat} {p : List Nat → Bool} {all : List (List Nat)} (h : ObJ w p all W1) (he : Exc l W1 W2) (hl : w.heap.size + 3 < l) : ObJ w p all W2 :=
  ⟨World.rowIs.of_block h.res (he.block _ (World.rowIs.lt h.res) (fun e => by injection e with e; omega)), h.bel.trans (he.below (by omega) h.bel.size), h.it⟩

set_option maxHeartbeats 4000000 in
set_option maxRecDepth 1000000 in
theorem objects_any (A : Option Addr) (n c : Nat) (t : Nat → Nat → Nat) (S : Nat) (G : Option Addr) (cG : Nat) (h : Nat → Nat) (w : World) (hw : Wis w A n t) (hG : Ints w G n (fun k => (h k : Int)))
    (hn : n ≤ 5) (ht : ∀ i, i < n → Pm n (t i)) (hh : ∀ k, k < n → h k < n) :
    Lr 63 #[.agg #[.int .i64 n, .slice A n c], .int .i64 S, .slice G n cG] w (.bool (obB t n S h)) := by
  unfold Lr
  have HW := Lib.hid hw
  have HG := Lib.hid hG
  have HT := Lib.hid ht
  have HHl := Lib.hid hh
  have HU : Hid (obB t n S h = (ordL (List.range n) n []).any (obP t n S h)) := Lib.hid rfl
  have HUP : Hid (∀ x, obP t n S h x = (exB S (rN x) n && gnB t n S (rN x) h)) := Lib.hid (fun _ => rfl)
  clear hw hG ht hh
  refine (callsIn_wide (n := 3)).1 (callsIn_of_wp_marks Try.func63 rfl trivial ?_ rfl)
  simp only [Try.ntmps63, List.size_toArray, List.length_cons, List.length_nil, Nat.reduceAdd, Nat.reduceSub, Array.replicate_succ, Array.replicate_zero, List.push_toArray, List.append_toArray, List.nil_append, List.cons_append]
  rw [wpIn_wide]
  have e0 := (box2_at w (.int .i64 n) (.slice A n c) 50).1
  have r0 := box2_at w (.int .i64 n) (.slice A n c) 50
  have b1 := box_bel w (.cells #[.int .i64 n, .slice A n c] 50)
  have s1 : (w.alloc (.cells #[.int .i64 n, .slice A n c] 50)).heap.size = w.heap.size + 1 := by simp
  obtain ⟨X1, hX1⟩ : ∃ X1, X1 = w.alloc (.cells #[.int .i64 n, .slice A n c] 50) := ⟨_, rfl⟩
  rw [← hX1] at r0 b1 s1
  have r1 := box1_at X1 (.int .i64 S) 3
  have b2 := box_bel X1 (.cells #[.int .i64 S] 3)
  have s2 : (X1.alloc (.cells #[.int .i64 S] 3)).heap.size = w.heap.size + 2 := by simp [s1]
  obtain ⟨X2, hX2⟩ : ∃ X2, X2 = X1.alloc (.cells #[.int .i64 S] 3) := ⟨_, rfl⟩
  rw [← hX2] at r1 b2 s2
  have r2 := box1_at X2 (.slice G n cG) 23
  have b3 := box_bel X2 (.cells #[.slice G n cG] 23)
  have s3 : (X2.alloc (.cells #[.slice G n cG] 23)).heap.size = w.heap.size + 3 := by simp [s2]
  obtain ⟨X3, hX3⟩ : ∃ X3, X3 = X2.alloc (.cells #[.slice G n cG] 23) := ⟨_, rfl⟩
  rw [← hX3] at r2 b3 s3
  have r3 := box_row X3 (.bool false) 4
  have b4 := box_bel X3 (.cells #[.bool false] 4)
  have s4 : (X3.alloc (.cells #[.bool false] 4)).heap.size = w.heap.size + 4 := by simp [s3]
  obtain ⟨X4, hX4⟩ : ∃ X4, X4 = X3.alloc (.cells #[.bool false] 4) := ⟨_, rfl⟩
  rw [← hX4] at r3 b4 s4
  rw [s1] at r1
  rw [s2] at r2
  rw [s3] at r3
  have b34 := b3.trans (b4.mono (by omega))
  have b24 := b2.trans (b34.mono (by omega))
  have HI4 : Hid (ObI w A n c S G cG (obP t n S h) [] X4) := Lib.hid
    { wish := r0.keep b24
      set := cell_on r1 b34
      out := cell_on r2 b4
      res := r3
      bel := b1.trans (b24.mono (by omega))
      no := by simp }
  have e4 := HI4.out.wish.1
  rw [hX4, hX3, hX2, hX1] at e4
  have HXe : Hid (X4 = (((w.alloc (.cells #[.int .i64 n, .slice A n c] 50)).alloc (.cells #[.int .i64 S] 3)).alloc (.cells #[.slice G n cG] 23)).alloc (.cells #[.bool false] 4)) := Lib.hid (by rw [hX4, hX3, hX2, hX1])
  clear r0 r1 r2 r3 b1 b2 b3 b4 b34 b24 s1 s2 s3 hX1 hX2 hX3 hX4 e0
  go_wp2_with fail
  rw [← HXe.out]
  clear HXe e4
  refine (orders_any n X4).mono ?_
  rintro e w6 ⟨rfl, hcs, hb6⟩
  rw [s4] at hcs ⊢
  have HI6 := Lib.hid (HI4.out.below hb6)
  have hs6 : w.heap.size + 4 < w6.heap.size := cell_lt hcs
  clear hb6 HI4 s4
  go_wp2_with fail
  rw [← wpIn_wide (n := 3)]
  refine wpIn_rangeRows (F := Fence.wide) (n := 3) (gf := 81) (lb := #[.pointer (some ⟨w.heap.size + 4, 0, none⟩)]) (B := w6.heap.size + 2 + 1) (m := n) (Kb := fun b => b ≠ w.heap.size + 3) (L := ordL (List.range n) n [])
    rfl (by omega) rfl trivial (enters_of Try.func81 (by kernel_rfl) rfl) (fun b hb => by omega) ?seq rfl
    (ObI w A n c S G cG (obP t n S h)) (fun c _ W => c = .ret ∧ ObJ w (obP t n S h) (ordL (List.range n) n []) W)
    (fun s W1 W2 b hb hi he => hi.exc he (by omega)) (fun c s W1 W2 hx he => ⟨hx.1, hx.2.exc he (by omega)⟩) (by omega) HI6.out
    ?act ?assign ?body ?done ?stop
  case seq =>
    intro W hW hWb
    have := orders1_rows n (by omega) (w.heap.size + 4) (w6.heap.size + 1) (3 - 1) (fun b => b ≠ w.heap.size + 3) W (cell_of_block (hWb _ hs6) hcs) (by omega) ⟨by omega, by omega⟩ (fun b hb => by omega)
    rw [hW] at this
    exact this
  case assign =>
    intro W K hK
    gi_wp2
    exact hK
  case body =>
    intro pre x W hI hL hrow
    have HIn := Lib.hid hI
    have c0 := hI.wish.1
    have c1 := hI.wish.2
    have c2 := hI.set
    have c3 := hI.out
    have c4 := World.rowIs.cell hI.res (i := 0) (by omega)
    have z4 := World.rowIs.frozen hI.res 0
    have hmem : x ∈ ordL (List.range n) n [] := by
      obtain ⟨r, hr⟩ := hL
      rw [hr]
      simp
    have hpm := (pm_of_mem hmem).2
    have HMem := Lib.hid hmem
    have HOx := Lib.hid (HUP.out x)
    have hri : Ints W (some ⟨w6.heap.size + 2 + 1, 0, none⟩) n (fun k => (rN x k : Int)) := hrow.ints
    have HE := Lib.hid (isExchange_any S (some ⟨w6.heap.size + 2 + 1, 0, none⟩) n n (rN x) W hri hn hpm.lt)
    have HGn := Lib.hid (gains_any A n c t S (some ⟨w6.heap.size + 2 + 1, 0, none⟩) n (rN x) G cG h W (HW.out.keep hI.bel) hri (HG.out.keep hI.bel) hn HT.out hpm.lt HHl.out)
    clear hI hrow hL hmem hpm hri HI6
    cases hex : exB S (rN x) n with
    | false =>
      rw [hex] at HE HOx
      have HP : Hid (obP t n S h x = false) := Lib.hid (by rw [HOx.out]; rfl)
      clear hex
      gi_wp2
      refine ⟨trivial, ?_⟩
      refine CallsIn.mono (CallsIn.inRound _ (callsIn_wide.2 HE.out)) ?_
      rintro e W4 ⟨rfl, rfl⟩
      gi_wp2
      refine ⟨trivial, ?_⟩
      gi_wp2
      exact ⟨⟨Nat.le_refl _, fun _ _ _ => rfl⟩, HIn.out.snoc HP.out⟩
    | true =>
      rw [hex] at HE HOx
      clear hex
      cases hgn : gnB t n S (rN x) h with
      | false =>
        rw [hgn] at HGn HOx
        have HP : Hid (obP t n S h x = false) := Lib.hid (by rw [HOx.out]; rfl)
        clear hgn
        gi_wp2
        refine ⟨trivial, ?_⟩
        refine CallsIn.mono (CallsIn.inRound _ (callsIn_wide.2 HE.out)) ?_
        rintro e W4 ⟨rfl, rfl⟩
        gi_wp2
        refine ⟨trivial, ?_⟩
        refine CallsIn.mono (CallsIn.inRound _ (callsIn_wide.2 HGn.out)) ?_
        rintro e W5 ⟨rfl, hb5⟩
        gi_wp2
        exact ⟨⟨hb5.size, fun b _ hb => hb5.block b hb⟩, (HIn.out.below hb5).snoc HP.out⟩
      | true =>
        rw [hgn] at HGn HOx
        have HP : Hid (obP t n S h x = true) := Lib.hid (by rw [HOx.out]; rfl)
        clear hgn
        gi_wp2
        refine ⟨trivial, ?_⟩
        refine CallsIn.mono (CallsIn.inRound _ (callsIn_wide.2 HE.out)) ?_
        rintro e W4 ⟨rfl, rfl⟩
        gi_wp2
        refine ⟨trivial, ?_⟩
        refine CallsIn.mono (CallsIn.inRound _ (callsIn_wide.2 HGn.out)) ?_
        rintro e W5 ⟨rfl, hb5⟩
        have HI5 := Lib.hid (HIn.out.below hb5)
        have d4 := cell_on c4 hb5
        have y4 := (World.frozen?_of_block (hb5.block (w.heap.size + 3) (cell_lt c4))).trans z4
        gi_wp2
        have e1 : Exc (w.heap.size + 3) W5 (W5.setCell ⟨w.heap.size + 3, 0, none⟩ (.bool true)) := (Exc.refl _ _).set 0 _
        have q1 : World.rowIs (W5.setCell ⟨w.heap.size + 3, 0, none⟩ (.bool true)) (w.heap.size + 3) 4 1 (fun _ => .bool true) := World.rowIs.congr (World.rowIs.set HI5.out.res 0 (.bool true)) (fun j hj => by rw [if_pos (show j = 0 by omega)])
        refine ⟨⟨Nat.le_trans hb5.size e1.size, fun b hb hlt => (e1.block b (Nat.lt_of_lt_of_le hlt hb5.size) (fun e => by injection e with e; exact hb e)).trans (hb5.block b hlt)⟩, rfl, ?_⟩
        exact ⟨q1, HI5.out.bel.trans (e1.below (by omega) HI5.out.bel.size), ⟨x, HMem.out, HP.out⟩⟩
  case done =>
    intro D W hD hI hk
    have c4 := World.rowIs.cell hI.res (i := 0) (by omega)
    have z4 := World.rowIs.frozen hI.res 0
    have HIn := Lib.hid hI
    clear hI
    go_wp2
    have e1 : Exc (w.heap.size + 3) W (W.setCell ⟨w.heap.size + 3, 0, none⟩ (.bool false)) := (Exc.refl _ _).set 0 _
    have q1 : World.rowIs (W.setCell ⟨w.heap.size + 3, 0, none⟩ (.bool false)) (w.heap.size + 3) 4 1 (fun _ => .bool false) := World.rowIs.congr (World.rowIs.set HIn.out.res 0 (.bool false)) (fun j hj => by rw [if_pos (show j = 0 by omega)])
    have k1 := (e1.block D (by have := (Array.getElem?_eq_some_iff.1 hk).1; exact this) (fun e => by injection e with e; omega)).trans hk
    have HB := Lib.hid (HIn.out.bel.trans (e1.below (by omega) HIn.out.bel.size))
    generalize W.setCell ⟨w.heap.size + 3, 0, none⟩ (.bool false) = W5 at *
    refine ⟨by simp, .inl ⟨_, _, rfl, run_takeDeferred k1, ?_⟩⟩
    have e3 := exc_putObj W5 D (.deferred none)
    have q3 := World.rowIs.cell (World.rowIs.of_block q1 (e3.block _ (World.rowIs.lt q1) (fun e => by injection e with e; omega))) (i := 0) (by omega)
    refine ⟨.bool false, by simp [results, Try.results63, go_sem, q3], ret_bool ?_, HB.out.trans (e3.below (by omega) HB.out.size)⟩
    rw [HU.out]
    symm
    rw [← Bool.not_eq_true, List.any_eq_true]
    rintro ⟨x, hx, hpx⟩
    rw [HIn.out.no x hx] at hpx
    cases hpx
  case stop =>
    intro D c' pre W hD hx hk
    obtain ⟨rfl, hx⟩ := hx
    have HX := Lib.hid hx
    clear hx
    gi_wp2
    refine ⟨by simp, .inl ⟨_, _, rfl, run_takeDeferred hk, ?_⟩⟩
    have e3 := exc_putObj W D (.deferred none)
    have q3 := World.rowIs.cell (World.rowIs.of_block HX.out.res (e3.block _ (World.rowIs.lt HX.out.res) (fun e => by injection e with e; omega))) (i := 0) (by omega)
    refine ⟨.bool true, by simp [results, Try.results63, go_sem, q3], ret_bool ?_, HX.out.bel.trans (e3.below (by omega) HX.out.bel.size)⟩
    rw [HU.out]
    symm
    rw [List.any_eq_true]
    exact HX.out.it
end Go.Proofs.Ytocfbafcplhmiaa
