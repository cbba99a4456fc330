/- swap: counts in rows of rows. -/
import Derived.Test.YtocfbafcplhmiaaUz
import Derived.Test.YtocfbafcplhmiaaUx
namespace Go.Proofs.Ytocfbafcplhmiaa
open Go.RowKit Go.Sort
attribute [local go_sem] Oper.semAt_some

/-- Block R holds n rows of n numbers, which lie in the blocks from b0 on. -/
structure MatI (W : World) (R b0 n : Nat) (F : Nat → Nat → Nat) : Prop where
  rows : W.rowIs R 23 n (fun i => .slice (some ⟨b0 + i, 0, none⟩) n n)
  row : ∀ i, i < n → RowI W (b0 + i) n (fun j => (F i j : Int))
theorem MatI.of_blocks {W W' : World} {R b0 n : Nat} {F : Nat → Nat → Nat} (h : MatI W R b0 n F) (hb : ∀ b, (b = R ∨ (b0 ≤ b ∧ b < b0 + n)) → b < W.heap.size → W'.heap[b]? = W.heap[b]?) : MatI W' R b0 n F :=
  ⟨World.rowIs.of_block h.rows (hb _ (.inl rfl) (World.rowIs.lt h.rows)), fun i hi => World.rowIs.of_block (h.row i hi) (hb _ (.inr ⟨by omega, by omega⟩) (h.row i hi).lt)⟩
theorem MatI.keep {W W' : World} {R b0 n : Nat} {F : Nat → Nat → Nat} (h : MatI W R b0 n F) (hb : Below W.heap.size W W') : MatI W' R b0 n F := h.of_blocks (fun b _ hl => hb.block b hl)
theorem MatI.congr {W : World} {R b0 n : Nat} {F F' : Nat → Nat → Nat} (h : MatI W R b0 n F) (e : ∀ i j, i < n → j < n → F i j = F' i j) : MatI W R b0 n F' :=
  ⟨h.rows, fun i hi => (h.row i hi).congr (fun j hj => by rw [e i j hi hj])⟩
theorem MatI.set {W : World} {R b0 n : Nat} {F : Nat → Nat → Nat} (h : MatI W R b0 n F) {i : Nat} (hi : i < n) (hR : R < b0) (j : Nat) (x : Nat) : MatI (W.setCell ⟨b0 + i, j, none⟩ (.int .i64 (x : Int))) R b0 n (fun a b => if a = i ∧ b = j then x else F a b) := by
  refine ⟨World.rowIs.setOther h.rows (a := ⟨b0 + i, j, none⟩) (by show R ≠ b0 + i; omega) _, fun a ha => ?_⟩
  by_cases e : a = i
  · subst e
    refine ((h.row a ha).set j (x : Int)).congr (fun b _ => ?_)
    unfold upd
    by_cases e2 : b = j
    · rw [if_pos e2, if_pos ⟨rfl, e2⟩]
    · rw [if_neg e2, if_neg (fun h => e2 h.2)]
  · refine ((h.row a ha).setOther (a := ⟨b0 + i, j, none⟩) (by show b0 + a ≠ b0 + i; omega) _).congr (fun b _ => ?_)
    rw [if_neg (fun h => e h.1)]
/-- How often someone gets a thing. -/
def cnU (fol : List Nat → Nat → Nat) (pre : List (List Nat)) (i j : Nat) : Nat := pre.countP (fun x => decide (fol x i = j))
theorem cnU_snoc (fol : List Nat → Nat → Nat) (pre : List (List Nat)) (x : List Nat) (i j : Nat) : cnU fol (pre ++ [x]) i j = cnU fol pre i j + if fol x i = j then 1 else 0 := by
  unfold cnU
  rw [List.countP_append, List.countP_singleton]
  by_cases h : fol x i = j <;> simp [h]
theorem cnU_le (fol : List Nat → Nat → Nat) (pre : List (List Nat)) (i j : Nat) : cnU fol pre i j ≤ pre.length := List.countP_le_length
/-- In the middle of a tally. -/
structure TaI (w : World) (A : Option Addr) (n c : Nat) (fv : Value) (fol : List Nat → Nat → Nat) (pre : List (List Nat)) (W : World) : Prop where
  wish : Bx2 W w.heap.size (.int .i64 n) (.slice A n c)
  fun_ : W.cell? ⟨w.heap.size + 1, 0, none⟩ = some fv
  cnt : W.cell? ⟨w.heap.size + 3, 0, none⟩ = some (.slice (some ⟨w.heap.size + 2, 0, none⟩) n n)
  mat : MatI W (w.heap.size + 2) (w.heap.size + 4) n (cnU fol pre)
  bel : Below w.heap.size w W
theorem TaI.of_blocks {w W1 W2 : World} {A : Option Addr} {n c : Nat} {fv : Value} {fol : List Nat → Nat → Nat} {pre : List (List Nat)} (h : TaI w A n c fv fol pre W1) (hb : ∀ b, w.heap.size ≤ b → b < w.heap.size + 4 + n → b < W1.heap.size → W2.heap[b]? = W1.heap[b]?) (hB : Below w.heap.size w W2) : TaI w A n c fv fol pre W2 where
  wish := ⟨cell_of_block (hb _ (by simp) (by show w.heap.size < _; omega) (cell_lt h.wish.1)) h.wish.1, cell_of_block (hb _ (by simp) (by show w.heap.size < _; omega) (cell_lt h.wish.2)) h.wish.2⟩
  fun_ := cell_of_block (hb _ (by simp) (by show w.heap.size + 1 < _; omega) (cell_lt h.fun_)) h.fun_
  cnt := cell_of_block (hb _ (by simp) (by show w.heap.size + 3 < _; omega) (cell_lt h.cnt)) h.cnt
  mat := h.mat.of_blocks (fun b hb' hl => hb b (by omega) (by omega) hl)
  bel := hB
theorem TaI.exc {w W1 W2 : World} {A : Option Addr} {n c b : Nat} {fv : Value} {fol : List Nat → Nat → Nat} {pre : List (List Nat)} (h : TaI w A n c fv fol pre W1) (he : Exc b W1 W2) (hb : w.heap.size + 4 + n ≤ b) : TaI w A n c fv fol pre W2 :=
  h.of_blocks (fun q k1 k2 k3 => he.block q k3 (fun e => by injection e with e; omega)) (h.bel.trans (he.below (by omega) h.bel.size))
theorem TaI.below {w W1 W2 : World} {A : Option Addr} {n c : Nat} {fv : Value} {fol : List Nat → Nat → Nat} {pre : List (List Nat)} (h : TaI w A n c fv fol pre W1) (hb : Below W1.heap.size W1 W2) : TaI w A n c fv fol pre W2 :=
  h.of_blocks (fun q _ _ k3 => hb.block q k3) (h.bel.trans (hb.mono h.bel.size))

theorem mk_rowsU (n : Nat) (hn : n ≤ 10000) (w : World) :
    (Instr.makeSlice 22 (.int .i64 (n : Int)) (.int .i64 (n : Int))).run Try.prog w = .ok (.slice (some ⟨w.heap.size, 0, none⟩) n n) (w.alloc (.cells (madeCells #[.slice none 0 0] n) 23)) := by
  obtain ⟨i0, hi, hz0, hz1, hz2⟩ := info_parts infoInts
  have := run_make_rowN (P := Try.prog) 22 23 i0 (.slice none 0 0) Try.underlying22 hi hz0 .i64 .i64 n n (Nat.le_refl _) (by rw [hz2]; omega) (by omega) w
  rw [hz1, Nat.mul_one] at this
  exact this
theorem ordL_lenT (n : Nat) (hn : n ≤ 5) : (ordL (List.range n) n []).length ≤ 3125 := by
  have : ∀ m : Nat, m < 6 → (ordL (List.range m) m []).length ≤ 3125 := by decide +kernel
  exact this n (by omega)

set_option maxHeartbeats 8000000 in
set_option maxRecDepth 1000000 in
theorem tally_choose (A : Option Addr) (n c : Nat) (t : Nat → Nat → Nat) (w : World) (hw : Wis w A n t) (hn1 : 1 ≤ n) (hn : n ≤ 5) (ht : ∀ i, i < n → Pm n (t i)) :
    Calls Try.prog 65 #[.agg #[.int .i64 n, .slice A n c], .func (.func 53) #[.agg #[.int .i64 n, .slice A n c]] #[]] w fun e w' => e = .returned (.slice (some ⟨w.heap.size + 2, 0, none⟩) n n) ∧ MatI w' (w.heap.size + 2) (w.heap.size + 4) n (cnU (fun x => chF t n (rN x)) (ordL (List.range n) n [])) ∧ Below w.heap.size w w' := by
  have HW := Lib.hid hw
  have HT := Lib.hid ht
  have hN : (ordL (List.range n) n []).length ≤ 3125 := ordL_lenT n hn
  have HN := Lib.hid hN
  clear hw ht hN
  refine (callsIn_wide (n := 3)).1 (callsIn_of_wp_marks Try.func65 rfl trivial ?_ rfl)
  simp only [Try.ntmps65, List.size_toArray, List.length_cons, List.length_nil, Nat.reduceAdd, Nat.reduceSub, Array.replicate_succ, Array.replicate_zero, List.push_toArray, List.append_toArray, List.nil_append, List.cons_append]
  rw [wpIn_wide]
  obtain ⟨X1, hX1⟩ : ∃ X1, X1 = w.alloc (.cells #[.int .i64 n, .slice A n c] 50) := ⟨_, rfl⟩
  obtain ⟨X2, hX2⟩ : ∃ X2, X2 = X1.alloc (.cells #[.func (.func 53) #[.agg #[.int .i64 n, .slice A n c]] #[]] 32) := ⟨_, rfl⟩
  have r0 := box2_at w (.int .i64 n) (.slice A n c) 50
  have b1 := box_bel w (.cells #[.int .i64 n, .slice A n c] 50)
  have s1 : X1.heap.size = w.heap.size + 1 := by rw [hX1]; simp
  rw [← hX1] at r0 b1
  have r1 := box1_at X1 (.func (.func 53) #[.agg #[.int .i64 n, .slice A n c]] #[]) 32
  have b2 := box_bel X1 (.cells #[.func (.func 53) #[.agg #[.int .i64 n, .slice A n c]] #[]] 32)
  have s2 : X2.heap.size = w.heap.size + 2 := by rw [hX2]; simp [s1]
  rw [← hX2, s1] at r1
  rw [← hX2] at b2
  have hmk := mk_rowsU n (by omega) X2
  have r2 : (X2.alloc (.cells (madeCells #[.slice none 0 0] n) 23)).rowIs X2.heap.size 23 n (fun _ => .slice none 0 0) := World.rowIs_made X2 _ n _
  have b3 := box_bel X2 (.cells (madeCells #[.slice none 0 0] n) 23)
  obtain ⟨X3, hX3⟩ : ∃ X3, X3 = X2.alloc (.cells (madeCells #[.slice none 0 0] n) 23) := ⟨_, rfl⟩
  have s3 : X3.heap.size = w.heap.size + 3 := by rw [hX3]; simp [s2]
  rw [← hX3] at r2 b3 hmk
  rw [s2] at r2 hmk
  have r3 := box1_at X3 (.slice (some ⟨w.heap.size + 2, 0, none⟩) n n) 22
  have b4 := box_bel X3 (.cells #[.slice (some ⟨w.heap.size + 2, 0, none⟩) n n] 22)
  have s4 : (X3.alloc (.cells #[.slice (some ⟨w.heap.size + 2, 0, none⟩) n n] 22)).heap.size = w.heap.size + 4 := by simp [s3]
  rw [s3] at r3
  have b34 := b3.trans (b4.mono (by omega))
  have b24 := b2.trans (b34.mono (by omega))
  have HB4 := Lib.hid (b1.trans (b24.mono (by omega)))
  have HX4 := Lib.hid (r0.keep b24)
  have HF4 := Lib.hid (cell_on r1 b34)
  have HC4 := Lib.hid r3
  have HR4 := Lib.hid (World.rowIs.of_block r2 (b4.block _ (World.rowIs.lt r2)))
  have x2 := (r0.keep b2).1
  have HE2 := Lib.hid hX2
  have HE3 := Lib.hid hX3
  have HE1 := Lib.hid hX1
  rw [hX2, hX1] at hmk x2
  rw [hX3, hX2, hX1] at hmk
  have HS4 := Lib.hid s4
  clear r0 r1 r2 r3 b1 b2 b3 b4 b34 b24 s1 s2 s3 s4 hX1 hX2 hX3
  go_wp2_with fail
  rw [← HE1.out, ← HE2.out, ← HE3.out]
  clear hmk x2 HE1 HE2 HE3
  obtain ⟨X4, hX4⟩ : ∃ X4, X4 = X3.alloc (.cells #[.slice (some ⟨w.heap.size + 2, 0, none⟩) n n] 22) := ⟨_, rfl⟩
  rw [← hX4] at HB4 HX4 HF4 HC4 HR4 HS4 ⊢
  clear hX4
  have HRw : Hid ((X4.rowIs (w.heap.size + 2) 23 n (fun i => if i < 0 then .slice (some ⟨w.heap.size + 4 + i, 0, none⟩) n n else .slice none 0 0))) := Lib.hid (World.rowIs.congr HR4.out (fun i _ => by simp))
  go_loopw [15] (fun i wr => ∃ k : Nat, k ≤ n ∧ i = .int .i64 k ∧ wr.rowIs (w.heap.size + 2) 23 n (fun i => if i < k then .slice (some ⟨w.heap.size + 4 + i, 0, none⟩) n n else .slice none 0 0) ∧ (∀ i, i < k → RowI wr (w.heap.size + 4 + i) n (fun _ => 0)) ∧ wr.heap.size = w.heap.size + 4 + k ∧ Exc (w.heap.size + 2) X4 wr) (fun i _ => n - (intOf i).toNat)
  case atStart => exact ⟨0, Nat.zero_le _, rfl, HRw.out, fun i hi => absurd hi (by omega), by rw [HS4.out], Exc.refl _ _⟩
  case round =>
    obtain ⟨k, hk, rfl, hr, hrs, hsz, hE⟩ := hrel
    have HR := Lib.hid hr
    have HRs := Lib.hid hrs
    have HE := Lib.hid hE
    have HSz := Lib.hid hsz
    have hc5 := hE.cell HC4.out (by show w.heap.size + 3 ≠ _; omega)
    have hc5t : wr.cell? ⟨w.heap.size + 1 + 1 + 1, 0, none⟩ = some (.slice (some ⟨w.heap.size + 2, 0, none⟩) n n) := hc5
    have hx := hE.cell HX4.out.1 (by show w.heap.size ≠ _; omega)
    clear hr hrs hE hsz HRw
    by_cases hlt : k < n
    · have hc5a : ∀ o : Obj, (wr.alloc o).cell? ⟨w.heap.size + 1 + 1 + 1, 0, none⟩ = some (.slice (some ⟨w.heap.size + 2, 0, none⟩) n n) := fun o => cell_on hc5t (box_bel _ _)
      have hxa : ∀ o : Obj, (wr.alloc o).cell? ⟨w.heap.size, 0, none⟩ = some (.int .i64 n) := fun o => cell_on hx (box_bel _ _)
      have hmk := mk_ints n (by omega)
      have hrc : ∀ o : Obj, (wr.alloc o).cell? ⟨w.heap.size + 2, k, none⟩ = some (.slice none 0 0) := fun o => cell_on (by have := World.rowIs.cell HR.out hlt; rw [if_neg (Nat.lt_irrefl k)] at this; exact this) (box_bel _ _)
      have hrz : ∀ o : Obj, (wr.alloc o).frozen? ⟨w.heap.size + 2, k, none⟩ = false := fun o => (World.frozen?_of_block ((box_bel wr o).block _ (World.rowIs.lt HR.out))).trans (World.rowIs.frozen HR.out k)
      have HNew := Lib.hid (RowI.made wr n)
      go_wp2
      go_region
      all_goals
        go_wp2
        go_roundw
        case rel =>
          have hb := box_bel wr (.cells (madeCells #[.int .i64 0] n) 3)
          have hs2 : (wr.alloc (.cells (madeCells #[.int .i64 0] n) 3)).heap.size = w.heap.size + 4 + k + 1 := by rw [World.size_alloc, HSz.out]
          have e1 : Exc (w.heap.size + 2) (wr.alloc (.cells (madeCells #[.int .i64 0] n) 3)) ((wr.alloc (.cells (madeCells #[.int .i64 0] n) 3)).setCell ⟨w.heap.size + 2, k, none⟩ (.slice (some ⟨wr.heap.size, 0, none⟩) n n)) := (Exc.refl _ _).set k _
          have q1 := World.rowIs.set (World.rowIs.of_block HR.out (hb.block _ (World.rowIs.lt HR.out))) k (.slice (some ⟨wr.heap.size, 0, none⟩) n n)
          have q2 : ∀ i, i < k + 1 → RowI ((wr.alloc (.cells (madeCells #[.int .i64 0] n) 3)).setCell ⟨w.heap.size + 2, k, none⟩ (.slice (some ⟨wr.heap.size, 0, none⟩) n n)) (w.heap.size + 4 + i) n (fun _ => 0) := fun i hi => by
            by_cases e : i = k
            · have hh : w.heap.size + 4 + k = wr.heap.size := HSz.out.symm
              rw [e, hh]
              exact e1.row HNew.out (by rw [HSz.out]; omega)
            · exact e1.row ((HRs.out i (by omega)).keep hb) (by omega)
          have q3 : World.rowIs ((wr.alloc (.cells (madeCells #[.int .i64 0] n) 3)).setCell ⟨w.heap.size + 2, k, none⟩ (.slice (some ⟨wr.heap.size, 0, none⟩) n n)) (w.heap.size + 2) 23 n (fun i => if i < k + 1 then .slice (some ⟨w.heap.size + 4 + i, 0, none⟩) n n else .slice none 0 0) := World.rowIs.congr q1 (fun i _ => by
            by_cases e : i = k
            · rw [if_pos e, if_pos (by omega), HSz.out, e]
            · rw [if_neg e]
              by_cases e2 : i < k
              · rw [if_pos e2, if_pos (by omega)]
              · rw [if_neg e2, if_neg (by omega)])
          have q4 := (HE.out.trans (Exc.of_below hb)).trans e1
          exact ⟨k + 1, by omega, by go_num, q3, q2, by simp [HSz.out]; omega, by first | exact q4 | exact q4.drew⟩
        case measure => simp [intOf]; omega
    · obtain rfl : k = n := by omega
      have hmat : MatI wr (w.heap.size + 2) (w.heap.size + 4) k (cnU (fun x => chF t k (rN x)) []) := ⟨World.rowIs.congr HR.out (fun i hi => by rw [if_pos hi]), fun i hi => (HRs.out i hi).congr (fun j _ => rfl)⟩
      have hbel : Below w.heap.size w wr := HB4.out.trans (HE.out.below (by omega) (by have := HS4.out; omega))
      have HI0 : Hid (TaI w A k c (.func (.func 53) #[.agg #[.int .i64 k, .slice A k c]] #[]) (fun x => chF t k (rN x)) [] wr) := Lib.hid ⟨⟨hx, HE.out.cell HX4.out.2 (by show w.heap.size ≠ _; omega)⟩, HE.out.cell HF4.out (by show w.heap.size + 1 ≠ _; omega), hc5, hmat, hbel⟩
      have hs6' := HSz.out
      clear hmat hbel HR HRs HE HSz hc5 HB4 HX4 HF4 HC4 HR4 HS4
      go_wp2_with fail
      refine (orders_any k wr).mono ?_
      rintro e w6 ⟨rfl, hcs, hb6⟩
      have HI6 := Lib.hid (HI0.out.below hb6)
      have hs6 : wr.heap.size < w6.heap.size := cell_lt hcs
      rw [hs6'] at hcs hs6 ⊢
      clear hb6 HI0 hx hc5t hs6'
      go_wp2_with fail
      rw [← wpIn_wide (n := 3)]
      refine wpIn_rangeRows (F := Fence.wide) (n := 3) (gf := 81) (lb := #[.pointer (some ⟨w.heap.size + 4 + k, 0, none⟩)]) (B := w6.heap.size + 2 + 1) (m := k) (Kb := fun b => ¬ (w.heap.size + 4 ≤ b ∧ b < w.heap.size + 4 + k)) (L := ordL (List.range k) k [])
        rfl (by omega) rfl trivial (enters_of Try.func81 (by kernel_rfl) rfl) (fun b hb => by omega) ?seq rfl
        (TaI w A k c (.func (.func 53) #[.agg #[.int .i64 k, .slice A k c]] #[]) (fun x => chF t k (rN x))) (fun _ _ _ => False)
        (fun s W1 W2 b hb hi he => hi.exc he (by omega)) (fun _ _ _ _ h _ => h.elim) (by omega) HI6.out
        ?act ?assign ?body ?done (fun _ _ _ _ _ h _ => h.elim)
      case seq =>
        intro W hW hWb
        have := orders1_rows k (by omega) (w.heap.size + 4 + k) (w6.heap.size + 1) (3 - 1) (fun b => ¬ (w.heap.size + 4 ≤ b ∧ b < w.heap.size + 4 + k)) W (cell_of_block (hWb _ hs6) hcs) (by omega) ⟨by omega, by omega⟩ (fun b hb => by omega)
        rw [hW] at this
        exact this
      case assign =>
        intro W K hK
        gi_wp2
        exact hK
      case body =>
        intro pre x W hI hL hrow
        have hmem : x ∈ ordL (List.range k) k [] := by
          obtain ⟨r, hr⟩ := hL
          rw [hr]
          simp
        have hlen : pre.length ≤ 3125 := by
          obtain ⟨r, hr⟩ := hL
          have := HN.out
          rw [hr, List.length_append] at this
          omega
        have hpm := (pm_of_mem hmem).2
        have hri : Ints W (some ⟨w6.heap.size + 2 + 1, 0, none⟩) k (fun q => (rN x q : Int)) := hrow.ints
        have cf := hI.fun_
        have HFl := Lib.hid (chF_pm hn HT.out hpm).lt
        have HCh := Lib.hid (choose_any A k c t (some ⟨w6.heap.size + 2 + 1, 0, none⟩) k (rN x) W (HW.out.keep hI.bel) hri hn HT.out hpm)
        have HIn := Lib.hid hI
        have hcl : ∀ i j, cnU (fun x => chF t k (rN x)) pre i j ≤ 3125 := fun i j => Nat.le_trans (cnU_le _ _ _ _) hlen
        have HCl := Lib.hid hcl
        have HSn := Lib.hid (fun i j => cnU_snoc (fun x => chF t k (rN x)) pre x i j)
        have hsW := hrow.lt
        clear hI hL hrow hmem hlen hri hcl HI6
        gi_wp2
        refine ⟨trivial, ?_⟩
        refine CallsIn.mono (CallsIn.inRound _ (callsIn_wide.2 HCh.out)) ?_
        rintro e W4 ⟨B4, rfl, hB4, hR4, hb4⟩
        have HI4 := Lib.hid (HIn.out.below hb4)
        have HR4 := Lib.hid hR4
        have HB4' : Hid (w.heap.size + 4 + k < B4) := Lib.hid (by omega)
        have hB4s := hR4.lt
        have HBd := Lib.hid hb4
        clear hR4 hb4 HCh cf
        generalize hfo : (chF t k (rN x)) = fo at *
        have HFo := Lib.hid hfo
        clear hfo
        gi_wp2
        gi_loopw [33] (fun i wx => ∃ q : Nat, q ≤ k ∧ i = .int .i64 q ∧ MatI wx (w.heap.size + 2) (w.heap.size + 4) k (fun a b => cnU (fun x => chF t k (rN x)) pre a b + if a < q ∧ fo a = b then 1 else 0) ∧ wx.heap.size = W4.heap.size ∧ (∀ b, ¬ (w.heap.size + 4 ≤ b ∧ b < w.heap.size + 4 + k) → b < W4.heap.size → wx.heap[b]? = W4.heap[b]?) ∧ Below w.heap.size w wx) (fun i _ => k - (intOf i).toNat)
        case atStart => exact ⟨0, Nat.zero_le _, rfl, HI4.out.mat.congr (fun a b _ _ => by simp), rfl, fun _ _ _ => rfl, HI4.out.bel⟩
        case round =>
          obtain ⟨q, hq, rfl, hm, hsz, hbl, hbe⟩ := hrel
          have HM := Lib.hid hm
          have HSz := Lib.hid hsz
          have HBl := Lib.hid hbl
          have HBe := Lib.hid hbe
          clear hm hsz hbl hbe
          have hct : wr.cell? ⟨w.heap.size + 1 + 1 + 1, 0, none⟩ = some (.slice (some ⟨w.heap.size + 2, 0, none⟩) k k) := cell_of_block (HBl.out _ (by show ¬ (w.heap.size + 4 ≤ w.heap.size + 3 ∧ _); omega) (cell_lt HI4.out.cnt)) HI4.out.cnt
          by_cases hqn : q < k
          · have hfq := HFl.out q hqn
            have hr := RowI.cell (World.rowIs.of_block HR4.out (HBl.out B4 (by have := HB4'.out; omega) hB4s)) hqn
            have hm1 := World.rowIs.cell HM.out.rows hqn
            have hm2 := (HM.out.row q hqn).cell hfq
            have hz2 := (HM.out.row q hqn).frozen (fo q)
            rw [if_neg (fun h => Nat.lt_irrefl q h.1), Nat.add_zero] at hm2
            have hcb := HCl.out q (fo q)
            have HSet := Lib.hid (HM.out.set hqn (by omega) (fo q) (cnU (fun x => chF t k (rN x)) pre q (fo q) + 1))
            have HE2 : Hid (Exc (w.heap.size + 4 + q) wr (wr.setCell ⟨w.heap.size + 4 + q, fo q, none⟩ (.int .i64 ((cnU (fun x => chF t k (rN x)) pre q (fo q) + 1 : Nat) : Int)))) := Lib.hid ((Exc.refl _ _).set _ _)
            gi_wp2
            refine ⟨⟨q + 1, by omega, by go_num, HSet.out.congr (fun a b ha hb => ?_), ?_, fun b h1 h2 => ?_, HBe.out.trans (HE2.out.below (by omega) HBe.out.size)⟩, by simp [intOf]; omega⟩
            · by_cases e : a = q ∧ b = fo q
              · obtain ⟨rfl, rfl⟩ := e
                rw [if_pos ⟨rfl, rfl⟩, if_pos ⟨by omega, rfl⟩]
              · rw [if_neg e]
                congr 1
                by_cases e2 : a < q ∧ fo a = b
                · rw [if_pos e2, if_pos ⟨by omega, e2.2⟩]
                · rw [if_neg e2, if_neg]
                  rintro ⟨h1, h2⟩
                  by_cases e3 : a = q
                  · exact e ⟨e3, by rw [← h2, e3]⟩
                  · exact e2 ⟨by omega, h2⟩
            · rw [World.size_setCell]; exact HSz.out
            · exact (HE2.out.block b (by rw [HSz.out]; exact h2) (fun e => by injection e with e; omega)).trans (HBl.out b h1 h2)
          · obtain rfl : q = k := by omega
            have hI5 : TaI w A q c (.func (.func 53) #[.agg #[.int .i64 q, .slice A q c]] #[]) (fun x => chF t q (rN x)) (pre ++ [x]) wr := ⟨⟨cell_of_block (HBl.out _ (by show ¬ (w.heap.size + 4 ≤ w.heap.size ∧ _); omega) (cell_lt HI4.out.wish.1)) HI4.out.wish.1, cell_of_block (HBl.out _ (by show ¬ (w.heap.size + 4 ≤ w.heap.size ∧ _); omega) (cell_lt HI4.out.wish.2)) HI4.out.wish.2⟩, cell_of_block (HBl.out _ (by show ¬ (w.heap.size + 4 ≤ w.heap.size + 1 ∧ _); omega) (cell_lt HI4.out.fun_)) HI4.out.fun_, cell_of_block (HBl.out _ (by show ¬ (w.heap.size + 4 ≤ w.heap.size + 3 ∧ _); omega) (cell_lt HI4.out.cnt)) HI4.out.cnt, HM.out.congr (fun a b ha _ => by
              rw [HSn.out a b, ← HFo.out]
              by_cases e : (chF t q (rN x)) a = b
              · rw [if_pos ⟨ha, e⟩, if_pos e]
              · rw [if_neg (fun h => e h.2), if_neg e]), HBe.out⟩
            have HI5 := Lib.hid hI5
            clear hI5
            gi_wp2
            exact ⟨⟨by rw [HSz.out]; exact HBd.out.size, fun b h1 h2 => (HBl.out b h1 (by have := HBd.out.size; omega)).trans (HBd.out.block b h2)⟩, HI5.out⟩
      case done =>
        intro D W hD hI hk
        have hct : W.cell? ⟨w.heap.size + 1 + 1 + 1, 0, none⟩ = some (.slice (some ⟨w.heap.size + 2, 0, none⟩) k k) := hI.cnt
        have HIn := Lib.hid hI
        have HK2 := Lib.hid hk
        clear hI hk
        go_wp2
        refine ⟨by simp, .inl ⟨_, _, rfl, run_takeDeferred HK2.out, ?_⟩⟩
        have e3 := exc_putObj W D (.deferred none)
        have hI3 := HIn.out.exc e3 (by omega)
        exact ⟨.slice (some ⟨w.heap.size + 2, 0, none⟩) k k, by simp [results, Try.results65, go_sem], rfl, hI3.mat, hI3.bel⟩
end Go.Proofs.Ytocfbafcplhmiaa
