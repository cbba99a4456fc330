/- Path. -/
import Derived.Test.YtnobbklnnkpdfaaPs
import Derived.Test.YtnobbklnnkpdfaaDe
import Derived.Test.YtnobbklnnkpdfaaCc
import Derived.Test.YtnobbklnnkpdfaaWi
import Derived.Test.YtnobbklnnkpdfaaFa
import Derived.Test.YtnobbklnnkpdfaaMk
import Derived.Test.YtnobbklnnkpdfaaSm
import Derived.Test.YtnobbklnnkpdfaaIr
import Derived.RangeFuncCalls
import Derived.Deep.RegionHeld3
namespace Go.Proofs.Ytnobbklnnkpdfaa
open Go.RowKit
attribute [local go_sem] Oper.semAt_some

def rowV (W : Nat → Int) (a : Nat) : Value := .agg #[.int .i64 (W (5 * a)), .int .i64 (W (5 * a + 1)), .int .i64 (W (5 * a + 2)), .int .i64 (W (5 * a + 3)), .int .i64 (W (5 * a + 4))]
theorem index_row (W : Nat → Int) (a : Nat) (ha : a < 5) (w : World) : (Instr.index 54 (.agg (tabL W).toArray) (.int .i64 (a : Int))).run Try.prog w = .ok (rowV W a) w := by
  obtain rfl | rfl | rfl | rfl | rfl : a = 0 ∨ a = 1 ∨ a = 2 ∨ a = 3 ∨ a = 4 := by omega
  all_goals kernel_rfl
theorem index_cell (W : Nat → Int) (a b : Nat) (_ha : a < 5) (hb : b < 5) (w : World) : (Instr.index 52 (rowV W a) (.int .i64 (b : Int))).run Try.prog w = .ok (.int .i64 (W (5 * a + b))) w := by
  obtain rfl | rfl | rfl | rfl | rfl : b = 0 ∨ b = 1 ∨ b = 2 ∨ b = 3 ∨ b = 4 := by omega
  all_goals kernel_rfl

/-- The numbers below c but for a and b. -/
def othL (c a b : Nat) : List Nat := ((List.range c).filter (fun x => !(x == a))).filter (fun x => !(x == b))
def pthL (a b : Nat) (m : List Nat) : List Nat := a :: (m ++ [b])
/-- Is the path by m as strong as the width? -/
def pthB (T : Nat → Int) (c a b : Nat) (m : List Nat) : Bool := decide (stL T (pthL a b m) = wT c T c (5 * a + b))
/-- The world of Path between two sizes. -/
structure PthI (w : World) (gp gw gO z : Nat) (A : Option Addr) (n cA c a b : Nat) (T : Nat → Int) (D : Nat → Int) (s : Nat) (ds : List Nat) (W : World) : Prop where
  ra : W.rowIs w.heap.size 3 1 (fun _ => .int .i64 (a : Int))
  rb : W.rowIs (w.heap.size + 1) 3 1 (fun _ => .int .i64 (b : Int))
  r3 : W.rowIs (w.heap.size + 2) 23 1 (fun _ => .slice none 0 0)
  r4 : W.rowIs (w.heap.size + 3) 24 1 (fun _ => .int .i64 0)
  poll : PollI W gp A n cA c T
  wid : W.rowIs gw 3 1 (fun _ => .int .i64 (wT c T c (5 * a + b)))
  oth : RowI W gO c D
  bel : Below w.heap.size w W
  zle : z ≤ W.heap.size
  marks : Marks W z ds
  no : ∀ s', s' < s → ∀ m ∈ ordL (othL c a b) s' [], pthB T c a b m = false
theorem PthI.below {w W1 W2 : World} {gp gw gO z n cA c a b s : Nat} {A : Option Addr} {T D : Nat → Int} {ds : List Nat} (h : PthI w gp gw gO z A n cA c a b T D s ds W1) (hb : Below W1.heap.size W1 W2) : PthI w gp gw gO z A n cA c a b T D s ds W2 :=
  ⟨World.rowIs.of_block h.ra (hb.block _ (World.rowIs.lt h.ra)), World.rowIs.of_block h.rb (hb.block _ (World.rowIs.lt h.rb)), World.rowIs.of_block h.r3 (hb.block _ (World.rowIs.lt h.r3)), World.rowIs.of_block h.r4 (hb.block _ (World.rowIs.lt h.r4)), h.poll.keep hb, World.rowIs.of_block h.wid (hb.block _ (World.rowIs.lt h.wid)), h.oth.keep hb, h.bel.trans (hb.mono h.bel.size), Nat.le_trans h.zle hb.size, h.marks.keep (fun D hD => hb.block D (h.marks.lt hD)), h.no⟩
/-- Some path is as strong as the width. -/
structure PthX (w : World) (z z2 s c a b : Nat) (T : Nat → Int) (ds : List Nat) (all : List (List Nat)) (W : World) : Prop where
  it : ∃ p x q g cap, all = p ++ x :: q ∧ (∀ y ∈ p, pthB T c a b y = false) ∧ pthB T c a b x = true ∧ W.rowIs (w.heap.size + 2) 23 1 (fun _ => .slice (some ⟨g, 0, none⟩) (s + 2) cap) ∧ RowC W g cap (s + 2) (rowF (pthL a b x)) ∧ z2 < g
  r4 : W.rowIs (w.heap.size + 3) 24 1 (fun _ => .int .i64 0)
  bel : Below w.heap.size w W
  marks : Marks W z ds
theorem RowC.of_blk {w w' : World} {g cap m : Nat} {D : Nat → Int} (h : RowC w g cap m D) (e : w'.heap[g]? = w.heap[g]?) : RowC w' g cap m D := by
  obtain ⟨F, h1, h2, h3⟩ := h
  exact ⟨F, World.rowIs.of_block h1 e, h2, h3⟩
theorem PthX.exc' {w W1 W2 : World} {z z2 s c a b l : Nat} {T : Nat → Int} {ds : List Nat} {all : List (List Nat)} (h : PthX w z z2 s c a b T ds all W1) (he : Exc l W1 W2) (hl : w.heap.size + 3 < l) (hz : l ≤ z2) (hd : ∀ D ∈ ds, D ≠ l) : PthX w z z2 s c a b T ds all W2 := by
  have hbl : ∀ g, g ≠ l → g < W1.heap.size → W2.heap[g]? = W1.heap[g]? := fun g k1 k3 => he.block g k3 (fun e => by injection e with e; exact k1 e)
  obtain ⟨p, x, q, g, cap, e1, e2, e3, e4, e5, e6⟩ := h.it
  exact ⟨⟨p, x, q, g, cap, e1, e2, e3, World.rowIs.of_block e4 (hbl _ (by omega) (World.rowIs.lt e4)), e5.of_blk (hbl _ (by omega) e5.lt), e6⟩, World.rowIs.of_block h.r4 (hbl _ (by omega) (World.rowIs.lt h.r4)), h.bel.trans (he.below (by omega) h.bel.size), h.marks.keep (fun D hD => hbl D (hd D hD) (h.marks.lt hD))⟩
def thrL (s k : Nat) : Nat := if k = 1 then s else 1
def thrV (a b : Int) (f : Nat → Int) (k : Nat) : Nat → Int := if k = 0 then fun _ => a else if k = 1 then f else fun _ => b
theorem three_rows {W : World} {a b : Int} {B s : Nat} {f : Nat → Int} (hB : RowI W B s f) :
    RowsK (((W.alloc (.cells #[.int .i64 a] 3)).alloc (.cells #[.int .i64 b] 3)).alloc (.cells #[.slice (some ⟨W.heap.size, 0, none⟩) 1 1, .slice (some ⟨B, 0, none⟩) s s, .slice (some ⟨W.heap.size + 1, 0, none⟩) 1 1] 23)) (some ⟨W.heap.size + 1 + 1, 0, none⟩) 3 (thrL s) (thrV a b f) ∧
    Below W.heap.size W (((W.alloc (.cells #[.int .i64 a] 3)).alloc (.cells #[.int .i64 b] 3)).alloc (.cells #[.slice (some ⟨W.heap.size, 0, none⟩) 1 1, .slice (some ⟨B, 0, none⟩) s s, .slice (some ⟨W.heap.size + 1, 0, none⟩) 1 1] 23)) := by
  have b1 : Below W.heap.size W (W.alloc (.cells #[.int .i64 a] 3)) := (Below.refl _ W).alloc (Nat.le_refl _) _
  have r1 := box_row W (.int .i64 a) 3
  have s1 : (W.alloc (.cells #[.int .i64 a] 3)).heap.size = W.heap.size + 1 := by simp
  generalize W.alloc (.cells #[.int .i64 a] 3) = X1 at *
  have b2 : Below X1.heap.size X1 (X1.alloc (.cells #[.int .i64 b] 3)) := (Below.refl _ X1).alloc (Nat.le_refl _) _
  have r2 := box_row X1 (.int .i64 b) 3
  have s2 : (X1.alloc (.cells #[.int .i64 b] 3)).heap.size = W.heap.size + 1 + 1 := by simp [s1]
  generalize X1.alloc (.cells #[.int .i64 b] 3) = X2 at *
  have b3 : Below X2.heap.size X2 (X2.alloc (.cells #[.slice (some ⟨W.heap.size, 0, none⟩) 1 1, .slice (some ⟨B, 0, none⟩) s s, .slice (some ⟨W.heap.size + 1, 0, none⟩) 1 1] 23)) := (Below.refl _ X2).alloc (Nat.le_refl _) _
  have hh := heap_alloc_new X2 (.cells #[.slice (some ⟨W.heap.size, 0, none⟩) 1 1, .slice (some ⟨B, 0, none⟩) s s, .slice (some ⟨W.heap.size + 1, 0, none⟩) 1 1] 23)
  generalize X2.alloc (.cells #[.slice (some ⟨W.heap.size, 0, none⟩) 1 1, .slice (some ⟨B, 0, none⟩) s s, .slice (some ⟨W.heap.size + 1, 0, none⟩) 1 1] 23) = X3 at *
  rw [s1] at r2
  rw [s2] at hh
  have hb13 := b2.trans (b3.mono b2.size)
  have hb := b1.trans (hb13.mono b1.size)
  have q1 := World.rowIs.of_block r1 (hb13.block _ (by omega))
  have q2 := World.rowIs.of_block r2 (b3.block _ (by omega))
  have hc : ∀ i u, (#[Value.slice (some ⟨W.heap.size, 0, none⟩) 1 1, .slice (some ⟨B, 0, none⟩) s s, .slice (some ⟨W.heap.size + 1, 0, none⟩) 1 1] : Array Value)[i]? = some u → X3.cell? ⟨W.heap.size + 1 + 1, i, none⟩ = some u := fun i u hu => by
    simp only [World.cell?, hh]
    exact hu
  refine ⟨fun _ => ⟨W.heap.size + 1 + 1, 0, rfl, fun i hi => ?_⟩, hb⟩
  rw [Nat.zero_add]
  obtain rfl | rfl | rfl : i = 0 ∨ i = 1 ∨ i = 2 := by omega
  · exact ⟨some ⟨W.heap.size, 0, none⟩, 1, hc 0 _ rfl, Nat.le_refl _, fun _ => ⟨W.heap.size, 0, rfl, fun k hk => by
      have hk0 : k < 1 := hk
      have : k = 0 := by omega
      subst this
      exact World.rowIs.cell q1 (by omega)⟩⟩
  · exact ⟨some ⟨B, 0, none⟩, s, hc 1 _ rfl, Nat.le_refl _, (hB.keep hb).ints⟩
  · exact ⟨some ⟨W.heap.size + 1, 0, none⟩, 1, hc 2 _ rfl, Nat.le_refl _, fun _ => ⟨W.heap.size + 1, 0, rfl, fun k hk => by
      have hk0 : k < 1 := hk
      have : k = 0 := by omega
      subst this
      exact World.rowIs.cell q2 (by omega)⟩⟩
theorem three_cat (a b : Nat) (x : List Nat) : catL (thrL x.length) (thrV (a : Int) (b : Int) (rowF x)) 3 = lst (x.length + 2) (rowF (pthL a b x)) := by
  have e : (pthL a b x).length = x.length + 2 := by simp [pthL]
  rw [← e, intL_lst]
  show (([] ++ lst 1 (fun _ => (a : Int))) ++ lst x.length (rowF x)) ++ lst 1 (fun _ => (b : Int)) = intL (a :: (x ++ [b]))
  rw [intL_lst]
  simp [intL, lst]
theorem pth_of {c a b : Nat} {p : List Nat} (h : WayL c a b p) (hn : p.Nodup) (hab : a ≠ b) : ∃ m, p = pthL a b m ∧ m ∈ ordL (othL c a b) m.length [] := by
  have h1 := h.fst
  have h2 := h.lst
  have h3 := h.two
  have h4 := h.rng
  cases p with
  | nil => simp at h3
  | cons x r =>
    have ex : x = a := by simpa using h1
    subst ex
    have hr : r ≠ [] := fun e => by rw [e] at h3; simp at h3
    have hl : r.getLast? = some b := by
      cases r with
      | nil => exact absurd rfl hr
      | cons y r => rwa [List.getLast?_cons_cons] at h2
    obtain ⟨m, rfl⟩ := List.getLast?_eq_some_iff.1 hl
    refine ⟨m, rfl, (mem_ordL _ _ _ _).2 ⟨m, rfl, rfl, fun y hy => ⟨?_, by simp⟩, ?_⟩⟩
    · obtain ⟨k1, k2⟩ := List.nodup_cons.1 hn
      unfold othL
      simp only [List.mem_filter, List.mem_range, Bool.not_eq_true', beq_eq_false_iff_ne]
      refine ⟨⟨h4 y (by simp [hy]), fun e => k1 (by rw [← e]; simp [hy])⟩, fun e => ?_⟩
      rw [List.nodup_append] at k2
      exact k2.2.2 y hy b (by simp) e
    · exact (List.nodup_append.1 (List.nodup_cons.1 hn).2).1
/-- What Path answers. -/
def PathR (w : World) (c a b : Nat) (T : Nat → Int) (e : Ending) (w' : World) : Prop :=
  ∃ s p x q g cap, s + 2 ≤ c ∧ (∀ s', s' < s → ∀ m ∈ ordL (othL c a b) s' [], pthB T c a b m = false) ∧ ordL (othL c a b) s [] = p ++ x :: q ∧ (∀ y ∈ p, pthB T c a b y = false) ∧ pthB T c a b x = true ∧
    e = .returned (.tuple #[.slice (some ⟨g, 0, none⟩) (s + 2) cap, .int .i64 0]) ∧ RowC w' g cap (s + 2) (rowF (pthL a b x)) ∧ Below w.heap.size w w'

set_option maxHeartbeats 2000000 in
set_option maxRecDepth 1000000 in
theorem Path_ok (A : Option Addr) (n cA a b : Nat) (L : Nat → Nat) (v : Nat → Nat → Int) (w : World) (h : RowsK w A n L v) (hok : okBal n L v = true) (hA : n ≤ cA) (ha : a < L 0) (hb : b < L 0) (hab : a ≠ b) :
    Calls Try.prog 22 #[.slice A n cA, .int .i64 (a : Int), .int .i64 (b : Int)] w fun e w' => PathR w (L 0) a b (mAll v (L 0) n) e w' := by
  obtain ⟨⟨hn1, hn9⟩, ⟨hc1, hc5⟩, hO⟩ := okBal_iff.1 hok
  have H := Lib.hid h
  have HK := Lib.hid hok
  have HC := Lib.hid (fun w' (hb : Below w.heap.size w w') => count_ok A n cA L v w' (h.keep hb) hok hA)
  clear h hok hO
  refine (callsIn_wide (n := 3)).1 (callsIn_of_wp_marks Try.func22 rfl trivial ?_ rfl)
  simp only [Try.ntmps22, List.size_toArray, List.length_cons, List.length_nil, Nat.reduceAdd, Nat.reduceSub, Array.replicate_succ, Array.replicate_zero, List.push_toArray, List.append_toArray, List.nil_append, List.cons_append]
  rw [wpIn_wide]
  go_wp2_with fail
  have b1 : Below w.heap.size w (w.alloc (.cells #[.int .i64 (a : Int)] 3)) := (Below.refl _ w).alloc (Nat.le_refl _) _
  have r1 := box_row w (.int .i64 (a : Int)) 3
  have s1 : (w.alloc (.cells #[.int .i64 (a : Int)] 3)).heap.size = w.heap.size + 1 := by simp
  generalize w.alloc (.cells #[.int .i64 (a : Int)] 3) = X1 at *
  have r2 := box_row X1 (.int .i64 (b : Int)) 3
  have b2 : Below X1.heap.size X1 (X1.alloc (.cells #[.int .i64 (b : Int)] 3)) := (Below.refl _ X1).alloc (Nat.le_refl _) _
  have s2 : (X1.alloc (.cells #[.int .i64 (b : Int)] 3)).heap.size = w.heap.size + 2 := by simp [s1]
  generalize X1.alloc (.cells #[.int .i64 (b : Int)] 3) = X2 at *
  have r3 := box_row X2 (.slice none 0 0) 23
  have b3 : Below X2.heap.size X2 (X2.alloc (.cells #[.slice none 0 0] 23)) := (Below.refl _ X2).alloc (Nat.le_refl _) _
  have s3 : (X2.alloc (.cells #[.slice none 0 0] 23)).heap.size = w.heap.size + 3 := by simp [s2]
  generalize X2.alloc (.cells #[.slice none 0 0] 23) = X3 at *
  have r4 := box_row X3 (.int .i64 0) 24
  have b4 : Below X3.heap.size X3 (X3.alloc (.cells #[.int .i64 0] 24)) := (Below.refl _ X3).alloc (Nat.le_refl _) _
  have s4 : (X3.alloc (.cells #[.int .i64 0] 24)).heap.size = w.heap.size + 4 := by simp [s3]
  generalize X3.alloc (.cells #[.int .i64 0] 24) = X4 at *
  rw [s1] at r2
  rw [s2] at r3
  rw [s3] at r4
  have r3 := World.rowIs.of_block r3 (b4.block _ (by omega))
  have r2 := World.rowIs.of_block r2 ((b3.trans (b4.mono (by omega))).block _ (by omega))
  have r1 := World.rowIs.of_block r1 ((b2.trans ((b3.trans (b4.mono (by omega))).mono (by omega))).block _ (by omega))
  have hb4 := (b1.trans (b2.mono (by omega))).trans ((b3.trans (b4.mono (by omega))).mono (by omega))
  clear b1 b2 b3 b4
  refine (HC.out X4 hb4).mono ?_
  rintro e w4 ⟨rfl, hb5⟩
  have HZ4 := Lib.hid (PollI.zero w4)
  have hb4z := zero_below w4
  have hs4 := hb5.size
  go_wp2_with fail
  rw [run_storePoll _ _ _ A n cA (L 0) (mAll v (L 0) n) HZ4.out]
  simp only [Result.andThen_ok]
  rw [Oper.upon_skip]
  have HR := Lib.hid (PollI.stored (A := A) (n := n) (cA := cA) (c := L 0) (T := mAll v (L 0) n) HZ4.out)
  have hX5 := below_setCells (pollL A n cA (L 0) (mAll v (L 0) n)) 0 hb5.size (hb5.trans (hb4z.mono hb5.size))
  generalize World.setCells _ w4.heap.size 0 (pollL A n cA (L 0) (mAll v (L 0) n)) = W5 at *
  have hb5sz : X4.heap.size ≤ w4.heap.size := hs4
  clear HZ4 hb4z hb5
  have r1 := World.rowIs.of_block r1 (hX5.block _ (by omega))
  have r2 := World.rowIs.of_block r2 (hX5.block _ (by omega))
  have r3 := World.rowIs.of_block r3 (hX5.block _ (by omega))
  have r4 := World.rowIs.of_block r4 (hX5.block _ (by omega))
  have c1 := World.rowIs.cell r1 (i := 0) (by omega)
  have c2 := World.rowIs.cell r2 (i := 0) (by omega)
  have hq1 := HR.out.c1
  have d1 : decide ((a : Int) < 0) = false := decide_eq_false (by omega)
  have d2 : decide ((b : Int) < 0) = false := decide_eq_false (by omega)
  have d3 : decide (((L 0 : Nat) : Int) ≤ (a : Int)) = false := decide_eq_false (by omega)
  have d4 : decide (((L 0 : Nat) : Int) ≤ (b : Int)) = false := decide_eq_false (by omega)
  have d3' : decide (L 0 ≤ a) = false := decide_eq_false (by omega)
  have d4' : decide (L 0 ≤ b) = false := decide_eq_false (by omega)
  have d5 := beq_f (fun e => hab (by omega) : ¬ (a : Int) = (b : Int))
  go_wp2_with fail
  obtain ⟨T, hT⟩ : ∃ T, T = mAll v (L 0) n := ⟨_, rfl⟩
  rw [← hT] at HR ⊢
  have HTm := Lib.hid hT
  have HTb : Hid (∀ x y, x < L 0 → y < L 0 → -99 ≤ T (5 * x + y) ∧ T (5 * x + y) ≤ 99) := Lib.hid (fun x y hx hy => by
    rw [hT, mAll_at hc5 hx hy n (fun i hi => ((okBal_iff.1 HK.out).2.2 i hi).2)]
    have := mrg_bd v (L 0) x y n
    omega)
  clear hT
  have hix1 := fun w => index_row (wT (L 0) T (L 0)) a (by omega) w
  have hix2 := fun w => index_cell (wT (L 0) T (L 0)) a b (by omega) (by omega) w
  have hl : (Try.prog.info? 56).map (·.size) = some (pollL A n cA (L 0) T).length := by rw [pollL_len]; exact infoPoll
  have hS0 : PollI W5.drew w4.heap.size A n cA (L 0) T ∧ W5.drew.cell? ⟨w.heap.size, 0, none⟩ = some (.int .i64 (a : Int)) ∧ W5.drew.cell? ⟨w.heap.size + 1, 0, none⟩ = some (.int .i64 (b : Int)) := ⟨HR.out, c1, c2⟩
  have hbd0 : Below W5.heap.size W5 W5.drew := (Dn.refl _).drew.below _
  refine wp_region_noPanic ?_
  refine wp_region_held (S := fun w' => PollI w' w4.heap.size A n cA (L 0) T ∧ w'.cell? ⟨w.heap.size, 0, none⟩ = some (.int .i64 (a : Int)) ∧ w'.cell? ⟨w.heap.size + 1, 0, none⟩ = some (.int .i64 (b : Int))) (by kernel_rfl) ?_
  refine wpAnyH_take (i := 0) (v := .agg (pollL A n cA (L 0) T).toArray) rfl (by kernel_rfl) (by kernel_rfl) (by kernel_rfl) (fun _ _ _ h => h) (yieldsIf_load_mid (by rfl) 56 (.tmp 8) (by rfl) w4.heap.size 0 (by rfl) (pollL A n cA (L 0) T) _ (fun w h => h.1.range) Try.underlying56 rfl hl) hS0 ?_
  refine wpAnyH_take (i := 2) (v := .int .i64 (a : Int)) rfl (by kernel_rfl) (by kernel_rfl) (by kernel_rfl) (fun _ _ _ h => h) (Or.inl ⟨by rfl, fun w hS => by have hq := hS.2.1; go_simp⟩) hS0 ?_
  refine wpAnyH_take (i := 4) (v := .int .i64 (b : Int)) rfl (by kernel_rfl) (by kernel_rfl) (by kernel_rfl) (fun _ _ _ h => h) (Or.inl ⟨by rfl, fun w hS => by have hq := hS.2.2; go_simp⟩) hS0 ?_
  refine wpAnyH_all (rs := [1, 6]) (by kernel_rfl) (by simp) (fun i hi => ?_)
  rcases (by simpa using hi : i = 1 ∨ i = 6) with rfl | rfl
  · refine wpOp_of (by rfl) (by rfl) ?_
    go_simp
    go_at_call 46
    refine (widths_any A n cA (L 0) T hc5 _).mono ?_
    rintro e W6 ⟨rfl, hb6⟩
    have hS6 : PollI W6 w4.heap.size A n cA (L 0) T ∧ W6.cell? ⟨w.heap.size, 0, none⟩ = some (.int .i64 (a : Int)) ∧ W6.cell? ⟨w.heap.size + 1, 0, none⟩ = some (.int .i64 (b : Int)) := ⟨hS0.1.keep hb6, cell_keep hS0.2.1 hb6, cell_keep hS0.2.2 hb6⟩
    refine ⟨hS6, ?_⟩
    refine wpAnyH_take (i := 3) (v := rowV (wT (L 0) T (L 0)) a) rfl (by kernel_rfl) (by kernel_rfl) (by kernel_rfl) (fun _ _ _ h => h) (Or.inl ⟨by rfl, fun w _ => by go_simp⟩) hS6 ?_
    refine wpAnyH_take (i := 5) (v := .int .i64 (wT (L 0) T (L 0) (5 * a + b))) rfl (by kernel_rfl) (by kernel_rfl) (by kernel_rfl) (fun _ _ _ h => h) (Or.inl ⟨by rfl, fun w _ => by go_simp⟩) hS6 ?_
    refine wpAnyH_all (rs := [6]) (by kernel_rfl) (by simp) (fun i hi => ?_)
    obtain rfl : i = 6 := by simpa using hi
    refine wpOp_of (by rfl) (by rfl) ?_
    go_simp
    have hb7 : Below W5.heap.size W5 (W6.alloc (.cells #[.int .i64 0] 3)) := hbd0.trans ((hb6.mono (Nat.le_refl _)).trans (((Below.refl _ W6).alloc (Nat.le_refl _) _).mono (by have := hb6.size; exact this)))
    have hrw := box_row W6 (.int .i64 0) 3
    have hgw1 : W5.heap.size ≤ W6.heap.size := hb6.size
    generalize W6.alloc (.cells #[.int .i64 0] 3) = W7 at *
    have hS7 : PollI W7 w4.heap.size A n cA (L 0) T ∧ W7.cell? ⟨w.heap.size, 0, none⟩ = some (.int .i64 (a : Int)) ∧ W7.cell? ⟨w.heap.size + 1, 0, none⟩ = some (.int .i64 (b : Int)) := ⟨HR.out.keep hb7, cell_keep c1 hb7, cell_keep c2 hb7⟩
    refine ⟨hS7, ?_⟩
    clear hb6
    generalize W6.heap.size = gw at *
    have hfs : W7.cell? ⟨gw, 0, none⟩ = some (.int .i64 0) ∧ W7.frozen? ⟨gw, 0, none⟩ = false := ⟨World.rowIs.cell hrw (i := 0) (by omega), World.rowIs.frozen hrw 0⟩
    refine wpAnyH_all (rs := [7]) (by kernel_rfl) (by simp) (fun i hi => ?_)
    obtain rfl : i = 7 := by simpa using hi
    refine wpOp_of (by rfl) (by rfl) ?_
    obtain ⟨hfs1, hfs2⟩ := hfs
    go_simp
    have hE8 : Exc gw W7 (W7.setCell ⟨gw, 0, none⟩ (.int .i64 (wT (L 0) T (L 0) (5 * a + b)))) := (Exc.refl _ _).set 0 _
    have hrw8 : World.rowIs (W7.setCell ⟨gw, 0, none⟩ (.int .i64 (wT (L 0) T (L 0) (5 * a + b)))) gw 3 1 (fun _ => .int .i64 (wT (L 0) T (L 0) (5 * a + b))) := World.rowIs.congr (World.rowIs.set hrw 0 _) (fun j hj => by rw [if_pos (show j = 0 by omega)])
    generalize W7.setCell ⟨gw, 0, none⟩ (.int .i64 (wT (L 0) T (L 0) (5 * a + b))) = W8 at *
    have hb8 : Below W5.heap.size W5 W8 := hb7.trans (hE8.below hgw1 hb7.size)
    have hS8 : PollI W8 w4.heap.size A n cA (L 0) T ∧ W8.cell? ⟨w.heap.size, 0, none⟩ = some (.int .i64 (a : Int)) ∧ W8.cell? ⟨w.heap.size + 1, 0, none⟩ = some (.int .i64 (b : Int)) := ⟨HR.out.keep hb8, cell_keep c1 hb8, cell_keep c2 hb8⟩
    refine ⟨hS8, ?_⟩
    refine wpAnyH_done (by kernel_rfl) ?_ _
    refine NoPanic.normal ?_
    clear hS6 hS7 hfs1 hfs2 hE8 hb7 hrw
    have HS8 := Lib.hid hS8
    have HRw := Lib.hid hrw8
    have Hb8 := Lib.hid hb8
    clear hS8 hrw8 hb8
    have hq1 := HS8.out.1.c1
    go_wp2_with fail
    refine (upTo_any (L 0) _ (by omega)).mono ?_
    rintro e W9 ⟨rfl, hr9, he9⟩
    have hb9 := he9.below (Nat.le_refl _) (Nat.le_refl _)
    have hs5 := hX5.size
    have hs8 := Hb8.out.size
    have ca9 := cell_keep HS8.out.2.1 hb9
    have cb9 := cell_keep HS8.out.2.2 hb9
    go_wp2_with fail
    refine (deleteFunc_any W8.heap.size (L 0) a b w.heap.size (w.heap.size + 1) W9 hr9 (by omega) ha hb hab (by omega) (by omega) ca9 cb9).mono ?_
    rintro e W10 ⟨rfl, ⟨D, hD, hDk⟩, hE10⟩
    have hE := Exc.trans he9 hE10
    have hb10 : Below W8.heap.size W8 W10 := hE.below (Nat.le_refl _) (Nat.le_refl _)
    have hb510 : Below W5.heap.size W5 W10 := Hb8.out.trans (hb10.mono Hb8.out.size)
    have HI0 : Hid (PthI w w4.heap.size gw W8.heap.size W10.heap.size A n cA (L 0) a b T D 0 [] W10) := Lib.hid
      { ra := World.rowIs.of_block r1 (hb510.block _ (World.rowIs.lt r1))
        rb := World.rowIs.of_block r2 (hb510.block _ (World.rowIs.lt r2))
        r3 := World.rowIs.of_block r3 (hb510.block _ (World.rowIs.lt r3))
        r4 := World.rowIs.of_block r4 (hb510.block _ (World.rowIs.lt r4))
        poll := HR.out.keep hb510
        wid := World.rowIs.of_block HRw.out (hb10.block _ (World.rowIs.lt HRw.out))
        oth := hD
        bel := (hb4.trans (hX5.mono (by omega))).trans (hb510.mono (by omega))
        zle := Nat.le_refl _
        marks := Marks.nil _ _
        no := fun s' hs => absurd hs (by omega) }
    have hOk := kfN_list (L 0) (by omega) a ha b hb hab
    have HOD : Hid (∀ t, t < L 0 - 2 → D t = rowF (othL (L 0) a b) t) := Lib.hid (fun t ht => by
      rw [hDk t ht]
      show _ = (((othL (L 0) a b).getD t 0 : Nat) : Int)
      rw [show (othL (L 0) a b).getD t 0 = kfN (min a b) (max a b) t from hOk.2 t ht])
    have hOl : (othL (L 0) a b).length = L 0 - 2 := hOk.1
    have hgp := HR.out.lt
    have hgp2 := hb5sz
    have hgw2 := World.rowIs.lt HRw.out
    have hgO := hD.lt
    have hW10 := hb10.size
    clear hr9 he9 hD hDk hE10 hb9 ca9 cb9 hOk hE hb10 hb510 hq1
    go_wp2_with fail
    refine wp_loop (fun act W => ∃ (s : Nat) (ds : List Nat) (t62 t12 t63 t64 t65 t66 t67 t82 : Value), s ≤ L 0 - 2 + 1 ∧ ds.length = s ∧ t62 = .int .i64 (s : Int) ∧ act = { tmps := #[.slice A n cA, .int .i64 (a : Int), .int .i64 (b : Int), undef, .pointer (some ⟨w.heap.size, 0, none⟩), .pointer (some ⟨w.heap.size + 1, 0, none⟩), .pointer (some ⟨w.heap.size + 1 + 1, 0, none⟩), .pointer (some ⟨w.heap.size + 1 + 1 + 1, 0, none⟩), .pointer (some ⟨w4.heap.size, 0, none⟩), .bool true, .pointer (some ⟨gw, 0, none⟩), .slice (some ⟨W8.heap.size, 0, none⟩) (L 0 - 2) (L 0), t12, undef, undef, .tuple #[.agg (pollL A n cA (L 0) T).toArray, .bool true], .slice A n cA, .tuple #[.agg (pollL A n cA (L 0) T).toArray, .bool true], .agg (pollL A n cA (L 0) T).toArray, .bool true, .bool true, .bool false, .bool false, .int .i64 (a : Int), .bool false, .bool false, .bool false, .int .i64 (a : Int), .pointer (some ⟨w4.heap.size, 1, none⟩), .int .i64 ((L 0 : Nat) : Int), .bool false, .bool false, .bool false, .int .i64 (b : Int), .bool false, .bool false, .bool false, .int .i64 (b : Int), .pointer (some ⟨w4.heap.size, 1, none⟩), .int .i64 ((L 0 : Nat) : Int), .bool false, .bool false, .bool false, .int .i64 (a : Int), .int .i64 (b : Int), .bool false, .bool false, .agg (pollL A n cA (L 0) T).toArray, .agg (tabL (wT (L 0) T (L 0))).toArray, .int .i64 (a : Int), rowV (wT (L 0) T (L 0)) a, .int .i64 (b : Int), .int .i64 (wT (L 0) T (L 0) (5 * a + b)), .pointer (some ⟨w4.heap.size, 1, none⟩), .int .i64 ((L 0 : Nat) : Int), .slice (some ⟨W8.heap.size, 0, none⟩) (L 0) (L 0), .slice (some ⟨W8.heap.size, 0, none⟩) (L 0) (L 0), .func (.func 48) #[] #[.pointer (some ⟨w.heap.size, 0, none⟩), .pointer (some ⟨w.heap.size + 1, 0, none⟩)], .slice (some ⟨W8.heap.size, 0, none⟩) (L 0 - 2) (L 0), .slice (some ⟨W8.heap.size, 0, none⟩) (L 0 - 2) (L 0), .int .i64 ((L 0 - 2 : Nat) : Int), .int .i64 (((L 0 - 2 : Nat) : Int) + 1), t62, t63, t64, t65, t66, t67, undef, undef, undef, undef, undef, undef, undef, undef, undef, undef, undef, undef, undef, undef, t82], defers := ds.map markD } ∧ PthI w w4.heap.size gw W8.heap.size W10.heap.size A n cA (L 0) a b T D s ds W) (fun act _ => L 0 - 2 + 1 - act.defers.length) ?start ?round
    case start => exact ⟨0, [], _, _, _, _, _, _, _, _, Nat.zero_le _, rfl, rfl, rfl, HI0.out⟩
    case round =>
      rintro act W ⟨s, ds, t62, t12, t63, t64, t65, t66, t67, t82, hs, hds, rfl, rfl, hI⟩
      have HI := Lib.hid hI
      have hsz := hI.bel.size
      have hz := hI.zle
      clear hI HI0
      by_cases hlt : s < L 0 - 2 + 1
      · go_wp2_with fail
        refine (orders_any _ (L 0 - 2) (L 0) s _).mono ?_
        rintro e w2 ⟨ps, pt, rfl, hps, hpt, hne, hcs, hct, hb2⟩
        have HI2 := Lib.hid (HI.out.below hb2)
        have hsz2 := hb2.size
        have hpsl : ps < w2.heap.size := cell_lt hcs
        have hptl : pt < w2.heap.size := cell_lt hct
        go_wp2_with fail
        have hJ0 : Below w2.heap.size w2 w2 ∧ ∀ x ∈ ([] : List (List Nat)), pthB T (L 0) a b x = false := ⟨Below.refl _ _, fun x hx => by cases hx⟩
        rw [← wpIn_wide (n := 3)]
        refine wpIn_rangeRows (F := Fence.wide) (n := 3) (gf := 67) (lb := #[.pointer (some ⟨ps, 0, none⟩), .pointer (some ⟨pt, 0, none⟩)]) (B := w2.heap.size + 2 + 1) (m := s) (Kb := fun b' => b' ≠ w.heap.size + 2 ∧ b' ≠ w.heap.size + 3) (L := ordL (othL (L 0) a b) s [])
          rfl (by omega) rfl trivial (enters_of Try.func67 (by kernel_rfl) rfl) (fun b' hb' => ⟨by omega, by omega⟩) ?seq rfl
          (fun pre W' => Below w2.heap.size w2 W' ∧ ∀ x ∈ pre, pthB T (L 0) a b x = false) (fun c _ W' => c = .ret ∧ PthX w W10.heap.size (w2.heap.size + 1) s (L 0) a b T ds (ordL (othL (L 0) a b) s []) W')
          (fun pre W1 W2 b' hb' hi he => ⟨hi.1.trans (he.below (by omega) hi.1.size), hi.2⟩) (fun c pre W1 W2 hx he => ⟨hx.1, hx.2.exc' he (by omega) (by omega) (fun D' hD' => by have := HI2.out.marks.lt hD'; omega)⟩) (by omega) hJ0
          ?act ?assign ?body ?done ?stop
        case seq =>
          intro W' hW hWb
          have hoth : RowI W' W8.heap.size (L 0) D := World.rowIs.of_block HI2.out.oth (hWb _ HI2.out.oth.lt)
          have := orders1_rows (some ⟨W8.heap.size, 0, none⟩) (L 0) s (othL (L 0) a b) (by omega) (by omega) ps pt (w2.heap.size + 1) (3 - 1) (fun b' => b' ≠ w.heap.size + 2 ∧ b' ≠ w.heap.size + 3) W' (cell_of_block (hWb _ hpsl) hcs) (by rw [hOl]; exact cell_of_block (hWb _ hptl) hct)
            (fun _ => ⟨W8.heap.size, 0, rfl, fun k hk => by rw [Nat.zero_add, hoth.cell (by omega), HOD.out k (by omega)]⟩)
            (fun b' o' e => by injection e with e; injection e with e1 e2; have := HI2.out.oth.lt; exact ⟨by omega, ⟨by omega, by omega⟩, by omega⟩) (by omega) ⟨⟨by omega, by omega⟩, by omega⟩ ⟨⟨by omega, by omega⟩, by omega⟩ (fun b' hb' => ⟨by omega, by omega⟩)
          rw [hW] at this
          exact this
        case assign =>
          intro W K hK
          gi_wp2
          exact hK
        case body =>
          intro pre x W' hJ hL hrow
          have HJ := Lib.hid hJ
          have HLr := Lib.hid hL
          have HRw2 := Lib.hid hrow
          have HI3 := Lib.hid (HI2.out.below hJ.1)
          have hWs := hJ.1.size
          have hBl := hrow.lt
          have ea := World.rowIs.cell HI3.out.ra (i := 0) (by omega)
          have eb := World.rowIs.cell HI3.out.rb (i := 0) (by omega)
          have eb := Lib.cell?_alloc_some (.cells #[.int .i64 (a : Int)] 3) eb
          clear hJ hL hrow hcs hct hJ0
          gi_wp2
          have hxm : x.length = s ∧ ∀ y ∈ x, y < L 0 ∧ y ≠ a ∧ y ≠ b := by
            obtain ⟨r, hr⟩ := HLr.out
            have hm : x ∈ ordL (othL (L 0) a b) s [] := by rw [hr]; simp
            obtain ⟨suf, e1, e2, e3, -⟩ := (mem_ordL _ _ _ _).1 hm
            have e1' : x = suf := e1
            subst e1'
            refine ⟨e2, fun y hy => ?_⟩
            have := (e3 y hy).1
            unfold othL at this
            simp only [List.mem_filter, List.mem_range, Bool.not_eq_true', beq_eq_false_iff_ne] at this
            exact ⟨this.1.1, this.1.2, this.2⟩
          obtain ⟨hrk, hbv⟩ := three_rows (a := (a : Int)) (b := (b : Int)) HRw2.out
          generalize ((W'.alloc (.cells #[.int .i64 (a : Int)] 3)).alloc (.cells #[.int .i64 (b : Int)] 3)).alloc (.cells #[.slice (some ⟨W'.heap.size, 0, none⟩) 1 1, .slice (some ⟨w2.heap.size + 2 + 1, 0, none⟩) s s, .slice (some ⟨W'.heap.size + 1, 0, none⟩) 1 1] 23) = V3 at *
          have HCon := concat_any (some ⟨W'.heap.size + 1 + 1, 0, none⟩) 3 3 (thrL s) (thrV (a : Int) (b : Int) (rowF x)) V3 hrk (by omega) (by omega) (fun i hi => by unfold thrL; split <;> omega) (by show 1 ≤ 0 + 1 + s + 1; omega)
          refine ⟨trivial, ?_⟩
          refine CallsIn.mono (CallsIn.inRound _ (callsIn_wide.2 HCon)) ?_
          rintro e W6 ⟨xv, rfl, hx, hb6⟩
          have hx2 : OwnL W6 V3.heap.size xv (lst (s + 2) (rowF (pthL a b x))) := by
            have := hx
            rw [← hxm.1, three_cat] at this
            rwa [hxm.1] at this
          obtain ⟨g, cap, rfl, hg, hrc⟩ := hx2.rowC (by omega)
          have hb26 : Below W'.heap.size W' W6 := hbv.trans (hb6.mono hbv.size)
          have hbvs := hbv.size
          clear hrk HCon hx hx2 hbv hb6 ea eb
          gi_wp2
          have hpl : (pthL a b x).length = s + 2 := by simp [pthL, hxm.1]
          have HSt : ∀ q : Later W6, Hid (Lr 50 #[.agg (pollL A n cA (L 0) T).toArray, .slice (some ⟨g, 0, none⟩) (s + 2) cap] q.to (.int .i64 (stL T (pthL a b x)))) := fun q => Lib.hid (by
            have := strength_any A (some ⟨g, 0, none⟩) n cA (L 0) cap T (pthL a b x) hc5 HTb.out (by omega) (by omega) (fun y hy => by
              rcases List.mem_cons.1 hy with e | hy
              · rw [e]; exact ha
              · rcases List.mem_append.1 hy with hy | hy
                · exact (hxm.2 y hy).1
                · rw [List.mem_singleton] at hy; rw [hy]; exact hb) q.to (by rw [hpl]; exact (hrc.keep q.below).ints)
            rwa [hpl] at this)
          have HPq : ∀ q : Later W6, PollI q.to w4.heap.size A n cA (L 0) T := fun q => (HI3.out.poll.keep hb26).keep q.below
          have cW : ∀ q : Later W6, q.to.cell? ⟨gw, 0, none⟩ = some (.int .i64 (wT (L 0) T (L 0) (5 * a + b))) := fun q => q.cell (World.rowIs.cell (World.rowIs.of_block HI3.out.wid (hb26.block _ (World.rowIs.lt HI3.out.wid))) (i := 0) (by omega))
          have hbq : (stL T (pthL a b x) == wT (L 0) T (L 0) (5 * a + b)) = pthB T (L 0) a b x := by
            unfold pthB
            rw [Bool.eq_iff_iff]
            simp
          generalize hst : stL T (pthL a b x) = st at *
          clear hst
          have HRc := Lib.hid hrc
          have HNo : Hid (∀ bb, pthB T (L 0) a b x = bb → bb = false → ∀ y ∈ pre ++ [x], pthB T (L 0) a b y = false) := Lib.hid (fun bb e e2 y hy => by
            rcases List.mem_append.1 hy with hy | hy
            · exact HJ.out.2 y hy
            · rw [List.mem_singleton] at hy; rw [hy, e, e2])
          obtain ⟨bb, hbb⟩ : ∃ bb, pthB T (L 0) a b x = bb := ⟨_, rfl⟩
          rw [hbb] at hbq
          have HBb := Lib.hid hbb
          clear hbb hrc
          refine wp_region_round (by kernel_rfl) (by kernel_rfl) ?nodef ?_
          case nodef =>
            intro j o hj c hc
            rcases j with _ | _ | _ | _ | _ | j
            all_goals (simp at hj)
            all_goals (subst hj; cases hc)
          repeat
            (with_reducible refine wpQuiet_step ?_
             intro K hK
             first
               | (refine quiet_load_poll (by rfl) (.tmp 8) (by rfl) w4.heap.size (by rfl) (fun q => HPq q) ?_; refine hK _ ?_; clear hK K)
               | (go_simp
                  first
                    | (refine hK _ ?_; clear hK K)
                    | (apply Exists.intro
                       refine ⟨fun pq => ?_, hK _ ?_⟩
                       (go_at_call 50; exact Lr.later (HSt _).out)
                       clear hK K)))
          with_reducible refine wpQuiet_nil ?_
          intro _ hw'
          obtain ⟨q7, hw''⟩ := hw'
          subst hw''
          have hbq7 := hb26.trans (q7.below.mono hb26.size)
          have HRc7 := Lib.hid (HRc.out.keep q7.below)
          clear HSt HPq cW hbq
          generalize q7.to = W7 at *
          clear q7
          have hsz7 := hbq7.size
          cases bb with
          | false =>
            gi_wp2
            exact ⟨⟨hsz7, fun b' _ hlt2 => hbq7.block b' hlt2⟩, HJ.out.1.trans (hbq7.mono HJ.out.1.size), HNo.out _ HBb.out rfl⟩
          | true =>
            have R3 := World.rowIs.of_block HI3.out.r3 (hbq7.block _ (World.rowIs.lt HI3.out.r3))
            have R4 := World.rowIs.of_block HI3.out.r4 (hbq7.block _ (World.rowIs.lt HI3.out.r4))
            have hmq := HI3.out.marks.keep (fun D' hD' => hbq7.block D' (HI3.out.marks.lt hD'))
            have hbel7 : Below w.heap.size w W7 := HI3.out.bel.trans (hbq7.mono HI3.out.bel.size)
            have hs7 := hbel7.size
            have c3 : W7.cell? ⟨w.heap.size + 1 + 1, 0, none⟩ = some (.slice none 0 0) := World.rowIs.cell R3 (i := 0) (by omega)
            have f3 : W7.frozen? ⟨w.heap.size + 1 + 1, 0, none⟩ = false := World.rowIs.frozen R3 0
            have c4 : W7.cell? ⟨w.heap.size + 1 + 1 + 1, 0, none⟩ = some (.int .i64 0) := World.rowIs.cell R4 (i := 0) (by omega)
            have f4 : W7.frozen? ⟨w.heap.size + 1 + 1 + 1, 0, none⟩ = false := World.rowIs.frozen R4 0
            gi_wp2
            have e0 : Exc (w.heap.size + 2) W7 (W7.setCell ⟨w.heap.size + 1 + 1, 0, none⟩ (.slice (some ⟨g, 0, none⟩) (s + 2) cap)) := (Exc.refl _ _).set 0 _
            have q3 : World.rowIs (W7.setCell ⟨w.heap.size + 1 + 1, 0, none⟩ (.slice (some ⟨g, 0, none⟩) (s + 2) cap)) (w.heap.size + 2) 23 1 (fun _ => .slice (some ⟨g, 0, none⟩) (s + 2) cap) := World.rowIs.congr (World.rowIs.set R3 0 (.slice (some ⟨g, 0, none⟩) (s + 2) cap)) (fun j hj => by rw [if_pos (show j = 0 by omega)])
            have o4 := World.rowIs.of_block R4 (e0.block _ (World.rowIs.lt R4) (fun e => by injection e with e; omega))
            have hm0 := hmq.keep (fun D hD => e0.block D (hmq.lt hD) (fun e => by injection e with e; have := (hmq.2 D hD).1; omega))
            have hz0 := e0.size
            generalize W7.setCell ⟨w.heap.size + 1 + 1, 0, none⟩ (.slice (some ⟨g, 0, none⟩) (s + 2) cap) = Z1 at *
            have e1 : Exc (w.heap.size + 3) Z1 (Z1.setCell ⟨w.heap.size + 1 + 1 + 1, 0, none⟩ (.int .i64 0)) := (Exc.refl _ _).set 0 _
            have q4 : World.rowIs (Z1.setCell ⟨w.heap.size + 1 + 1 + 1, 0, none⟩ (.int .i64 0)) (w.heap.size + 3) 24 1 (fun _ => .int .i64 0) := World.rowIs.congr (World.rowIs.set o4 0 (.int .i64 0)) (fun j hj => by rw [if_pos (show j = 0 by omega)])
            have q3' := World.rowIs.of_block q3 (e1.block _ (World.rowIs.lt q3) (fun e => by injection e with e; omega))
            have hm1 := hm0.keep (fun D hD => e1.block D (hm0.lt hD) (fun e => by injection e with e; have := (hm0.2 D hD).1; omega))
            have hz1 := e1.size
            generalize Z1.setCell ⟨w.heap.size + 1 + 1 + 1, 0, none⟩ (.int .i64 0) = Z2 at *
            have hblz : ∀ b', b' ≠ w.heap.size + 2 → b' ≠ w.heap.size + 3 → b' < W7.heap.size → Z2.heap[b']? = W7.heap[b']? := fun b' k1 k2 k3 =>
              (e1.block b' (by omega) (fun e => by injection e with e; omega)).trans (e0.block b' k3 (fun e => by injection e with e; omega))
            obtain ⟨rr, hrr⟩ := HLr.out
            refine ⟨⟨by omega, fun b' hb' hlt2 => (hblz b' hb'.1 hb'.2 (by omega)).trans (hbq7.block b' hlt2)⟩, rfl, ?_⟩
            exact { it := ⟨pre, x, rr, g, cap, hrr, HJ.out.2, HBb.out, q3', HRc7.out.of_blk (hblz _ (by omega) (by omega) HRc7.out.lt), by omega⟩
                    r4 := q4
                    bel := hbel7.trans ((e0.below (by omega) hs7).trans (e1.below (by omega) (by omega)))
                    marks := hm1 }
        case done =>
          intro M W' hM hJ hk
          have h5 := HI2.out.below hJ.1
          have hN : Hid (PthI w w4.heap.size gw W8.heap.size W10.heap.size A n cA (L 0) a b T D (s + 1) (M :: ds) W') := Lib.hid
            { ra := h5.ra, rb := h5.rb, r3 := h5.r3, r4 := h5.r4, poll := h5.poll, wid := h5.wid, oth := h5.oth, bel := h5.bel, zle := h5.zle
              marks := HI2.out.marks.cons (fun D' hD' => (h5.marks.2 D' hD').2.trans (HI2.out.marks.2 D' hD').2.symm) (by omega) (by omega) hk
              no := fun s' hs' m hm => by
                by_cases e : s' = s
                · rw [e] at hm; exact hJ.2 m hm
                · exact HI2.out.no s' (by omega) m hm }
          clear h5 hJ hk
          go_wp2
          exact ⟨⟨s + 1, M :: ds, _, _, _, _, _, _, _, _, by omega, by simp [hds], by go_num, rfl, hN.out⟩, by simp; omega⟩
        case stop =>
          intro M c pre W' hM hx hk
          obtain ⟨rfl, hx⟩ := hx
          obtain ⟨p, x, q, g, cap, e1, e2, e3, e4, e5, e6⟩ := hx.it
          have HX := Lib.hid hx
          clear hx
          gi_wp2
          have hmm : Marks W' W10.heap.size (M :: ds) := HI2.out.marks.cons (fun D' hD' => (HX.out.marks.2 D' hD').2.trans (HI2.out.marks.2 D' hD').2.symm) (by omega) (by omega) hk
          refine leaves_marks (M :: ds) W' hmm (fun w' hs' => ?_)
          have hnd : ∀ b', b' < W10.heap.size → b' ∉ M :: ds := fun b' hb' hm => by have := (hmm.2 b' hm).1; omega
          have hng : g ∉ M :: ds := fun hm => by
            rcases List.mem_cons.1 hm with e | hm
            · omega
            · have := HI2.out.marks.lt hm; omega
          have g2 : w'.cell? ⟨w.heap.size + 1 + 1, 0, none⟩ = some (.slice (some ⟨g, 0, none⟩) (s + 2) cap) := World.rowIs.cell (World.rowIs.of_block e4 (hs'.block _ (World.rowIs.lt e4) (hnd _ (by omega)))) (i := 0) (by omega)
          have g3 : w'.cell? ⟨w.heap.size + 1 + 1 + 1, 0, none⟩ = some (.int .i64 0) := World.rowIs.cell (World.rowIs.of_block HX.out.r4 (hs'.block _ (World.rowIs.lt HX.out.r4) (hnd _ (by omega)))) (i := 0) (by omega)
          exact ⟨.tuple #[.slice (some ⟨g, 0, none⟩) (s + 2) cap, .int .i64 0], by simp [results, Try.results22, go_sem, g2, g3],
            by rw [← HTm.out]; exact ⟨s, p, x, q, g, cap, by omega, HI.out.no, e1, e2, e3, rfl, e5.of_blk (hs'.block _ e5.lt hng), HX.out.bel.trans (hs'.below (fun D' hD' => by have := (hmm.2 D' hD').1; omega) HX.out.bel.size)⟩⟩
      · exfalso
        obtain ⟨p, w1, w2, w3, w4'⟩ := width_path (T := T) hc5 (by rw [HTm.out]; exact mAll_dia HK.out) (fun x y hx hy => (HTb.out x y hx hy).2) ha hb hab
        obtain ⟨m, rfl, hm⟩ := pth_of w1 w2 hab
        have hml : (pthL a b m).length = m.length + 2 := by simp [pthL]
        have := HI.out.no m.length (by omega) m hm
        unfold pthB at this
        rw [w4'] at this
        simp at this
  · refine wpOp_of (by rfl) (by rfl) ?_
    go_simp
    have hb6 : Below W5.heap.size W5 (W5.alloc (.cells #[.int .i64 0] 3)).drew := ((Below.refl _ W5).alloc (Nat.le_refl _) _).trans ((Dn.refl _).drew.below _)
    have hrw6 : World.rowIs (W5.alloc (.cells #[.int .i64 0] 3)).drew W5.heap.size 3 1 (fun _ => .int .i64 0) := box_row W5 (.int .i64 0) 3
    have hz6 : (W5.alloc (.cells #[.int .i64 0] 3)).drew.heap.size = W5.heap.size + 1 := by
      show (W5.alloc (.cells #[.int .i64 0] 3)).heap.size = _
      simp
    have hS6 : PollI (W5.alloc (.cells #[.int .i64 0] 3)).drew w4.heap.size A n cA (L 0) T ∧ (W5.alloc (.cells #[.int .i64 0] 3)).drew.cell? ⟨w.heap.size, 0, none⟩ = some (.int .i64 (a : Int)) ∧ (W5.alloc (.cells #[.int .i64 0] 3)).drew.cell? ⟨w.heap.size + 1, 0, none⟩ = some (.int .i64 (b : Int)) := ⟨HR.out.keep hb6, cell_keep c1 hb6, cell_keep c2 hb6⟩
    refine ⟨hS6, ?_⟩
    generalize (W5.alloc (.cells #[.int .i64 0] 3)).drew = W6 at *
    refine wpAnyH_all (rs := [1]) (by kernel_rfl) (by simp) (fun i hi => ?_)
    obtain rfl : i = 1 := by simpa using hi
    refine wpOp_of (by rfl) (by rfl) ?_
    go_simp
    go_at_call 46
    refine (widths_any A n cA (L 0) T hc5 _).mono ?_
    rintro e W7 ⟨rfl, hb7'⟩
    have hb7 : Below W5.heap.size W5 W7 := hb6.trans (hb7'.mono (by omega))
    have hrw := World.rowIs.of_block hrw6 (hb7'.block _ (by omega))
    have hS7 : PollI W7 w4.heap.size A n cA (L 0) T ∧ W7.cell? ⟨w.heap.size, 0, none⟩ = some (.int .i64 (a : Int)) ∧ W7.cell? ⟨w.heap.size + 1, 0, none⟩ = some (.int .i64 (b : Int)) := ⟨hS6.1.keep hb7', cell_keep hS6.2.1 hb7', cell_keep hS6.2.2 hb7'⟩
    refine ⟨hS7, ?_⟩
    refine wpAnyH_take (i := 3) (v := rowV (wT (L 0) T (L 0)) a) rfl (by kernel_rfl) (by kernel_rfl) (by kernel_rfl) (fun _ _ _ h => h) (Or.inl ⟨by rfl, fun w _ => by go_simp⟩) hS7 ?_
    refine wpAnyH_take (i := 5) (v := .int .i64 (wT (L 0) T (L 0) (5 * a + b))) rfl (by kernel_rfl) (by kernel_rfl) (by kernel_rfl) (fun _ _ _ h => h) (Or.inl ⟨by rfl, fun w _ => by go_simp⟩) hS7 ?_
    obtain ⟨gw, hgwe⟩ : ∃ gw, gw = W5.heap.size := ⟨_, rfl⟩
    have hgw1 : W5.heap.size ≤ gw := by omega
    rw [← hgwe] at hrw ⊢
    clear hgwe
    clear hb6 hb7' hrw6 hz6
    have hfs : W7.cell? ⟨gw, 0, none⟩ = some (.int .i64 0) ∧ W7.frozen? ⟨gw, 0, none⟩ = false := ⟨World.rowIs.cell hrw (i := 0) (by omega), World.rowIs.frozen hrw 0⟩
    refine wpAnyH_all (rs := [7]) (by kernel_rfl) (by simp) (fun i hi => ?_)
    obtain rfl : i = 7 := by simpa using hi
    refine wpOp_of (by rfl) (by rfl) ?_
    obtain ⟨hfs1, hfs2⟩ := hfs
    go_simp
    have hE8 : Exc gw W7 (W7.setCell ⟨gw, 0, none⟩ (.int .i64 (wT (L 0) T (L 0) (5 * a + b)))) := (Exc.refl _ _).set 0 _
    have hrw8 : World.rowIs (W7.setCell ⟨gw, 0, none⟩ (.int .i64 (wT (L 0) T (L 0) (5 * a + b)))) gw 3 1 (fun _ => .int .i64 (wT (L 0) T (L 0) (5 * a + b))) := World.rowIs.congr (World.rowIs.set hrw 0 _) (fun j hj => by rw [if_pos (show j = 0 by omega)])
    generalize W7.setCell ⟨gw, 0, none⟩ (.int .i64 (wT (L 0) T (L 0) (5 * a + b))) = W8 at *
    have hb8 : Below W5.heap.size W5 W8 := hb7.trans (hE8.below hgw1 hb7.size)
    have hS8 : PollI W8 w4.heap.size A n cA (L 0) T ∧ W8.cell? ⟨w.heap.size, 0, none⟩ = some (.int .i64 (a : Int)) ∧ W8.cell? ⟨w.heap.size + 1, 0, none⟩ = some (.int .i64 (b : Int)) := ⟨HR.out.keep hb8, cell_keep c1 hb8, cell_keep c2 hb8⟩
    refine ⟨hS8, ?_⟩
    refine wpAnyH_done (by kernel_rfl) ?_ _
    refine NoPanic.normal ?_
    clear hS6 hS7 hfs1 hfs2 hE8 hb7 hrw
    have HS8 := Lib.hid hS8
    have HRw := Lib.hid hrw8
    have Hb8 := Lib.hid hb8
    clear hS8 hrw8 hb8
    have hq1 := HS8.out.1.c1
    go_wp2_with fail
    refine (upTo_any (L 0) _ (by omega)).mono ?_
    rintro e W9 ⟨rfl, hr9, he9⟩
    have hb9 := he9.below (Nat.le_refl _) (Nat.le_refl _)
    have hs5 := hX5.size
    have hs8 := Hb8.out.size
    have ca9 := cell_keep HS8.out.2.1 hb9
    have cb9 := cell_keep HS8.out.2.2 hb9
    go_wp2_with fail
    refine (deleteFunc_any W8.heap.size (L 0) a b w.heap.size (w.heap.size + 1) W9 hr9 (by omega) ha hb hab (by omega) (by omega) ca9 cb9).mono ?_
    rintro e W10 ⟨rfl, ⟨D, hD, hDk⟩, hE10⟩
    have hE := Exc.trans he9 hE10
    have hb10 : Below W8.heap.size W8 W10 := hE.below (Nat.le_refl _) (Nat.le_refl _)
    have hb510 : Below W5.heap.size W5 W10 := Hb8.out.trans (hb10.mono Hb8.out.size)
    have HI0 : Hid (PthI w w4.heap.size gw W8.heap.size W10.heap.size A n cA (L 0) a b T D 0 [] W10) := Lib.hid
      { ra := World.rowIs.of_block r1 (hb510.block _ (World.rowIs.lt r1))
        rb := World.rowIs.of_block r2 (hb510.block _ (World.rowIs.lt r2))
        r3 := World.rowIs.of_block r3 (hb510.block _ (World.rowIs.lt r3))
        r4 := World.rowIs.of_block r4 (hb510.block _ (World.rowIs.lt r4))
        poll := HR.out.keep hb510
        wid := World.rowIs.of_block HRw.out (hb10.block _ (World.rowIs.lt HRw.out))
        oth := hD
        bel := (hb4.trans (hX5.mono (by omega))).trans (hb510.mono (by omega))
        zle := Nat.le_refl _
        marks := Marks.nil _ _
        no := fun s' hs => absurd hs (by omega) }
    have hOk := kfN_list (L 0) (by omega) a ha b hb hab
    have HOD : Hid (∀ t, t < L 0 - 2 → D t = rowF (othL (L 0) a b) t) := Lib.hid (fun t ht => by
      rw [hDk t ht]
      show _ = (((othL (L 0) a b).getD t 0 : Nat) : Int)
      rw [show (othL (L 0) a b).getD t 0 = kfN (min a b) (max a b) t from hOk.2 t ht])
    have hOl : (othL (L 0) a b).length = L 0 - 2 := hOk.1
    have hgp := HR.out.lt
    have hgp2 := hb5sz
    have hgw2 := World.rowIs.lt HRw.out
    have hgO := hD.lt
    have hW10 := hb10.size
    clear hr9 he9 hD hDk hE10 hb9 ca9 cb9 hOk hE hb10 hb510 hq1
    go_wp2_with fail
    refine wp_loop (fun act W => ∃ (s : Nat) (ds : List Nat) (t62 t12 t63 t64 t65 t66 t67 t82 : Value), s ≤ L 0 - 2 + 1 ∧ ds.length = s ∧ t62 = .int .i64 (s : Int) ∧ act = { tmps := #[.slice A n cA, .int .i64 (a : Int), .int .i64 (b : Int), undef, .pointer (some ⟨w.heap.size, 0, none⟩), .pointer (some ⟨w.heap.size + 1, 0, none⟩), .pointer (some ⟨w.heap.size + 1 + 1, 0, none⟩), .pointer (some ⟨w.heap.size + 1 + 1 + 1, 0, none⟩), .pointer (some ⟨w4.heap.size, 0, none⟩), .bool true, .pointer (some ⟨gw, 0, none⟩), .slice (some ⟨W8.heap.size, 0, none⟩) (L 0 - 2) (L 0), t12, undef, undef, .tuple #[.agg (pollL A n cA (L 0) T).toArray, .bool true], .slice A n cA, .tuple #[.agg (pollL A n cA (L 0) T).toArray, .bool true], .agg (pollL A n cA (L 0) T).toArray, .bool true, .bool true, .bool false, .bool false, .int .i64 (a : Int), .bool false, .bool false, .bool false, .int .i64 (a : Int), .pointer (some ⟨w4.heap.size, 1, none⟩), .int .i64 ((L 0 : Nat) : Int), .bool false, .bool false, .bool false, .int .i64 (b : Int), .bool false, .bool false, .bool false, .int .i64 (b : Int), .pointer (some ⟨w4.heap.size, 1, none⟩), .int .i64 ((L 0 : Nat) : Int), .bool false, .bool false, .bool false, .int .i64 (a : Int), .int .i64 (b : Int), .bool false, .bool false, .agg (pollL A n cA (L 0) T).toArray, .agg (tabL (wT (L 0) T (L 0))).toArray, .int .i64 (a : Int), rowV (wT (L 0) T (L 0)) a, .int .i64 (b : Int), .int .i64 (wT (L 0) T (L 0) (5 * a + b)), .pointer (some ⟨w4.heap.size, 1, none⟩), .int .i64 ((L 0 : Nat) : Int), .slice (some ⟨W8.heap.size, 0, none⟩) (L 0) (L 0), .slice (some ⟨W8.heap.size, 0, none⟩) (L 0) (L 0), .func (.func 48) #[] #[.pointer (some ⟨w.heap.size, 0, none⟩), .pointer (some ⟨w.heap.size + 1, 0, none⟩)], .slice (some ⟨W8.heap.size, 0, none⟩) (L 0 - 2) (L 0), .slice (some ⟨W8.heap.size, 0, none⟩) (L 0 - 2) (L 0), .int .i64 ((L 0 - 2 : Nat) : Int), .int .i64 (((L 0 - 2 : Nat) : Int) + 1), t62, t63, t64, t65, t66, t67, undef, undef, undef, undef, undef, undef, undef, undef, undef, undef, undef, undef, undef, undef, t82], defers := ds.map markD } ∧ PthI w w4.heap.size gw W8.heap.size W10.heap.size A n cA (L 0) a b T D s ds W) (fun act _ => L 0 - 2 + 1 - act.defers.length) ?start2 ?round2
    case start2 => exact ⟨0, [], _, _, _, _, _, _, _, _, Nat.zero_le _, rfl, rfl, rfl, HI0.out⟩
    case round2 =>
      rintro act W ⟨s, ds, t62, t12, t63, t64, t65, t66, t67, t82, hs, hds, rfl, rfl, hI⟩
      have HI := Lib.hid hI
      have hsz := hI.bel.size
      have hz := hI.zle
      clear hI HI0
      by_cases hlt : s < L 0 - 2 + 1
      · go_wp2_with fail
        refine (orders_any _ (L 0 - 2) (L 0) s _).mono ?_
        rintro e w2 ⟨ps, pt, rfl, hps, hpt, hne, hcs, hct, hb2⟩
        have HI2 := Lib.hid (HI.out.below hb2)
        have hsz2 := hb2.size
        have hpsl : ps < w2.heap.size := cell_lt hcs
        have hptl : pt < w2.heap.size := cell_lt hct
        go_wp2_with fail
        have hJ0 : Below w2.heap.size w2 w2 ∧ ∀ x ∈ ([] : List (List Nat)), pthB T (L 0) a b x = false := ⟨Below.refl _ _, fun x hx => by cases hx⟩
        rw [← wpIn_wide (n := 3)]
        refine wpIn_rangeRows (F := Fence.wide) (n := 3) (gf := 67) (lb := #[.pointer (some ⟨ps, 0, none⟩), .pointer (some ⟨pt, 0, none⟩)]) (B := w2.heap.size + 2 + 1) (m := s) (Kb := fun b' => b' ≠ w.heap.size + 2 ∧ b' ≠ w.heap.size + 3) (L := ordL (othL (L 0) a b) s [])
          rfl (by omega) rfl trivial (enters_of Try.func67 (by kernel_rfl) rfl) (fun b' hb' => ⟨by omega, by omega⟩) ?seq2 rfl
          (fun pre W' => Below w2.heap.size w2 W' ∧ ∀ x ∈ pre, pthB T (L 0) a b x = false) (fun c _ W' => c = .ret ∧ PthX w W10.heap.size (w2.heap.size + 1) s (L 0) a b T ds (ordL (othL (L 0) a b) s []) W')
          (fun pre W1 W2 b' hb' hi he => ⟨hi.1.trans (he.below (by omega) hi.1.size), hi.2⟩) (fun c pre W1 W2 hx he => ⟨hx.1, hx.2.exc' he (by omega) (by omega) (fun D' hD' => by have := HI2.out.marks.lt hD'; omega)⟩) (by omega) hJ0
          ?act2 ?assign2 ?body2 ?done2 ?stop2
        case seq2 =>
          intro W' hW hWb
          have hoth : RowI W' W8.heap.size (L 0) D := World.rowIs.of_block HI2.out.oth (hWb _ HI2.out.oth.lt)
          have := orders1_rows (some ⟨W8.heap.size, 0, none⟩) (L 0) s (othL (L 0) a b) (by omega) (by omega) ps pt (w2.heap.size + 1) (3 - 1) (fun b' => b' ≠ w.heap.size + 2 ∧ b' ≠ w.heap.size + 3) W' (cell_of_block (hWb _ hpsl) hcs) (by rw [hOl]; exact cell_of_block (hWb _ hptl) hct)
            (fun _ => ⟨W8.heap.size, 0, rfl, fun k hk => by rw [Nat.zero_add, hoth.cell (by omega), HOD.out k (by omega)]⟩)
            (fun b' o' e => by injection e with e; injection e with e1 e2; have := HI2.out.oth.lt; exact ⟨by omega, ⟨by omega, by omega⟩, by omega⟩) (by omega) ⟨⟨by omega, by omega⟩, by omega⟩ ⟨⟨by omega, by omega⟩, by omega⟩ (fun b' hb' => ⟨by omega, by omega⟩)
          rw [hW] at this
          exact this
        case assign2 =>
          intro W K hK
          gi_wp2
          exact hK
        case body2 =>
          intro pre x W' hJ hL hrow
          have HJ := Lib.hid hJ
          have HLr := Lib.hid hL
          have HRw2 := Lib.hid hrow
          have HI3 := Lib.hid (HI2.out.below hJ.1)
          have hWs := hJ.1.size
          have hBl := hrow.lt
          have ea := World.rowIs.cell HI3.out.ra (i := 0) (by omega)
          have eb := World.rowIs.cell HI3.out.rb (i := 0) (by omega)
          have eb := Lib.cell?_alloc_some (.cells #[.int .i64 (a : Int)] 3) eb
          clear hJ hL hrow hcs hct hJ0
          gi_wp2
          have hxm : x.length = s ∧ ∀ y ∈ x, y < L 0 ∧ y ≠ a ∧ y ≠ b := by
            obtain ⟨r, hr⟩ := HLr.out
            have hm : x ∈ ordL (othL (L 0) a b) s [] := by rw [hr]; simp
            obtain ⟨suf, e1, e2, e3, -⟩ := (mem_ordL _ _ _ _).1 hm
            have e1' : x = suf := e1
            subst e1'
            refine ⟨e2, fun y hy => ?_⟩
            have := (e3 y hy).1
            unfold othL at this
            simp only [List.mem_filter, List.mem_range, Bool.not_eq_true', beq_eq_false_iff_ne] at this
            exact ⟨this.1.1, this.1.2, this.2⟩
          obtain ⟨hrk, hbv⟩ := three_rows (a := (a : Int)) (b := (b : Int)) HRw2.out
          generalize ((W'.alloc (.cells #[.int .i64 (a : Int)] 3)).alloc (.cells #[.int .i64 (b : Int)] 3)).alloc (.cells #[.slice (some ⟨W'.heap.size, 0, none⟩) 1 1, .slice (some ⟨w2.heap.size + 2 + 1, 0, none⟩) s s, .slice (some ⟨W'.heap.size + 1, 0, none⟩) 1 1] 23) = V3 at *
          have HCon := concat_any (some ⟨W'.heap.size + 1 + 1, 0, none⟩) 3 3 (thrL s) (thrV (a : Int) (b : Int) (rowF x)) V3 hrk (by omega) (by omega) (fun i hi => by unfold thrL; split <;> omega) (by show 1 ≤ 0 + 1 + s + 1; omega)
          refine ⟨trivial, ?_⟩
          refine CallsIn.mono (CallsIn.inRound _ (callsIn_wide.2 HCon)) ?_
          rintro e W6 ⟨xv, rfl, hx, hb6⟩
          have hx2 : OwnL W6 V3.heap.size xv (lst (s + 2) (rowF (pthL a b x))) := by
            have := hx
            rw [← hxm.1, three_cat] at this
            rwa [hxm.1] at this
          obtain ⟨g, cap, rfl, hg, hrc⟩ := hx2.rowC (by omega)
          have hb26 : Below W'.heap.size W' W6 := hbv.trans (hb6.mono hbv.size)
          have hbvs := hbv.size
          clear hrk HCon hx hx2 hbv hb6 ea eb
          gi_wp2
          have hpl : (pthL a b x).length = s + 2 := by simp [pthL, hxm.1]
          have HSt : ∀ q : Later W6, Hid (Lr 50 #[.agg (pollL A n cA (L 0) T).toArray, .slice (some ⟨g, 0, none⟩) (s + 2) cap] q.to (.int .i64 (stL T (pthL a b x)))) := fun q => Lib.hid (by
            have := strength_any A (some ⟨g, 0, none⟩) n cA (L 0) cap T (pthL a b x) hc5 HTb.out (by omega) (by omega) (fun y hy => by
              rcases List.mem_cons.1 hy with e | hy
              · rw [e]; exact ha
              · rcases List.mem_append.1 hy with hy | hy
                · exact (hxm.2 y hy).1
                · rw [List.mem_singleton] at hy; rw [hy]; exact hb) q.to (by rw [hpl]; exact (hrc.keep q.below).ints)
            rwa [hpl] at this)
          have HPq : ∀ q : Later W6, PollI q.to w4.heap.size A n cA (L 0) T := fun q => (HI3.out.poll.keep hb26).keep q.below
          have cW : ∀ q : Later W6, q.to.cell? ⟨gw, 0, none⟩ = some (.int .i64 (wT (L 0) T (L 0) (5 * a + b))) := fun q => q.cell (World.rowIs.cell (World.rowIs.of_block HI3.out.wid (hb26.block _ (World.rowIs.lt HI3.out.wid))) (i := 0) (by omega))
          have hbq : (stL T (pthL a b x) == wT (L 0) T (L 0) (5 * a + b)) = pthB T (L 0) a b x := by
            unfold pthB
            rw [Bool.eq_iff_iff]
            simp
          generalize hst : stL T (pthL a b x) = st at *
          clear hst
          have HRc := Lib.hid hrc
          have HNo : Hid (∀ bb, pthB T (L 0) a b x = bb → bb = false → ∀ y ∈ pre ++ [x], pthB T (L 0) a b y = false) := Lib.hid (fun bb e e2 y hy => by
            rcases List.mem_append.1 hy with hy | hy
            · exact HJ.out.2 y hy
            · rw [List.mem_singleton] at hy; rw [hy, e, e2])
          obtain ⟨bb, hbb⟩ : ∃ bb, pthB T (L 0) a b x = bb := ⟨_, rfl⟩
          rw [hbb] at hbq
          have HBb := Lib.hid hbb
          clear hbb hrc
          refine wp_region_round (by kernel_rfl) (by kernel_rfl) ?nodef2 ?_
          case nodef2 =>
            intro j o hj c hc
            rcases j with _ | _ | _ | _ | _ | j
            all_goals (simp at hj)
            all_goals (subst hj; cases hc)
          repeat
            (with_reducible refine wpQuiet_step ?_
             intro K hK
             first
               | (refine quiet_load_poll (by rfl) (.tmp 8) (by rfl) w4.heap.size (by rfl) (fun q => HPq q) ?_; refine hK _ ?_; clear hK K)
               | (go_simp
                  first
                    | (refine hK _ ?_; clear hK K)
                    | (apply Exists.intro
                       refine ⟨fun pq => ?_, hK _ ?_⟩
                       (go_at_call 50; exact Lr.later (HSt _).out)
                       clear hK K)))
          with_reducible refine wpQuiet_nil ?_
          intro _ hw'
          obtain ⟨q7, hw''⟩ := hw'
          subst hw''
          have hbq7 := hb26.trans (q7.below.mono hb26.size)
          have HRc7 := Lib.hid (HRc.out.keep q7.below)
          clear HSt HPq cW hbq
          generalize q7.to = W7 at *
          clear q7
          have hsz7 := hbq7.size
          cases bb with
          | false =>
            gi_wp2
            exact ⟨⟨hsz7, fun b' _ hlt2 => hbq7.block b' hlt2⟩, HJ.out.1.trans (hbq7.mono HJ.out.1.size), HNo.out _ HBb.out rfl⟩
          | true =>
            have R3 := World.rowIs.of_block HI3.out.r3 (hbq7.block _ (World.rowIs.lt HI3.out.r3))
            have R4 := World.rowIs.of_block HI3.out.r4 (hbq7.block _ (World.rowIs.lt HI3.out.r4))
            have hmq := HI3.out.marks.keep (fun D' hD' => hbq7.block D' (HI3.out.marks.lt hD'))
            have hbel7 : Below w.heap.size w W7 := HI3.out.bel.trans (hbq7.mono HI3.out.bel.size)
            have hs7 := hbel7.size
            have c3 : W7.cell? ⟨w.heap.size + 1 + 1, 0, none⟩ = some (.slice none 0 0) := World.rowIs.cell R3 (i := 0) (by omega)
            have f3 : W7.frozen? ⟨w.heap.size + 1 + 1, 0, none⟩ = false := World.rowIs.frozen R3 0
            have c4 : W7.cell? ⟨w.heap.size + 1 + 1 + 1, 0, none⟩ = some (.int .i64 0) := World.rowIs.cell R4 (i := 0) (by omega)
            have f4 : W7.frozen? ⟨w.heap.size + 1 + 1 + 1, 0, none⟩ = false := World.rowIs.frozen R4 0
            gi_wp2
            have e0 : Exc (w.heap.size + 2) W7 (W7.setCell ⟨w.heap.size + 1 + 1, 0, none⟩ (.slice (some ⟨g, 0, none⟩) (s + 2) cap)) := (Exc.refl _ _).set 0 _
            have q3 : World.rowIs (W7.setCell ⟨w.heap.size + 1 + 1, 0, none⟩ (.slice (some ⟨g, 0, none⟩) (s + 2) cap)) (w.heap.size + 2) 23 1 (fun _ => .slice (some ⟨g, 0, none⟩) (s + 2) cap) := World.rowIs.congr (World.rowIs.set R3 0 (.slice (some ⟨g, 0, none⟩) (s + 2) cap)) (fun j hj => by rw [if_pos (show j = 0 by omega)])
            have o4 := World.rowIs.of_block R4 (e0.block _ (World.rowIs.lt R4) (fun e => by injection e with e; omega))
            have hm0 := hmq.keep (fun D hD => e0.block D (hmq.lt hD) (fun e => by injection e with e; have := (hmq.2 D hD).1; omega))
            have hz0 := e0.size
            generalize W7.setCell ⟨w.heap.size + 1 + 1, 0, none⟩ (.slice (some ⟨g, 0, none⟩) (s + 2) cap) = Z1 at *
            have e1 : Exc (w.heap.size + 3) Z1 (Z1.setCell ⟨w.heap.size + 1 + 1 + 1, 0, none⟩ (.int .i64 0)) := (Exc.refl _ _).set 0 _
            have q4 : World.rowIs (Z1.setCell ⟨w.heap.size + 1 + 1 + 1, 0, none⟩ (.int .i64 0)) (w.heap.size + 3) 24 1 (fun _ => .int .i64 0) := World.rowIs.congr (World.rowIs.set o4 0 (.int .i64 0)) (fun j hj => by rw [if_pos (show j = 0 by omega)])
            have q3' := World.rowIs.of_block q3 (e1.block _ (World.rowIs.lt q3) (fun e => by injection e with e; omega))
            have hm1 := hm0.keep (fun D hD => e1.block D (hm0.lt hD) (fun e => by injection e with e; have := (hm0.2 D hD).1; omega))
            have hz1 := e1.size
            generalize Z1.setCell ⟨w.heap.size + 1 + 1 + 1, 0, none⟩ (.int .i64 0) = Z2 at *
            have hblz : ∀ b', b' ≠ w.heap.size + 2 → b' ≠ w.heap.size + 3 → b' < W7.heap.size → Z2.heap[b']? = W7.heap[b']? := fun b' k1 k2 k3 =>
              (e1.block b' (by omega) (fun e => by injection e with e; omega)).trans (e0.block b' k3 (fun e => by injection e with e; omega))
            obtain ⟨rr, hrr⟩ := HLr.out
            refine ⟨⟨by omega, fun b' hb' hlt2 => (hblz b' hb'.1 hb'.2 (by omega)).trans (hbq7.block b' hlt2)⟩, rfl, ?_⟩
            exact { it := ⟨pre, x, rr, g, cap, hrr, HJ.out.2, HBb.out, q3', HRc7.out.of_blk (hblz _ (by omega) (by omega) HRc7.out.lt), by omega⟩
                    r4 := q4
                    bel := hbel7.trans ((e0.below (by omega) hs7).trans (e1.below (by omega) (by omega)))
                    marks := hm1 }
        case done2 =>
          intro M W' hM hJ hk
          have h5 := HI2.out.below hJ.1
          have hN : Hid (PthI w w4.heap.size gw W8.heap.size W10.heap.size A n cA (L 0) a b T D (s + 1) (M :: ds) W') := Lib.hid
            { ra := h5.ra, rb := h5.rb, r3 := h5.r3, r4 := h5.r4, poll := h5.poll, wid := h5.wid, oth := h5.oth, bel := h5.bel, zle := h5.zle
              marks := HI2.out.marks.cons (fun D' hD' => (h5.marks.2 D' hD').2.trans (HI2.out.marks.2 D' hD').2.symm) (by omega) (by omega) hk
              no := fun s' hs' m hm => by
                by_cases e : s' = s
                · rw [e] at hm; exact hJ.2 m hm
                · exact HI2.out.no s' (by omega) m hm }
          clear h5 hJ hk
          go_wp2
          exact ⟨⟨s + 1, M :: ds, _, _, _, _, _, _, _, _, by omega, by simp [hds], by go_num, rfl, hN.out⟩, by simp; omega⟩
        case stop2 =>
          intro M c pre W' hM hx hk
          obtain ⟨rfl, hx⟩ := hx
          obtain ⟨p, x, q, g, cap, e1, e2, e3, e4, e5, e6⟩ := hx.it
          have HX := Lib.hid hx
          clear hx
          gi_wp2
          have hmm : Marks W' W10.heap.size (M :: ds) := HI2.out.marks.cons (fun D' hD' => (HX.out.marks.2 D' hD').2.trans (HI2.out.marks.2 D' hD').2.symm) (by omega) (by omega) hk
          refine leaves_marks (M :: ds) W' hmm (fun w' hs' => ?_)
          have hnd : ∀ b', b' < W10.heap.size → b' ∉ M :: ds := fun b' hb' hm => by have := (hmm.2 b' hm).1; omega
          have hng : g ∉ M :: ds := fun hm => by
            rcases List.mem_cons.1 hm with e | hm
            · omega
            · have := HI2.out.marks.lt hm; omega
          have g2 : w'.cell? ⟨w.heap.size + 1 + 1, 0, none⟩ = some (.slice (some ⟨g, 0, none⟩) (s + 2) cap) := World.rowIs.cell (World.rowIs.of_block e4 (hs'.block _ (World.rowIs.lt e4) (hnd _ (by omega)))) (i := 0) (by omega)
          have g3 : w'.cell? ⟨w.heap.size + 1 + 1 + 1, 0, none⟩ = some (.int .i64 0) := World.rowIs.cell (World.rowIs.of_block HX.out.r4 (hs'.block _ (World.rowIs.lt HX.out.r4) (hnd _ (by omega)))) (i := 0) (by omega)
          exact ⟨.tuple #[.slice (some ⟨g, 0, none⟩) (s + 2) cap, .int .i64 0], by simp [results, Try.results22, go_sem, g2, g3],
            by rw [← HTm.out]; exact ⟨s, p, x, q, g, cap, by omega, HI.out.no, e1, e2, e3, rfl, e5.of_blk (hs'.block _ e5.lt hng), HX.out.bel.trans (hs'.below (fun D' hD' => by have := (hmm.2 D' hD').1; omega) HX.out.bel.size)⟩⟩
      · exfalso
        obtain ⟨p, w1, w2, w3, w4'⟩ := width_path (T := T) hc5 (by rw [HTm.out]; exact mAll_dia HK.out) (fun x y hx hy => (HTb.out x y hx hy).2) ha hb hab
        obtain ⟨m, rfl, hm⟩ := pth_of w1 w2 hab
        have hml : (pthL a b m).length = m.length + 2 := by simp [pthL]
        have := HI.out.no m.length (by omega) m hm
        unfold pthB at this
        rw [w4'] at this
        simp at this
end Go.Proofs.Ytnobbklnnkpdfaa
