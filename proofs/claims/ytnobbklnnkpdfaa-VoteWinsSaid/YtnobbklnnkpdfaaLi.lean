/- Lie. -/
import Derived.Test.YtnobbklnnkpdfaaWl
import Derived.Test.YtnobbklnnkpdfaaFa
import Derived.Test.YtnobbklnnkpdfaaUp
import Derived.Test.YtnobbklnnkpdfaaPk
import Derived.RangeFuncCalls
import Derived.Test.YtnobbklnnkpdfaaMk
import Derived.Test.YtnobbklnnkpdfaaCn
import Derived.Test.YtnobbklnnkpdfaaIr
namespace Go.Proofs.Ytnobbklnnkpdfaa
open Go.RowKit
attribute [local go_sem] Oper.semAt_some

/-- By ranking the candidates as x, voter i gains. -/
def gainB (r n c : Nat) (v : Nat → Nat → Int) (i : Nat) (x : List Nat) : Bool := befB (v i) c ((winF r n c (fun k => if k = i then rowF x else v k) : Nat) : Int) ((winF r n c v : Nat) : Int)
/-- The world of Lie between two voters: nobody before voter i gains. -/
structure LieI (w : World) (gp gf gh z r : Nat) (A : Option Addr) (n cA : Nat) (L : Nat → Nat) (v : Nat → Nat → Int) (i : Nat) (ds : List Nat) (W : World) : Prop where
  r1 : W.rowIs w.heap.size 3 1 (fun _ => .int .i64 0)
  r2 : W.rowIs (w.heap.size + 1) 23 1 (fun _ => .slice none 0 0)
  r3 : W.rowIs (w.heap.size + 2) 24 1 (fun _ => .int .i64 0)
  poll : PollI W gp A n cA (L 0) (mAll v (L 0) n)
  fn : W.rowIs gf 59 1 (fun _ => .func (.func (ruleN r)) #[] #[])
  ho : W.rowIs gh 3 1 (fun _ => .int .i64 ((winF r n (L 0) v : Nat) : Int))
  bel : Below w.heap.size w W
  zle : z ≤ W.heap.size
  marks : Marks W z ds
  no : ∀ i', i' < i → ∀ y ∈ ordL (List.range (L 0)) (L 0) [], gainB r n (L 0) v i' y = false
def LieR (w : World) (r n : Nat) (L : Nat → Nat) (v : Nat → Nat → Int) (e : Ending) (w' : World) : Prop :=
  ((∃ i x p q g, i < n ∧ (∀ i', i' < i → ∀ y ∈ ordL (List.range (L 0)) (L 0) [], gainB r n (L 0) v i' y = false) ∧ ordL (List.range (L 0)) (L 0) [] = p ++ x :: q ∧ (∀ y ∈ p, gainB r n (L 0) v i y = false) ∧ gainB r n (L 0) v i x = true ∧
      e = .returned (.tuple #[.int .i64 (i : Int), .slice (some ⟨g, 0, none⟩) (L 0) (L 0), .int .i64 0]) ∧ w.heap.size ≤ g ∧ RowI w' g (L 0) (rowF x)) ∨
    ((∀ i, i < n → ∀ y ∈ ordL (List.range (L 0)) (L 0) [], gainB r n (L 0) v i y = false) ∧ e = .returned (.tuple #[.int .i64 0, .slice none 0 0, .int .i64 4]))) ∧ Below w.heap.size w w'
theorem LieI.below {w W1 W2 : World} {gp gf gh z r n cA i : Nat} {A : Option Addr} {L : Nat → Nat} {v : Nat → Nat → Int} {ds : List Nat} (h : LieI w gp gf gh z r A n cA L v i ds W1) (hb : Below W1.heap.size W1 W2) : LieI w gp gf gh z r A n cA L v i ds W2 :=
  ⟨World.rowIs.of_block h.r1 (hb.block _ (World.rowIs.lt h.r1)), World.rowIs.of_block h.r2 (hb.block _ (World.rowIs.lt h.r2)), World.rowIs.of_block h.r3 (hb.block _ (World.rowIs.lt h.r3)), h.poll.keep hb, World.rowIs.of_block h.fn (hb.block _ (World.rowIs.lt h.fn)), World.rowIs.of_block h.ho (hb.block _ (World.rowIs.lt h.ho)), h.bel.trans (hb.mono h.bel.size), Nat.le_trans h.zle hb.size, h.marks.keep (fun D hD => hb.block D (h.marks.lt hD)), h.no⟩

theorem LieI.exc' {w W1 W2 : World} {gp gf gh z r n cA i G : Nat} {A : Option Addr} {L : Nat → Nat} {v : Nat → Nat → Int} {ds : List Nat} (h : LieI w gp gf gh z r A n cA L v i ds W1) (he : Exc G W1 W2) (hG : z ≤ G) (h1 : gp < z) (h2 : gf < z) (h3 : gh < z) (h4 : w.heap.size + 2 < z) (hd : ∀ D ∈ ds, D ≠ G) : LieI w gp gf gh z r A n cA L v i ds W2 := by
  have hbl : ∀ g, g ≠ G → g < W1.heap.size → W2.heap[g]? = W1.heap[g]? := fun g k1 k3 => he.block g k3 (fun e => by injection e with e; exact k1 e)
  exact ⟨World.rowIs.of_block h.r1 (hbl _ (by omega) (World.rowIs.lt h.r1)), World.rowIs.of_block h.r2 (hbl _ (by omega) (World.rowIs.lt h.r2)), World.rowIs.of_block h.r3 (hbl _ (by omega) (World.rowIs.lt h.r3)), World.rowIs.of_block h.poll (hbl _ (by omega) h.poll.lt), World.rowIs.of_block h.fn (hbl _ (by omega) (World.rowIs.lt h.fn)), World.rowIs.of_block h.ho (hbl _ (by omega) (World.rowIs.lt h.ho)), h.bel.trans (he.below (by omega) h.bel.size), Nat.le_trans h.zle he.size, h.marks.keep (fun D hD => hbl D (hd D hD) (h.marks.lt hD)), h.no⟩
/-- Between two orders of voter i: nobody gains so far; but for the copy all is as before the range. -/
structure LieJ (w2 : World) (G cG n i : Nat) (D : Nat → Value) (gain : List Nat → Bool) (pre : List (List Nat)) (W : World) : Prop where
  exc : Exc G w2 W
  lied : ∃ E, W.rowIs G 23 cG E ∧ ∀ k, k < n → k ≠ i → E k = D k
  no : ∀ x ∈ pre, gain x = false
theorem LieJ.exc' {w2 W1 W2 : World} {G cG n i b : Nat} {D : Nat → Value} {gain : List Nat → Bool} {pre : List (List Nat)} (h : LieJ w2 G cG n i D gain pre W1) (he : Exc b W1 W2) (hb : w2.heap.size ≤ b) (hG : G < w2.heap.size) : LieJ w2 G cG n i D gain pre W2 := by
  obtain ⟨E, h1, h2⟩ := h.lied
  refine ⟨⟨he.os.trans h.exc.os, he.tape.trans h.exc.tape, he.output.trans h.exc.output, Nat.le_trans h.exc.size he.size, fun k hk hne => (he.block k (Nat.lt_of_lt_of_le hk h.exc.size) (fun e => by injection e with e; omega)).trans (h.exc.block k hk hne)⟩, ⟨E, World.rowIs.of_block h1 (he.block _ (World.rowIs.lt h1) (fun e => by injection e with e; omega)), h2⟩, h.no⟩
/-- Voter i gains. -/
structure LieX (w : World) (z i B m : Nat) (ds : List Nat) (gain : List Nat → Bool) (all : List (List Nat)) (W : World) : Prop where
  r1 : W.rowIs w.heap.size 3 1 (fun _ => .int .i64 (i : Int))
  r2 : W.rowIs (w.heap.size + 1) 23 1 (fun _ => .slice (some ⟨B, 0, none⟩) m m)
  r3 : W.rowIs (w.heap.size + 2) 24 1 (fun _ => .int .i64 0)
  bel : Below w.heap.size w W
  marks : Marks W z ds
  it : ∃ p x q, all = p ++ x :: q ∧ (∀ y ∈ p, gain y = false) ∧ gain x = true ∧ RowI W B m (rowF x)
theorem LieX.exc' {w W1 W2 : World} {z i B m l : Nat} {ds : List Nat} {gain : List Nat → Bool} {all : List (List Nat)} (h : LieX w z i B m ds gain all W1) (he : Exc l W1 W2) (hl : w.heap.size + 2 < l) (hB : B ≠ l) (hd : ∀ D ∈ ds, D ≠ l) : LieX w z i B m ds gain all W2 := by
  have hbl : ∀ g, g ≠ l → g < W1.heap.size → W2.heap[g]? = W1.heap[g]? := fun g k1 k3 => he.block g k3 (fun e => by injection e with e; exact k1 e)
  obtain ⟨p, x, q, e1, e2, e3, e4⟩ := h.it
  exact ⟨World.rowIs.of_block h.r1 (hbl _ (by omega) (World.rowIs.lt h.r1)), World.rowIs.of_block h.r2 (hbl _ (by omega) (World.rowIs.lt h.r2)), World.rowIs.of_block h.r3 (hbl _ (by omega) (World.rowIs.lt h.r3)), h.bel.trans (he.below (by omega) h.bel.size), h.marks.keep (fun D hD => hbl D (hd D hD) (h.marks.lt hD)), p, x, q, e1, e2, e3, World.rowIs.of_block e4 (hbl _ hB e4.lt)⟩

set_option maxHeartbeats 2000000 in
set_option maxRecDepth 1000000 in
theorem Lie_ok (r : Nat) (hr : r < 4) (A : Option Addr) (n cA : Nat) (L : Nat → Nat) (v : Nat → Nat → Int) (w : World) (h : RowsK w A n L v) (hok : okBal n L v = true) (hA : n ≤ cA) :
    Calls Try.prog 10 #[.slice A n cA, .int .i64 (r : Int)] w fun e w' => LieR w r n L v e w' := by
  obtain ⟨⟨hn1, hn9⟩, ⟨hc1, hc5⟩, hO⟩ := okBal_iff.1 hok
  have H := Lib.hid h
  have HK := Lib.hid hok
  have HC := Lib.hid (fun w' (hb : Below w.heap.size w w') => count_ok A n cA L v w' (h.keep hb) hok hA)
  have HRU := Lib.hid (fun w' (hb : Below w.heap.size w w') => rule_any r hr A n cA (L 0) L v w' (h.keep hb) hok rfl)
  have HOk : Hid (∀ k, k < n → L k = L 0 ∧ Ord (L 0) (v k)) := Lib.hid hO
  clear h hok hO
  have hcf : ∀ (args : Array Value) (w : World), (callFunc (ruleN r) args).run Try.prog w = .ok (.enter (ruleN r) args) w := fun args w => by
    obtain rfl | rfl | rfl | rfl : r = 0 ∨ r = 1 ∨ r = 2 ∨ r = 3 := by omega
    · exact enters_of Try.func63 (by kernel_rfl) rfl args w
    · exact enters_of Try.func64 (by kernel_rfl) rfl args w
    · exact enters_of Try.func65 (by kernel_rfl) rfl args w
    · exact enters_of Try.func66 (by kernel_rfl) rfl args w
  have hr0 : decide ((r : Int) < 0) = false := decide_eq_false (by omega)
  have hr4 : decide ((r : Int) < 4) = true := decide_eq_true (by omega)
  have hr5 : decide ((4 : Int) ≤ (r : Int)) = false := decide_eq_false (by omega)
  refine (callsIn_wide (n := 3)).1 (callsIn_of_wp_marks Try.func10 rfl trivial ?_ rfl)
  simp only [Try.ntmps10, List.size_toArray, List.length_cons, List.length_nil, Nat.reduceAdd, Nat.reduceSub, Array.replicate_succ, Array.replicate_zero, List.push_toArray, List.append_toArray, List.nil_append, List.cons_append]
  rw [wpIn_wide]
  go_wp2_with fail
  have b1 : Below w.heap.size w (w.alloc (.cells #[.int .i64 0] 3)) := (Below.refl _ w).alloc (Nat.le_refl _) _
  have r1 := box_row w (.int .i64 0) 3
  have s1 : (w.alloc (.cells #[.int .i64 0] 3)).heap.size = w.heap.size + 1 := by simp
  generalize w.alloc (.cells #[.int .i64 0] 3) = X1 at *
  have r2 := box_row X1 (.slice none 0 0) 23
  have b2 : Below X1.heap.size X1 (X1.alloc (.cells #[.slice none 0 0] 23)) := (Below.refl _ X1).alloc (Nat.le_refl _) _
  have s2 : (X1.alloc (.cells #[.slice none 0 0] 23)).heap.size = w.heap.size + 2 := by simp [s1]
  generalize X1.alloc (.cells #[.slice none 0 0] 23) = X2 at *
  have r3 := box_row X2 (.int .i64 0) 24
  have b3 : Below X2.heap.size X2 (X2.alloc (.cells #[.int .i64 0] 24)) := (Below.refl _ X2).alloc (Nat.le_refl _) _
  have s3 : (X2.alloc (.cells #[.int .i64 0] 24)).heap.size = w.heap.size + 3 := by simp [s2]
  generalize X2.alloc (.cells #[.int .i64 0] 24) = X3 at *
  rw [s1] at r2
  rw [s2] at r3
  have hb3 := (b1.trans (b2.mono (by omega))).trans (b3.mono (by omega))
  refine (HC.out X3 hb3).mono ?_
  rintro e w4 ⟨rfl, hb4⟩
  have HZ4 := Lib.hid (PollI.zero w4)
  have hb4z := zero_below w4
  have hs4 := hb4.size
  go_wp2_with fail
  rw [run_storePoll _ _ _ A n cA (L 0) (mAll v (L 0) n) HZ4.out]
  simp only [Result.andThen_ok]
  rw [Oper.upon_skip]
  have HR := Lib.hid (PollI.stored (A := A) (n := n) (cA := cA) (c := L 0) (T := mAll v (L 0) n) HZ4.out)
  have HX5 := Lib.hid (below_setCells (pollL A n cA (L 0) (mAll v (L 0) n)) 0 hb4.size (hb4.trans (hb4z.mono hb4.size)))
  generalize World.setCells _ w4.heap.size 0 (pollL A n cA (L 0) (mAll v (L 0) n)) = W5 at *
  clear HZ4 hb4z
  go_wp2_with fail
  refine Lr.use (rules_any _) ?_
  intro w6 hb6
  have HR6 := Lib.hid (HR.out.keep hb6)
  have HX6 := Lib.hid (HX5.out.trans (hb6.mono HX5.out.size))
  clear hb6
  have hrv : rulesV = Value.agg #[.func (.func 63) #[] #[], .func (.func 64) #[] #[], .func (.func 65) #[] #[], .func (.func 66) #[] #[]] := rfl
  have hix : ∀ w : World, (Instr.index 60 (Value.agg #[.func (.func 63) #[] #[], .func (.func 64) #[] #[], .func (.func 65) #[] #[], .func (.func 66) #[] #[]]) (.int .i64 (r : Int))).run Try.prog w = .ok (.func (.func (ruleN r)) #[] #[]) w := fun w => by
    obtain rfl | rfl | rfl | rfl : r = 0 ∨ r = 1 ∨ r = 2 ∨ r = 3 := by omega
    all_goals kernel_rfl
  go_wp2_with fail
  refine Lr.use (rules_any _) ?_
  intro w7 hb7
  have HR7 := Lib.hid (HR6.out.keep hb7)
  have HX7 := Lib.hid (HX6.out.trans (hb7.mono HX6.out.size))
  clear hb7 HR HX5 HR6 HX6
  have hal := (Below.refl w7.heap.size w7).alloc (Nat.le_refl _) (.cells #[.func (.func (ruleN r)) #[] #[]] 59)
  have HP8 := Lib.hid (HR7.out.keep hal)
  have HX8 := Lib.hid (HX7.out.trans (hal.mono HX7.out.size))
  have HF8 := Lib.hid (box_row w7 (.func (.func (ruleN r)) #[] #[]) 59)
  have hs8 : (w7.alloc (.cells #[.func (.func (ruleN r)) #[] #[]] 59)).heap.size = w7.heap.size + 1 := by simp
  clear hal
  go_wp2_with (first
    | (refine wpList_load_mid rfl 56 _ rfl w4.heap.size 0 rfl (pollL A n cA (L 0) (mAll v (L 0) n)) _ HP8.out.range Try.underlying56 rfl (by rw [pollL_len]; exact infoPoll) ?_)
    | fail)
  refine Lr.use (HRU.out _ (hb3.trans (HX8.out.mono (by omega)))) ?_
  intro w9 hb9
  have hal := (Below.refl w9.heap.size w9).alloc (Nat.le_refl _) (.cells #[.int .i64 (winF r n (L 0) v)] 3)
  have hb10 := hb9.trans (hal.mono hb9.size)
  have HP10 := Lib.hid (HP8.out.keep hb10)
  have HF10 := Lib.hid (World.rowIs.of_block HF8.out (hb10.block _ (by omega)))
  have HX10 := Lib.hid (HX8.out.trans (hb10.mono HX8.out.size))
  have HH10 := Lib.hid (box_row w9 (.int .i64 (winF r n (L 0) v)) 3)
  have hs9 := hb9.size
  have hs10 : (w9.alloc (.cells #[.int .i64 (winF r n (L 0) v)] 3)).heap.size = w9.heap.size + 1 := by simp
  clear hal hb10 hb9 HP8 HF8 HX8 HR7 HX7
  go_wp2_with fail
  generalize w9.alloc (.cells #[.int .i64 (winF r n (L 0) v)] 3) = X10 at *
  have HI0 : Hid (LieI w w4.heap.size w7.heap.size w9.heap.size X10.heap.size r A n cA L v 0 [] X10) := Lib.hid
    { r1 := World.rowIs.of_block r1 (((b2.trans (b3.mono b2.size)).trans (HX10.out.mono (by omega))).block _ (by omega))
      r2 := World.rowIs.of_block r2 ((b3.trans (HX10.out.mono b3.size)).block _ (by omega))
      r3 := World.rowIs.of_block r3 (HX10.out.block _ (by omega))
      poll := HP10.out
      fn := HF10.out
      ho := HH10.out
      bel := hb3.trans (HX10.out.mono (by omega))
      zle := Nat.le_refl _
      marks := Marks.nil _ _
      no := fun i' hi => absurd hi (by omega) }
  have hX10 := HX10.out.size
  have hgp := HP10.out.lt
  have hgf := World.rowIs.lt HF10.out
  have hgh := World.rowIs.lt HH10.out
  clear r1 r2 r3 b1 b2 b3 HP10 HF10 HX10 HH10
  refine wp_loop (fun a W => ∃ (i : Nat) (ds : List Nat) (t42 t11 t12 t13 t43 t44 t45 t46 t47 t48 t49 t50 t51 t52 t53 t54 t73 : Value), i ≤ n ∧ ds.length = i ∧ t42 = .int .i64 (i : Int) ∧ a = { tmps := #[.slice A n cA, .int .i64 (r : Int), undef, undef, .pointer (some ⟨w.heap.size, 0, none⟩), .pointer (some ⟨w.heap.size + 1, 0, none⟩), .pointer (some ⟨w.heap.size + 1 + 1, 0, none⟩), .pointer (some ⟨w4.heap.size, 0, none⟩), .bool true, .pointer (some ⟨w7.heap.size, 0, none⟩), .pointer (some ⟨w9.heap.size, 0, none⟩), t11, t12, t13, undef, undef, undef, .tuple #[.agg (pollL A n cA (L 0) (mAll v (L 0) n)).toArray, .bool true], .slice A n cA, .tuple #[.agg (pollL A n cA (L 0) (mAll v (L 0) n)).toArray, .bool true], .agg (pollL A n cA (L 0) (mAll v (L 0) n)).toArray, .bool true, .bool true, .bool false, .bool false, .int .i64 (r : Int), .bool false, .bool false, .bool false, .int .i64 (r : Int), .agg #[.func (.func 63) #[] #[], .func (.func 64) #[] #[], .func (.func 65) #[] #[], .func (.func 66) #[] #[]], .int .i64 4, .bool false, .bool false, .agg #[.func (.func 63) #[] #[], .func (.func 64) #[] #[], .func (.func 65) #[] #[], .func (.func 66) #[] #[]], .int .i64 (r : Int), .func (.func (ruleN r)) #[] #[], .func (.func (ruleN r)) #[] #[], .agg (pollL A n cA (L 0) (mAll v (L 0) n)).toArray, .int .i64 ((winF r n (L 0) v : Nat) : Int), .slice A n cA, .int .i64 n, t42, t43, t44, t45, t46, t47, t48, t49, t50, t51, t52, t53, t54, undef, undef, undef, undef, undef, undef, undef, undef, undef, undef, undef, undef, undef, undef, undef, undef, undef, undef, t73], defers := ds.map markD } ∧ LieI w w4.heap.size w7.heap.size w9.heap.size X10.heap.size r A n cA L v i ds W) (fun a _ => n - a.defers.length) ?start ?round
  case start => exact ⟨0, [], _, _, _, _, _, _, _, _, _, _, _, _, _, _, _, _, _, Nat.zero_le _, rfl, rfl, rfl, HI0.out⟩
  case round =>
    rintro a W ⟨i, ds, t42, t11, t12, t13, t43, t44, t45, t46, t47, t48, t49, t50, t51, t52, t53, t54, t73, hi, hds, rfl, rfl, hI⟩
    have HI := Lib.hid hI
    have hsz := hI.bel.size
    have hz := hI.zle
    clear hI HI0
    have c0 := World.rowIs.cell HI.out.r1 (i := 0) (by omega)
    have f0 := World.rowIs.frozen HI.out.r1 0
    have c1 := World.rowIs.cell HI.out.r2 (i := 0) (by omega)
    have f1 := World.rowIs.frozen HI.out.r2 0
    have c2 := World.rowIs.cell HI.out.r3 (i := 0) (by omega)
    have f2 := World.rowIs.frozen HI.out.r3 0
    by_cases hlt : i < n
    · clear c0 f0 c1 f1 c2 f2
      obtain ⟨ba, oa, eA, hca⟩ := (H.out.keep HI.out.bel) (by omega)
      obtain ⟨Ai, ci, hci, hLc, hIi⟩ := hca i hlt
      subst eA
      clear hca
      have hba : ba < W.heap.size := World.block_lt_of_cell? _ _ hci
      have hal1 := (Below.refl W.heap.size W).alloc (Nat.le_refl _) (.cells #[.int .i64 (i : Int)] 3)
      have R11 := box_row W (.int .i64 (i : Int)) 3
      have hsa : (W.alloc (.cells #[.int .i64 (i : Int)] 3)).heap.size = W.heap.size + 1 := by simp
      go_wp2_with fail
      generalize W.alloc (.cells #[.int .i64 (i : Int)] 3) = Wa at *
      have hal2 := (Below.refl Wa.heap.size Wa).alloc (Nat.le_refl _) (.cells #[.slice Ai (L i) ci] 23)
      have R12 := box_row Wa (.slice Ai (L i) ci) 23
      have hsb : (Wa.alloc (.cells #[.slice Ai (L i) ci] 23)).heap.size = W.heap.size + 2 := by simp [hsa]
      have R11b := World.rowIs.of_block R11 (hal2.block _ (by omega))
      generalize Wa.alloc (.cells #[.slice Ai (L i) ci] 23) = Wb at *
      have hbW := hal1.trans (hal2.mono (by omega))
      clear hal1 hal2 R11 hci
      refine (cloneK_any _ n cA L v Wb (H.out.keep (HI.out.bel.trans (hbW.mono hsz))) (by omega) (by omega)).mono ?_
      rintro e Wc ⟨G, cG, D, rfl, hG1, hG2, hGr, hGD, hbc⟩
      have hsc := hbc.size
      have R11c := World.rowIs.of_block R11b (hbc.block _ (by omega))
      have R12c := World.rowIs.of_block R12 (hbc.block _ (by omega))
      have hbW3 := hbW.trans (hbc.mono (by omega))
      have hbc0 := hbc
      clear R11b R12 hbW hbc
      have hal := (Below.refl Wc.heap.size Wc).alloc (Nat.le_refl _) (.cells #[.slice (some ⟨G, 0, none⟩) n cG] 22)
      have R13 := box_row Wc (.slice (some ⟨G, 0, none⟩) n cG) 22
      have hsd : (Wc.alloc (.cells #[.slice (some ⟨G, 0, none⟩) n cG] 22)).heap.size = Wc.heap.size + 1 := by simp
      have hGlt := World.rowIs.lt hGr
      have R11d := Lib.hid (World.rowIs.of_block R11c (hal.block _ (by omega)))
      have R12d := Lib.hid (World.rowIs.of_block R12c (hal.block _ (by omega)))
      have RGd := Lib.hid (World.rowIs.of_block hGr (hal.block _ (by omega)))
      have hGDd : Hid (∀ k, k < n → ∃ A' c', D k = .slice A' (L k) c' ∧ L k ≤ c' ∧ Ints (Wc.alloc (.cells #[.slice (some ⟨G, 0, none⟩) n cG] 22)) A' (L k) (v k) ∧ (∀ b o, A' = some ⟨b, o, none⟩ → b ≠ G)) := Lib.hid (fun k hk => by
        obtain ⟨A', c', k1, k2, k3⟩ := hGD k hk
        refine ⟨A', c', k1, k2, (k3.keep hbc0).keep hal, fun b o e => ?_⟩
        obtain ⟨b', o', eA, hcc⟩ := k3 (by have := (HOk.out k hk).1; omega)
        have hlt' := World.block_lt_of_cell? _ _ (hcc 0 (by have := (HOk.out k hk).1; omega))
        rw [eA] at e
        injection e with e
        injection e with e
        have hlt2 : b' < Wb.heap.size := hlt'
        omega)
      have hbW4 := Lib.hid (hbW3.trans (hal.mono (by omega)))
      have HI4 := Lib.hid (HI.out.below (hbW3.trans (hal.mono (by omega))))
      have hq1 := HI4.out.poll.c1
      clear R11c R12c hGr hGD hbW3 hal
      go_wp2_with fail
      generalize Wc.alloc (.cells #[.slice (some ⟨G, 0, none⟩) n cG] 22) = Wd at *
      have hbd0 : Below Wd.heap.size Wd Wd.drew := (Dn.refl Wd).drew.below _
      have hcd : Wd.drew.cell? ⟨w4.heap.size, 1, none⟩ = some (.int .i64 ((L 0 : Nat) : Int)) := cell_keep hq1 hbd0
      go_region_held3 (fun w' => w'.cell? ⟨w4.heap.size, 1, none⟩ = some (.int .i64 ((L 0 : Nat) : Int))) (first | exact hcd | exact cell_keep hq1 hbd0)
        (first
          | (go_at_call 37; refine (upTo_any (L 0) _ (by omega)).mono ?_; rintro e w1 ⟨rfl, hr1, he1⟩; have hb1 := he1.below (Nat.le_refl _) (Nat.le_refl _); have hsE := hbd0.size; have hbd0 := hbd0.trans (hb1.mono hbd0.size))
          | (go_at_call 36; refine (orders_any _ (L 0) (L 0) (L 0) _).mono ?_; rintro e w2 ⟨ps, pt, rfl, hps, hpt, hne, hcs, hct, hb2⟩; have hbd0 := hbd0.trans (hb2.mono hbd0.size))
          | fail)
      have hs2 := hb2.size
      have hs1 := hb1.size
      have hps' := hps
      have hpt' := hpt
      have hse := hbd0.size
      have hR1 := RowI.keep hr1 hb2
      have hsd' : Wd.drew.heap.size = Wd.heap.size := rfl
      rw [hsd'] at hR1
      have HI5 := Lib.hid (HI4.out.below hbd0)
      have Y11 := Lib.hid (World.rowIs.of_block R11d.out (hbd0.block _ (by omega)))
      have Y12 := Lib.hid (World.rowIs.of_block R12d.out (hbd0.block _ (by omega)))
      have Y13 := Lib.hid (World.rowIs.of_block R13 (hbd0.block _ (by omega)))
      have YG := Lib.hid (World.rowIs.of_block RGd.out (hbd0.block _ (by omega)))
      have hpsl : ps < w2.heap.size := cell_lt hcs
      have hptl : pt < w2.heap.size := cell_lt hct
      have hGl : G < w2.heap.size := by omega
      have HR1 := Lib.hid hR1
      have hJ0 : LieJ w2 G cG n i D (gainB r n (L 0) v i) [] w2 := ⟨Exc.refl _ _, ⟨D, YG.out, fun _ _ _ => rfl⟩, fun x hx => by cases hx⟩
      go_wp2_with fail
      rw [← wpIn_wide (n := 3)]
      refine wpIn_rangeRows (F := Fence.wide) (n := 3) (gf := 67) (lb := #[.pointer (some ⟨ps, 0, none⟩), .pointer (some ⟨pt, 0, none⟩)]) (B := w2.heap.size + 2 + 1) (m := L 0) (Kb := fun b => b ≠ G ∧ b ≠ w.heap.size ∧ b ≠ w.heap.size + 1 ∧ b ≠ w.heap.size + 2) (L := ordL (List.range (L 0)) (L 0) [])
        rfl (by omega) rfl trivial (enters_of Try.func67 (by kernel_rfl) rfl) (fun b hb => ⟨by omega, by omega, by omega, by omega⟩) ?seq rfl
        (LieJ w2 G cG n i D (gainB r n (L 0) v i)) (fun c _ W => c = .ret ∧ LieX w X10.heap.size i (w2.heap.size + 2 + 1) (L 0) ds (gainB r n (L 0) v i) (ordL (List.range (L 0)) (L 0) []) W)
        (fun s W1 W2 b hb hi he => hi.exc' he (by omega) hGl) (fun c s W1 W2 hx he => ⟨hx.1, hx.2.exc' he (by omega) (by omega) (fun D' hD' => by have := HI5.out.marks.lt hD'; omega)⟩) (by omega) hJ0
        ?act ?assign ?body ?done ?stop
      case seq =>
        intro W' hW hWb
        have := orders1_rows (some ⟨Wd.heap.size, 0, none⟩) (L 0) (L 0) (List.range (L 0)) (by omega) (by simp; omega) ps pt (w2.heap.size + 1) (3 - 1) (fun b => b ≠ G ∧ b ≠ w.heap.size ∧ b ≠ w.heap.size + 1 ∧ b ≠ w.heap.size + 2) W' (cell_of_block (hWb _ hpsl) (by rw [hsd] at *; exact hcs)) (by rw [List.length_range]; exact cell_of_block (hWb _ hptl) (by rw [hsd] at *; exact hct))
          (by
            rw [List.length_range]
            have h1 : RowI W' Wd.heap.size (L 0) (fun j => (j : Int)) := World.rowIs.of_block HR1.out (hWb _ HR1.out.lt)
            exact (h1.congr (fun i hi => by simp [rowF, List.getD, hi])).ints)
          (fun b o e => by injection e with e; injection e with e1 e2; have := HR1.out.lt; exact ⟨by omega, ⟨by omega, by omega, by omega, by omega⟩, by omega⟩) (by omega) ⟨⟨by omega, by omega, by omega, by omega⟩, by omega⟩ ⟨⟨by omega, by omega, by omega, by omega⟩, by omega⟩ (fun b hb => ⟨by omega, by omega, by omega, by omega⟩)
        rw [hW] at this
        simpa only [List.length_range] using this
      case assign =>
        intro W K hK
        gi_wp2
        exact hK
      case body =>
        intro pre x W' hJ hL hrow
        obtain ⟨E, hE1, hE2⟩ := hJ.lied
        have HJ := Lib.hid hJ
        have HLr := Lib.hid hL
        have HRw := Lib.hid hrow
        have e13 := World.rowIs.cell (World.rowIs.of_block Y13.out (hJ.exc.block _ (World.rowIs.lt Y13.out) (fun e => by injection e with e; omega))) (i := 0) (by omega)
        have e11 := World.rowIs.cell (World.rowIs.of_block Y11.out (hJ.exc.block _ (World.rowIs.lt Y11.out) (fun e => by injection e with e; omega))) (i := 0) (by omega)
        have zG := World.rowIs.frozen hE1 i
        have eG := World.rowIs.cell hE1 (i := i) (by omega)
        clear hJ hL hrow hcs hct hJ0
        gi_wp2
        have HS5 := Lib.hid (World.rowIs.set hE1 i (.slice (some ⟨w2.heap.size + 2 + 1, 0, none⟩) (L 0) (L 0)))
        have hX5 : Exc G w2 (W'.setCell ⟨G, i, none⟩ (.slice (some ⟨w2.heap.size + 2 + 1, 0, none⟩) (L 0) (L 0))) := HJ.out.exc.set i _
        have hX6 : Exc G W' (W'.setCell ⟨G, i, none⟩ (.slice (some ⟨w2.heap.size + 2 + 1, 0, none⟩) (L 0) (L 0))) := (Exc.refl _ _).set i _
        generalize W'.setCell ⟨G, i, none⟩ (.slice (some ⟨w2.heap.size + 2 + 1, 0, none⟩) (L 0) (L 0)) = W5 at *
        have hB5 : RowI W5 (w2.heap.size + 2 + 1) (L 0) (rowF x) := hX6.row HRw.out (by omega)
        have hK5 : RowsK W5 (some ⟨G, 0, none⟩) n L (fun k => if k = i then rowF x else v k) := fun _ => ⟨G, 0, rfl, fun k hk => by
          have hc := World.rowIs.cell HS5.out (i := k) (by omega)
          rw [Nat.zero_add]
          by_cases e : k = i
          · rw [if_pos e] at hc
            refine ⟨some ⟨w2.heap.size + 2 + 1, 0, none⟩, L 0, ?_, ?_, ?_⟩
            · rw [hc, (HOk.out k hk).1]
            · rw [(HOk.out k hk).1]; exact Nat.le_refl _
            · rw [(HOk.out k hk).1]
              simp only [if_pos e]
              exact hB5.ints
          · rw [if_neg e, hE2 k hk e] at hc
            obtain ⟨A', c', k1, k2, k3, k4⟩ := hGDd.out k hk
            rw [k1] at hc
            refine ⟨A', c', hc, k2, ?_⟩
            simp only [if_neg e]
            intro hp
            obtain ⟨b', o', eA, hcc⟩ := k3 hp
            refine ⟨b', o', eA, fun j hj => ?_⟩
            have hl := World.block_lt_of_cell? _ _ (hcc j hj)
            exact hX5.cell ((hbd0.cell hl).trans (hcc j hj)) (k4 b' o' eA)⟩
        have hxo : Ord (L 0) (rowF x) := by
          obtain ⟨q, hq⟩ := HLr.out
          exact (ord_of_mem (by rw [hq]; simp)).2
        have hok5 : okBal n L (fun k => if k = i then rowF x else v k) = true := okBal_iff.2 ⟨⟨hn1, hn9⟩, ⟨hc1, hc5⟩, fun k hk => ⟨(HOk.out k hk).1, by
          by_cases e : k = i
          · simp only [if_pos e]; exact hxo
          · simp only [if_neg e]; exact (HOk.out k hk).2⟩⟩
        have HCt := Lib.hid (count_ok (some ⟨G, 0, none⟩) n cG L (fun k => if k = i then rowF x else v k) W5 hK5 hok5 hG2)
        have HRu := Lib.hid (fun w' (hb : Below W5.heap.size W5 w') => rule_any r hr (some ⟨G, 0, none⟩) n cG (L 0) L (fun k => if k = i then rowF x else v k) w' (hK5.keep hb) hok5 rfl)
        clear hK5 hok5
        refine ⟨trivial, ?_⟩
        refine CallsIn.mono (CallsIn.inRound _ (callsIn_wide.2 HCt.out)) ?_
        rintro e W6 ⟨rfl, hb6⟩
        have HZ6 := Lib.hid (PollI.zero W6)
        have hz6 := zero_below W6
        have hs6 := hb6.size
        gi_wp2
        rw [run_storePoll _ _ _ (some ⟨G, 0, none⟩) n cG (L 0) (mAll (fun k => if k = i then rowF x else v k) (L 0) n) HZ6.out]
        simp only [Result.andThen_ok]
        rw [Oper.uponIn_skip]
        have HQ7 := Lib.hid (PollI.stored (A := some ⟨G, 0, none⟩) (n := n) (cA := cG) (c := L 0) (T := mAll (fun k => if k = i then rowF x else v k) (L 0) n) HZ6.out)
        have hb7 := below_setCells (pollL (some ⟨G, 0, none⟩) n cG (L 0) (mAll (fun k => if k = i then rowF x else v k) (L 0) n)) 0 hb6.size (hb6.trans (hz6.mono hb6.size))
        generalize World.setCells _ W6.heap.size 0 (pollL (some ⟨G, 0, none⟩) n cG (L 0) (mAll (fun k => if k = i then rowF x else v k) (L 0) n)) = W7 at *
        clear HZ6 hz6
        have HW7 : Hid (∀ g, g < w2.heap.size → g ≠ G → ∀ q : Later W7, q.to.heap[g]? = w2.heap[g]?) := Lib.hid (fun g k1 k2 q => ((hb7.trans (q.below.mono hb7.size)).block g (Nat.lt_of_lt_of_le k1 hX5.size)).trans (hX5.block g k1 (fun e => by injection e with e; exact k2 e)))
        have cO : ∀ q : Later W7, q.to.cell? ⟨W.heap.size + 1, 0, none⟩ = some (.slice Ai (L i) ci) := fun q => by
          rw [← hsa]
          exact World.rowIs.cell (World.rowIs.of_block Y12.out (HW7.out _ (World.rowIs.lt Y12.out) (by omega) q)) (i := 0) (by omega)
        have cF : ∀ q : Later W7, q.to.cell? ⟨w7.heap.size, 0, none⟩ = some (.func (.func (ruleN r)) #[] #[]) := fun q => World.rowIs.cell (World.rowIs.of_block HI5.out.fn (HW7.out _ (World.rowIs.lt HI5.out.fn) (by omega) q)) (i := 0) (by omega)
        have cH : ∀ q : Later W7, q.to.cell? ⟨w9.heap.size, 0, none⟩ = some (.int .i64 ((winF r n (L 0) v : Nat) : Int)) := fun q => World.rowIs.cell (World.rowIs.of_block HI5.out.ho (HW7.out _ (World.rowIs.lt HI5.out.ho) (by omega) q)) (i := 0) (by omega)
        have HOw : Hid (∀ q : Later W7, Ints q.to Ai (L i) (v i)) := Lib.hid (fun q hp => by
          obtain ⟨b', o', eA, hcc⟩ := hIi hp
          refine ⟨b', o', eA, fun j hj => ?_⟩
          have hl := World.block_lt_of_cell? _ _ (hcc j hj)
          have hl2 : b' < W.heap.size := hl
          exact cell_of_block ((HW7.out b' (by omega) (by omega) q).trans ((hbW4.out.trans (hbd0.mono (by omega))).block b' hl2)) (hcc j hj))
        have hLi := Lib.hid (HOk.out i hlt).1
        have HL1000 : L i ≤ 1000 := by have := hLi.out; omega
        gi_wp2
        refine wp_region_round (by kernel_rfl) (by kernel_rfl) ?nodef ?_
        case nodef =>
          intro j o hj c hc
          rcases j with _ | _ | _ | _ | _ | _ | j
          all_goals (simp at hj)
          all_goals (subst hj; cases hc)
        repeat
          (with_reducible refine wpQuiet_step ?_
           intro K hK
           first
             | (refine quiet_load_poll (by rfl) (.tmp 15) (by rfl) W6.heap.size (by rfl) (fun q => HQ7.out.keep q.below) ?_; refine hK _ ?_; clear hK K)
             | (go_simp
                first
                  | (refine hK _ ?_; clear hK K)
                  | (apply Exists.intro
                     refine ⟨fun pq => ?_, hK _ ?_⟩
                     (first | (go_at_call 38; have hBf := HOw.out pq; exact Lr.later (Ro.lr (before_any Ai (L i) ci (v i) _ _ pq.to hBf HL1000))) | (exact Lr.later (HRu.out _ (hb7.trans (pq.below.mono hb7.size)))))
                     clear hK K)))
        with_reducible refine wpQuiet_nil ?_
        intro _ hw'
        obtain ⟨q7, hw''⟩ := hw'
        subst hw''
        have hW' : W'.heap.size ≤ W5.heap.size := hX6.size
        have hbq := hb7.trans (q7.below.mono hb7.size)
        have hszq := hbq.size
        have HG : Hid (gainB r n (L 0) v i x = befB (v i) (L i) ((winF r n (L 0) (fun k => if k = i then rowF x else v k) : Nat) : Int) ((winF r n (L 0) v : Nat) : Int)) := Lib.hid (by unfold gainB; rw [hLi.out])
        cases hg : befB (v i) (L i) ((winF r n (L 0) (fun k => if k = i then rowF x else v k) : Nat) : Int) ((winF r n (L 0) v : Nat) : Int) with
        | false =>
          rw [hg] at HG
          gi_wp2
          refine ⟨⟨Nat.le_trans hW' hszq, fun b hb hlt2 => (hbq.block b (by omega)).trans (hX6.block b hlt2 (fun e => by injection e with e; exact hb.1 e))⟩, ?_⟩
          refine ⟨⟨hbq.os.trans hX5.os, hbq.tape.trans hX5.tape, hbq.output.trans hX5.output, Nat.le_trans hX5.size hszq, fun k hk hne => (hbq.block k (Nat.lt_of_lt_of_le hk hX5.size)).trans (hX5.block k hk hne)⟩, ⟨_, World.rowIs.of_block HS5.out (hbq.block _ (World.rowIs.lt HS5.out)), fun k hk hne => by rw [if_neg hne]; exact hE2 k hk hne⟩, fun y hy => ?_⟩
          rcases List.mem_append.1 hy with hy | hy
          · exact HJ.out.no y hy
          · rw [List.mem_singleton] at hy
            rw [hy]; exact HG.out
        | true =>
          rw [hg] at HG
          have e11 := World.rowIs.cell (World.rowIs.of_block Y11.out (HW7.out _ (World.rowIs.lt Y11.out) (by omega) q7)) (i := 0) (by omega)
          have R0 := World.rowIs.of_block HI5.out.r1 (HW7.out _ (World.rowIs.lt HI5.out.r1) (by omega) q7)
          have R1 := World.rowIs.of_block HI5.out.r2 (HW7.out _ (World.rowIs.lt HI5.out.r2) (by omega) q7)
          have R2 := World.rowIs.of_block HI5.out.r3 (HW7.out _ (World.rowIs.lt HI5.out.r3) (by omega) q7)
          have hmq := HI5.out.marks.keep (fun D' hD' => HW7.out D' (HI5.out.marks.lt hD') (by have := HI.out.marks.lt hD'; omega) q7)
          have hBq : RowI q7.to (w2.heap.size + 2 + 1) (L 0) (rowF x) := World.rowIs.of_block hB5 (hbq.block _ hB5.lt)
          have hbelq : Below w.heap.size w q7.to := HI5.out.bel.trans ((hX5.below (by omega) HI5.out.bel.size).trans (hbq.mono (by have := HI5.out.bel.size; have := hX5.size; omega)))
          have hblq : ∀ b, b ≠ G → b < W'.heap.size → q7.to.heap[b]? = W'.heap[b]? := fun b k1 k2 => (hbq.block b (by omega)).trans (hX6.block b k2 (fun e => by injection e with e; exact k1 e))
          have hszW : W'.heap.size ≤ q7.to.heap.size := Nat.le_trans hW' hszq
          have hsw2 : w2.heap.size ≤ q7.to.heap.size := Nat.le_trans hX5.size hszq
          generalize q7.to = Wq at *
          have c0 := World.rowIs.cell R0 (i := 0) (by omega)
          have f0 := World.rowIs.frozen R0 0
          have c1 := World.rowIs.cell R1 (i := 0) (by omega)
          have f1 := World.rowIs.frozen R1 0
          have c2 := World.rowIs.cell R2 (i := 0) (by omega)
          have f2 := World.rowIs.frozen R2 0
          gi_wp2
          have e0 : Exc w.heap.size Wq (Wq.setCell ⟨w.heap.size, 0, none⟩ (.int .i64 (i : Int))) := (Exc.refl _ _).set 0 _
          have q0 : World.rowIs (Wq.setCell ⟨w.heap.size, 0, none⟩ (.int .i64 (i : Int))) w.heap.size 3 1 (fun _ => .int .i64 (i : Int)) := World.rowIs.congr (World.rowIs.set R0 0 (.int .i64 (i : Int))) (fun j hj => by rw [if_pos (show j = 0 by omega)])
          have o1 := World.rowIs.of_block R1 (e0.block _ (World.rowIs.lt R1) (fun e => by injection e with e; omega))
          have p2 := World.rowIs.of_block R2 (e0.block _ (World.rowIs.lt R2) (fun e => by injection e with e; omega))
          have hm0 := hmq.keep (fun D hD => e0.block D (hmq.lt hD) (fun e => by injection e with e; have := (hmq.2 D hD).1; omega))
          have hz0 := e0.size
          generalize Wq.setCell ⟨w.heap.size, 0, none⟩ (.int .i64 (i : Int)) = Z1 at *
          have e1 : Exc (w.heap.size + 1) Z1 (Z1.setCell ⟨w.heap.size + 1, 0, none⟩ (.slice (some ⟨w2.heap.size + 2 + 1, 0, none⟩) (L 0) (L 0))) := (Exc.refl _ _).set 0 _
          have q1 : World.rowIs (Z1.setCell ⟨w.heap.size + 1, 0, none⟩ (.slice (some ⟨w2.heap.size + 2 + 1, 0, none⟩) (L 0) (L 0))) (w.heap.size + 1) 23 1 (fun _ => .slice (some ⟨w2.heap.size + 2 + 1, 0, none⟩) (L 0) (L 0)) := World.rowIs.congr (World.rowIs.set o1 0 (.slice (some ⟨w2.heap.size + 2 + 1, 0, none⟩) (L 0) (L 0))) (fun j hj => by rw [if_pos (show j = 0 by omega)])
          have q01 := World.rowIs.of_block q0 (e1.block _ (World.rowIs.lt q0) (fun e => by injection e with e; omega))
          have o2 := World.rowIs.of_block p2 (e1.block _ (World.rowIs.lt p2) (fun e => by injection e with e; omega))
          have hm1 := hm0.keep (fun D hD => e1.block D (hm0.lt hD) (fun e => by injection e with e; have := (hm0.2 D hD).1; omega))
          have hz1 := e1.size
          generalize Z1.setCell ⟨w.heap.size + 1, 0, none⟩ (.slice (some ⟨w2.heap.size + 2 + 1, 0, none⟩) (L 0) (L 0)) = Z2 at *
          have e2 : Exc (w.heap.size + 2) Z2 (Z2.setCell ⟨w.heap.size + 1 + 1, 0, none⟩ (.int .i64 0)) := (Exc.refl _ _).set 0 _
          have q2 : World.rowIs (Z2.setCell ⟨w.heap.size + 1 + 1, 0, none⟩ (.int .i64 0)) (w.heap.size + 2) 24 1 (fun _ => .int .i64 0) := World.rowIs.congr (World.rowIs.set o2 0 (.int .i64 0)) (fun j hj => by rw [if_pos (show j = 0 by omega)])
          have q02 := World.rowIs.of_block q01 (e2.block _ (World.rowIs.lt q01) (fun e => by injection e with e; omega))
          have q12 := World.rowIs.of_block q1 (e2.block _ (World.rowIs.lt q1) (fun e => by injection e with e; omega))
          have hm2 := hm1.keep (fun D hD => e2.block D (hm1.lt hD) (fun e => by injection e with e; have := (hm1.2 D hD).1; omega))
          have hz2 := e2.size
          generalize Z2.setCell ⟨w.heap.size + 1 + 1, 0, none⟩ (.int .i64 0) = Z3 at *
          have hblz : ∀ b, b ≠ w.heap.size → b ≠ w.heap.size + 1 → b ≠ w.heap.size + 2 → b < Wq.heap.size → Z3.heap[b]? = Wq.heap[b]? := fun b k1 k2 k3 k4 =>
            (e2.block b (by omega) (fun e => by injection e with e; omega)).trans ((e1.block b (by omega) (fun e => by injection e with e; omega)).trans (e0.block b k4 (fun e => by injection e with e; omega)))
          refine ⟨⟨by omega, fun b hb hlt2 => (hblz b hb.2.1 hb.2.2.1 hb.2.2.2 (by omega)).trans (hblq b hb.1 hlt2)⟩, rfl, ?_⟩
          have hsq := hbelq.size
          obtain ⟨rr, hrr⟩ := HLr.out
          exact { r1 := q02, r2 := q12, r3 := q2
                  bel := hbelq.trans ((e0.below (by omega) hsq).trans ((e1.below (by omega) (by omega)).trans (e2.below (by omega) (by omega))))
                  marks := hm2
                  it := ⟨pre, x, rr, hrr, HJ.out.no, HG.out, World.rowIs.of_block hBq (hblz _ (by omega) (by omega) (by omega) hBq.lt)⟩ }
      case done =>
        intro M W' hM hJ hk
        have hML : ∀ D' ∈ ds, D' < W.heap.size := fun D' hD' => HI.out.marks.lt hD'
        have h5 := HI5.out.exc' hJ.exc (by omega) hgp hgf hgh (by omega) (fun D' hD' => by have := hML D' hD'; omega)
        have hN : Hid (LieI w w4.heap.size w7.heap.size w9.heap.size X10.heap.size r (some ⟨ba, oa, none⟩) n cA L v (i + 1) (M :: ds) W') := Lib.hid
          { r1 := h5.r1, r2 := h5.r2, r3 := h5.r3, poll := h5.poll, fn := h5.fn, ho := h5.ho, bel := h5.bel, zle := h5.zle
            marks := HI5.out.marks.cons (fun D' hD' => (h5.marks.2 D' hD').2.trans (HI5.out.marks.2 D' hD').2.symm) (by omega) (by omega) hk
            no := fun i' hi' y hy => by
              by_cases e : i' = i
              · rw [e]; exact hJ.no y hy
              · exact HI5.out.no i' (by omega) y hy }
        clear h5 hJ hk
        go_wp2
        exact ⟨⟨i + 1, M :: ds, _, _, _, _, _, _, _, _, _, _, _, _, _, _, _, _, _, by omega, by simp [hds], by go_num, rfl, hN.out⟩, by simp; omega⟩
      case stop =>
        intro M c pre W' hM hx hk
        obtain ⟨rfl, hx⟩ := hx
        obtain ⟨p, x, q, e1, e2, e3, e4⟩ := hx.it
        have HX := Lib.hid hx
        clear hx
        gi_wp2
        have hmm : Marks W' X10.heap.size (M :: ds) := HI5.out.marks.cons (fun D' hD' => (HX.out.marks.2 D' hD').2.trans (HI5.out.marks.2 D' hD').2.symm) (by omega) (by omega) hk
        refine leaves_marks (M :: ds) W' hmm (fun w' hs => ?_)
        have hnd : ∀ b, b < X10.heap.size → b ∉ M :: ds := fun b hb hm => by have := (hmm.2 b hm).1; omega
        have hnB : w2.heap.size + 2 + 1 ∉ M :: ds := fun hm => by
          rcases List.mem_cons.1 hm with e | hm
          · omega
          · have := HI5.out.marks.lt hm; omega
        have g0 := World.rowIs.cell (World.rowIs.of_block HX.out.r1 (hs.block _ (World.rowIs.lt HX.out.r1) (hnd _ (by omega)))) (i := 0) (by omega)
        have g1 := World.rowIs.cell (World.rowIs.of_block HX.out.r2 (hs.block _ (World.rowIs.lt HX.out.r2) (hnd _ (by omega)))) (i := 0) (by omega)
        have g2 := World.rowIs.cell (World.rowIs.of_block HX.out.r3 (hs.block _ (World.rowIs.lt HX.out.r3) (hnd _ (by omega)))) (i := 0) (by omega)
        exact ⟨.tuple #[.int .i64 (i : Int), .slice (some ⟨w2.heap.size + 2 + 1, 0, none⟩) (L 0) (L 0), .int .i64 0], by simp [results, Try.results10, go_sem, g0, g1, g2],
          .inl ⟨i, x, p, q, w2.heap.size + 2 + 1, hlt, HI.out.no, e1, e2, e3, rfl, by omega, World.rowIs.of_block e4 (hs.block _ e4.lt hnB)⟩, HX.out.bel.trans (hs.below (fun D' hD' => by have := (hmm.2 D' hD').1; omega) HX.out.bel.size)⟩
    · have hin : i = n := by omega
      rw [hin] at HI ⊢
      clear hlt hi hds hin
      go_wp2
      have e0 : Exc w.heap.size W (W.setCell ⟨w.heap.size, 0, none⟩ (.int .i64 0)) := (Exc.refl _ _).set 0 _
      have q0 : World.rowIs (W.setCell ⟨w.heap.size, 0, none⟩ (.int .i64 0)) w.heap.size 3 1 (fun _ => .int .i64 0) := World.rowIs.congr (World.rowIs.set HI.out.r1 0 (.int .i64 0)) (fun j hj => by rw [if_pos (show j = 0 by omega)])
      have o1 := World.rowIs.of_block HI.out.r2 (e0.block _ (World.rowIs.lt HI.out.r2) (fun e => by injection e with e; omega))
      have p2 := World.rowIs.of_block HI.out.r3 (e0.block _ (World.rowIs.lt HI.out.r3) (fun e => by injection e with e; omega))
      have hm0 := HI.out.marks.keep (fun D hD => e0.block D (HI.out.marks.lt hD) (fun e => by injection e with e; have := (HI.out.marks.2 D hD).1; omega))
      have hz0 := e0.size
      generalize W.setCell ⟨w.heap.size, 0, none⟩ (.int .i64 0) = W1 at *
      have e1 : Exc (w.heap.size + 1) W1 (W1.setCell ⟨w.heap.size + 1, 0, none⟩ (.slice none 0 0)) := (Exc.refl _ _).set 0 _
      have q1 : World.rowIs (W1.setCell ⟨w.heap.size + 1, 0, none⟩ (.slice none 0 0)) (w.heap.size + 1) 23 1 (fun _ => .slice none 0 0) := World.rowIs.congr (World.rowIs.set o1 0 (.slice none 0 0)) (fun j hj => by rw [if_pos (show j = 0 by omega)])
      have q01 := World.rowIs.of_block q0 (e1.block _ (World.rowIs.lt q0) (fun e => by injection e with e; omega))
      have o2 := World.rowIs.of_block p2 (e1.block _ (World.rowIs.lt p2) (fun e => by injection e with e; omega))
      have hm1 := hm0.keep (fun D hD => e1.block D (hm0.lt hD) (fun e => by injection e with e; have := (hm0.2 D hD).1; omega))
      have hz1 := e1.size
      generalize W1.setCell ⟨w.heap.size + 1, 0, none⟩ (.slice none 0 0) = W2 at *
      have e2 : Exc (w.heap.size + 2) W2 (W2.setCell ⟨w.heap.size + 1 + 1, 0, none⟩ (.int .i64 4)) := (Exc.refl _ _).set 0 _
      have q2 : World.rowIs (W2.setCell ⟨w.heap.size + 1 + 1, 0, none⟩ (.int .i64 4)) (w.heap.size + 2) 24 1 (fun _ => .int .i64 4) := World.rowIs.congr (World.rowIs.set o2 0 (.int .i64 4)) (fun j hj => by rw [if_pos (show j = 0 by omega)])
      have q02 := World.rowIs.of_block q01 (e2.block _ (World.rowIs.lt q01) (fun e => by injection e with e; omega))
      have q12 := World.rowIs.of_block q1 (e2.block _ (World.rowIs.lt q1) (fun e => by injection e with e; omega))
      have hm2 := hm1.keep (fun D hD => e2.block D (hm1.lt hD) (fun e => by injection e with e; have := (hm1.2 D hD).1; omega))
      have hz2 := e2.size
      generalize W2.setCell ⟨w.heap.size + 1 + 1, 0, none⟩ (.int .i64 4) = W3 at *
      have hB3 : Below w.heap.size w W3 := HI.out.bel.trans ((e0.below (by omega) hsz).trans ((e1.below (by omega) (by omega)).trans (e2.below (by omega) (by omega))))
      refine leaves_marks ds W3 hm2 (fun w' hs => ?_)
      have hnd : ∀ b, b < X10.heap.size → b ∉ ds := fun b hb hm => by have := (hm2.2 b hm).1; omega
      have g0 := World.rowIs.cell (World.rowIs.of_block q02 (hs.block _ (World.rowIs.lt q02) (hnd _ (by omega)))) (i := 0) (by omega)
      have g1 := World.rowIs.cell (World.rowIs.of_block q12 (hs.block _ (World.rowIs.lt q12) (hnd _ (by omega)))) (i := 0) (by omega)
      have g2 := World.rowIs.cell (World.rowIs.of_block q2 (hs.block _ (World.rowIs.lt q2) (hnd _ (by omega)))) (i := 0) (by omega)
      exact ⟨.tuple #[.int .i64 0, .slice none 0 0, .int .i64 4], by simp [results, Try.results10, go_sem, g0, g1, g2], .inr ⟨HI.out.no, rfl⟩, hB3.trans (hs.below (fun D hD => by have := (hm2.2 D hD).1; omega) hB3.size)⟩
end Go.Proofs.Ytnobbklnnkpdfaa
