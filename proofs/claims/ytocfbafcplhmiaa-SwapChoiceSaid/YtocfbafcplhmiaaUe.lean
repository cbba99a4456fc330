/- swap: owning, trade. -/
import Derived.Test.YtocfbafcplhmiaaUd
import Derived.Deep.DeepCutAuto
import Derived.OrdersHeld
import Derived.Deep.MidRow
namespace Go.Proofs.Ytocfbafcplhmiaa
open Go.RowKit

/-- S without T. -/
def adN (S T : Nat) : Nat := (bits .andNot .i64 (S : Int) (T : Int)).toNat
theorem adN_eq : ∀ S : Nat, S < 32 → ∀ T : Nat, T < 32 → bits .andNot .i64 (S : Int) (T : Int) = ((adN S T : Nat) : Int) := by decide +kernel
theorem adN_lt : ∀ S : Nat, S < 32 → ∀ T : Nat, T < 32 → adN S T < 32 := by decide +kernel
theorem adN_in : ∀ S : Nat, S < 32 → ∀ T : Nat, T < 32 → ∀ x : Nat, x < 5 → inS (adN S T) x = (inS S x && !inS T x) := by decide +kernel
theorem orN_eq : ∀ s : Nat, s < 32 → ∀ p : Nat, p < 5 → bits .or .i64 (s : Int) (wrap64 (2 ^ p)) = ((s ||| 2 ^ p : Nat) : Int) := by decide +kernel
theorem orN_lt : ∀ s : Nat, s < 32 → ∀ p : Nat, p < 5 → s ||| 2 ^ p < 32 := by decide +kernel
theorem orN_in : ∀ s : Nat, s < 32 → ∀ p : Nat, p < 5 → ∀ x : Nat, x < 5 → inS (s ||| 2 ^ p) x = (inS s x || decide (p = x)) := by decide +kernel
theorem inS_zero (x : Nat) : inS 0 x = false := by unfold inS; simp
theorem inS_ex : ∀ S : Nat, S < 32 → S ≠ 0 → ∃ x, x < 5 ∧ inS S x = true := by decide +kernel
theorem inS_full : ∀ n : Nat, n < 6 → ∀ x : Nat, x < 5 → inS (2 ^ n - 1) x = decide (x < n) := by decide +kernel
theorem full_lt : ∀ n : Nat, n < 6 → 2 ^ n - 1 < 32 := by decide +kernel

/-- The things taken are those of the people who go. -/
theorem taken_iff {t : Nat → Nat → Nat} {n : Nat} {ow : Nat → Nat} (h : Wsh n t ow) {lv : Nat → Bool} {x : Nat} (hx : x < n) : anyB (fun p => gsF t n ow lv p && decide (bsF t n ow lv p = x)) n = gsF t n ow lv (ow x) := by
  rw [Bool.eq_iff_iff, anyB_iff]
  constructor
  · rintro ⟨p, hp, e⟩
    rw [Bool.and_eq_true, decide_eq_true_iff] at e
    have := gsF_next h hp e.1
    unfold nxF at this
    rw [e.2] at this
    exact this
  · intro hg
    have hox := h.ow.lt x hx
    have hl := gsF_left hg
    have hc : onC (nxF t n ow lv) n (ow x) = true := by
      unfold gsF at hg
      rw [Bool.and_eq_true] at hg
      exact hg.2
    obtain ⟨k, hk, e⟩ := onC_iff.1 hc
    have hkeep := itF_keep (f := nxF t n ow lv) (P := fun j => j < n ∧ gsF t n ow lv j = true) (fun j hj => ⟨(nxF_keep h hj.1 hox hl).1, gsF_next h hj.1 hj.2⟩) k (ow x) ⟨hox, hg⟩
    refine ⟨_, hkeep.1, ?_⟩
    rw [Bool.and_eq_true, decide_eq_true_iff]
    refine ⟨hkeep.2, ?_⟩
    obtain ⟨q, hq, eq, -, -, -⟩ := bsF_at h (lv := lv) hkeep.1 hox hl
    refine h.ow.inj _ _ (by rw [eq]; exact (h.t _ hkeep.1).lt q hq) hx ?_
    exact e
/-- The set of the things that are left at round r. -/
structure LeftS (t : Nat → Nat → Nat) (n : Nat) (g : Nat → Nat) (r S : Nat) : Prop where
  lt : S < 32
  lv : ∀ p, p < n → lfF t n (owF g n) r p = inS S (g p)
  out : ∀ x, n ≤ x → x < 5 → inS S x = false
theorem LeftS.first {t : Nat → Nat → Nat} {n : Nat} {g : Nat → Nat} (hn : n ≤ 5) (hg : Pm n g) : LeftS t n g 0 (2 ^ n - 1) where
  lt := full_lt n (by omega)
  lv := fun p hp => by
    have := hg.lt p hp
    rw [inS_full n (by omega) _ (by omega), decide_eq_true this]
    rfl
  out := fun x h1 h2 => by rw [inS_full n (by omega) x h2, decide_eq_false (by omega)]
theorem LeftS.next {t : Nat → Nat → Nat} {n : Nat} {g : Nat → Nat} (hn : n ≤ 5) (ht : ∀ i, i < n → Pm n (t i)) (hg : Pm n g) {r S T : Nat} (h : LeftS t n g r S) (hT : T < 32)
    (hTx : ∀ x, x < 5 → inS T x = anyB (fun p => gsF t n (owF g n) (lfF t n (owF g n) r) p && decide (bsF t n (owF g n) (lfF t n (owF g n) r) p = x)) n) : LeftS t n g (r + 1) (adN S T) where
  lt := adN_lt S h.lt T hT
  lv := fun p hp => by
    have hgp := hg.lt p hp
    rw [lfF_succ, h.lv p hp, adN_in S h.lt T hT _ (by omega), hTx _ (by omega), taken_iff ⟨ht, owF_pm hg⟩ hgp, owF_of hg hp]
  out := fun x h1 h2 => by rw [adN_in S h.lt T hT x h2, h.out x h1 h2]; rfl
theorem LeftS.some {t : Nat → Nat → Nat} {n : Nat} {g : Nat → Nat} {r S : Nat} (h : LeftS t n g r S) (hS : S ≠ 0) : ∃ x, x < n ∧ inS S x = true := by
  obtain ⟨x, hx, e⟩ := inS_ex S h.lt hS
  rcases Nat.lt_or_ge x n with hl | hl
  · exact ⟨x, hl, e⟩
  · rw [h.out x hl hx] at e
    cases e
theorem LeftS.round {t : Nat → Nat → Nat} {n : Nat} {g : Nat → Nat} (ht : ∀ i, i < n → Pm n (t i)) (hg : Pm n g) {r S : Nat} (h : LeftS t n g r S) (hS : S ≠ 0) : r < n := by
  obtain ⟨x, hx, e⟩ := h.some hS
  obtain ⟨p, hp, ep⟩ := hg.surj hx
  rcases Nat.lt_or_ge r n with hl | hl
  · exact hl
  · have h1 := h.lv p hp
    rw [ep, e] at h1
    have h2 := lfF_mono hl h1
    rw [lf_done ⟨ht, owF_pm hg⟩ hp] at h2
    cases h2
theorem LeftS.gs {t : Nat → Nat → Nat} {n : Nat} {g : Nat → Nat} (ht : ∀ i, i < n → Pm n (t i)) (hg : Pm n g) {r S : Nat} (h : LeftS t n g r S) {p : Nat} (hp : p < n) :
    gsF t n (owF g n) (lfF t n (owF g n) r) p = (inS S (g p) && onC (nxB t n g S) n p) := by
  unfold gsF
  rw [h.lv p hp]
  cases e : inS S (g p) with
  | false => rfl
  | true => rw [onC_nxB hg ht h.lv ⟨g p, hg.lt p hp, e⟩ hp]
theorem wish_range {w : World} {g : Nat} {x y : Value} (h : Bx2 w g x y) : w.rangeAt g 0 [x, y] := fun j v hv => by
  rcases j with _ | _ | j
  · simp at hv; subst hv; exact h.1
  · simp at hv; subst hv; exact h.2
  · simp at hv
theorem range_keepU {w w' : World} {g : Nat} {l : List Value} (h : w.rangeAt g 0 l) (hb : Below w.heap.size w w') : w'.rangeAt g 0 l := fun j v hv => cell_on (h j v hv) hb
theorem range_otherU {w : World} {g : Nat} {l : List Value} (h : w.rangeAt g 0 l) {b : Nat} (hne : g ≠ b) (o : Nat) (v : Value) : (w.setCell ⟨b, o, none⟩ v).rangeAt g 0 l := fun j u hu => by
  rw [World.cell?_setCell_other _ _ _ _ (by intro e; injection e with e1; exact hne e1.symm)]
  exact h j u hu
theorem infoWish : (Try.prog.info? 50).map (·.size) = some 2 := by kernel_rfl
theorem wpOp_ofU {P : Program} {ops : Array Oper} {Q : Exit → Act → World → Prop} {i : Nat} {K : Act → World → Prop} {a : Act} {w : World} {o : Oper} (hi : ops[i]? = some o) (hw : Region.wanted o (yielded ops a.tmps) = true) (h : o.wp P a w K Q) : wpOp P ops Q i K a w := by
  unfold wpOp
  rw [hi]
  simp only [hw, if_true]
  exact .inl h

set_option maxHeartbeats 2000000 in
set_option maxRecDepth 1000000 in
theorem owning_any (A : Option Addr) (n c : Nat) (G : Option Addr) (cG : Nat) (hn : n ≤ 5) (w : World) :
    Lr 49 #[.agg #[.int .i64 n, .slice A n c], .slice G n cG] w (.agg #[.int .i64 n, .slice A n c, .slice G n cG, .int .i64 ((2 ^ n - 1 : Nat) : Int)]) := by
  unfold Lr
  obtain ⟨W1, hW1⟩ : ∃ W1, W1 = w.alloc (.cells #[.int .i64 n, .slice A n c] 50) := ⟨_, rfl⟩
  have hb1 := box_bel w (.cells #[.int .i64 n, .slice A n c] 50)
  have hx1 := box2_at w (.int .i64 n) (.slice A n c) 50
  have hs1 : W1.heap.size = w.heap.size + 1 := by rw [hW1]; simp
  rw [← hW1] at hb1 hx1
  have hb2 := box_bel W1 (.cells #[.int .i64 0, .slice none 0 0, .slice none 0 0, .int .i64 0] 55)
  have hh2 : (W1.alloc (.cells #[.int .i64 0, .slice none 0 0, .slice none 0 0, .int .i64 0] 55)).rowIs W1.heap.size 55 4 (fun i => (#[Value.int .i64 0, .slice none 0 0, .slice none 0 0, .int .i64 0][i]?).getD (.int .i64 0)) :=
    World.rowIs_alloc W1 #[.int .i64 0, .slice none 0 0, .slice none 0 0, .int .i64 0] 55 _ (fun i hi => by
      have hi' : i < 4 := hi
      have : i = 0 ∨ i = 1 ∨ i = 2 ∨ i = 3 := by omega
      rcases this with rfl | rfl | rfl | rfl <;> rfl)
  rw [hs1] at hh2
  have HR := Lib.hid (wish_range (hx1.keep hb2))
  have HB := Lib.hid (hb1.trans (hb2.mono hb1.size))
  have HH := Lib.hid hh2
  have HW1 := Lib.hid hW1
  clear hb1 hb2 hx1 hh2 hs1
  rw [hW1] at HR HB HH
  clear hW1
  go_enter Try.func49, Try.ntmps49
  go_wp2_with fail
  generalize (w.alloc (Obj.cells #[Value.int IntKind.i64 ↑n, Value.slice A n c] 50)).alloc (Obj.cells #[Value.int IntKind.i64 0, Value.slice none 0 0, Value.slice none 0 0, Value.int IntKind.i64 0] 55) = W2 at *
  have hS0 : W2.drew.rangeAt w.heap.size 0 [.int .i64 n, .slice A n c] := HR.out
  refine wp_region_held (S := fun w' => w'.rangeAt w.heap.size 0 [.int .i64 n, .slice A n c]) (by kernel_rfl) ?_
  refine wpAnyH_take (i := 0) (v := .agg #[.int .i64 n, .slice A n c]) rfl (by kernel_rfl) (by kernel_rfl) (by kernel_rfl) (fun _ _ _ h => h) (yieldsIf_load_mid (by rfl) 50 (.tmp 2) (by rfl) w.heap.size 0 (by rfl) [.int .i64 n, .slice A n c] _ (fun w h => h) Try.underlying50 rfl infoWish) hS0 ?_
  refine wpAnyH_take (i := 1) (v := .slice G n cG) rfl (by kernel_rfl) (by kernel_rfl) (by kernel_rfl) (fun _ _ _ h => h) (Or.inl ⟨by rfl, fun w _ => by go_simp⟩) hS0 ?_
  refine wpAnyH_take (i := 2) (v := .agg #[.int .i64 n, .slice A n c]) rfl (by kernel_rfl) (by kernel_rfl) (by kernel_rfl) (fun _ _ _ h => h) (yieldsIf_load_mid (by rfl) 50 (.tmp 2) (by rfl) w.heap.size 0 (by rfl) [.int .i64 n, .slice A n c] _ (fun w h => h) Try.underlying50 rfl infoWish) hS0 ?_
  refine wpAnyH_all (rs := [3]) (by kernel_rfl) (by simp) (fun i hi => ?_)
  obtain rfl : i = 3 := by simpa using hi
  refine wpOp_ofU (by rfl) (by rfl) ?_
  go_simp
  go_at_call 61
  refine (everyone_any A n c hn _).use fun w5 hb5 => ?_
  have hb5' : Below W2.heap.size W2 w5 := (Dn.refl W2).drew.below _ |>.trans hb5
  have hS5 : w5.rangeAt w.heap.size 0 [.int .i64 n, .slice A n c] := range_keepU HR.out hb5'
  have HH5 := Lib.hid (World.rowIs.of_block HH.out (hb5'.block _ (World.rowIs.lt HH.out)))
  have HB5 := Lib.hid (HB.out.trans (hb5'.mono HB.out.size))
  clear hb5 hb5' hS0
  refine ⟨hS5, ?_⟩
  refine wpAnyH_take (i := 4) (v := .agg #[.int .i64 n, .slice A n c, .slice G n cG, .int .i64 ((2 ^ n - 1 : Nat) : Int)]) rfl (by kernel_rfl) (by kernel_rfl) (by kernel_rfl) (fun _ _ _ h => h) (Or.inl ⟨by rfl, fun w _ => by go_simp⟩) hS5 ?_
  have c0 := World.rowIs.cell HH5.out (i := 0) (by omega)
  have c1 := World.rowIs.cell HH5.out (i := 1) (by omega)
  have c2 := World.rowIs.cell HH5.out (i := 2) (by omega)
  have c3 := World.rowIs.cell HH5.out (i := 3) (by omega)
  have z := World.rowIs.frozen HH5.out
  refine wpAnyH_all (rs := [5]) (by kernel_rfl) (by simp) (fun i hi => ?_)
  obtain rfl : i = 5 := by simpa using hi
  refine wpOp_ofU (by rfl) (by rfl) ?_
  go_simp
  have r1 := World.rowIs.set (World.rowIs.set (World.rowIs.set (World.rowIs.set HH5.out 0 (.int .i64 n)) 1 (.slice A n c)) 2 (.slice G n cG)) 3 (.int .i64 ((2 ^ n - 1 : Nat) : Int))
  have hS6 := range_otherU (range_otherU (range_otherU (range_otherU hS5 (show w.heap.size ≠ w.heap.size + 1 by omega) 0 (.int .i64 n)) (show w.heap.size ≠ w.heap.size + 1 by omega) 1 (.slice A n c)) (show w.heap.size ≠ w.heap.size + 1 by omega) 2 (.slice G n cG)) (show w.heap.size ≠ w.heap.size + 1 by omega) 3 (.int .i64 ((2 ^ n - 1 : Nat) : Int))
  have hb6 : Below w.heap.size w ((((w5.setCell ⟨w.heap.size + 1, 0, none⟩ (.int .i64 n)).setCell ⟨w.heap.size + 1, 1, none⟩ (.slice A n c)).setCell ⟨w.heap.size + 1, 2, none⟩ (.slice G n cG)).setCell ⟨w.heap.size + 1, 3, none⟩ (.int .i64 ((2 ^ n - 1 : Nat) : Int))) :=
    (((HB5.out.setCell (p := ⟨w.heap.size + 1, 0, none⟩) (by show _ ≤ w.heap.size + 1; omega) _).setCell (p := ⟨w.heap.size + 1, 1, none⟩) (by show _ ≤ w.heap.size + 1; omega) _).setCell (p := ⟨w.heap.size + 1, 2, none⟩) (by show _ ≤ w.heap.size + 1; omega) _).setCell (p := ⟨w.heap.size + 1, 3, none⟩) (by show _ ≤ w.heap.size + 1; omega) _
  refine ⟨hS6, ?_⟩
  clear hS6 hS5 c0 c1 c2 c3 z
  generalize (((w5.setCell ⟨w.heap.size + 1, 0, none⟩ (.int .i64 n)).setCell ⟨w.heap.size + 1, 1, none⟩ (.slice A n c)).setCell ⟨w.heap.size + 1, 2, none⟩ (.slice G n cG)).setCell ⟨w.heap.size + 1, 3, none⟩ (.int .i64 ((2 ^ n - 1 : Nat) : Int)) = W6 at *
  refine wpAnyH_done (by kernel_rfl) ?_ _
  have d0 : W6.cell? ⟨w.heap.size + 1, 0, none⟩ = some (.int .i64 n) := World.rowIs.cell r1 (i := 0) (by omega)
  have d1 : W6.cell? ⟨w.heap.size + 1, 1, none⟩ = some (.slice A n c) := World.rowIs.cell r1 (i := 1) (by omega)
  have d2 : W6.cell? ⟨w.heap.size + 1, 2, none⟩ = some (.slice G n cG) := World.rowIs.cell r1 (i := 2) (by omega)
  have d3 : W6.cell? ⟨w.heap.size + 1, 3, none⟩ = some (.int .i64 ((2 ^ n - 1 : Nat) : Int)) := World.rowIs.cell r1 (i := 3) (by omega)
  clear r1
  go_wp2
  refine bodyPost_ret (v := .agg #[.int .i64 n, .slice A n c, .slice G n cG, .int .i64 ((2 ^ n - 1 : Nat) : Int)]) (by simp [results, Try.results49, go_sem, d0, d1, d2, d3]) rfl ?_
  exact ⟨rfl, hb6⟩
end Go.Proofs.Ytocfbafcplhmiaa
