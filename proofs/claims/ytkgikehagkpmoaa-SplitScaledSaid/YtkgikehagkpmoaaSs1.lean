import Derived.Test.YtkgikehagkpmoaaEx3
import Derived.Test.YtkgikehagkpmoaaParts
import Derived.Test.YtkgikehagkpmoaaFair
import Derived.Test.YtkgikehagkpmoaaFew
import Derived.Test.YtkgikehagkpmoaaNm2
import Derived.Test.YtkgikehagkpmoaaNm3
import Derived.Test.YtkgikehagkpmoaaDivd
import Derived.Test.YtkgikehagkpmoaaAwake
import Derived.IntWalk
namespace Go.Proofs.Ytkgikehagkpmoaa

/-- By how much a person's values are multiplied. -/
def kap (p : Nat) (b : Int) (i : Nat) : Int := if i = p then b else 1
def scV (p : Nat) (b : Int) (v : Nat → Nat → Int) : Nat → Nat → Int := fun i g => kap p b i * v i g
theorem kap_pos {p : Nat} {b : Int} (hb : 0 < b) (i : Nat) : 0 < kap p b i := by unfold kap; split <;> omega
theorem mul_lt {k x y : Int} (hk : 0 < k) : (k * x < k * y) = (x < y) := propext ⟨fun h => by
  rcases Int.lt_or_le x y with h1 | h1
  · exact h1
  · have := Int.mul_le_mul_of_nonneg_left h1 (show 0 ≤ k by omega)
    omega, fun h => Int.mul_lt_mul_of_pos_left h hk⟩
theorem mul_le {k x y : Int} (hk : 0 < k) : (k * x ≤ k * y) = (x ≤ y) := propext ⟨fun h => by
  rcases Int.lt_or_le y x with h1 | h1
  · have := Int.mul_lt_mul_of_pos_left h1 hk
    omega
  · exact h1, fun h => Int.mul_le_mul_of_nonneg_left h (by omega)⟩
theorem wTo_sc (k : Int) (f D : Nat → Int) (q : Int) (K : Nat) : wTo (fun g => k * f g) D q K = k * wTo f D q K := by
  induction K with
  | zero => simp [wTo]
  | succ K ih =>
    simp only [wTo, ih]
    split
    · rw [Int.mul_add]
    · rfl
theorem sumTo_sc (k : Int) (f : Nat → Int) (K : Nat) : sumTo (fun g => k * f g) K = k * sumTo f K := by
  induction K with
  | zero => simp [sumTo]
  | succ K ih => simp only [sumTo, ih]; rw [Int.mul_add]
section
variable {n m p : Nat} {b : Int} {v : Nat → Nat → Int}
theorem wTo_scV (i : Nat) (D : Nat → Int) (q : Int) (K : Nat) : wTo (scV p b v i) D q K = kap p b i * wTo (v i) D q K := wTo_sc (kap p b i) (v i) D q K
theorem envB_sc (hb : 0 < b) (D : Nat → Int) (i : Nat) (j : Int) : envB m (scV p b v) D i j = envB m v D i j := by
  simp only [envB, wTo_scV, mul_lt (kap_pos (p := p) hb i)]
theorem envE_sc (hb : 0 < b) (D : Nat → Int) : envE m (scV p b v) D = envE m v D := by
  funext i j
  exact envB_sc hb D i (j : Int)
theorem envdB_sc (hb : 0 < b) (D : Nat → Int) (j : Nat) : envdB n m (scV p b v) D j = envdB n m v D j := by
  unfold envdB
  congr 1
  funext i
  exact envB_sc hb D i (j : Int)
theorem calmI_sc (hb : 0 < b) (D : Nat → Int) (k : Nat) : calmI n m (scV p b v) D k = calmI n m v D k := by
  induction k with
  | zero => rfl
  | succ k ih => simp only [calmI, ih, envdB_sc hb]
theorem Reach.sc (hb : 0 < b) {D E : Nat → Int} (h : Reach n m (scV p b v) D E) : Reach n m v D E := by
  induction h with
  | refl => exact .refl
  | step h1 h2 h3 ih =>
    rw [calmI_sc hb] at h2
    rw [envE_sc hb] at h3
    exact .step ih h2 h3
theorem CySeq.sc (hb : 0 < b) {k : Nat} {D : Nat → Int} (h : CySeq n m (scV p b v) k D) : CySeq n m v k D := by
  induction h with
  | zero => exact .zero
  | next h1 h2 h3 ih =>
    rw [calmI_sc hb] at h3
    exact .next ih (h2.sc hb) h3
theorem favF_sc (hb : 0 < b) (i : Nat) (D : Nat → Int) (k : Nat) : favF (scV p b v i) D k = favF (v i) D k := by
  induction k with
  | zero => rfl
  | succ k ih =>
    simp only [favF, ih]
    have : ∀ x y, (scV p b v i x < scV p b v i y) = (v i x < v i y) := fun x y => mul_lt (kap_pos (p := p) hb i)
    simp only [this]
theorem rdD_sc (hb : 0 < b) (t : Nat) : rdD n m (scV p b v) t = rdD n m v t := by
  induction t with
  | zero => rfl
  | succ t ih => simp only [rdD, ih, favF_sc hb]
theorem fair_sc (hb : 0 < b) (D : Nat → Int) (kind : Int) : allB (fairToB n m (scV p b v) D kind) n = allB (fairToB n m v D kind) n := by
  congr 1
  funext i
  have hk := kap_pos (p := p) hb i
  have hs : sumTo (scV p b v i) m = kap p b i * sumTo (v i) m := sumTo_sc (kap p b i) (v i) m
  have e1 : enoughB n m (scV p b v i) D (i : Int) = enoughB n m (v i) D (i : Int) := by
    simp only [enoughB, hs, wTo_scV]
    rw [Int.mul_left_comm]
    simp only [mul_le hk]
  have e2 : oneP n m (scV p b v i) D (i : Int) = oneP n m (v i) D (i : Int) := by
    funext g
    simp only [oneP, hs, wTo_scV]
    have : (n : Int) * (kap p b i * wTo (v i) D (i : Int) m + scV p b v i g) = kap p b i * ((n : Int) * (wTo (v i) D (i : Int) m + v i g)) := by
      show (n : Int) * (kap p b i * wTo (v i) D (i : Int) m + kap p b i * v i g) = _
      rw [← Int.mul_add, Int.mul_left_comm]
    rw [this]
    simp only [mul_le hk]
  have e3 : badP m (scV p b v) D i kind = badP m v D i kind := by
    funext j
    simp only [badP, envB_sc hb]
    congr 2
    have hg : goneB m (scV p b v i) D (i : Int) (j : Int) = goneB m (v i) D (i : Int) (j : Int) := by
      funext g
      simp only [goneB, wTo_scV]
      have : kap p b i * wTo (v i) D (j : Int) m - scV p b v i g = kap p b i * (wTo (v i) D (j : Int) m - v i g) := by
        show kap p b i * wTo (v i) D (j : Int) m - kap p b i * v i g = _
        rw [Int.mul_sub]
      rw [this]
      simp only [mul_le hk]
    have h1 : someP m (scV p b v i) D (i : Int) (j : Int) = someP m (v i) D (i : Int) (j : Int) := by funext g; simp only [someP, hg]
    have h2 : eachP m (scV p b v i) D (i : Int) (j : Int) = eachP m (v i) D (i : Int) (j : Int) := by funext g; simp only [eachP, hg]
    simp only [excB, h1, h2]
  simp only [fairToB, e1, e2, e3]
theorem envRow_sc (hb : 0 < b) (D : Nat → Int) (i k : Nat) : envRow m (scV p b v) D i k = envRow m v D i k := by
  induction k with
  | zero => rfl
  | succ k ih => simp only [envRow, ih, envB_sc hb]
theorem envAll_sc (hb : 0 < b) (D : Nat → Int) (i : Nat) : envAll n m (scV p b v) D i = envAll n m v D i := by
  induction i with
  | zero => rfl
  | succ i ih => simp only [envAll, ih, envRow_sc hb]
end
theorem lowT_sc {k : Int} (hk : 0 < k) (S : Nat → Int) (n : Nat) : lowT (fun q => k * S q) n = k * lowT S n := by
  induction n with
  | zero => rfl
  | succ n ih =>
    simp only [lowT, ih]
    rcases Int.lt_or_le (lowT S n) (S (n + 1)) with h | h
    · have := (mul_lt (k := k) hk).symm ▸ h
      rw [Int.min_eq_left (by omega), Int.min_eq_left (by omega)]
    · have := (mul_le (k := k) hk).symm ▸ h
      rw [Int.min_eq_right (by omega), Int.min_eq_right (by omega)]
theorem mxf_sc {k : Int} (hk : 0 < k) (f : Nat → Int) (c : Nat) : mxf 0 (fun p => k * f p) c = k * mxf 0 f c := by
  induction c with
  | zero => simp [mxf]
  | succ c ih =>
    simp only [mxf, ih]
    rcases Int.lt_or_le (mxf 0 f c) (f c) with h | h
    · have := (mul_lt (k := k) hk).symm ▸ h
      rw [Int.max_eq_right (by omega), Int.max_eq_right (by omega)]
    · have := (mul_le (k := k) hk).symm ▸ h
      rw [Int.max_eq_left (by omega), Int.max_eq_left (by omega)]
theorem shR_sc {k : Int} (hk : 0 < k) (n : Nat) : ∀ (K : Nat) (f S : Nat → Int) (used : Nat), shR n K (fun j => k * f j) (fun q => k * S q) used = k * shR n K f S used := by
  intro K
  induction K with
  | zero => intro f S used; exact lowT_sc hk S n
  | succ K ih =>
    intro f S used
    simp only [shR]
    rw [← mxf_sc hk]
    refine mxf_congr fun p hp => ?_
    rw [← ih]
    refine shR_congr n K _ _ _ _ _ (fun j hj => rfl) (fun q hq => ?_)
    simp only [addAt]
    split
    · rw [Int.mul_add]
    · rfl
theorem shareN_sc {k : Int} (hk : 0 < k) (m n : Nat) (f : Nat → Int) : shareN m (fun j => k * f j) n = k * shareN m f n := by
  unfold shareN
  rw [← shR_sc hk]
  simp
end Go.Proofs.Ytkgikehagkpmoaa

namespace Go.Proofs.Ytkgikehagkpmoaa
open Go.RowKit

/-- Later rows lie in later blocks. -/
def Sep (vals : List Value) : Prop := ∀ (i j : Nat) (x y : Value) (a b : Nat), i < j → vals[i]? = some x → vals[j]? = some y → x.ownBlock = some a → y.ownBlock = some b → a < b
theorem Sep.snoc {vals : List Value} {z : Value} {B : Nat} (h : Sep vals) (h1 : ∀ (i : Nat) (y : Value) (a : Nat), vals[i]? = some y → y.ownBlock = some a → a < B) (h2 : ∀ a, z.ownBlock = some a → B ≤ a) : Sep (vals ++ [z]) := by
  intro i j x y a b hij hx hy ha hb
  have hj : j < (vals ++ [z]).length := (List.getElem?_eq_some_iff.1 hy).1
  simp only [List.length_append, List.length_singleton] at hj
  rw [List.getElem?_append_left (by omega)] at hx
  rcases Nat.lt_or_ge j vals.length with hl | hl
  · rw [List.getElem?_append_left hl] at hy
    exact h i j x y a b hij hx hy ha hb
  · rw [List.getElem?_append_right hl, show j - vals.length = 0 by omega] at hy
    simp only [List.getElem?_cons_zero, Option.some.injEq] at hy
    subst hy
    have q1 := h1 i x a hx ha
    have q2 := h2 b hb
    omega
def OwnS (w : World) (base : Nat) (x : Value) (n : Nat) (L : Nat → Nat) (v : Nat → Nat → Int) : Prop := ∃ vals : List Value, vals.length = n ∧ w.ownsRow base 23 1 x n vals ∧ OwnVals w base vals L v ∧ Sep vals
theorem OwnS.own {w : World} {base n : Nat} {x : Value} {L : Nat → Nat} {v : Nat → Nat → Int} (h : OwnS w base x n L v) : OwnR w base x n L v := by
  obtain ⟨vals, h1, h2, h3, -⟩ := h
  exact ⟨vals, h1, h2, h3⟩
theorem OwnS.below {w w' : World} {base n : Nat} {x : Value} {L : Nat → Nat} {v : Nat → Nat → Int} (h : OwnS w base x n L v) (hb : Below w.heap.size w w') : OwnS w' base x n L v := by
  obtain ⟨vals, h1, h2, h3, h4⟩ := h
  exact ⟨vals, h1, ownsRow_below h2 hb, h3.below hb, h4⟩
theorem OwnS.congr {w : World} {base n : Nat} {x : Value} {L : Nat → Nat} {v v' : Nat → Nat → Int} (h : OwnS w base x n L v) (e : ∀ i g, i < n → g < L i → v i g = v' i g) : OwnS w base x n L v' := by
  obtain ⟨vals, h1, h2, h3, h4⟩ := h
  refine ⟨vals, h1, h2, fun i y hy => ?_, h4⟩
  have hi : i < vals.length := (List.getElem?_eq_some_iff.1 hy).1
  have := h3 i y hy
  rwa [lst_congr (fun g hg => e i g (by omega) hg)] at this
theorem lst_set (f : Nat → Int) (n g : Nat) (y : Int) : ((lst n f).map (Value.int .i64)).set g (.int .i64 y) = (lst n (upd f g y)).map (Value.int .i64) := by
  apply List.ext_getElem?
  intro k
  rw [List.getElem?_set, List.getElem?_map, List.getElem?_map]
  rcases Nat.lt_or_ge k n with hk | hk
  · rw [lst_get _ _ _ hk, lst_get _ _ _ hk]
    by_cases e : g = k
    · subst e
      simp [lst_len, hk, upd_at]
    · rw [if_neg e, upd_ne _ _ (fun e2 => e e2.symm)]
  · have e1 : (lst n f)[k]? = none := List.getElem?_eq_none (by rw [lst_len]; exact hk)
    have e2 : (lst n (upd f g y))[k]? = none := List.getElem?_eq_none (by rw [lst_len]; exact hk)
    rw [e1, e2]
    by_cases e : g = k
    · subst e
      simp [lst_len]; omega
    · rw [if_neg e]
/-- One row, to be written. -/
theorem OwnS.row {w : World} {base n : Nat} {x : Value} {L : Nat → Nat} {v : Nat → Nat → Int} (h : OwnS w base x n L v) {p : Nat} (hp : p < n) (hL : 0 < L p) :
    ∃ (G c blk cap : Nat), x = .slice (some ⟨G, 0, none⟩) n c ∧ w.cell? ⟨G, p, none⟩ = some (.slice (some ⟨blk, 0, none⟩) (L p) cap) ∧ base ≤ blk ∧ (∀ g, w.frozen? ⟨blk, g, none⟩ = false) ∧ (∀ g, g < L p → w.cell? ⟨blk, g, none⟩ = some (.int .i64 (v p g))) ∧
      ∀ g y, OwnS (w.setCell ⟨blk, g, none⟩ (.int .i64 y)) base x n L (updM v p g y) := by
  obtain ⟨vals, hl, hown, hv, hsep⟩ := h
  obtain ⟨r, hr⟩ : ∃ r, vals[p]? = some r := ⟨_, List.getElem?_eq_getElem (by omega)⟩
  have hrow := hv p r hr
  have hrow0 := hrow
  have hown0 := hown
  rcases hown0.2 with ⟨-, h0⟩ | ⟨G, c, cur, rfl, -⟩
  · omega
  rcases hrow0.2 with ⟨-, h0⟩ | ⟨blk, cap, cur2, rfl, hbb, -⟩
  · rw [lst_len] at h0; omega
  have hlen : (lst (L p) (v p)).length = L p := lst_len _ _
  refine ⟨G, c, blk, cap, rfl, ?_, hbb, fun g => World.ownsRow.frozenAt hrow g, fun g hg => ?_, fun g y => ?_⟩
  · have := World.ownsRow.cellAt hown p (by omega)
    rw [hr, hlen] at this
    exact this
  · have := World.ownsRow.cellAt hrow g (by rw [hlen]; omega)
    rw [List.getElem?_map, lst_get _ _ _ hg] at this
    exact this
  · have hst := World.ownsRow.stored hrow g (.int .i64 y)
    refine ⟨vals, hl, World.ownsRow.kept (row := some blk) hown hst.2 ?_, fun i z hz => ?_, hsep⟩
    · have := own_other hown hrow (by decide)
      simpa [Value.ownBlock] using this
    · by_cases e : i = p
      · subst e
        rw [hr] at hz
        injection hz with hz
        subst hz
        have h1 := hst.1
        rw [lst_set] at h1
        have e2 : updM v i g y i = upd (v i) g y := by simp [updM]
        rw [e2]
        unfold OwnL
        simpa [lst_len] using h1
      · have e2 : updM v p g y i = v i := by simp [updM, e]
        rw [e2]
        refine World.ownsRow.kept (row := some blk) (hv i z hz) hst.2 ?_
        cases hz2 : z.ownBlock with
        | none => exact .inl rfl
        | some a =>
          refine .inr (fun e3 => ?_)
          injection e3 with e3
          rcases Nat.lt_or_ge i p with hlt | hge
          · have := hsep i p z _ a blk hlt hz hr hz2 rfl
            omega
          · have := hsep p i _ z blk a (by omega) hr hz rfl hz2
            omega

set_option maxHeartbeats 1000000 in
set_option maxRecDepth 1000000 in
theorem fewS_any (A : Option Addr) (n c : Nat) (L : Nat → Nat) (v : Nat → Nat → Int) (w : World) (h : ArgR w A n c L v) :
    Calls Try.prog 13 #[.slice A n c] w fun e w' => ∃ x, e = .returned x ∧ OwnS w' w.heap.size x (min n 6) (fun i => min (L i) 9) v ∧ Below w.heap.size w w' := by
  obtain ⟨i0, hi, hz0, hz1, hz2⟩ := info_parts infoInts
  have hsz : n ≤ 17592186044416 := Nat.le_trans h.1 h.2.1
  have H := Lib.hid h
  clear h
  go_enter Try.func13, Try.ntmps13
  go_wp2
  go_loopw [3, 8] (fun s i wr => ∃ k : Nat, k ≤ n ∧ i = .int .i64 k ∧ OwnS wr w.heap.size s (min k 6) (fun i => min (L i) 9) v ∧ Below w.heap.size w wr) (fun _ i _ => n - (intOf i).toNat)
  case atStart => exact ⟨0, Nat.zero_le _, rfl, ⟨[], rfl, World.ownsRow_nil _ _ _ _, (fun i x hx => by simp at hx), (fun i j x y a b hij hx => by simp at hx)⟩, Below.refl _ _⟩
  case round =>
    obtain ⟨k, hk, rfl, ⟨vals, hvl, hown, hvals, hsep⟩, hbel⟩ := hrel
    have HSep := Lib.hid hsep
    clear hsep
    by_cases hlt : k < n
    · obtain ⟨b, o, R, cR, rfl, hc, hR⟩ := (H.out.below hbel).at hlt
      have HO := Lib.hid hown
      have HV := Lib.hid hvals
      have HL := Lib.hid hvl
      clear hown hvals hvl
      by_cases h6 : k < 6
      · go_wp2_with fail
        refine (list_any _ _ _ _ _ hR).mono ?_
        rintro e w1 ⟨x, rfl, hx, hb1⟩
        have HO1 := Lib.hid (ownsRow_below HO.out hb1)
        have HV1 := Lib.hid (HV.out.below hb1)
        obtain ⟨A', c', hxe, -⟩ := hx.form
        rw [lst_len] at hxe
        subst hxe
        have HX := Lib.hid hx
        have hs1 := hb1.size
        have hs0 := hbel.size
        have hbase : w.heap.size ≤ w1.heap.size + 1 := by omega
        clear hx
        go_wp2_with (at_builtin; go_loud (refine wpList_append_own _ rfl _ _ 22 rfl w.heap.size 23 i0 (.slice none 0 0) 1 24 Try.underlying22 hi hz0 hz1 hz2 rfl (by decide) _ _ _ rfl (HO1.out.alloc _) ⟨w1.heap.size, 0, none⟩ 1 1 [.slice A' (min (L k) 9) c'] rfl rfl (news1 _ _ _) (one1 HX.out.one) (by unfold maxLen; omega) (by omega) (by simp; omega) ?_))
        intro v' w2 hown2 hgrow2 _
        have HO2 := Lib.hid hown2
        have HG2 := Lib.hid hgrow2
        clear hown2 hgrow2
        go_wp2
        go_roundw
        case rel =>
          have hbA : Below w.heap.size w w2 := by
            refine ((hbel.trans (hb1.mono hbel.size)).alloc (Nat.le_trans hbel.size hb1.size) _).grown HG2.out (by simp; omega) ?_
            intro g hg
            exact (World.ownsRow.lt HO.out g hg).1
          have HK : ∀ (x : Value) (xs : List Int), OwnL w1 w.heap.size x xs → OwnL w2 w.heap.size x xs := fun x xs hx =>
            World.ownsRow.kept (World.ownsRow.alloc hx _) HG2.out (own_other hx HO1.out (by decide))
          have hsn : Sep (vals ++ [.slice A' (min (L k) 9) c']) := HSep.out.snoc (B := wr.heap.size) (fun i y a hy hya => (World.ownsRow.lt (HV.out i y hy) a hya).2) (fun a ha => (World.ownsRow.lt HX.out a ha).1)
          refine ⟨k + 1, by omega, by go_num, ⟨vals ++ [.slice A' (min (L k) 9) c'], ?_, ?_, ?_, hsn⟩, hbA⟩
          · simp [HL.out]; omega
          · have e : min (k + 1) 6 = min k 6 + 1 := by omega
            rw [e]
            exact HO2.out
          · refine OwnVals.snoc ?_ (n := k) (by rw [HL.out]; omega) ?_
            · exact fun i x hx => HK _ _ (HV1.out i x hx)
            · exact HK _ _ (HX.out.rebase hs0)
        case measure => simp [intOf]; omega
      · have e6 : min (k + 1) 6 = min k 6 := by omega
        go_wp2
        go_roundw
        case rel =>
          refine ⟨k + 1, by omega, by go_num, ⟨vals, ?_, ?_, HV.out, HSep.out⟩, hbel⟩
          · rw [HL.out]; omega
          · have e : min (k + 1) 6 = min k 6 := by omega
            rw [e]
            exact HO.out
        case measure => simp [intOf]; omega
    · go_wp2
      go_ret
      obtain rfl : k = n := by omega
      exact ⟨_, rfl, ⟨vals, hvl, hown, hvals, HSep.out⟩, hbel⟩
end Go.Proofs.Ytkgikehagkpmoaa

namespace Go.Proofs.Ytkgikehagkpmoaa
open Go.RowKit

theorem OwnS.arg {w : World} {base n : Nat} {x : Value} {L : Nat → Nat} {v : Nat → Nat → Int} (h : OwnS w base x n L v) {p : Nat} (hp : p < n) : ∃ (G c cp : Nat) (Ap : Option Addr), x = .slice (some ⟨G, 0, none⟩) n c ∧ w.cell? ⟨G, p, none⟩ = some (.slice Ap (L p) cp) ∧ ArgI w Ap (L p) cp (v p) := by
  obtain ⟨vals, hl, hown, hv, hsep⟩ := h
  obtain ⟨r, hr⟩ : ∃ r, vals[p]? = some r := ⟨_, List.getElem?_eq_getElem (by omega)⟩
  have hrow := hv p r hr
  have hown0 := hown
  rcases hown0.2 with ⟨-, h0⟩ | ⟨G, c, cur, rfl, -⟩
  · omega
  have hc := World.ownsRow.cellAt hown p (by omega)
  rw [hr] at hc
  rcases hrow.2 with ⟨rfl, h0⟩ | ⟨blk, cap, cur2, rfl, hbb, hh, hnc, hcm, -⟩
  · rw [lst_len] at h0
    refine ⟨G, c, 0, none, rfl, by rw [hc, h0], by omega, by unfold maxLen; omega, fun _ => rfl, by rw [h0]; exact Ints.zero⟩
  · obtain ⟨A, cA, e1, hI⟩ := OwnL.sl0 hrow
    injection e1 with e1 e2 e3
    rw [lst_len] at hc hnc
    exact ⟨G, c, cap, _, rfl, hc, hnc, hcm, (fun e => by cases e), by rw [e1]; exact hI⟩

set_option maxHeartbeats 1000000 in
set_option maxRecDepth 1000000 in
theorem eqPrs_any (A B : Option Addr) (c c' : Nat) (xs : List (Int × Int)) (w : World) (hx : Prs w A xs) (hy : Prs w B xs) (hn : xs.length ≤ 1000) :
    Ro 36 #[.slice A xs.length c, .slice B xs.length c'] w (.bool true) := by
  refine Ro.of ?_
  obtain ⟨n, hnn⟩ : ∃ n, n = xs.length := ⟨_, rfl⟩
  have HX := Lib.hid hx
  have HY := Lib.hid hy
  have HN := Lib.hid hnn
  rw [← hnn] at hn ⊢
  have hB := bne_f (a := (n : Int)) rfl
  clear hx hy hnn
  go_enter Try.func36, Try.ntmps36
  go_wp2
  go_loopw [13] (fun i wr => ∃ k : Nat, k ≤ n ∧ i = .int .i64 k ∧ Dn w wr) (fun i _ => n - (intOf i).toNat)
  case atStart => exact ⟨0, Nat.zero_le _, rfl, Dn.refl _⟩
  case round =>
    obtain ⟨k, hk, rfl, hD⟩ := hrel
    by_cases hlt : k < n
    · obtain ⟨ba, rfl, ha⟩ := (HX.out.dn hD) (by have := HN.out; omega)
      obtain ⟨bb, rfl, hb⟩ := (HY.out.dn hD) (by have := HN.out; omega)
      obtain ⟨x1, x2⟩ := ha k (by have := HN.out; omega)
      obtain ⟨y1, y2⟩ := hb k (by have := HN.out; omega)
      clear ha hb
      generalize (xs.getD k (0, 0)).1 = p at *
      generalize (xs.getD k (0, 0)).2 = q at *
      have hpq : ∀ W, (binOp .neq 45 (.agg #[.int .i64 p, .int .i64 q]) (.agg #[.int .i64 p, .int .i64 q])).run Try.prog W = .ok (.bool false) W := fun W => by rw [pair_neq]; simp
      go_wp2
      go_quiet (fail)
      go_wp2
      go_roundw
      case rel => exact ⟨k + 1, by omega, by go_num, hD.drewN _⟩
      case measure => simp [intOf]; omega
    · obtain rfl : n = k := by omega
      go_wp2
      go_ret
      exact ⟨rfl, hD⟩

theorem EnvyS_few {A D : Option Addr} {k n c kd md c' : Nat} {L : Nat → Nat} {v : Nat → Nat → Int} {d : Nat → Int} {w : World} (h : Rows2 w A k L v) (hd : Ints w D kd d) (hk : k = n) (hkd : kd = md) (hn : n ≤ 9) (hL : Short n L) (hmd : md ≤ 9) (hok : okDiv n L v md d = true) :
    Calls Try.prog 33 #[.slice A k c, .slice D kd c'] w fun e w' => ∃ Ax cx, e = .returned (.tuple #[.slice Ax (envAll n md v d n).length cx, .int .i64 0]) ∧ Prs w' Ax (envAll n md v d n) ∧ Below w.heap.size w w' := by
  subst hk hkd
  refine (Envy_ok A D k c kd c' L v d w h hd hn hL hmd hok).mono ?_
  rintro e w' ⟨x, rfl, h1, h2⟩
  obtain ⟨Ax, cx, rfl, h3⟩ := h1.prs
  exact ⟨Ax, cx, rfl, h3, h2⟩
theorem EnvyS_bad {A D : Option Addr} {k n c kd md c' : Nat} {L : Nat → Nat} {v : Nat → Nat → Int} {d : Nat → Int} {w : World} (h : Rows2 w A k L v) (hd : Ints w D kd d) (hk : k = n) (hkd : kd = md) (hn : n ≤ 9) (hL : Short n L) (hmd : md ≤ 9) (hok : okDiv n L v md d = false) :
    Ro 33 #[.slice A k c, .slice D kd c'] w (.tuple #[.slice none 0 0, .int .i64 2]) := by
  subst hk hkd
  exact Envy_bad A D k c kd c' L v d w h hd hn hL hmd hok
theorem FairS_few {A D : Option Addr} {k n c kd md c' : Nat} {L : Nat → Nat} {v : Nat → Nat → Int} {d : Nat → Int} {kind : Int} {w : World} (h : Rows2 w A k L v) (hd : Ints w D kd d) (hk : k = n) (hkd : kd = md) (hn : n ≤ 9) (hL : Short n L) (hmd : md ≤ 9) (hok : okDiv n L v md d = true) (hk0 : 0 ≤ kind) (hk5 : kind ≤ 4) :
    Ro 30 #[.slice A k c, .slice D kd c', .int .i64 kind] w (.tuple #[.bool (allB (fairToB n md v d kind) n), .int .i64 0]) := by
  subst hk hkd
  exact Fair_ok A D k c kd c' L v d kind w h hd hn hL hmd hok hk0 hk5
theorem RoundsS {A : Option Addr} {k n m c : Nat} {L : Nat → Nat} {v : Nat → Nat → Int} {w : World} (h : Rows2 w A k L v) (hk : k = n) (hn : n ≤ 9) (hL : Short n L) (hok : okVals n L v = true) (hm : L 0 = m) :
    Calls Try.prog 12 #[.slice A k c] w fun e w' => ∃ Ax cx, e = .returned (.tuple #[.slice Ax m cx, .int .i64 0]) ∧ Ints w' Ax m (rdD n m v m) ∧ Below w.heap.size w w' := by
  subst hk hm
  refine (Rounds_ex A k c L v w h hn hL hok).mono ?_
  rintro e w' ⟨Ax, cx, D, rfl, h1, rfl, h2⟩
  exact ⟨Ax, cx, rfl, h1, h2⟩
theorem CyclesS {A : Option Addr} {k n m c : Nat} {L : Nat → Nat} {v : Nat → Nat → Int} {w : World} (h : Rows2 w A k L v) (hk : k = n) (hn : n ≤ 9) (hL : Short n L) (hok : okVals n L v = true) (hm : L 0 = m) :
    Calls Try.prog 14 #[.slice A k c] w fun e w' => ∃ Ax cx D, e = .returned (.tuple #[.slice Ax m cx, .int .i64 0]) ∧ Ints w' Ax m D ∧ CySeq n m v m D ∧ Below w.heap.size w w' := by
  subst hk hm
  exact Cycles_ex A k c L v w h hn hL hok
theorem ShareS {A : Option Addr} {m c k mm : Nat} {f : Nat → Int} {n : Int} {w : World} (h : Ints w A mm f) (hmm : mm = m) (hok : okParts m f n = true) (hk : n = ((k + 1 : Nat) : Int)) :
    Calls Try.prog 20 #[.slice A mm c, .int .i64 n] w fun e w' => e = .returned (.tuple #[.int .i64 (shareN m f k), .int .i64 0]) ∧ Below w.heap.size w w' := by
  subst hmm
  exact Share_ok A mm c f k n w h hok hk
theorem eqB_sameS (n : Nat) (f : Nat → Int) : eqB n n f f = true := by
  simp only [eqB, decide_true, Bool.true_and]
  exact allB_t (fun g _ => by simp [eqP])
theorem tmod_natS (x n : Nat) : ((x : Int)).tmod (n : Int) = ((x % n : Nat) : Int) := by
  rw [Int.tmod_eq_emod_of_nonneg (by omega)]
  exact (Int.natCast_emod x n).symm
theorem u64_wrapS (a : Int) : ∃ U : Nat, IntKind.u64.wrap a = (U : Int) := by
  refine ⟨(IntKind.u64.wrap a).toNat, ?_⟩
  have : 0 ≤ IntKind.u64.wrap a := by
    have h : IntKind.u64.signed = false := rfl
    simp only [IntKind.wrap, h]
    exact Int.emod_nonneg _ (by decide)
  omega
theorem short9s (n : Nat) (L : Nat → Nat) : Short n (fun i => min (L i) 9) := fun _ _ => Nat.min_le_right _ _
theorem okVals_copy {n : Nat} {L : Nat → Nat} {v : Nat → Nat → Int} (h : okVals n L v = true) : okVals n (fun i => min (L i) 9) v = true := by
  have h1 := (okVals_few (n := n) (L := L) (v := v)).trans h
  have := (okVals_of h).2.1
  rwa [show min n 6 = n by omega] at h1
end Go.Proofs.Ytkgikehagkpmoaa
