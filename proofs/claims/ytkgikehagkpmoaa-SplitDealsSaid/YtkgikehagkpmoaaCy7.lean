import Derived.Test.YtkgikehagkpmoaaCy6
import Derived.Test.YtkgikehagkpmoaaNash
namespace Go.Proofs.Ytkgikehagkpmoaa
open Go.RowKit

theorem wTo_put {f D : Nat → Int} {g : Nat} {j k : Int} (hg : D g = -1) (hk : 0 ≤ k) : ∀ K, wTo f (upd D g j) k K = wTo f D k K + (if g < K ∧ k = j then f g else 0) := by
  intro K
  induction K with
  | zero => simp [wTo]
  | succ K ih =>
    by_cases c1 : K = g
    · subst c1
      simp only [wTo, ih, upd_at, hg]
      (repeat' split) <;> omega
    · simp only [wTo, ih, upd_ne D j c1]
      (repeat' split) <;> omega

/-- Fair up to one. -/
def Ef1 (n m : Nat) (v : Nat → Nat → Int) (D : Nat → Int) : Prop :=
  ∀ i j : Nat, i < n → j < n → wTo (v i) D (j : Int) m ≤ wTo (v i) D (i : Int) m ∨ ∃ h, h < m ∧ D h = (j : Int) ∧ wTo (v i) D (j : Int) m - v i h ≤ wTo (v i) D (i : Int) m
theorem Ef1.res {n m : Nat} {v : Nat → Nat → Int} {D : Nat → Int} {C : List Nat} (h : Ef1 n m v D) (hc : Cyc (envE m v D) n C) : Ef1 n m v (resF C D) := by
  intro i j hi hj
  obtain ⟨j0, hj0, e, -⟩ := hc.from_ hj
  have hw : wTo (v i) (resF C D) (j : Int) m = wTo (v i) D (j0 : Int) m := by rw [← e]; exact wTo_res hc (v i) D (j0 : Int) m
  have hup := (own_up hc hi).1
  rw [hw]
  rcases h i j0 hi hj0 with h1 | ⟨g, hg, hd, h1⟩
  · exact .inl (by omega)
  · exact .inr ⟨g, hg, by unfold resF; rw [hd]; exact e, by omega⟩
theorem Ef1.put {n m : Nat} {v : Nat → Nat → Int} {D : Nat → Int} (hb : BdM n m v 100) (h : Ef1 n m v D) {g j : Nat} (hg : g < m) (hD : D g = -1) (hj : j < n) (hf : envdB n m v D j = false) : Ef1 n m v (upd D g (j : Int)) := by
  intro i k hi hk
  have hfree : wTo (v i) D (j : Int) m ≤ wTo (v i) D (i : Int) m := by
    rcases Int.lt_or_le (wTo (v i) D (i : Int) m) (wTo (v i) D (j : Int) m) with hl | hl
    · exfalso
      have : envdB n m v D j = true := anyB_t hi (decide_eq_true hl)
      rw [hf] at this
      cases this
    · exact hl
  have hv := (hb i hi g hg).1
  rw [wTo_put hD (by omega), wTo_put hD (by omega)]
  have hown : wTo (v i) D (i : Int) m ≤ wTo (v i) D (i : Int) m + (if g < m ∧ (i : Int) = (j : Int) then v i g else 0) := by split <;> omega
  by_cases e : k = j
  · subst e
    refine .inr ⟨g, hg, upd_at _ _ _, ?_⟩
    rw [if_pos ⟨hg, rfl⟩]
    omega
  · rw [if_neg (by omega)]
    rcases h i k hi hk with h1 | ⟨x, hx, hd, h1⟩
    · exact .inl (by omega)
    · exact .inr ⟨x, hx, by rw [upd_ne _ _ (fun e2 => by subst e2; omega)]; exact hd, by omega⟩

/-- The first g goods are given, the others are not. -/
def Part (n m g : Nat) (D : Nat → Int) : Prop := (∀ h, h < g → 0 ≤ D h ∧ D h < n) ∧ ∀ h, g ≤ h → h < m → D h = -1
theorem Part.res {env : Nat → Nat → Bool} {n m g : Nat} {D : Nat → Int} {C : List Nat} (h : Part n m g D) (hc : Cyc env n C) : Part n m g (resF C D) := by
  refine ⟨fun x hx => ?_, fun x hx hm => ?_⟩
  · obtain ⟨h1, h2⟩ := h.1 x hx
    obtain ⟨-, q2, q3, -⟩ := hc.prev_rng (j := D x) (by omega) h2
    exact ⟨q3 h1, q2⟩
  · have e := h.2 x hx hm
    exact (hc.prev_rng (j := D x) (by omega) (by omega)).2.2.2 e

set_option maxHeartbeats 1000000 in
theorem undivided_any (m : Nat) (w : World) (hm : m ≤ 9) :
    Calls Try.prog 38 #[.int .i64 m] w fun e w' => e = .returned (.slice (some ⟨w.heap.size, 0, none⟩) m m) ∧ RowI w' w.heap.size m (fun _ => -1) ∧ Below w.heap.size w w' := by
  have hmk := mk_ints m (by omega)
  have hr0 : RowI (w.alloc (.cells (madeCells #[.int .i64 0] m) 3)) w.heap.size m (fun g => if g < 0 then -1 else 0) := (RowI.made w m).congr fun g _ => by rw [if_neg (by omega)]
  have HR0 := Lib.hid hr0
  clear hr0
  go_enter Try.func38, Try.ntmps38
  go_wp2
  clear hmk
  go_loopw [8] (fun x wr => ∃ k : Nat, k ≤ m ∧ x = .int .i64 k ∧ RowI wr w.heap.size m (fun g => if g < k then -1 else 0) ∧ Below w.heap.size w wr) (fun x _ => m - (intOf x).toNat)
  case atStart => exact ⟨0, Nat.zero_le _, rfl, HR0.out, (Below.refl _ _).alloc (Nat.le_refl _) _⟩
  case round =>
    obtain ⟨k, hk, rfl, hR, hbel⟩ := hrel
    by_cases hlt : k < m
    · have hck := hR.cell hlt
      have hfz := hR.frozen k
      have HR := Lib.hid (hR.set k (-1))
      clear hR
      go_wp2
      go_roundw
      case rel =>
        refine ⟨k + 1, by omega, by go_num, HR.out.congr (fun g hg => ?_), hbel.setCell (Nat.le_refl _) _⟩
        simp only [upd]
        by_cases e : g = k
        · rw [if_pos e, if_pos (by omega)]
        · rw [if_neg e]
          by_cases e2 : g < k
          · rw [if_pos e2, if_pos (by omega)]
          · rw [if_neg e2, if_neg (by omega)]
      case measure => simp [intOf]; omega
    · obtain rfl : m = k := by omega
      have HR := Lib.hid (hR.congr (f' := fun _ => -1) fun g hg => by rw [if_pos hg])
      clear hR
      go_wp2
      go_ret
      exact ⟨rfl, HR.out, hbel⟩

set_option maxHeartbeats 1000000 in
set_option maxRecDepth 1000000 in
theorem Cycles_ok (A : Option Addr) (n c : Nat) (L : Nat → Nat) (v : Nat → Nat → Int) (w : World) (h : Rows2 w A n L v) (hn : n ≤ 9) (hL : Short n L) (hok : okVals n L v = true) :
    Calls Try.prog 14 #[.slice A n c] w fun e w' => ∃ Ax cx D, e = .returned (.tuple #[.slice Ax (L 0) cx, .int .i64 0]) ∧ Ints w' Ax (L 0) D ∧ Own n (L 0) D ∧ Ef1 n (L 0) v D ∧ Below w.heap.size w w' := by
  obtain ⟨h1, h2, h3, h4, h5, h6⟩ := okVals_of hok
  have HM := Lib.hid (okVals_mat h hok)
  have HB := Lib.hid hok
  have H6 := Lib.hid h6
  obtain ⟨b, o, R, cR, rfl, -, -⟩ := h.at (show 0 < n by omega)
  obtain ⟨R0, c0, hc0, -⟩ := h.cell0 (by omega)
  generalize hm : L 0 = m at *
  have HMm := Lib.hid hm
  clear hok h5 h6 hm
  go_enter Try.func14, Try.ntmps14
  go_wp2_with fail
  refine (validValues_any _ _ _ _ _ _ h hn hL).mono ?_
  rintro e w' ⟨rfl, rfl⟩
  rw [HB.out]
  go_wp2_with fail
  refine (undivided_any m _ (by omega)).mono ?_
  rintro e w1 ⟨rfl, hR1, hb1⟩
  have HR1 := Lib.hid hR1
  have Hb1 := Lib.hid hb1
  clear hR1 hb1 hc0
  go_wp2_with fail
  obtain ⟨gd, hgd⟩ : ∃ gd, gd = w.heap.size := ⟨_, rfl⟩
  have HGd := Lib.hid hgd
  rw [← hgd]
  rw [← hgd] at HR1
  clear hgd
  go_loopw [17] (fun x wr => ∃ (k : Nat) (D : Nat → Int), k ≤ m ∧ x = .int .i64 k ∧ RowI wr gd m D ∧ Part n m k D ∧ Ef1 n m v D ∧ Below w.heap.size w wr) (fun x _ => m - (intOf x).toNat)
  case atStart => exact ⟨0, fun _ => -1, Nat.zero_le _, rfl, HR1.out, ⟨fun h hh => absurd hh (by omega), fun _ _ _ => rfl⟩, fun i j hi hj => .inl (by
    have hz : ∀ (f : Nat → Int) (k : Nat) (K : Nat), wTo f (fun _ => -1) (k : Int) K = 0 := fun f k K => by
      induction K with
      | zero => rfl
      | succ K ih => simp only [wTo, ih]; rw [if_neg (by omega)]
    rw [hz, hz]
    exact Int.le_refl _), Hb1.out⟩
  case round =>
    obtain ⟨k, D, hk, rfl, hR, hP, hE, hbel⟩ := hrel
    by_cases hlt : k < m
    · have HNx := Lib.hid (nextOwner_any w _ n m c gd m v HM.out H6.out h4 (by omega) h2 (by rw [HGd.out]; exact Nat.le_refl _) (fun D => Part n m k D ∧ Ef1 n m v D) (fun D C h hc => ⟨h.1.res hc, h.2.res hc⟩) D wr ⟨hP, hE⟩ hR hbel)
      have Hbel := Lib.hid hbel
      clear hR hP hE hbel
      go_wp2_with fail
      refine HNx.out.mono ?_
      rintro e w2 ⟨D', j, rfl, hj, hfree, ⟨hP', hE'⟩, hR', hEx⟩
      have hgk := hP'.2 k (Nat.le_refl _) hlt
      have HE2 := Lib.hid (hE'.put H6.out hlt hgk hj hfree)
      have HP2 : Hid (Part n m (k + 1) (upd D' k (j : Int))) := Lib.hid ⟨fun x hx => by
        by_cases e : x = k
        · rw [e, upd_at]; omega
        · rw [upd_ne _ _ e]; exact hP'.1 x (by omega), fun x hx hm => by
        rw [upd_ne _ _ (by omega)]; exact hP'.2 x (by omega) hm⟩
      have hck := hR'.cell hlt
      have hfz := hR'.frozen k
      have HR2 := Lib.hid (hR'.set k (j : Int))
      have hgd0 : w.heap.size ≤ gd := by rw [HGd.out]; exact Nat.le_refl _
      have Hb2 := Lib.hid ((Hbel.out.trans (hEx.below hgd0 Hbel.out.size)).setCell (p := ⟨gd, k, none⟩) hgd0 (.int .i64 (j : Int)))
      clear hP' hE' hR' hEx hfree hgk hgd0
      go_wp2
      go_roundw
      case rel => exact ⟨k + 1, _, by omega, by go_num, HR2.out, HP2.out, HE2.out, Hb2.out⟩
      case measure => simp [intOf]; omega
    · obtain rfl : m = k := by omega
      have HR := Lib.hid hR
      have HP := Lib.hid hP
      have HE := Lib.hid hE
      clear hR hP hE
      go_wp2
      go_ret2
      exact ⟨_, _, D, rfl, HR.out.ints, HP.out.1, HE.out, hbel⟩
end Go.Proofs.Ytkgikehagkpmoaa
