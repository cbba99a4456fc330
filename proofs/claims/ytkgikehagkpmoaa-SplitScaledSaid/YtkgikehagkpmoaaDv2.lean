import Derived.Test.YtkgikehagkpmoaaDv1
import Derived.IntWalk
namespace Go.Proofs.Ytkgikehagkpmoaa
open Go.RowKit

set_option maxHeartbeats 1000000 in
theorem min_any (A : Option Addr) (n c : Nat) (S : Nat → Int) (w : World) (h : Ints w A (n + 1) S) (hn : n ≤ 8) :
    Calls Try.prog 69 #[.slice A ((n + 1 : Nat)) c] w fun e w' => e = .returned (.int .i64 (lowT S n)) ∧ w = w' := by
  obtain ⟨b, o, rfl, -⟩ := h.at (show 0 < n + 1 by omega)
  have h0 := h.cell0 (by omega)
  have HI := Lib.hid h
  clear h
  obtain ⟨l, hl⟩ : ∃ l, l = n + 1 := ⟨_, rfl⟩
  rw [← hl] at HI ⊢
  have hl1 : ¬ (l : Int) < 1 := by omega
  have hl9 : l ≤ 9 := by omega
  have HL := Lib.hid hl
  clear hl
  go_enter Try.func69, Try.ntmps69
  go_wp2
  go_loop [3, 4] (fun m i => ∃ k : Nat, 1 ≤ k ∧ k ≤ l ∧ i = .int .i64 k ∧ m = .int .i64 (lowT S (k - 1))) (fun _ i => l - (intOf i).toNat)
  case atStart => exact ⟨1, Nat.le_refl _, by omega, rfl, rfl⟩
  case round =>
    obtain ⟨k, h1, hk, rfl, rfl⟩ := hrel
    by_cases hlt : k < l
    · have hc := HI.out.cell hlt
      have HM : Hid (lowT S (k + 1 - 1) = min (lowT S (k - 1)) (S k)) := Lib.hid (by
        obtain ⟨j, rfl⟩ : ∃ j, k = j + 1 := ⟨k - 1, by omega⟩
        rfl)
      go_wp2
      go_round
      case rel => exact ⟨k + 1, by omega, by omega, by go_num, val_int (by rw [HM.out]; split <;> omega)⟩
      case measure => simp [intOf]; omega
    · obtain rfl : k = l := by omega
      have e : k - 1 = n := by have := HL.out; omega
      rw [e]
      go_wp2
      go_ret
      exact ⟨rfl, rfl⟩

def dvS (m n : Nat) (f D : Nat → Int) (g used : Nat) : Int := shR n (m - g) (fun j => f (g + j)) (wOf f D g) used

/-- What one part more brings. -/
def dvC (m n : Nat) (f D : Nat → Int) (g used p : Nat) : Int := shR n (m - (g + 1)) (fun j => f (g + 1 + j)) (addAt (wOf f D g) p (f g)) (max used (p + 1))
theorem dvS_next {m n g used : Nat} {f D : Nat → Int} (hg : g < m) : dvS m n f D g used = mxf 0 (dvC m n f D g used) (min (used + 1) (n + 1)) := by
  unfold dvS
  obtain ⟨k, hk⟩ : ∃ k, m - g = k + 1 := ⟨m - g - 1, by omega⟩
  rw [hk]
  simp only [shR]
  refine mxf_congr fun p hp => ?_
  unfold dvC
  rw [show m - (g + 1) = k by omega]
  refine shR_congr n k _ _ _ _ _ (fun j hj => by rw [show g + (j + 1) = g + 1 + j by omega]) (fun q hq => rfl)
theorem dvC_nn {m n g used p : Nat} {f D : Nat → Int} (hg : g < m) (hb : Bd m f 100) : 0 ≤ dvC m n f D g used p := by
  have hw : ∀ q, 0 ≤ wOf f D g q := fun q => (wTo_bd (fun i hi => hb i (by omega) : Bd g f 100) D q g (Nat.le_refl _)).1
  refine shR_nn n _ _ _ _ (fun j hj => (hb _ (by omega)).1) (fun q hq => ?_)
  have := hw q
  have := (hb g hg).1
  simp only [addAt]
  split <;> omega
/-- The part that was tried comes out of the call. -/
theorem dvC_of {m n g used p : Nat} {f D D' : Nat → Int} (h : ∀ i, i < g → D' i = D i) (hp : D' g = p) : dvS m n f D' (g + 1) (max used (p + 1)) = dvC m n f D g used p := by
  unfold dvS dvC
  exact shR_congr n _ _ _ _ _ _ (fun j hj => rfl) (fun q hq => wOf_put h hp q)
theorem wOf_bd {m g : Nat} {f D : Nat → Int} (hb : Bd m f 100) (hg : g ≤ m) (hm : m ≤ 7) (q : Nat) : 0 ≤ wOf f D g q ∧ wOf f D g q ≤ 700 := by
  have h1 := wTo_bd (fun i hi => hb i (by omega) : Bd g f 100) D q g (Nat.le_refl _)
  have h2 := sumTo_bd (fun i hi => hb i (by omega) : Bd g f 100) g (Nat.le_refl _)
  unfold wOf
  omega

set_option maxHeartbeats 4000000 in
set_option maxRecDepth 1000000 in
theorem place_any (w0 : World) (gd gs bd bs : Nat) (hL : Lay w0.heap.size gd gs bd bs) (a : Addr) (c m n : Nat) (f : Nat → Int) (hf : Ints w0 (some a) m f) (hb : Bd m f 100) (hm : m ≤ 7) (hn : n ≤ 6) :
    ∀ (k g used : Nat) (D : Nat → Int) (sh : Int) (w : World), g + k = m → used ≤ n + 1 → (∀ i, i < g → 0 ≤ D i ∧ D i < (n + 1 : Nat)) → DvI w0 gd gs bd bs (some a) c m n f sh g D w →
      Calls Try.prog 68 (#[.int .i64 g, .int .i64 used] ++ dvCaps w0.heap.size bd bs) w fun e w' => e = .returned (.tuple #[]) ∧ ∃ D', (∀ i, i < g → D' i = D i) ∧ DvI w0 gd gs bd bs (some a) c m n f (max sh (dvS m n f D g used)) g D' w' := by
  intro k
  induction k with
  | zero =>
    intro g used D sh w hg hu hD hI
    obtain rfl : g = m := by omega
    have HI := Lib.hid hI
    obtain ⟨hbel, k0, k1, k2, kd, ks, k6, k7, k8, vb, k3, -⟩ := hI
    have c0 := k0.cell
    have c2 := k2.cell
    have c6 := k6.cell
    have c7 := k7.cell
    have KD := Lib.hid kd
    have KS := Lib.hid ks
    have HDv : Hid (dvS g n f D g used = lowT (wOf f D g) n) := Lib.hid (by simp [dvS, shR])
    clear hbel k0 k1 k2 kd ks k6 k7 k8 k3
    simp only [dvCaps, List.append_toArray, List.cons_append, List.nil_append]
    go_enter Try.func68, Try.ntmps68
    go_wp2_with fail
    refine (min_any _ n _ (wOf f D g) _ KS.out.ints (by omega)).mono ?_
    rintro e w' ⟨rfl, rfl⟩
    have HNN := Lib.hid (lowT_ge n (fun p _ => (wOf_bd hb (Nat.le_refl _) hm p).1) : 0 ≤ lowT (wOf f D g) n)
    generalize hx : lowT (wOf f D g) n = x at *
    have HX := Lib.hid hx
    clear hx
    by_cases hlt : sh < x
    · have HLt := Lib.hid hlt
      go_wp2_with fail
      refine (clone_any _ g g D _ KD.out.ints (by omega)).mono ?_
      rintro e w4 ⟨vd, rfl, hvd, -, hb4⟩
      obtain ⟨A4, c4, rfl, -⟩ := hvd.sl0
      have HI4 := HI.out.keep hb4
      have HV := Lib.hid hvd
      have j2 := HI4.2.2.2.1.cell
      have j2f := HI4.2.2.2.1.frozen
      obtain ⟨vb4, j3, -⟩ := HI4.2.2.2.2.2.2.2.2.2
      have j3c := j3.cell
      have j3f := j3.frozen
      have Hb4 := Lib.hid hb4
      clear HI4 j3 hvd hb4
      go_wp2
      go_returns
      have hfin := DvI.best hL HI.out Hb4.out HV.out hD (by rw [HX.out]; exact HNN.out)
      rw [HX.out] at hfin
      refine ⟨rfl, D, fun i _ => rfl, ?_⟩
      rw [HDv.out, show max sh x = x by have := HLt.out; omega]
      exact hfin
    · have HLt := Lib.hid hlt
      go_wp2
      go_returns
      refine ⟨rfl, D, fun i _ => rfl, ?_⟩
      rw [HDv.out, show max sh x = sh by have := HLt.out; omega]
      exact HI.out
  | succ k ih =>
    intro g used D sh w hg hu hD hI
    have hgm : g < m := by omega
    have HIh := Lib.hid ih
    obtain ⟨l1, l2, l3, l4, l5, l6, l7, l8, l9, l10, l11, l12, l13, l14⟩ := id hL
    obtain ⟨C, hC⟩ : ∃ C, C = min (used + 1) (n + 1) := ⟨_, rfl⟩
    have HNext : Hid (max sh (dvS m n f D g used) = mxf sh (dvC m n f D g used) C) := Lib.hid (by
      rw [dvS_next hgm, hC, ← mxf_from (by omega) (fun p _ => dvC_nn hgm hb)])
    have HI := Lib.hid hI
    obtain ⟨-, k0, k1, -⟩ := hI
    have c0 := k0.cell
    have c1 := k1.cell
    have HCs := Lib.hid hC
    have hC0 : 0 < C := by omega
    have hCn : C ≤ n + 1 := by omega
    have hgne : ¬ (g : Int) = m := by omega
    clear k0 k1 ih
    simp only [dvCaps, List.append_toArray, List.cons_append, List.nil_append]
    go_enter Try.func68, Try.ntmps68
    clear hC
    go_wp2_with fail
    all_goals
      first
        | rw [show ((used : Int) + 1) = (C : Int) by have := HCs.out; omega]
        | rw [show ((n : Int) + 1) = (C : Int) by have := HCs.out; omega]
      clear HCs c0 c1
      go_loopw [29] (fun x wr => ∃ (p : Nat) (D' : Nat → Int), p ≤ C ∧ x = .int .i64 p ∧ (∀ i, i < g → D' i = D i) ∧ DvI w0 gd gs bd bs (some a) c m n f (mxf sh (dvC m n f D g used) p) g D' wr) (fun x _ => C - (intOf x).toNat)
      case atStart => exact ⟨0, D, Nat.zero_le _, rfl, fun i _ => rfl, HI.out⟩
      case round =>
        obtain ⟨p, D', hp, rfl, hDD, hI'⟩ := hrel
        by_cases hlt : p < C
        · have HI' := Lib.hid hI'
          obtain ⟨hbel, k0, k1, k2, kd, ks, k6, k7, k8, vb, k3, -⟩ := hI'
          have c6 := k6.cell
          have c7 := k7.cell
          have c0 := k0.cell
          have c8 := k8.cell
          have cdf := kd.frozen g
          have cd := kd.cell hgm
          have csf := ks.frozen p
          have cs := ks.cell (show p < n + 1 by omega)
          obtain ⟨ab, ao, ha, hfc⟩ := (hf.keep hbel).at hgm
          have Hbel := Lib.hid hbel
          have HDD := Lib.hid hDD
          clear hbel k0 k1 k2 kd ks k6 k7 k8 k3 hDD
          injection ha with ha
          subst ha
          have hpn : p < n + 1 := by omega
          have HPut := Lib.hid (DvI.put hL (p := p) HI'.out)
          have E : Hid (∀ (b : Nat) (t : TypeId) (x : Value), b ≠ gd → Box wr b t x → Box (wr.setCell ⟨gd, g, none⟩ (.int .i64 p)) b t x) := Lib.hid (fun b t x hne h => h.other hne _)
          obtain ⟨hbel, k0, k1, k2, kd, ks, k6, k7, k8, vb, k3, -⟩ := HI'.out
          have e7 := (E.out _ _ _ (Ne.symm l11) k7).cell
          have e0 := (E.out _ _ _ (by omega) k0).cell
          have e8 := (E.out _ _ _ (by omega) k8).cell
          have ksw := ks.setOther (a := ⟨gd, g, none⟩) (Ne.symm l9) (.int .i64 p)
          have es := ksw.cell hpn
          have esf := ksw.frozen p
          obtain ⟨ab', ao', ha', efc⟩ := (hf.keep (hbel.setCell (p := ⟨gd, g, none⟩) (by show w0.heap.size ≤ gd; omega) (.int .i64 p))).at hgm
          injection ha' with ha'
          injection ha' with ha1 ha2
          subst ha1 ha2
          obtain ⟨s1, s2⟩ := wOf_bd (D := D') hb (Nat.le_of_lt hgm) hm p
          obtain ⟨s3, s4⟩ := hb g hgm
          have hws : IntKind.i64.wrap (wOf f D' g p + f g) = wOf f D' g p + f g := IntWalk.i64_in _ ⟨by omega, by omega⟩
          have hp0 : (0 : Int) ≤ p := by omega
          have hpn' : (p : Int) < (n : Int) + 1 := by omega
          have hg0 : (0 : Int) ≤ g := by omega
          have hgm' : (g : Int) < m := by omega
          clear hbel k0 k1 k2 kd ks k6 k7 k8 k3 E ksw c7 c0 c8 cs csf hfc
          go_wp2_with fail
          go_region
          have hpt : DvI w0 gd gs bd bs (some ⟨ab, ao, none⟩) c m n f (mxf sh (dvC m n f D g used) p) (g + 1) (upd D' g p) ((wr.setCell ⟨gd, g, none⟩ (.int .i64 p)).setCell ⟨gs, p, none⟩ (.int .i64 (wOf f D' g p + f g))).drew := HPut.out.keep ((Below.refl _ _).drew)
          generalize ((wr.setCell ⟨gd, g, none⟩ (.int .i64 p)).setCell ⟨gs, p, none⟩ (.int .i64 (wOf f D' g p + f g))).drew = w2 at *
          have HPt := Lib.hid hpt
          obtain ⟨-, -, -, -, -, -, -, -, k8, -⟩ := hpt
          have c8 := k8.cell
          unfold dvCaps at c8
          have hcall := HIh.out (g + 1) (max used (p + 1)) (upd D' g p) _ w2 (by omega) (by omega) (fun i hi => by
            rcases Nat.lt_or_ge i g with h | h
            · rw [upd_ne _ _ (by omega), HDD.out i h]; exact hD i h
            · obtain rfl : i = g := by omega
              rw [upd_at]; exact ⟨by omega, by omega⟩) HPt.out
          rw [dvC_of (fun i hi => by rw [upd_ne _ _ (by omega), HDD.out i hi]) (upd_at D' g p)] at hcall
          have HCall : Hid (∀ x y : Int, x = ((g + 1 : Nat) : Int) → y = ((max used (p + 1) : Nat) : Int) → Calls Try.prog 68 #[.int .i64 x, .int .i64 y, .pointer (some ⟨w0.heap.size, 0, none⟩), .pointer (some ⟨bs, 0, none⟩), .pointer (some ⟨w0.heap.size + 2, 0, none⟩), .pointer (some ⟨bd, 0, none⟩), .pointer (some ⟨w0.heap.size + 3, 0, none⟩), .pointer (some ⟨w0.heap.size + 1, 0, none⟩), .pointer (some ⟨w0.heap.size + 8, 0, none⟩)] w2 fun e w' => e = .returned (.tuple #[]) ∧ ∃ D2, (∀ i, i < g + 1 → D2 i = upd D' g p i) ∧ DvI w0 gd gs bd bs (some ⟨ab, ao, none⟩) c m n f (mxf sh (dvC m n f D g used) (p + 1)) (g + 1) D2 w') := Lib.hid (fun x y hx hy => by
            rw [hx, hy]
            have h := hcall
            simp only [dvCaps, List.append_toArray, List.cons_append, List.nil_append] at h
            exact h)
          clear hcall k8 HPut e7 e0 e8 es esf efc hws cdf cd c6
          go_wp2_with fail
          all_goals
            refine (HCall.out _ _ (by omega) (by omega)).mono ?_
            rintro e w3 ⟨rfl, D2, hD2, hI3⟩
            have hp2 : D2 g = p := by rw [hD2 g (by omega), upd_at]
            have HTk := Lib.hid (DvI.take hL hI3 hp2)
            have HAg : Hid (∀ i, i < g → D2 i = D i) := Lib.hid (fun i hi => by rw [hD2 i (by omega), upd_ne _ _ (by omega), HDD.out i hi])
            obtain ⟨hbel, k0, k1, k2, kd, ks, k6, k7, k8, vb3, k3, -⟩ := hI3
            have e7 := k7.cell
            have e0 := k0.cell
            have es := ks.cell hpn
            have esf := ks.frozen p
            obtain ⟨ab', ao', ha', efc⟩ := (hf.keep hbel).at hgm
            injection ha' with ha'
            injection ha' with ha1 ha2
            subst ha1 ha2
            obtain ⟨t1, t2⟩ := wOf_bd (D := D2) hb (show g + 1 ≤ m by omega) hm p
            have hws : IntKind.i64.wrap (wOf f D2 (g + 1) p - f g) = wOf f D2 (g + 1) p - f g := IntWalk.i64_in _ ⟨by omega, by omega⟩
            clear hbel k0 k1 k2 kd ks k6 k7 k8 k3 c8 hD2
            go_wp2_with fail
            go_region
            have htk : DvI w0 gd gs bd bs (some ⟨ab, ao, none⟩) c m n f (mxf sh (dvC m n f D g used) (p + 1)) g D2 (w3.setCell ⟨gs, p, none⟩ (.int .i64 (wOf f D2 (g + 1) p - f g))).drew := HTk.out.keep ((Below.refl _ _).drew)
            generalize (w3.setCell ⟨gs, p, none⟩ (.int .i64 (wOf f D2 (g + 1) p - f g))).drew = w4 at *
            have HTk2 := Lib.hid htk
            clear htk HTk es esf e7 e0 efc hws
            go_wp2
            go_roundw
            case rel => exact ⟨p + 1, D2, by omega, by go_num, HAg.out, HTk2.out⟩
            case measure => simp [intOf]; omega
        · obtain rfl : p = C := by omega
          have HI' := Lib.hid hI'
          have HDD := Lib.hid hDD
          clear hI' hDD
          go_wp2
          go_returns
          exact ⟨rfl, D', HDD.out, by rw [HNext.out]; exact HI'.out⟩
end Go.Proofs.Ytkgikehagkpmoaa
