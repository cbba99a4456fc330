/- Part of the proof: YM. -/
import Derived.Test.YtiigcjcolpmafaaOf
import Derived.Test.YtiigcjcolpmafaaYd
import Derived.Test.YtiigcjcolpmafaaYg
import Derived.Test.YtiigcjcolpmafaaExc
import Derived.Maps.AppendAt
import Derived.OrdersHeld
import Derived.Deep.DeepAppendRoom
import Derived.Test.YtiigcjcolpmafaaBool
import Derived.Test.YtiigcjcolpmafaaSo
import Derived.Test.YtiigcjcolpmafaaRowC
import Derived.IntWalk
import Derived.Deep.RegionWith
/- The law's Of, with where the lists lie; a list is put in the place of another. -/
namespace Go.Proofs.Ytiigcjcolpmafaa
open Go.RowKit

/-- A slice of n rows in a block of the call's own, which is no block of A'. -/
def RowBk (w : World) (base : Nat) (A A' : Option Addr) (n : Nat) : Prop := 0 < n → ∃ b, A = some ⟨b, 0, none⟩ ∧ base ≤ b ∧ b < w.heap.size ∧ (∀ i, w.frozen? ⟨b, i, none⟩ = false) ∧ ∀ b' o', A' = some ⟨b', o', none⟩ → b' ≠ b
theorem OwnR.blk {w : World} {base n c b o : Nat} {A : Option Addr} {L : Nat → Nat} {v : Nat → Nat → Int} (h : OwnR w base (.slice A n c) n L v) (e : A = some ⟨b, o, none⟩) : base ≤ b ∧ b < w.heap.size := by
  obtain ⟨vals, hl, ho, -⟩ := h
  exact World.ownsRow.lt ho b (by rw [e]; rfl)
theorem OwnR.at0 {w : World} {base n c : Nat} {A : Option Addr} {L : Nat → Nat} {v : Nat → Nat → Int} (h : OwnR w base (.slice A n c) n L v) (hn : 0 < n) : ∃ b, A = some ⟨b, 0, none⟩ ∧ ∀ i, w.frozen? ⟨b, i, none⟩ = false := by
  obtain ⟨vals, hl, ho, -⟩ := h
  have h0 := ho
  rcases h0.2 with ⟨-, e⟩ | ⟨g, cap, cur, e, -⟩
  · omega
  · injection e with e1 e2 e3
    subst e1 e3
    exact ⟨g, rfl, fun i => World.ownsRow.frozenAt ho i⟩
theorem RowBk.of {w : World} {base base' n c s1 s2 : Nat} {A A' : Option Addr} {L : Nat → Nat} {v : Nat → Nat → Int} (h : OwnR w base (.slice A n c) n L v) (hb : base' ≤ base) (h1 : ∀ b o, A = some ⟨b, o, none⟩ → base ≤ b ∧ b < s1) (h2 : ∀ b o, A' = some ⟨b, o, none⟩ → s1 ≤ b ∧ b < s2) : RowBk w base' A A' n := fun hn => by
  obtain ⟨b, e, hf⟩ := h.at0 hn
  have h3 := h.blk e
  have h4 := h1 b 0 e
  exact ⟨b, e, by omega, h3.2, hf, fun b' o' e' => by have := h2 b' o' e'; omega⟩
theorem RowBk.of2 {w : World} {base base' base1 n c s1 s2 : Nat} {A A' : Option Addr} {L : Nat → Nat} {v : Nat → Nat → Int} (h : OwnR w base (.slice A n c) n L v) (hb : base' ≤ base) (h1 : ∀ b o, A' = some ⟨b, o, none⟩ → base1 ≤ b ∧ b < s1) (h2 : ∀ b o, A = some ⟨b, o, none⟩ → s1 ≤ b ∧ b < s2) : RowBk w base' A A' n := fun hn => by
  obtain ⟨b, e, hf⟩ := h.at0 hn
  have h3 := h.blk e
  have h4 := h2 b 0 e
  exact ⟨b, e, by omega, h3.2, hf, fun b' o' e' => by have := h1 b' o' e'; omega⟩
theorem RowBk.keep {w w' : World} {base n : Nat} {A A' : Option Addr} (h : RowBk w base A A' n) (hb : Below w.heap.size w w') : RowBk w' base A A' n := fun hn => by
  obtain ⟨b, e, h1, h2, h3, h4⟩ := h hn
  have := hb.size
  exact ⟨b, e, h1, by omega, fun i => by rw [hb.frozen h2]; exact h3 i, h4⟩
/-- A store where a slice lies leaves integers alone. -/
theorem Ints.setS {w : World} {A : Option Addr} {n : Nat} {f : Nat → Int} (h : Ints w A n f) {a : Addr} {B : Option Addr} {m c : Nat} (ha : w.cell? a = some (.slice B m c)) (x : Value) : Ints (w.setCell a x) A n f := fun hn => by
  obtain ⟨b, o, e, hc⟩ := h hn
  refine ⟨b, o, e, fun k hk => ?_⟩
  rw [World.cell?_setCell_other w _ _ x (fun e2 => by
    have h1 := hc k hk
    rw [← e2, ha] at h1
    injection h1 with h1
    cases h1)]
  exact hc k hk
/-- Hand h's list is another one now. -/
theorem PlanIn.putH {w : World} {AS AP A : Option Addr} {b L c h : Nat} {f : Nat → Int} {p : PlanD} (hp : PlanIn w (some ⟨b, 0, none⟩) AS AP p) (hh : h < p.nH) (hS : ∀ b' o', AS = some ⟨b', o', none⟩ → b' ≠ b) (hI : Ints w A L f) (hLc : L ≤ c) (hL : L ≤ 9) : PlanIn (w.setCell ⟨b, h, none⟩ (.slice A L c)) (some ⟨b, 0, none⟩) AS AP (setH p h L f) := by
  obtain ⟨b0, o0, A0, c0, e0, hc0, -, -⟩ := hp.hands.at hh
  injection e0 with e0
  injection e0 with e1 e2
  subst e1 e2
  rw [Nat.zero_add] at hc0
  refine ⟨fun hn => ⟨b, 0, rfl, fun i hi => ?_⟩, fun hn => ?_, hp.places.setS hc0 _, hp.nH9, hp.nS9, hp.nP9, fun i hi => ?_, hp.sS⟩
  · by_cases e : i = h
    · subst e
      rw [setH_Lh, setH_vh, Nat.zero_add]
      exact ⟨A, c, World.cell?_setCell_same _ _ _ hc0, hLc, hI.setS hc0 _⟩
    · obtain ⟨b1, o1, A1, c1, e1, hc1, h1, h2⟩ := hp.hands.at hi
      injection e1 with e1
      injection e1 with e3 e4
      subst e3 e4
      rw [setH_L e, setH_v e]
      refine ⟨A1, c1, ?_, h1, h2.setS hc0 _⟩
      rw [World.cell?_setCell_other w _ _ _ (fun e2 => e (by injection e2 with _ e3 _; omega))]
      exact hc1
  · obtain ⟨b1, o1, e1, hc1⟩ := hp.shifts hn
    refine ⟨b1, o1, e1, fun i hi => ?_⟩
    obtain ⟨A1, c1, k1, k2, k3⟩ := hc1 i hi
    refine ⟨A1, c1, ?_, k2, k3.setS hc0 _⟩
    rw [World.cell?_setCell_far _ _ _ _ (fun e2 => hS b1 o1 e1 e2.symm)]
    exact k1
  · by_cases e : i = h
    · subst e
      rw [setH_Lh]
      exact hL
    · rw [setH_L e]
      exact hp.sH i hi

set_option maxHeartbeats 1000000 in
set_option maxRecDepth 1000000 in
theorem at_any (A : Option Addr) (L c : Nat) (f : Nat → Int) (x : Int) (w : World) (h : Ints w A L f) (hL : L ≤ 9) : Lr 21 #[.slice A L c, .int .i64 x] w (.int .i64 (atF f L x)) := by
  unfold Lr
  have H := Lib.hid (index_any A L c f x w h (by omega))
  have hd : atF f L x = if 0 ≤ idxI f x L then idxI f x L else 99 := rfl
  have hb := idxI_bd f x L
  clear h
  generalize idxI f x L = r at *
  generalize atF f L x = q at *
  go_enter Try.func21, Try.ntmps21
  go_wp2_with fail
  refine H.out.mono ?_
  rintro e w' ⟨rfl, rfl⟩
  by_cases h0 : 0 ≤ r
  · have E := Lib.hid (hd.trans (if_pos h0))
    have d : decide (0 ≤ r) = true := decide_eq_true h0
    clear hd
    go_wp2
    go_ret
    exact ⟨ret_int E.out.symm, Below.refl _ _⟩
  · have E := Lib.hid (hd.trans (if_neg h0))
    have d : decide (0 ≤ r) = false := decide_eq_false h0
    clear hd
    go_wp2
    go_ret
    exact ⟨ret_int E.out.symm, Below.refl _ _⟩

set_option maxHeartbeats 4000000 in
set_option maxRecDepth 1000000 in
theorem of_own (AH AS AP : Option Addr) (cH cS cP : Nat) (p : PlanD) (w : World) (h : PlanArg w AH AS AP cH cS cP p) :
    Calls Try.prog 18 #[.agg #[.slice AH p.nH cH, .slice AS p.nS cS, .slice AP p.nP cP]] w fun e w' => ∃ BH dH BS dS BP dP, e = .returned (.agg #[.slice BH (min p.nH 8) dH, .slice BS (min p.nS 8) dS, .slice BP (min p.nP 9) dP]) ∧ PlanIn w' BH BS BP (fewP p) ∧ RowBk w' w.heap.size BH BS (min p.nH 8) ∧ RowBk w' w.heap.size BS BH (min p.nS 8) ∧ Below w.heap.size w w' := by
  obtain ⟨W, hW⟩ : ∃ W, W = (w.alloc (.cells #[.slice AH p.nH cH, .slice AS p.nS cS, .slice AP p.nP cP] 25)).alloc (.cells #[.slice none 0 0, .slice none 0 0, .slice none 0 0] 29) := ⟨_, rfl⟩
  have hbW : Below w.heap.size w W := by
    rw [hW]
    exact (below_box w _).trans ((below_box _ _).mono (by simp))
  have hB0 : BoxP W w.heap.size AH AS AP p.nH p.nS p.nP cH cS cP := by
    rw [hW]
    refine ⟨?_, ?_, ?_⟩ <;> simp [World.cell?_alloc_at]
  have hZ : W.heap[w.heap.size + 1]? = some (.cells #[.slice none 0 0, .slice none 0 0, .slice none 0 0] 29 (0, 0)) := by
    rw [hW]
    simpa using heap_alloc_new (w.alloc (.cells #[.slice AH p.nH cH, .slice AS p.nS cS, .slice AP p.nP cP] 25)) (.cells #[.slice none 0 0, .slice none 0 0, .slice none 0 0] 29)
  have hWs : W.heap.size = w.heap.size + 2 := by rw [hW]; simp
  have HA := Lib.hid (h.keep hbW)
  have HB0 := Lib.hid hB0
  have HbW := Lib.hid hbW
  have HZ := Lib.hid hZ
  clear h hB0 hbW hZ
  go_enter Try.func18, Try.ntmps18
  go_wp2_with fail
  rw [← hW]
  have hBc : Below W.heap.size W W.drew := (Dn.refl W).drew.below _
  obtain ⟨q0, q1, q2⟩ := HB0.out.keep hBc
  clear hW
  go_region_held3 (fun w' => w'.cell? ⟨w.heap.size, 0, none⟩ = some (.slice AH p.nH cH) ∧ w'.cell? ⟨w.heap.size, 1, none⟩ = some (.slice AS p.nS cS) ∧ w'.cell? ⟨w.heap.size, 2, none⟩ = some (.slice AP p.nP cP))
    (first | exact (HB0.out.keep hBc) | (refine ⟨?_, ?_, ?_⟩ <;> (rw [World.cell?_setCell_far _ _ _ _ (by simp), World.cell?_setCell_far _ _ _ _ (by simp), World.cell?_setCell_far _ _ _ _ (by simp)]; first | exact (HB0.out.keep hBc).1 | exact (HB0.out.keep hBc).2.1 | exact (HB0.out.keep hBc).2.2)))
    (first
      | (go_at_call_of 54 AH; refine (lists_any AH p.nH cH p.LH p.vH _ (HA.out.keep hBc).hands).mono ?_; rintro e w1 ⟨x1, rfl, hx1, hb1⟩; obtain ⟨BH, dH, rfl, hRH⟩ := hx1.rowsC; have hBc := hBc.trans (hb1.mono hBc.size))
      | (go_at_call_of 54 AS; refine (lists_any AS p.nS cS p.LS p.vS _ (HA.out.keep hBc).shifts).mono ?_; rintro e w2 ⟨x2, rfl, hx2, hb2⟩; obtain ⟨BS, dS, rfl, hRS⟩ := hx2.rowsC; have hBc := hBc.trans (hb2.mono hBc.size))
      | (go_at_call 29; refine (list_any AP p.nP cP p.pl _ (HA.out.keep hBc).places).mono ?_; rintro e w3 ⟨x3, rfl, hx3, hb3⟩; obtain ⟨BP, dP, rfl, hRP⟩ := hx3.shp (lst_len _ _); have hBc := hBc.trans (hb3.mono hBc.size); have hz3 : ZB w3 (w.heap.size + 1) := (hBc.block _ (by omega)).trans HZ.out; have f0 := hz3.frozen 0; have f1 := hz3.frozen 1; have f2 := hz3.frozen 2; have c0 := hz3.cell (show 0 < 3 by omega); have c1 := hz3.cell (show 1 < 3 by omega); have c2 := hz3.cell (show 2 < 3 by omega))
      | fail)
  have hz := zW_cells hz3 (.slice BH (min p.nH 8) dH) (.slice BS (min p.nS 8) dS) (.slice BP (min p.nP 9) dP)
  have hb := zW_below (HbW.out.trans (hBc.mono HbW.out.size)) (show w.heap.size ≤ w.heap.size + 1 by omega) (.slice BH (min p.nH 8) dH) (.slice BS (min p.nS 8) dS) (.slice BP (min p.nP 9) dP)
  have hex := zW_exc w3 (w.heap.size + 1) (.slice BH (min p.nH 8) dH) (.slice BS (min p.nS 8) dS) (.slice BP (min p.nP 9) dP)
  have hWd : W.drew.heap.size = w.heap.size + 2 := hWs
  have hs1 := hb1.size
  have hs2 := hb2.size
  have hpl : PlanIn (zW w3 (w.heap.size + 1) (.slice BH (min p.nH 8) dH) (.slice BS (min p.nS 8) dS) (.slice BP (min p.nP 9) dP)) BH BS BP (fewP p) :=
    ⟨(((hx1.below hb2).below hb3).exc hex (by omega)).toC, ((hx2.below hb3).exc hex (by omega)).toC, OwnL.toI (own_exc hx3 hex (by omega)), (show min p.nH 8 ≤ 9 by omega), (show min p.nS 8 ≤ 9 by omega), Nat.min_le_right _ _, fun _ _ => Nat.min_le_right _ _, fun _ _ => Nat.min_le_right _ _⟩
  have HR1 := Lib.hid (RowBk.of (((hx1.below hb2).below hb3).exc hex (by omega)) (base' := w.heap.size) (by omega) (fun b' o' e => by
    have h1 := OwnR.blk hx1 e
    exact h1) (fun b' o' e => by
    have h1 := OwnR.blk hx2 e
    exact h1))
  have HR2 := Lib.hid (RowBk.of2 ((hx2.below hb3).exc hex (by omega)) (base' := w.heap.size) (by omega) (fun b' o' e => by
    have h1 := OwnR.blk hx1 e
    exact h1) (fun b' o' e => by
    have h1 := OwnR.blk hx2 e
    exact h1))
  have HP := Lib.hid hpl
  have Hb := Lib.hid hb
  change Exit.then _ _ _ _ (zW w3 (w.heap.size + 1) (.slice BH (min p.nH 8) dH) (.slice BS (min p.nS 8) dS) (.slice BP (min p.nP 9) dP))
  clear hpl hb hex hx1 hx2 hx3 hb1 hb2 hb3 hRH hRS hRP f0 f1 f2 c0 c1 c2 hz3 hs1 hs2 hWd q0 q1 q2
  generalize zW w3 (w.heap.size + 1) (.slice BH (min p.nH 8) dH) (.slice BS (min p.nS 8) dS) (.slice BP (min p.nP 9) dP) = WF at *
  obtain ⟨z0, z1, z2⟩ := hz
  go_wp2
  refine bodyPost_ret (v := .agg #[.slice BH (min p.nH 8) dH, .slice BS (min p.nS 8) dS, .slice BP (min p.nP 9) dP]) (by simp [results, Try.results18, go_sem, z0, z1, z2]) rfl ?_
  exact ⟨BH, dH, BS, dS, BP, dP, rfl, HP.out, HR1.out, HR2.out, Hb.out⟩
end Go.Proofs.Ytiigcjcolpmafaa

/- The law's good; ranks of a shift's hands in two stable matchings. -/
namespace Go.Proofs.Ytiigcjcolpmafaa
open Go.RowKit

/-- At least as good for the hands, as the law asks. -/
def gdB (p : PlanD) (a b : Nat → Int) : Bool := allB (fun h => decide (atF (p.vH h) (p.LH h) (a h) ≤ atF (p.vH h) (p.LH h) (b h))) p.nH
set_option maxHeartbeats 2000000 in
set_option maxRecDepth 1000000 in
theorem good_any (AH AS AP DA DB : Option Addr) (cH cS cP ca nb cb : Nat) (p : PlanD) (a b : Nat → Int) (w : World) (hp : PlanArg w AH AS AP cH cS cP p) (ha : Ints w DA p.nH a) (hb : Ints w DB nb b) (hnb : nb = p.nH) (hok : okPlan p = true) :
    Lr 26 #[.agg #[.slice AH p.nH cH, .slice AS p.nS cS, .slice AP p.nP cP], .slice DA p.nH ca, .slice DB nb cb] w (.bool (gdB p a b)) := by
  subst hnb
  have Hb0 := Lib.hid (below_box w (.cells #[.slice AH p.nH cH, .slice AS p.nS cS, .slice AP p.nP cP] 25))
  have HB0 := Lib.hid (BoxP.newR w AH AS AP p.nH p.nS p.nP cH cS cP)
  have HP := Lib.hid (hp.keep Hb0.out)
  have HA := Lib.hid (ha.keep Hb0.out)
  have HB := Lib.hid (hb.keep Hb0.out)
  have HL : Hid (∀ k, k < p.nH → p.LH k ≤ 9) := Lib.hid (fun k hk => by
    obtain ⟨⟨a1, a2, a3, a4, -⟩, -, h3, -⟩ := okPlan_of hok
    have := (h3 k hk).1
    omega)
  have hn6 : p.nH ≤ 6 := (okPlan_of hok).1.2.1
  have HDf : Hid (gdB p a b = allB (fun h => decide (atF (p.vH h) (p.LH h) (a h) ≤ atF (p.vH h) (p.LH h) (b h))) p.nH) := Lib.hid rfl
  obtain ⟨W, hW⟩ : ∃ W, W = w.alloc (.cells #[.slice AH p.nH cH, .slice AS p.nS cS, .slice AP p.nP cP] 25) := ⟨_, rfl⟩
  rw [← hW] at Hb0 HB0 HP HA HB
  have HWW : Hid (w.alloc (.cells #[.slice AH p.nH cH, .slice AS p.nS cS, .slice AP p.nP cP] 25) = W) := Lib.hid hW.symm
  clear hp ha hb hok hW
  show Calls _ _ _ _ _
  go_enter Try.func26, Try.ntmps26
  go_wp2_with fail
  rw [HWW.out]
  clear HWW
  go_wp2
  go_loopw [10] (fun i wr => ∃ k : Nat, k ≤ p.nH ∧ i = .int .i64 k ∧ (∀ x, x < k → atF (p.vH x) (p.LH x) (a x) ≤ atF (p.vH x) (p.LH x) (b x)) ∧ Below W.heap.size W wr) (fun i _ => p.nH - (intOf i).toNat)
  case atStart => exact ⟨0, Nat.zero_le _, rfl, fun x hx => absurd hx (Nat.not_lt_zero _), Below.refl _ _⟩
  case round =>
    obtain ⟨k, hk, rfl, hA, hB⟩ := hrel
    have HAl := Lib.hid hA
    have HBl := Lib.hid hB
    clear hA hB
    by_cases hlt : k < p.nH
    · obtain ⟨y0, -, -⟩ := HB0.out.keep HBl.out
      obtain ⟨bA, oA, AR, cR, rfl, hcA, hIA⟩ := (HP.out.keep HBl.out).hands.at hlt
      obtain ⟨ba, oa, rfl, ca'⟩ := (HA.out.keep HBl.out).at hlt
      obtain ⟨bb, ob, rfl, cb'⟩ := (HB.out.keep HBl.out).at hlt
      have hl9 := HL.out k hlt
      have hA1 := Lib.hid (fun q : Later wr => at_any AR (p.LH k) cR (p.vH k) (a k) q.to (hIA.2.2.2.keep q.below) hl9)
      have hA2 := Lib.hid (fun q : Later wr => at_any AR (p.LH k) cR (p.vH k) (b k) q.to (hIA.2.2.2.keep q.below) hl9)
      have HNx : Hid (atF (p.vH k) (p.LH k) (a k) ≤ atF (p.vH k) (p.LH k) (b k) → ∀ x, x < k + 1 → atF (p.vH x) (p.LH x) (a x) ≤ atF (p.vH x) (p.LH x) (b x)) := Lib.hid (fun h x hx => by
        by_cases e : x = k
        · rw [e]; exact h
        · exact HAl.out x (by omega))
      have HFa : Hid (¬ atF (p.vH k) (p.LH k) (a k) ≤ atF (p.vH k) (p.LH k) (b k) → gdB p a b = false) := Lib.hid (fun h => by
        rw [HDf.out]
        exact allB_f hlt (decide_eq_false h))
      generalize atF (p.vH k) (p.LH k) (a k) = r1 at *
      generalize atF (p.vH k) (p.LH k) (b k) = r2 at *
      have hki : (k : Int) < p.nH := by omega
      clear hIA hl9
      go_wp2_with fail
      refine wp_region_later (by kernel_rfl) (by kernel_rfl) ?_
      have k0 : ∀ q : Later wr, q.to.cell? ⟨w.heap.size, 0, none⟩ = some (.slice (some ⟨bA, oA, none⟩) p.nH cH) := fun q => q.cell y0
      have k1 : ∀ q : Later wr, q.to.cell? ⟨bA, oA + k, none⟩ = some (.slice AR (p.LH k) cR) := fun q => q.cell hcA
      have k2 : ∀ q : Later wr, q.to.cell? ⟨ba, oa + k, none⟩ = some (.int .i64 (a k)) := fun q => q.cell ca'
      have k3 : ∀ q : Later wr, q.to.cell? ⟨bb, ob + k, none⟩ = some (.int .i64 (b k)) := fun q => q.cell cb'
      clear y0 hcA cb' ca'
      repeat
        (with_reducible refine wpQuiet_step ?_
         intro K hK
         go_simp
         first
           | (refine hK _ ?_; clear hK K)
           | (apply Exists.intro
              refine ⟨fun _ => ?_, hK _ ?_⟩
              (first
                | (go_at_call_of 21 (a k); exact Lr.later (hA1.out _))
                | (go_at_call 21; exact Lr.later (hA2.out _)))
              clear hK K))
      with_reducible refine wpQuiet_nil ?_
      intro _ hw'
      obtain ⟨q, rfl⟩ := hw'
      have HB2 := Lib.hid (HBl.out.trans (q.below.mono HBl.out.size))
      clear k0 k1 k2 k3
      generalize q.to = wy at *
      by_cases hle : r1 ≤ r2
      · have d : decide (r2 < r1) = false := decide_eq_false (by omega)
        have HS2 := Lib.hid (HNx.out hle)
        go_wp2
        first
          | exact ⟨⟨k + 1, by omega, by go_num, HS2.out, HB2.out⟩, by simp [intOf]; omega⟩
          | (go_roundw
             case rel => exact ⟨k + 1, by omega, by go_num, HS2.out, HB2.out⟩
             case measure => simp [intOf]; omega)
      · have d : decide (r2 < r1) = true := decide_eq_true (by omega)
        have E := Lib.hid (HFa.out (by omega))
        go_wp2
        go_ret
        exact ⟨ret_bool E.out.symm, Hb0.out.trans (HB2.out.mono Hb0.out.size)⟩
    · obtain rfl : k = p.nH := by omega
      have E : Hid (gdB p a b = true) := Lib.hid (by
        rw [HDf.out]
        exact allB_t (fun x hx => decide_eq_true (HAl.out x hx)))
      go_wp2
      go_ret
      exact ⟨ret_bool E.out.symm, Hb0.out.trans (HBl.out.mono Hb0.out.size)⟩
end Go.Proofs.Ytiigcjcolpmafaa

/- A shift's hands in the better matching for the hands are not better for the shift, one by one. -/
namespace Go.Proofs.Ytiigcjcolpmafaa
open Go.RowKit

/-- The places in a shift's list of its hands among the first h. -/
def plL (p : PlanD) (s : Nat) (m : Nat → Int) : Nat → List Int
  | 0 => []
  | h + 1 => if m h = (s : Int) then plL p s m h ++ [atF (p.vS s) (p.LS s) (h : Int)] else plL p s m h
theorem plL_len (p : PlanD) (s : Nat) (m : Nat → Int) : ∀ n, (plL p s m n).length = cnt m (s : Int) n := by
  intro n
  induction n with
  | zero => rfl
  | succ n ih =>
    show (if _ then _ else _ : List Int).length = if _ then _ else _
    split
    · rw [List.length_append, ih]; rfl
    · exact ih
/-- Those below t. -/
def lowM (p : PlanD) (s : Nat) (m : Nat → Int) (t : Int) : Nat → Int := fun h => if m h = (s : Int) ∧ atF (p.vS s) (p.LS s) (h : Int) < t then 1 else 0
theorem lowM_one {p : PlanD} {s : Nat} {m : Nat → Int} {t : Int} {h : Nat} : lowM p s m t h = 1 ↔ m h = (s : Int) ∧ atF (p.vS s) (p.LS s) (h : Int) < t := by
  unfold lowM
  split
  · simp [*]
  · simp only [*, iff_false]
    decide
theorem plL_low (p : PlanD) (s : Nat) (m : Nat → Int) (t : Int) : ∀ n, (plL p s m n).countP (fun x => decide (x < t)) = cnt (lowM p s m t) 1 n := by
  intro n
  induction n with
  | zero => rfl
  | succ n ih =>
    show (if _ then _ else _ : List Int).countP _ = if _ then _ else _
    by_cases e : m n = (s : Int)
    · rw [if_pos e, List.countP_append, ih]
      by_cases g : atF (p.vS s) (p.LS s) (n : Int) < t
      · rw [if_pos (lowM_one.2 ⟨e, g⟩)]
        simp [g]
      · rw [if_neg (fun x => g (lowM_one.1 x).2)]
        simp [g]
    · rw [if_neg e, if_neg (fun x => e (lowM_one.1 x).1)]
      exact ih
theorem atF_eq {p : PlanD} {s h : Nat} (hp : possB p h (s : Int) = true) : atF (p.vS s) (p.LS s) (h : Int) = rSd p s h := by
  have h1 := (poss_if2.1 hp).2
  rw [Int.toNat_natCast] at h1
  unfold atF rSd
  rw [if_pos h1, (rkI_sm2 h1).1]
theorem low_le {p : PlanD} {a b : Nat → Int} (hok : okPlan p = true) (ha : Stb p a) (hb : Stb p b) (hg : ∀ h, h < p.nH → rHd p h (a h) ≤ rHd p h (b h)) {s : Nat} (hs : s < p.nS) (t : Int) : cnt (lowM p s a t) 1 p.nH ≤ cnt (lowM p s b t) 1 p.nH := by
  have hpa : ∀ {u : Nat → Int}, Stb p u → ∀ h, h < p.nH → u h = (s : Int) → possB p h (s : Int) = true := fun {u} hu h hh e => by
    rcases hu.mat h hh with g | g
    · omega
    · rw [e] at g; exact g
  by_cases hx : ∃ h, h < p.nH ∧ a h = (s : Int) ∧ b h ≠ (s : Int) ∧ atF (p.vS s) (p.LS s) (h : Int) < t
  · obtain ⟨h, hh, e1, e2, e3⟩ := hx
    have hp := hpa ha h hh e1
    have hlt : rHd p h (s : Int) < rHd p h (b h) := by
      have h1 := hg h hh
      rw [e1] at h1
      rcases Int.lt_or_eq_of_le h1 with g | g
      · exact g
      · exact absurd (Stb.same hok ha hb hh (by rw [e1]; exact g)).symm (by rw [e1]; exact e2)
    have hn := (hb.nob h s hh hs hp hlt).2
    rw [atF_eq hp] at e3
    have h1 : cnt (lowM p s a t) 1 p.nH ≤ cnt a (s : Int) p.nH := cnt_imp p.nH (fun x _ e => (lowM_one.1 e).1)
    have h2 : cnt b (s : Int) p.nH ≤ cnt (lowM p s b t) 1 p.nH := cnt_imp p.nH (fun x hx e => lowM_one.2 ⟨e, by
      rw [atF_eq (hpa hb x hx e)]
      have := hn x hx e
      omega⟩)
    have h3 := stb_cnt hok ha hb hs
    omega
  · exact cnt_imp p.nH (fun x hx' e => by
      obtain ⟨f1, f2⟩ := lowM_one.1 e
      refine lowM_one.2 ⟨?_, f2⟩
      by_cases g : b x = (s : Int)
      · exact g
      · exact absurd ⟨x, hx', f1, g, f2⟩ hx)
theorem cP_ge {F : Nat → Int} {t : Int} {i : Nat} (h : ∀ j, j ≤ i → F j < t) : ∀ k, i < k → i + 1 ≤ (lst k F).countP (fun x => decide (x < t)) := by
  have h0 : ∀ k, k ≤ i + 1 → (lst k F).countP (fun x => decide (x < t)) = k := by
    intro k
    induction k with
    | zero => intro _; rfl
    | succ k ih =>
      intro hk
      rw [lst_succ, List.countP_append, ih (by omega)]
      have := h k (by omega)
      simp [this]
  intro k hk
  induction k with
  | zero => omega
  | succ k ih =>
    rcases Nat.lt_or_ge i k with g | g
    · have := ih g
      rw [lst_succ, List.countP_append]
      omega
    · rw [h0 (k + 1) (by omega)]
      omega
theorem cP_le {F : Nat → Int} {t : Int} {i : Nat} : ∀ k, (∀ j, i ≤ j → j < k → t ≤ F j) → (lst k F).countP (fun x => decide (x < t)) ≤ i := by
  intro k
  induction k with
  | zero => intro _; exact Nat.zero_le _
  | succ k ih =>
    intro h
    rw [lst_succ, List.countP_append]
    rcases Nat.lt_or_ge k i with g | g
    · have h1 := List.countP_le_length (p := fun x => decide (x < t)) (l := lst k F)
      have h2 := List.countP_le_length (p := fun x => decide (x < t)) (l := [F k])
      rw [lst_len] at h1
      have h3 : [F k].length = 1 := rfl
      omega
    · have h1 := ih (fun j hj hk => h j hj (by omega))
      have h2 := h k g (by omega)
      have h3 : [F k].countP (fun x => decide (x < t)) = 0 := by
        have : ¬ F k < t := by omega
        simp [this]
      omega
/-- The sorted places, one by one. -/
theorem one_by_one {p : PlanD} {a b : Nat → Int} {F G : Nat → Int} {k : Nat} (hok : okPlan p = true) (ha : Stb p a) (hb : Stb p b) (hg : ∀ h, h < p.nH → rHd p h (a h) ≤ rHd p h (b h)) {s : Nat} (hs : s < p.nS) (hF : (lst k F).Perm (plL p s a p.nH)) (hG : (lst k G).Perm (plL p s b p.nH)) (sF : ∀ i j, i ≤ j → j < k → F i ≤ F j) (sG : ∀ i j, i ≤ j → j < k → G i ≤ G j) {i : Nat} (hi : i < k) : ¬ F i < G i := by
  intro h
  have h1 := cP_ge (F := F) (t := G i) (i := i) (fun j hj => by have := sF j i hj hi; omega) k hi
  have h2 := cP_le (F := G) (t := G i) (i := i) k (fun j hj hk => sG i j hj hk)
  rw [hF.countP_eq, plL_low] at h1
  rw [hG.countP_eq, plL_low] at h2
  have := low_le hok ha hb hg hs (G i)
  omega
end Go.Proofs.Ytiigcjcolpmafaa

/- append of one integer onto an owned slice, and where it lies: in its block, with the capacity it had, or in a new block. -/
set_option maxRecDepth 1000000
set_option maxHeartbeats 2000000
namespace Go.Proofs.Ytiigcjcolpmafaa
open Go.RowKit

theorem run_append_way (w : World) (base : Nat) (ty : TypeId) (v : Value) (L : List Int) (hown : OwnL w base v L) (a : Addr) (x : Int) (hc : w.cell? a = some (.int .i64 x)) (hn : L.length ≤ 10000) (hbase : base ≤ w.heap.size) :
    ∃ g cap w', (Builtin.append_ #[23, 23] ty #[v, .slice (some a) 1 1]).run Try.prog w = .ok (.slice (some ⟨g, 0, none⟩) (L.length + 1) cap) w' ∧ OwnL w' base (.slice (some ⟨g, 0, none⟩) (L.length + 1) cap) (L ++ [x]) ∧
      ((v = .slice (some ⟨g, 0, none⟩) L.length cap ∧ w.grownBy w' (some g)) ∨ (g = w.heap.size ∧ w.grownBy w' none)) := by
  obtain ⟨i1, hi1, hz01, hz11, hz21⟩ := info_parts infoInt
  have hown0 : w.ownsRow base 3 1 v L.length (L.map (Value.int .i64)) := hown
  have hnews : ∀ j u, [Value.int .i64 x][j]? = some u → w.cell? (a.add j) = some u := by
    intro j u hu
    cases j with
    | zero =>
      injection hu with hu
      subst hu
      have e : a.add 0 = a := by
        obtain ⟨b, o, r⟩ := a
        cases r <;> simp [Addr.add]
      rw [e]
      exact hc
    | succ j => cases hu
  have hone : ∀ u ∈ [Value.int .i64 x], u.oneCell' = true := fun u hu => by
    obtain rfl := List.mem_singleton.1 hu
    rfl
  have hL : ∀ {v' : Value} {w' : World}, w'.ownsRow base 3 1 v' (L.length + 1) (L.map (Value.int .i64) ++ [.int .i64 x]) → OwnL w' base v' (L ++ [x]) := fun h => by
    unfold OwnL
    rw [List.length_append, List.map_append]
    exact h
  rcases hown0.2 with ⟨rfl, h0⟩ | ⟨g, cap, cur, rfl, hbg, hg, hnc, hcm, hcs, ht⟩
  · obtain ⟨v', w', hr, h2, h3, -, h5⟩ := run_append_own_at (P := Try.prog) w base 23 ty 3 i1 (.int .i64 0) 1 8 Try.underlying23 hi1 hz01 hz11 hz21 rfl (by decide) _ L.length _ hown0 a 1 1 [.int .i64 x] rfl hnews hone (by unfold maxLen; omega) (by omega) hbase
    have hO := hL h2
    obtain ⟨A1, c1, e1, hnil, -, -, -⟩ := hO.form
    rw [List.length_append] at e1
    rcases h2.2 with ⟨-, h6⟩ | ⟨g, cap, cur, rfl, hbg, hg, hnc, hcm, hcs, ht⟩
    · omega
    · refine ⟨g, cap, w', hr, hO, .inr ⟨?_, h3⟩⟩
      rcases h5 with h5 | h5
      · cases h5
      · injection h5
  · by_cases hroom : L.length + 1 ≤ cap
    · obtain ⟨w', hr, h2, h3⟩ := run_append_own_spare (P := Try.prog) w base 23 ty 3 i1 1 Try.underlying23 hi1 hz11 g L.length cap _ hown0 a 1 1 [.int .i64 x] rfl hnews hone hroom
      exact ⟨g, cap, w', hr, hL h2, .inl ⟨rfl, h3⟩⟩
    · obtain ⟨v', w', hr, h2, h3, -, -⟩ := run_append_own_at (P := Try.prog) w base 23 ty 3 i1 (.int .i64 0) 1 8 Try.underlying23 hi1 hz01 hz11 hz21 rfl (by decide) _ L.length _ hown0 a 1 1 [.int .i64 x] rfl hnews hone (by unfold maxLen; omega) (by omega) hbase
      have hr2 := run_append_grow (P := Try.prog) w 23 ty 3 i1 (.int .i64 0) Try.underlying23 hi1 hz01 ⟨g, 0, none⟩ L.length cap (L.map (Value.int .i64)) (by rw [hz11]; simp) (hown0.cells (g := g) rfl) a 1 1 [.int .i64 x] (by rw [hz11]; rfl) hnews (by omega) (by omega) (by rw [hz21]; exact growslice_fits (by omega) (by omega))
      rw [hr] at hr2
      injection hr2 with e1 e2
      subst e1
      have h2' := hL h2
      refine ⟨w.heap.size, _, w', hr, h2', .inr ⟨rfl, ?_⟩⟩
      rw [e2]
      exact ⟨rfl, rfl, rfl, by simp, fun j hj _ => heap_alloc_old w.drew _ hj⟩

theorem wpList_append_way {w : World} {ops : Array Oper} {rest : List Oper} {o : Oper} {a : Act} {Q : Exit → Act → World → Prop} (hgd : o.guard = none) (s x : Operand)
    (ho : o.op = .call { callee := .builtin .append, args := #[s, x], argTypes := #[23, 23] })
    (base : Nat) (v : Value) (L : List Int) (hs : a.eval s = v) (hown : OwnL w base v L) (ad : Addr) (hx : a.eval x = .slice (some ad) 1 1) (y : Int) (hc : w.cell? ad = some (.int .i64 y)) (hn : L.length ≤ 10000) (hbase : base ≤ w.heap.size)
    (h : ∀ g cap w', OwnL w' base (.slice (some ⟨g, 0, none⟩) (L.length + 1) cap) (L ++ [y]) → ((v = .slice (some ⟨g, 0, none⟩) L.length cap ∧ w.grownBy w' (some g)) ∨ (g = w.heap.size ∧ w.grownBy w' none)) → wpList Try.prog ops Q rest (a.put o.dst (.slice (some ⟨g, 0, none⟩) (L.length + 1) cap)) w') : wpList Try.prog ops Q (o :: rest) a w := by
  refine wpList_plain hgd fun K hK => ?_
  obtain ⟨g, cap, w', hr, h2, h3⟩ := run_append_way w base o.type v L hown ad y hc hn hbase
  unfold Oper.wp execOp
  simp only [ho, resolve, invoke, builtin, Sem.run_bind, Sem.run_pure, Result.andThen_ok, List.map_toArray, List.map_cons, List.map_nil, hs, hx, hr]
  exact hK _ _ (h g cap w' h2 h3)

/-- .. as one step of a region that draws its order. -/
theorem step_append_way {w : World} {ops : Array Oper} {o : Oper} {a : Act} {K : Act → World → Prop} {Q : Exit → Act → World → Prop} {E : Prop} (hgd : o.guard = none) (s x : Operand)
    (ho : o.op = .call { callee := .builtin .append, args := #[s, x], argTypes := #[23, 23] })
    (base : Nat) (v : Value) (L : List Int) (hs : a.eval s = v) (hown : OwnL w base v L) (ad : Addr) (hx : a.eval x = .slice (some ad) 1 1) (y : Int) (hc : w.cell? ad = some (.int .i64 y)) (hn : L.length ≤ 10000) (hbase : base ≤ w.heap.size)
    (h : ∀ g cap w', OwnL w' base (.slice (some ⟨g, 0, none⟩) (L.length + 1) cap) (L ++ [y]) → ((v = .slice (some ⟨g, 0, none⟩) L.length cap ∧ w.grownBy w' (some g)) ∨ (g = w.heap.size ∧ w.grownBy w' none)) → K (a.put o.dst (.slice (some ⟨g, 0, none⟩) (L.length + 1) cap)) w') :
    if Region.wanted o (yielded ops a.tmps) = true then Oper.wp Try.prog o a w K Q else E := by
  have hw : Region.wanted o (yielded ops a.tmps) = true := by simp [Region.wanted, hgd]
  rw [if_pos hw]
  obtain ⟨g, cap, w', hr, h2, h3⟩ := run_append_way w base o.type v L hown ad y hc hn hbase
  unfold Oper.wp execOp
  simp only [ho, resolve, invoke, builtin, Sem.run_bind, Sem.run_pure, Result.andThen_ok, List.map_toArray, List.map_cons, List.map_nil, hs, hx, hr]
  exact h g cap w' h2 h3

theorem wpOp_ofW {P : Program} {ops : Array Oper} {Q : Exit → Act → World → Prop} {i : Nat} {K : Act → World → Prop} {a : Act} {w : World} {o : Oper} (hi : ops[i]? = some o) (hw : Region.wanted o (yielded ops a.tmps) = true) (h : o.wp P a w K Q) : wpOp P ops Q i K a w := by
  unfold wpOp
  rw [hi]
  simp only [hw, if_true]
  exact .inl h
theorem wp_append_way {w : World} {o : Oper} {a : Act} {K : Act → World → Prop} {Q : Exit → Act → World → Prop} (s x : Operand)
    (ho : o.op = .call { callee := .builtin .append, args := #[s, x], argTypes := #[23, 23] })
    (base : Nat) (v : Value) (L : List Int) (hs : a.eval s = v) (hown : OwnL w base v L) (ad : Addr) (hx : a.eval x = .slice (some ad) 1 1) (y : Int) (hc : w.cell? ad = some (.int .i64 y)) (hn : L.length ≤ 10000) (hbase : base ≤ w.heap.size)
    (h : ∀ g cap w', OwnL w' base (.slice (some ⟨g, 0, none⟩) (L.length + 1) cap) (L ++ [y]) → ((v = .slice (some ⟨g, 0, none⟩) L.length cap ∧ w.grownBy w' (some g)) ∨ (g = w.heap.size ∧ w.grownBy w' none)) → K (a.put o.dst (.slice (some ⟨g, 0, none⟩) (L.length + 1) cap)) w') :
    Oper.wp Try.prog o a w K Q := by
  obtain ⟨g, cap, w', hr, h2, h3⟩ := run_append_way w base o.type v L hown ad y hc hn hbase
  unfold Oper.wp execOp
  simp only [ho, resolve, invoke, builtin, Sem.run_bind, Sem.run_pure, Result.andThen_ok, List.map_toArray, List.map_cons, List.map_nil, hs, hx, hr]
  exact h g cap w' h2 h3

/-- Blocks of before are as they were, but those of a list. -/
structure Kp (bs : List Nat) (w w' : World) : Prop where
  os : w'.os = w.os
  tape : w'.tape = w.tape
  output : w'.output = w.output
  size : w.heap.size ≤ w'.heap.size
  block : ∀ k, k < w.heap.size → k ∉ bs → w'.heap[k]? = w.heap[k]?
theorem Kp.refl (bs : List Nat) (w : World) : Kp bs w w := ⟨rfl, rfl, rfl, Nat.le_refl _, fun _ _ _ => rfl⟩
theorem Kp.trans {bs : List Nat} {a w w' : World} (h : Kp bs a w) (k : Kp bs w w') : Kp bs a w' :=
  ⟨k.os.trans h.os, k.tape.trans h.tape, k.output.trans h.output, Nat.le_trans h.size k.size, fun i hi hne => (k.block i (Nat.lt_of_lt_of_le hi h.size) hne).trans (h.block i hi hne)⟩
theorem Kp.drew {bs : List Nat} {a w : World} (h : Kp bs a w) : Kp bs a w.drew := h.trans ⟨rfl, rfl, rfl, Nat.le_refl _, fun _ _ _ => rfl⟩
theorem Kp.mono {bs cs : List Nat} {a w : World} (h : Kp bs a w) (hs : ∀ b, b ∈ bs → b < a.heap.size → b ∈ cs) : Kp cs a w :=
  ⟨h.os, h.tape, h.output, h.size, fun k hk hne => h.block k hk (fun hm => hne (hs k hm hk))⟩
theorem Kp.trans2 {bs cs : List Nat} {a w w' : World} (h : Kp bs a w) (k : Kp cs w w') (hs : ∀ b, b ∈ cs → b ∈ bs ∨ a.heap.size ≤ b) : Kp bs a w' :=
  ⟨k.os.trans h.os, k.tape.trans h.tape, k.output.trans h.output, Nat.le_trans h.size k.size, fun i hi hne => (k.block i (Nat.lt_of_lt_of_le hi h.size) (fun hm => by
    rcases hs i hm with h1 | h1
    · exact hne h1
    · omega)).trans (h.block i hi hne)⟩
theorem Kp.below {bs : List Nat} {a w : World} {B : Nat} (h : Kp bs a w) (hs : ∀ b, b ∈ bs → B ≤ b) (hB : B ≤ a.heap.size) : Below B a w := ⟨h.os, h.tape, h.output, h.size, fun k hk => h.block k (by omega) (fun hm => by have := hs k hm; omega)⟩
theorem Kp.of_below {bs : List Nat} {a w : World} (h : Below a.heap.size a w) : Kp bs a w := ⟨h.os, h.tape, h.output, h.size, fun k hk _ => h.block k hk⟩
theorem Kp.of_grown {g : Nat} {a w : World} (h : a.grownBy w (some g)) : Kp [g] a w := ⟨h.os, h.tape, h.output, h.size, fun k hk hne => h.block k hk (fun e => by injection e with e; subst e; exact hne (List.mem_cons_self ..))⟩
theorem Kp.of_none {bs : List Nat} {a w : World} (h : a.grownBy w none) : Kp bs a w := ⟨h.os, h.tape, h.output, h.size, fun k hk _ => h.block k hk (fun e => by cases e)⟩
theorem Kp.ownL {bs : List Nat} {a w : World} {base : Nat} {v : Value} {xs : List Int} (h : Kp bs a w) (ho : OwnL a base v xs) (hne : ∀ g, v.ownBlock = some g → g ∉ bs) : OwnL w base v xs := by
  rcases ho.2 with ⟨rfl, h0⟩ | ⟨g, cap, cur, rfl, hbg, hg, r⟩
  · exact ⟨ho.1, .inl ⟨rfl, h0⟩⟩
  · have hlt : g < a.heap.size := (Array.getElem?_eq_some_iff.1 hg).1
    exact ⟨ho.1, .inr ⟨g, cap, cur, rfl, hbg, (h.block g hlt (hne g rfl)).trans hg, r⟩⟩
/-- An owned slice's first cells are an owned slice of the same capacity. -/
theorem OwnL.front {w : World} {base g cap : Nat} {L : List Int} {x : Int} (h : OwnL w base (.slice (some ⟨g, 0, none⟩) (L.length + 1) cap) (L ++ [x])) : OwnL w base (.slice (some ⟨g, 0, none⟩) L.length cap) L := by
  unfold OwnL at h ⊢
  rcases h.2 with ⟨e, -⟩ | ⟨g', cap', cur, e, hbg, hg, hnc, hcm, hcs, ht⟩
  · cases e
  · injection e with e1 e2 e3
    injection e1 with e1
    injection e1 with e1
    subst e1 e3
    refine ⟨by simp, .inr ⟨g, cap, cur, rfl, hbg, hg, ?_, hcm, hcs, ?_⟩⟩
    · rw [List.length_append] at hnc
      simp at hnc
      omega
    · have h2 := congrArg (List.take L.length) ht
      rw [List.take_take, List.map_append, List.length_append] at h2
      simp at h2
      rw [Nat.mul_one]
      exact h2
end Go.Proofs.Ytiigcjcolpmafaa

/- slices.Sort of few numbers. -/
namespace Go.Proofs.Ytiigcjcolpmafaa
open Go.RowKit

theorem isNaNG_any (x : Int) (w : World) : Ro 118 #[.int .i64 x] w (.bool false) := by
  refine Ro.of ?_
  have hB := bne_f (a := x) rfl
  go_enter Try.func118, Try.ntmps118
  go_wp2
  go_ret
  exact ⟨rfl, Dn.refl _⟩
theorem lessG_any (x y : Int) (w : World) : Ro 101 #[.int .i64 x, .int .i64 y] w (.bool (decide (x < y))) := by
  refine Ro.of ?_
  have HN := Lib.hid (fun w => isNaNG_any x w)
  go_enter Try.func101, Try.ntmps101
  go_wp2_with fail
  refine Ro.use (HN.out _) ?_
  intro w1 hd1
  have HD := Lib.hid hd1
  clear hd1
  by_cases h : x < y
  · have d := decide_eq_true h
    go_wp2
    go_ret
    exact ⟨ret_bool d.symm, HD.out⟩
  · have d := decide_eq_false h
    go_wp2
    go_ret
    exact ⟨ret_bool d.symm, HD.out⟩
set_option maxHeartbeats 2000000 in
set_option maxRecDepth 1000000 in
theorem insG (g cap n : Nat) (F : Nat → Int) (w : World) (hR : RowC w g cap n F) (hn0 : 0 < n) (hn : n ≤ 12) :
    Calls Try.prog 95 #[.slice (some ⟨g, 0, none⟩) n cap, .int .i64 0, .int .i64 n] w fun e w' =>
      e = .returned (.tuple #[]) ∧ ∃ F', RowC w' g cap n F' ∧ (lst n F').Perm (lst n F) ∧ Srt (fun x => x) F' n ∧ Exc g w w' := by
  have HR := Lib.hid hR
  obtain ⟨r, hr⟩ : ∃ r : Int → Int, r = fun x => x := ⟨_, rfl⟩
  have HV : Hid (∀ x, r x = x) := Lib.hid (by rw [hr]; exact fun _ => rfl)
  rw [← hr]
  clear hR hr
  go_enter Try.func95, Try.ntmps95
  go_wp2
  go_loopw [6] (fun x wr => ∃ (k : Nat) (G : Nat → Int), 1 ≤ k ∧ k ≤ n ∧ x = .int .i64 k ∧ RowC wr g cap n G ∧ (lst n G).Perm (lst n F) ∧ Srt r G k ∧ Exc g w wr) (fun x _ => n - (intOf x).toNat)
  case atStart => exact ⟨1, F, Nat.le_refl _, by omega, rfl, HR.out, List.Perm.refl _, Srt.one _ _, Exc.refl _ _⟩
  case round =>
    obtain ⟨k, G, hk1, hk, rfl, hRG, hP, hS, hE⟩ := hrel
    have HRG := Lib.hid hRG
    have HP := Lib.hid hP
    have HS := Lib.hid hS
    have HE := Lib.hid hE
    clear hRG hP hS hE
    by_cases hlt : k < n
    · go_wp2
      go_loopw [7] (fun x wi => ∃ (j : Nat) (G : Nat → Int), j ≤ k ∧ x = .int .i64 j ∧ RowC wi g cap n G ∧ (lst n G).Perm (lst n F) ∧ SrtX r G (k + 1) j ∧ Exc g w wi) (fun x _ => (intOf x).toNat)
      case atStart => exact ⟨k, G, Nat.le_refl _, rfl, HRG.out, HP.out, HS.out.open_, HE.out⟩
      case round =>
        obtain ⟨j, G, hj, rfl, hRG, hP, hS, hE⟩ := hrel
        have HRG := Lib.hid hRG
        have HP := Lib.hid hP
        have HS := Lib.hid hS
        have HE := Lib.hid hE
        clear hRG hP hS hE
        rcases j with _ | j
        · have HD := Lib.hid HS.out.done0
          have hd0 : decide ((0 : Int) < ((0 : Nat) : Int)) = false := by simp
          go_wp2_with fail
          go_quiet (fail)
          go_wp2
          go_roundw
          case rel => exact ⟨k + 1, G, by omega, by omega, by go_num, HRG.out.dn ((Dn.refl _).drewN _), HP.out, HD.out, HE.out.trans (Exc.of_below (((Dn.refl _).drewN _).below _))⟩
          case measure => simp [intOf]; omega
        · obtain ⟨K, hJ⟩ : ∃ K, K = j + 1 := ⟨_, rfl⟩
          have HJ := Lib.hid hJ
          have hJn : K < n := by omega
          have hcJ := HRG.out.cell hJn
          have hcj := HRG.out.cell (show j < n by omega)
          have hfJ := HRG.out.frozen K
          have hfj := HRG.out.frozen j
          have hJ0 : 0 < K := by omega
          have hJ1 : (K : Int) < n := by omega
          have u0 : (0 : Int) ≤ K := by omega
          have u1 : IntKind.i64.wrap ((K : Int) - 1) = (K : Int) - 1 := IntWalk.i64_in _ ⟨by omega, by omega⟩
          have u2 : ((K : Int) - 1).toNat = j := by omega
          have u3 : (0 : Int) ≤ (K : Int) - 1 := by omega
          have u4 : (K : Int) - 1 < n := by omega
          have HCm : ∀ q, Hid (Ro 101 #[.int .i64 (G K), .int .i64 (G j)] (wr.drewN q) (.bool (decide (G K < G j)))) := fun q => Lib.hid (lessG_any _ _ _)
          have hvK := HV.out (G K)
          have hvj := HV.out (G j)
          rw [← hJ]
          by_cases hlt2 : r (G K) < r (G j)
          · have HSt := Lib.hid (HS.out.step (by omega) (by rw [← hJ]; exact hlt2))
            have HPm := Lib.hid ((swp_perm G j n (by omega)).trans HP.out)
            have hcm : decide (G K < G j) = true := decide_eq_true (by omega)
            clear hJ hvK hvj hlt2
            go_wp2_with fail
            go_quiet ((go_at_call 101; exact Ro.quiet (HCm _).out))
            go_wp2_with fail
            go_region
            go_wp2
            go_roundw
            case rel =>
              refine ⟨j, swp G j, by omega, val_int (by omega), (((HRG.out.dn ((Dn.refl _).drewN _)).set K (G j)).set j (G K)).congr (fun i _ => ?_), HPm.out, HSt.out, ((HE.out.trans (Exc.of_below (((Dn.refl _).drewN _).below _))).set K _).set j _⟩
              unfold swp
              rw [HJ.out]
            case measure => simp [intOf]; omega
          · have HD := Lib.hid (HS.out.done (by omega) (by rw [← hJ]; omega))
            have hcm : decide (G K < G j) = false := decide_eq_false (by omega)
            clear hJ hvK hvj hlt2
            go_wp2_with fail
            go_quiet ((go_at_call 101; exact Ro.quiet (HCm _).out))
            go_wp2
            go_roundw
            case rel => exact ⟨k + 1, G, by omega, by omega, by go_num, HRG.out.dn ((Dn.refl _).drewN _), HP.out, HD.out, HE.out.trans (Exc.of_below (((Dn.refl _).drewN _).below _))⟩
            case measure => simp [intOf]; omega
    · obtain rfl : k = n := by omega
      go_wp2
      go_returns
      exact ⟨rfl, G, HRG.out, HP.out, HS.out, HE.out⟩

set_option maxHeartbeats 4000000 in
set_option maxRecDepth 1000000 in
theorem len64G_any (s : Nat) (hs : s < 16) (w : World) : Calls Try.prog 105 #[.int .u64 s] w fun e w' => ∃ z, e = .returned (.int .i64 z) ∧ w = w' := by
  have : s = 0 ∨ s = 1 ∨ s = 2 ∨ s = 3 ∨ s = 4 ∨ s = 5 ∨ s = 6 ∨ s = 7 ∨ s = 8 ∨ s = 9 ∨ s = 10 ∨ s = 11 ∨ s = 12 ∨ s = 13 ∨ s = 14 ∨ s = 15 := by omega
  rcases this with rfl | rfl | rfl | rfl | rfl | rfl | rfl | rfl | rfl | rfl | rfl | rfl | rfl | rfl | rfl | rfl
  all_goals
    go_enter Try.func105, Try.ntmps105
    go_wp2
    go_ret
    exact ⟨_, rfl, rfl⟩
theorem lenG_any (s : Nat) (hs : s < 16) (w : World) : Calls Try.prog 65 #[.int .u64 s] w fun e w' => ∃ z, e = .returned (.int .i64 z) ∧ w = w' := by
  have H := Lib.hid (len64G_any s hs w)
  go_enter Try.func65, Try.ntmps65
  go_wp2_with fail
  refine H.out.mono ?_
  rintro e w' ⟨z, rfl, rfl⟩
  go_wp2
  go_ret
  exact ⟨_, rfl, rfl⟩
set_option maxHeartbeats 2000000 in
set_option maxRecDepth 1000000 in
theorem pdqG (g cap n : Nat) (z : Int) (F : Nat → Int) (w : World) (hR : RowC w g cap n F) (hn0 : 0 < n) (hn : n ≤ 12) :
    Calls Try.prog 64 #[.slice (some ⟨g, 0, none⟩) n cap, .int .i64 0, .int .i64 n, .int .i64 z] w fun e w' =>
      e = .returned (.tuple #[]) ∧ ∃ F', RowC w' g cap n F' ∧ (lst n F').Perm (lst n F) ∧ Srt (fun x => x) F' n ∧ Exc g w w' := by
  have H := Lib.hid (insG g cap n F w hR hn0 hn)
  have hn12 : (n : Int) ≤ 12 := by omega
  clear hR
  go_enter Try.func64, Try.ntmps64
  go_wp2
  refine wp_loop_rounds 1 ?_
  rw [rounds_succ]
  go_wp2_with fail
  refine H.out.mono ?_
  rintro e w' ⟨rfl, hp⟩
  have HP := Lib.hid hp
  clear hp
  go_wp2
  go_returns
  exact ⟨rfl, HP.out⟩
set_option maxHeartbeats 2000000 in
set_option maxRecDepth 1000000 in
theorem sortG (g cap n : Nat) (F : Nat → Int) (w : World) (hR : RowC w g cap n F) (hn0 : 0 < n) (hn : n ≤ 12) :
    Calls Try.prog 30 #[.slice (some ⟨g, 0, none⟩) n cap] w fun e w' =>
      e = .returned (.tuple #[]) ∧ ∃ F', RowC w' g cap n F' ∧ (lst n F').Perm (lst n F) ∧ Srt (fun x => x) F' n ∧ Exc g w w' := by
  have H := Lib.hid (fun z => pdqG g cap n z F w hR hn0 hn)
  have HL := Lib.hid (lenG_any n (by omega) w)
  clear hR
  go_enter Try.func30, Try.ntmps30
  go_wp2_with fail
  refine HL.out.mono ?_
  rintro e w' ⟨z, rfl, rfl⟩
  go_wp2_with fail
  refine (H.out z).mono ?_
  rintro e w' ⟨rfl, hp⟩
  have HP := Lib.hid hp
  clear hp
  go_wp2
  go_returns
  exact ⟨rfl, HP.out⟩
end Go.Proofs.Ytiigcjcolpmafaa

/- Two owned lists side by side; slices.Sort of one of them. -/
namespace Go.Proofs.Ytiigcjcolpmafaa
open Go.RowKit

structure Two (w : World) (B : Nat) (x : Value) (X : List Int) (y : Value) (Y : List Int) : Prop where
  ox : OwnL w B x X
  oy : OwnL w B y Y
  ne : ∀ g, x.ownBlock = some g → y.ownBlock = some g → False
theorem Two.symm {w : World} {B : Nat} {x y : Value} {X Y : List Int} (h : Two w B x X y Y) : Two w B y Y x X := ⟨h.oy, h.ox, fun g a b => h.ne g b a⟩
theorem Two.below {w w' : World} {B : Nat} {x y : Value} {X Y : List Int} (h : Two w B x X y Y) (hb : Below w.heap.size w w') : Two w' B x X y Y := ⟨h.ox.below hb, h.oy.below hb, h.ne⟩
theorem Two.nil (w : World) (B : Nat) : Two w B (.slice none 0 0) [] (.slice none 0 0) [] := ⟨OwnL.nil_ w B, OwnL.nil_ w B, fun g h => by cases h⟩
theorem own_lt {w : World} {B g : Nat} {x : Value} {X : List Int} (h : OwnL w B x X) (e : x.ownBlock = some g) : B ≤ g ∧ g < w.heap.size := World.ownsRow.lt h g e
theorem Two.push {w w' : World} {B g cap : Nat} {x y : Value} {X Y : List Int} {v : Int} (h : Two w B x X y Y) (hB : B ≤ w.heap.size) (hO : OwnL w' B (.slice (some ⟨g, 0, none⟩) (X.length + 1) cap) (X ++ [v]))
    (hk : (x = .slice (some ⟨g, 0, none⟩) X.length cap ∧ w.grownBy w' (some g)) ∨ (g = w.heap.size ∧ w.grownBy w' none)) :
    Two w' B (.slice (some ⟨g, 0, none⟩) (X.length + 1) cap) (X ++ [v]) y Y ∧ Below B w w' := by
  rcases hk with ⟨rfl, hk⟩ | ⟨rfl, hk⟩
  · have hg := own_lt h.ox rfl
    refine ⟨⟨hO, Exc.ownL hk h.oy ?_, fun k e1 e2 => h.ne k e1 e2⟩, Exc.below hk hg.1 hB⟩
    cases hb : y.ownBlock with
    | none => exact .inl rfl
    | some k => exact .inr (fun e => by injection e with e; subst e; exact h.ne k rfl hb)
  · refine ⟨⟨hO, (Kp.of_none (bs := []) hk).ownL h.oy (fun _ _ => by simp), fun k e1 e2 => ?_⟩, (Kp.of_none (bs := []) hk).below (by simp) hB⟩
    have := (own_lt h.oy e2).2
    have e3 : w.heap.size = k := by simpa [Value.ownBlock] using e1
    omega
set_option maxHeartbeats 2000000 in
set_option maxRecDepth 1000000 in
theorem ins0 (A : Option Addr) (c : Nat) (w : World) : Calls Try.prog 95 #[.slice A 0 c, .int .i64 0, .int .i64 0] w fun e w' => e = .returned (.tuple #[]) ∧ w = w' := by
  go_enter Try.func95, Try.ntmps95
  go_wp2
  refine wp_loop_rounds 1 ?_
  rw [rounds_succ]
  go_wp2
  go_returns
  exact ⟨rfl, rfl⟩
set_option maxHeartbeats 2000000 in
set_option maxRecDepth 1000000 in
theorem pdq0 (A : Option Addr) (c : Nat) (z : Int) (w : World) : Calls Try.prog 64 #[.slice A 0 c, .int .i64 0, .int .i64 0, .int .i64 z] w fun e w' => e = .returned (.tuple #[]) ∧ w = w' := by
  have H := Lib.hid (ins0 A c w)
  go_enter Try.func64, Try.ntmps64
  go_wp2
  refine wp_loop_rounds 1 ?_
  rw [rounds_succ]
  go_wp2_with fail
  refine H.out.mono ?_
  rintro e w' ⟨rfl, rfl⟩
  go_wp2
  go_returns
  exact ⟨rfl, rfl⟩
set_option maxHeartbeats 2000000 in
set_option maxRecDepth 1000000 in
theorem sort0 (A : Option Addr) (c : Nat) (w : World) : Calls Try.prog 30 #[.slice A 0 c] w fun e w' => e = .returned (.tuple #[]) ∧ w = w' := by
  have H := Lib.hid (fun z => pdq0 A c z w)
  have HL := Lib.hid (lenG_any 0 (by omega) w)
  go_enter Try.func30, Try.ntmps30
  go_wp2_with fail
  refine HL.out.mono ?_
  rintro e w' ⟨z, rfl, rfl⟩
  go_wp2_with fail
  refine (H.out z).mono ?_
  rintro e w' ⟨rfl, rfl⟩
  go_wp2
  go_returns
  exact ⟨rfl, rfl⟩
theorem Two.sort {w : World} {B : Nat} {x y : Value} {X Y : List Int} (h : Two w B x X y Y) (hB : B ≤ w.heap.size) (hn : X.length ≤ 12) :
    Calls Try.prog 30 #[x] w fun e w' => e = .returned (.tuple #[]) ∧ ∃ F, Two w' B x (lst X.length F) y Y ∧ (lst X.length F).Perm X ∧ (∀ i j, i ≤ j → j < X.length → F i ≤ F j) ∧ Below B w w' := by
  rcases Nat.eq_zero_or_pos X.length with e | e
  · have hX : X = [] := List.length_eq_zero_iff.1 e
    subst hX
    obtain ⟨A, c, rfl, -⟩ := OwnL.form h.ox
    show Calls Try.prog _ #[.slice A 0 c] w _
    refine (sort0 A c w).mono ?_
    rintro r w' ⟨rfl, rfl⟩
    exact ⟨rfl, fun _ => 0, h, List.Perm.refl _, fun i j _ hj => absurd hj (Nat.not_lt_zero _), Below.refl _ _⟩
  · have hx := h.ox
    rw [← lst_of X] at hx
    obtain ⟨g, cap, rfl, hg, hcm, hR⟩ := hx.rowCm e
    refine (sortG g cap X.length _ w hR e hn).mono ?_
    rintro r w' ⟨rfl, F, hR', hP, hS, hE⟩
    rw [lst_of X] at hP
    refine ⟨rfl, F, ⟨hR'.ownL hg hcm, Exc.ownL hE h.oy ?_, h.ne⟩, hP, fun i j hij hj => ?_, hE.below hg hB⟩
    · cases hb : y.ownBlock with
      | none => exact .inl rfl
      | some k => exact .inr (fun e => by injection e with e; subst e; exact h.ne k rfl hb)
    · rcases Nat.lt_or_eq_of_le hij with q | q
      · exact hS i j q hj
      · rw [q]; exact Int.le_refl _
end Go.Proofs.Ytiigcjcolpmafaa

