/- CheckWay; the reference's Shown. -/
import Derived.Test.YtclhamemlpbpiaaRta
import Derived.Test.YtclhamemlpbpiaaWm
namespace Go.Proofs.Ytclhamemlpbpiaa
open Go.RowKit

theorem wayCost_no (A B : Option Addr) (m c n k cB : Nat) (F : Nat → Nat → Int) (f : Nat → Int) (w : World) (h : Recs 3 w A m F) (hI : Ints w B k f) (hok : okM n m F = true) (hk : k ≤ 10000) (hkc : k ≤ cB) (hw : wkB n f k = false) :
    Lr 37 #[.agg #[.int .i64 n, .slice A m c], .slice B k cB] w (.tuple #[.int .i64 0, .bool false]) := by
  have := wayCost_any A B m c n k cB F f w h hI hok hk hkc
  rw [hw] at this
  exact this
theorem wayCost_yes (A B : Option Addr) (m c n k cB : Nat) (F : Nat → Nat → Int) (f : Nat → Int) (w : World) (h : Recs 3 w A m F) (hI : Ints w B k f) (hok : okM n m F = true) (hk : k ≤ 10000) (hkc : k ≤ cB) (hw : wkB n f k = true) :
    Lr 37 #[.agg #[.int .i64 n, .slice A m c], .slice B k cB] w (.tuple #[.int .i64 (wkS (stT n m F) f k), .bool (decide (0 < k) && decide (wkS (stT n m F) f k < 400))]) := by
  have := wayCost_any A B m c n k cB F f w h hI hok hk hkc
  rw [hw] at this
  exact this
/-- What CheckWay says. -/
def shB (n m : Nat) (F : Nat → Nat → Int) (f : Nat → Int) (k : Nat) (p : Nat → Int) (kp : Nat) : Bool :=
  (wkB n f k && (decide (0 < k) && decide (wkS (stT n m F) f k < 400))) && (boB n m F p kp && decide (p (f (k - 1)).toNat - p (f 0).toNat = wkS (stT n m F) f k))
set_option maxHeartbeats 4000000 in
set_option maxRecDepth 1000000 in
theorem CheckWay_ok (A B C : Option Addr) (m c n k cB kp cC : Nat) (F : Nat → Nat → Int) (f p : Nat → Int) (w : World) (h : Recs 3 w A m F) (hI : Ints w B k f) (hP : Ints w C kp p) (hok : okM n m F = true) (hk : k ≤ 10000) (hkc : k ≤ cB) (hkp : kp ≤ 10000) :
    Lr 19 #[.agg #[.int .i64 n, .slice A m c], .slice B k cB, .slice C kp cC] w (.tuple #[.bool (shB n m F f k p kp), .int .i64 0]) := by
  unfold Lr
  obtain ⟨⟨hn1, hn8⟩, hm16, hrd⟩ := okM_iff.1 hok
  have hB1 := MapB.new w n (.slice A m c)
  have hb1 := (Below.refl w.heap.size w).alloc (Nat.le_refl _) (.cells #[.int .i64 n, .slice A m c] 31)
  obtain ⟨W1, hW1⟩ : ∃ W1, W1 = w.alloc (.cells #[.int .i64 n, .slice A m c] 31) := ⟨_, rfl⟩
  rw [← hW1] at hB1 hb1
  have HWW : Hid (w.alloc (.cells #[.int .i64 n, .slice A m c] 31) = W1) := Lib.hid hW1.symm
  have HMB : Hid (∀ w', Below W1.heap.size W1 w' → MapB w' w.heap.size n (.slice A m c) ∧ Below w.heap.size w w') := Lib.hid (fun w' hb => ⟨hB1.keep hb, hb1.trans (hb.mono hb1.size)⟩)
  have HV := Lib.hid (validM_any A m c n F W1 (h.keep hb1) (by unfold maxLen; omega))
  rw [hok] at HV
  have HIn := Lib.hid (fun w' (hb : Below W1.heap.size W1 w') => hI.keep (hb1.trans (hb.mono hb1.size)))
  have HPn := Lib.hid (fun w' (hb : Below W1.heap.size W1 w') => hP.keep (hb1.trans (hb.mono hb1.size)))
  have HBo := Lib.hid (fun w' (hb : Below W1.heap.size W1 w') => areBounds_any A C m c n kp cC F p w' (h.keep (hb1.trans (hb.mono hb1.size))) (hP.keep (hb1.trans (hb.mono hb1.size))) hok hkp)
  have HNo := Lib.hid (fun w' (hb : Below W1.heap.size W1 w') hw => wayCost_no A B m c n k cB F f w' (h.keep (hb1.trans (hb.mono hb1.size))) (hI.keep (hb1.trans (hb.mono hb1.size))) hok hk hkc hw)
  have HYe := Lib.hid (fun w' (hb : Below W1.heap.size W1 w') hw => wayCost_yes A B m c n k cB F f w' (h.keep (hb1.trans (hb.mono hb1.size))) (hI.keep (hb1.trans (hb.mono hb1.size))) hok hk hkc hw)
  have HDef : Hid (shB n m F f k p kp = ((wkB n f k && (decide (0 < k) && decide (wkS (stT n m F) f k < 400))) && (boB n m F p kp && decide (p (f (k - 1)).toNat - p (f 0).toNat = wkS (stT n m F) f k)))) := Lib.hid rfl
  have HBt : Hid (boB n m F p kp = true → kp = n ∧ ∀ j, j < kp → -1000 ≤ p j ∧ p j ≤ 1000) := Lib.hid (fun h => by
    unfold boB at h
    rw [Bool.and_eq_true_iff, Bool.and_eq_true_iff, decide_eq_true_iff, rgB_iff] at h
    exact ⟨h.1, h.2.1⟩)
  generalize shB n m F f k p kp = SH at *
  generalize boB n m F p kp = BO at *
  generalize wkS (stT n m F) f k = cs at *
  clear hB1 hb1 hW1 h hI hP hok hm16 hrd
  go_enter Try.func19, Try.ntmps19
  go_wp2_with fail
  rw [HWW.out]
  clear HWW
  refine HV.out.use fun w2 hb2 => ?_
  have HB2 := Lib.hid hb2
  have q0 := (HMB.out w2 hb2).1.c0
  have q1 := (HMB.out w2 hb2).1.c1
  clear hb2 HV
  cases hw : wkB n f k with
  | false =>
    have E := Lib.hid (show SH = false by rw [HDef.out, hw]; rfl)
    have HC := Lib.hid (HNo.out w2 HB2.out hw)
    clear hw
    go_wp2_with fail
    refine HC.out.use fun w3 hb3 => ?_
    have HB3 := Lib.hid (HMB.out _ (HB2.out.trans (hb3.mono HB2.out.size))).2
    clear hb3 q0 q1
    go_wp2
    go_returns
    exact ⟨by rw [E.out]; rfl, HB3.out⟩
  | true =>
    have HC := Lib.hid (HYe.out w2 HB2.out hw)
    have HW := Lib.hid hw
    clear hw
    cases hkb : (decide (0 < k) && decide (cs < 400)) with
    | false =>
      have E := Lib.hid (show SH = false by rw [HDef.out, hkb, Bool.and_false]; rfl)
      rw [hkb] at HC
      clear hkb
      go_wp2_with fail
      refine HC.out.use fun w3 hb3 => ?_
      have HB3 := Lib.hid (HMB.out _ (HB2.out.trans (hb3.mono HB2.out.size))).2
      clear hb3 q0 q1
      go_wp2
      go_returns
      exact ⟨by rw [E.out]; rfl, HB3.out⟩
    | true =>
      have HK := Lib.hid hkb
      rw [hkb] at HC
      rw [Bool.and_eq_true_iff, decide_eq_true_iff, decide_eq_true_iff] at hkb
      have hk0 : 0 < k := hkb.1
      clear hkb
      go_wp2_with fail
      refine HC.out.use fun w3 hb3 => ?_
      have HB3 := Lib.hid (HB2.out.trans (hb3.mono HB2.out.size))
      clear hb3 q0 q1
      have q0 := (HMB.out w3 HB3.out).1.c0
      have q1 := (HMB.out w3 HB3.out).1.c1
      have HBc := Lib.hid (HBo.out w3 HB3.out)
      cases hbo : BO with
      | false =>
        have E := Lib.hid (show SH = false by rw [HDef.out, hbo, Bool.false_and, Bool.and_false])
        rw [hbo] at HBc
        clear hbo
        go_wp2_with fail
        refine HBc.out.use fun w4 hb4 => ?_
        have HB4 := Lib.hid (HMB.out _ (HB3.out.trans (hb4.mono HB3.out.size))).2
        clear hb4 q0 q1
        go_wp2
        go_returns
        exact ⟨by rw [E.out]; rfl, HB4.out⟩
      | true =>
        have HBo1 := Lib.hid hbo
        rw [hbo] at HBc
        clear hbo
        go_wp2_with fail
        refine HBc.out.use fun w4 hb4 => ?_
        have HB4 := Lib.hid (HB3.out.trans (hb4.mono HB3.out.size))
        clear hb4 q0 q1
        obtain ⟨hkpn, hpb⟩ := HBt.out HBo1.out
        have HD := Lib.hid (show SH = decide (p (f (k - 1)).toNat - p (f 0).toNat = cs) by rw [HDef.out, HW.out, HK.out, HBo1.out]; rfl)
        have hwk := wkB_iff.1 HW.out
        obtain ⟨r, hr⟩ : ∃ r, r = k - 1 := ⟨_, rfl⟩
        rw [← hr] at HD
        have hrk0 : r < k := by omega
        obtain ⟨x, hx⟩ : ∃ x : Nat, f r = x := ⟨(f r).toNat, by have := (hwk r hrk0).1; omega⟩
        obtain ⟨z, hz⟩ : ∃ z : Nat, f 0 = z := ⟨(f 0).toNat, by have := (hwk 0 hk0).1; omega⟩
        have hxk : x < kp := by have := (hwk r hrk0).1; omega
        have hzk : z < kp := by have := (hwk 0 hk0).1; omega
        rw [hx, hz, Int.toNat_natCast, Int.toNat_natCast] at HD
        obtain ⟨bB, oB, rfl, -⟩ := (HIn.out w4 HB4.out).at hk0
        obtain ⟨bC, oC, rfl, -⟩ := (HPn.out w4 HB4.out).at (show 0 < kp by omega)
        have c0 := Ints.cell (HIn.out w4 HB4.out) hrk0
        have c1 := Ints.cell0 (HIn.out w4 HB4.out) hk0
        rw [hx] at c0
        rw [hz] at c1
        have c2 := Ints.cell (HPn.out w4 HB4.out) hxk
        have c3 := Ints.cell (HPn.out w4 HB4.out) hzk
        have hp1 := (hpb x hxk).1
        have hp2 := (hpb x hxk).2
        have hp3 := (hpb z hzk).1
        have hp4 := (hpb z hzk).2
        have hw2 : IntKind.i64.wrap ((k : Int) - 1) = (r : Int) := (IntWalk.i64_in _ ⟨by omega, by omega⟩).trans (by omega)
        have hrki : (r : Int) < k := by omega
        have hki0 : (0 : Int) < k := by omega
        have hxki : (x : Int) < kp := by omega
        have hzki : (z : Int) < kp := by omega
        generalize p x = px at *
        generalize p z = pz at *
        have hw3 : IntKind.i64.wrap (px - pz) = px - pz := IntWalk.i64_in _ ⟨by omega, by omega⟩
        clear hr hx hz hkpn hpb hwk
        by_cases he : px - pz = cs
        · have hq := beq_t he
          have E := Lib.hid (show SH = true by rw [HD.out]; exact decide_eq_true he)
          clear he
          go_wp2_with fail
          refine wp_region_later (by kernel_rfl) (by kernel_rfl) ?_
          have k0 : ∀ q : Later w4, q.to.cell? ⟨bB, oB + r, none⟩ = some (.int .i64 (x : Int)) := fun q => q.cell c0
          have k1 : ∀ q : Later w4, q.to.cell? ⟨bB, oB, none⟩ = some (.int .i64 (z : Int)) := fun q => q.cell c1
          have k2 : ∀ q : Later w4, q.to.cell? ⟨bC, oC + x, none⟩ = some (.int .i64 px) := fun q => q.cell c2
          have k3 : ∀ q : Later w4, q.to.cell? ⟨bC, oC + z, none⟩ = some (.int .i64 pz) := fun q => q.cell c3
          clear c0 c1 c2 c3
          repeat
            (with_reducible refine wpQuiet_step ?_
             intro K hK
             go_simp
             refine hK _ ?_
             clear hK K)
          with_reducible refine wpQuiet_nil ?_
          intro _ hw'
          obtain ⟨q, rfl⟩ := hw'
          have HBy := Lib.hid (HMB.out _ (HB4.out.trans (q.below.mono HB4.out.size))).2
          clear k0 k1 k2 k3
          generalize q.to = wy at *
          go_wp2
          go_returns
          exact ⟨by rw [E.out]; rfl, HBy.out⟩
        · have hq := beq_f he
          have E := Lib.hid (show SH = false by rw [HD.out]; exact decide_eq_false he)
          clear he
          go_wp2_with fail
          refine wp_region_later (by kernel_rfl) (by kernel_rfl) ?_
          have k0 : ∀ q : Later w4, q.to.cell? ⟨bB, oB + r, none⟩ = some (.int .i64 (x : Int)) := fun q => q.cell c0
          have k1 : ∀ q : Later w4, q.to.cell? ⟨bB, oB, none⟩ = some (.int .i64 (z : Int)) := fun q => q.cell c1
          have k2 : ∀ q : Later w4, q.to.cell? ⟨bC, oC + x, none⟩ = some (.int .i64 px) := fun q => q.cell c2
          have k3 : ∀ q : Later w4, q.to.cell? ⟨bC, oC + z, none⟩ = some (.int .i64 pz) := fun q => q.cell c3
          clear c0 c1 c2 c3
          repeat
            (with_reducible refine wpQuiet_step ?_
             intro K hK
             go_simp
             refine hK _ ?_
             clear hK K)
          with_reducible refine wpQuiet_nil ?_
          intro _ hw'
          obtain ⟨q, rfl⟩ := hw'
          have HBy := Lib.hid (HMB.out _ (HB4.out.trans (q.below.mono HB4.out.size))).2
          clear k0 k1 k2 k3
          generalize q.to = wy at *
          go_wp2
          go_returns
          exact ⟨by rw [E.out]; rfl, HBy.out⟩

set_option maxHeartbeats 2000000 in
set_option maxRecDepth 1000000 in
theorem CheckWay_bad (A B C : Option Addr) (m c k cB kp cC : Nat) (N : Int) (F : Nat → Nat → Int) (w : World) (h : Recs 3 w A m F) (hm : m ≤ 10000) (hok : okM N m F = false) :
    Lr 19 #[.agg #[.int .i64 N, .slice A m c], .slice B k cB, .slice C kp cC] w (.tuple #[.bool false, .int .i64 2]) := by
  unfold Lr
  have hb1 := (Below.refl w.heap.size w).alloc (Nat.le_refl _) (.cells #[.int .i64 N, .slice A m c] 31)
  obtain ⟨W1, hW1⟩ : ∃ W1, W1 = w.alloc (.cells #[.int .i64 N, .slice A m c] 31) := ⟨_, rfl⟩
  rw [← hW1] at hb1
  have HWW : Hid (w.alloc (.cells #[.int .i64 N, .slice A m c] 31) = W1) := Lib.hid hW1.symm
  have HV := Lib.hid (validM_any A m c N F W1 (h.keep hb1) (by unfold maxLen; omega))
  rw [hok] at HV
  have HB := Lib.hid (fun w' (hb : Below W1.heap.size W1 w') => hb1.trans (hb.mono hb1.size))
  clear hb1 hW1 h hok
  go_enter Try.func19, Try.ntmps19
  go_wp2_with fail
  rw [HWW.out]
  clear HWW
  refine HV.out.use fun w2 hb2 => ?_
  have HB2 := Lib.hid (HB.out w2 hb2)
  clear hb2
  go_wp2
  go_returns
  exact ⟨rfl, HB2.out⟩
end Go.Proofs.Ytclhamemlpbpiaa
