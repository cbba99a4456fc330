/- RouteProved, walked. -/
import Derived.Test.YtclhamemlpbpiaaRte
namespace Go.Proofs.Ytclhamemlpbpiaa
open Go.RowKit

set_option maxHeartbeats 16000000 in
set_option maxRecDepth 1000000 in
theorem routeProved_walk (N : Int) (A : Option Addr) (m c : Nat) (F : Nat → Nat → Int) (a b : Int) (B : Option Addr) (k cB : Nat) (f : Nat → Int) (C : Option Addr) (kp cC : Nat) (p : Nat → Int) (w : World) (h : ArgK 3 w A m c F) (_ : (Lit.int .i64 a).wf = true) (_ : (Lit.int .i64 b).wf = true) (hI : ArgI w B k cB f) (hP : ArgI w C kp cC p) :
    Calls Try.prog 7 #[.agg #[.int .i64 N, .slice A m c], .int .i64 a, .int .i64 b, .slice B k cB, .slice C kp cC] w fun e w' => e = .returned (.bool true) ∧ Below w.heap.size w w' := by
  have hB1 := MapBR.new w N (.slice A m c)
  have hb1 := (Below.refl w.heap.size w).alloc (Nat.le_refl _) (.cells #[.int .i64 N, .slice A m c] 24)
  obtain ⟨W1, hW1⟩ : ∃ W1, W1 = w.alloc (.cells #[.int .i64 N, .slice A m c] 24) := ⟨_, rfl⟩
  rw [← hW1] at hB1 hb1
  have HWW : Hid (w.alloc (.cells #[.int .i64 N, .slice A m c] 24) = W1) := Lib.hid hW1.symm
  have HMB : Hid (∀ w', Below W1.heap.size W1 w' → MapBR w' w.heap.size N (.slice A m c) ∧ Below w.heap.size w w') := Lib.hid (fun w' hb => ⟨hB1.keep hb, hb1.trans (hb.mono hb1.size)⟩)
  have hmx : m ≤ maxLen := by have := h.1; have := h.2.1; omega
  obtain ⟨M, hM⟩ : ∃ M, M = min m 18 := ⟨_, rfl⟩
  have hM18 : M ≤ 18 := by omega
  have HM := Lib.hid hM
  have HOf : Hid (∀ w', Below W1.heap.size W1 w' → Calls Try.prog 10 #[.agg #[.int .i64 N, .slice A m c]] w' fun e w2 => ∃ A2 c2, e = .returned (.agg #[.int .i64 N, .slice A2 M c2]) ∧ Recs 3 w2 A2 M F ∧ Below w'.heap.size w' w2) := Lib.hid (fun w' hb => by
    refine (ofM_any A m c N F w' (h.2.2.2.keep (hb1.trans (hb.mono hb1.size))) hmx).mono ?_
    rintro e w2 ⟨A2, c2, rfl, hO2, hb2⟩
    obtain ⟨A3, c3, e, -, hR, -⟩ := hO2.form
    injection e with e1 e2 e3
    subst e1
    rw [hM]
    exact ⟨A2, c2, rfl, hR, hb2⟩)
  have HVa := Lib.hid (fun w' (hb : Below W1.heap.size W1 w') => refValidM_any A m c N F w' (h.2.2.2.keep (hb1.trans (hb.mono hb1.size))) hmx)
  have HLf := Lib.hid (fun w' (hb : Below W1.heap.size W1 w') => list_any B k cB f w' (hI.below (hb1.trans (hb.mono hb1.size))))
  have HLp := Lib.hid (fun w' (hb : Below W1.heap.size W1 w') => list_any C kp cC p w' (hP.below (hb1.trans (hb.mono hb1.size))))
  have HIf := Lib.hid (fun w' (hb : Below W1.heap.size W1 w') => hI.2.2.2.keep (hb1.trans (hb.mono hb1.size)))
  have HIp := Lib.hid (fun w' (hb : Below W1.heap.size W1 w') => hP.2.2.2.keep (hb1.trans (hb.mono hb1.size)))
  have HStp := Lib.hid (fun w' (z : Int) => stop_any A m c N z w')
  clear hB1 hb1 hW1 h hI hP hmx hM
  go_enter Try.func7, Try.ntmps7
  go_wp2_with fail
  rw [HWW.out]
  clear HWW
  refine (HOf.out W1 (Below.refl _ _)).mono ?_
  rintro e w2 ⟨A2, c2, rfl, hR2, hb2⟩
  have HR2 := Lib.hid hR2
  have HB2 := Lib.hid hb2
  clear hb2 hR2
  cases hok : okM N m F with
  | false =>
    have HDb := Lib.hid (Distances_bad A2 M c2 N F w2 HR2.out (by omega) (by rw [HM.out, okM_min]; exact hok))
    clear hok
    go_wp2_with fail
    refine HDb.out.mono ?_
    rintro e w3 ⟨rfl, hb3⟩
    have HB3 := Lib.hid (HB2.out.trans (hb3.mono HB2.out.size))
    clear hb3
    go_wp2_with fail
    refine (awake_any w3).use fun w9 hb9 => ?_
    have HB9 := Lib.hid (HB3.out.trans (hb9.mono HB3.out.size))
    clear hb9
    go_wp2
    go_ret
    exact ⟨rfl, (HMB.out _ HB9.out).2⟩
  | true =>
    obtain ⟨n, rfl⟩ : ∃ n : Nat, N = n := ⟨N.toNat, by have := (okM_iff.1 hok).1; omega⟩
    have hok' : okM n M F = true := by rw [HM.out, okM_min]; exact hok
    have hn8 : n ≤ 8 := by have := (okM_iff.1 hok).1; omega
    have hn1 : 0 < n := by have := (okM_iff.1 hok).1; omega
    have HOk := Lib.hid hok'
    rw [hok] at HVa
    have HDg := Lib.hid (Distances_ok A2 M c2 n F w2 HR2.out hok')
    have HBd := Lib.hid (fun i => dsT_bd hok' i)
    clear hok hok'
    go_wp2_with fail
    refine HDg.out.mono ?_
    rintro e w3 ⟨G, V, rfl, -, hg, ho, hb3⟩
    have HR := Lib.hid (RowsD.of hn1 hg ho)
    have HB3 := Lib.hid (HB2.out.trans (hb3.mono HB2.out.size))
    have q0 := (HMB.out _ HB3.out).1.c0
    have q1 := (HMB.out _ HB3.out).1.c1
    clear hg ho hb3 HDg HR2
    go_wp2_with fail
    refine (HVa.out _ HB3.out).use fun w4 hb4 => ?_
    have HB4 := Lib.hid (HB3.out.trans (hb4.mono HB3.out.size))
    have HK4 := Lib.hid hb4
    clear hb4 q0 q1
    obtain ⟨u, hu, hU⟩ := by_stop a (show 1 ≤ n by omega) hn8
    obtain ⟨v, hv, hV⟩ := by_stop b (show 1 ≤ n by omega) hn8
    have hnz : ¬ (n : Int) = 0 := by omega
    have hn0 : (0 : Int) < n := by omega
    have q0 := (HMB.out _ HB4.out).1.c0
    have q1 := (HMB.out _ HB4.out).1.c1
    go_wp2_with fail
    go_quiet (fail)
    rename_i nq
    have HB5 := Lib.hid (HB4.out.trans (((Dn.refl w4).drewN nq).below _))
    have HK5 := Lib.hid (HK4.out.trans (((Dn.refl w4).drewN nq).below _))
    rw [hU, hV]
    clear q0 q1 hU hV
    generalize w4.drewN nq = w5 at *
    have q0 := (HMB.out _ HB5.out).1.c0
    have q1 := (HMB.out _ HB5.out).1.c1
    go_wp2_with fail
    refine (HOf.out _ HB5.out).mono ?_
    rintro e w6 ⟨A6, c6, rfl, hR6, hb6⟩
    have HB6 := Lib.hid (HB5.out.trans (hb6.mono HB5.out.size))
    have HK6 := Lib.hid (HK5.out.trans (hb6.mono HK5.out.size))
    have HWy := Lib.hid (Way_ok A6 M c6 n u v F w6 hR6 HOk.out hu hv)
    clear hb6 hR6 q0 q1
    go_wp2_with fail
    refine HWy.out.mono ?_
    rintro e w7 ⟨hor, hb7⟩
    have HB7 := Lib.hid (HB6.out.trans (hb7.mono HB6.out.size))
    have HK7 := Lib.hid (HK6.out.trans (hb7.mono HK6.out.size))
    have q0 := (HMB.out _ HB7.out).1.c0
    have q1 := (HMB.out _ HB7.out).1.c1
    clear hb7 HWy
    rcases hor with ⟨h400, rfl⟩ | ⟨hlt, vW, L, rfl, hwy, hOL⟩
    · have HN400 := Lib.hid h400
      clear h400
      go_wp2_with fail
      refine (HOf.out _ HB7.out).mono ?_
      rintro e w8 ⟨A8, c8, rfl, hR8, hb8⟩
      have HB8 := Lib.hid (HB7.out.trans (hb8.mono HB7.out.size))
      have HK8 := Lib.hid (HK7.out.trans (hb8.mono HK7.out.size))
      have HPo := Lib.hid (potentials_ok A8 M c8 n u F w8 hR8 HOk.out hu)
      clear hb8 hR8 q0 q1
      go_wp2_with fail
      refine HPo.out.mono ?_
      rintro e w9 ⟨hor9, hb9⟩
      have HB9 := Lib.hid (HB8.out.trans (hb9.mono HB8.out.size))
      have HK9 := Lib.hid (HK8.out.trans (hb9.mono HK8.out.size))
      rcases hor9 with ⟨hh, rfl⟩ | ⟨hh, -⟩
      · clear hh hb9 HPo
        have q0 := (HMB.out _ HB9.out).1.c0
        have q1 := (HMB.out _ HB9.out).1.c1
        go_wp2_with fail
        refine (HOf.out _ HB9.out).mono ?_
        rintro e wa ⟨Aa, ca, rfl, hRa, hba⟩
        have HBa := Lib.hid (HB9.out.trans (hba.mono HB9.out.size))
        have HKa := Lib.hid (HK9.out.trans (hba.mono HK9.out.size))
        have HRa := Lib.hid hRa
        clear hba hRa q0 q1
        go_wp2_with fail
        refine (HLf.out wa HBa.out).mono ?_
        rintro e wb ⟨vb, rfl, hOb, hbb⟩
        obtain ⟨Ab, cb, rfl, -, hIb, -, hkb⟩ := hOb.form
        rw [lst_len] at hIb hkb ⊢
        have HIb := Lib.hid (hIb.congr (g := f) (fun b hb => lst_getD _ _ _ hb))
        have HBb := Lib.hid (HBa.out.trans (hbb.mono HBa.out.size))
        have HKb := Lib.hid (HKa.out.trans (hbb.mono HKa.out.size))
        have HRb := Lib.hid (HRa.out.keep hbb)
        clear hOb hIb hbb
        go_wp2_with fail
        refine (HLp.out wb HBb.out).mono ?_
        rintro e wc ⟨vc, rfl, hOc, hbc⟩
        obtain ⟨Ac, cc, rfl, -, hIc, -, -⟩ := hOc.form
        rw [lst_len] at hIc ⊢
        have HIc := Lib.hid (hIc.congr (g := p) (fun b hb => lst_getD _ _ _ hb))
        have HBc := Lib.hid (HBb.out.trans (hbc.mono HBb.out.size))
        have HKc := Lib.hid (HKb.out.trans (hbc.mono HKb.out.size))
        have HRc := Lib.hid (HRb.out.keep hbc)
        have HFc := Lib.hid (HIb.out.keep hbc)
        clear hOc hIc hbc
        have HCk := Lib.hid (CheckWay_ok Aa Ab Ac M ca n (min k 18) cb (min kp 18) cc F f p wc HRc.out HFc.out HIc.out HOk.out (by omega) hkb (by omega))
        have HDi := Lib.hid (fun h => sh_dist (f := f) (p := p) (k := min k 18) (kp := min kp 18) HOk.out h)
        generalize shB n M F f (min k 18) p (min kp 18) = SH at *
        clear hkb
        go_wp2_with fail
        refine HCk.out.use fun wd hbd => ?_
        have HBd2 := Lib.hid (HBc.out.trans (hbd.mono HBc.out.size))
        have HKd := Lib.hid (HKc.out.trans (hbd.mono HKc.out.size))
        clear hbd HCk
        cases hsh : SH with
        | false =>
          clear hsh
          go_wp2_with fail
          refine (awake_any wd).use fun we hbe => ?_
          have HBe := Lib.hid (HBd2.out.trans (hbe.mono HBd2.out.size))
          clear hbe
          go_wp2
          go_ret
          exact ⟨rfl, (HMB.out _ HBe.out).2⟩
        | true =>
          obtain ⟨g0, g1, g2, g3, g4, g5⟩ := HDi.out hsh
          have hk18 : min k 18 = k := by omega
          have hkp18 : min kp 18 = kp := by omega
          rw [hk18] at g0 g1 g3 g5
          rw [hkp18] at g2
          obtain ⟨x, hx⟩ : ∃ x : Nat, f 0 = x := ⟨(f 0).toNat, by have := g3 0 (by omega); omega⟩
          obtain ⟨r, hr⟩ : ∃ r, r = k - 1 := ⟨_, rfl⟩
          rw [← hr] at g5
          have hrk : r < k := by omega
          obtain ⟨y, hy⟩ : ∃ y : Nat, f r = y := ⟨(f r).toNat, by have := g3 r hrk; omega⟩
          have hxn : x < n := by have := g3 0 (by omega); omega
          have hyn : y < n := by have := g3 r hrk; omega
          have hqk : ((k : Int) == 0) = false := beq_f (by omega)
          have hqp : ((kp : Int) != n) = false := bne_f (by omega)
          have HKp := Lib.hid g2
          have hx1 := (g4 x hxn).1
          have hx2 := (g4 x hxn).2
          have hy1 := (g4 y hyn).1
          have hy2 := (g4 y hyn).2
          rw [hx, hy, Int.toNat_natCast, Int.toNat_natCast] at g5
          have hw2 : IntKind.i64.wrap ((k : Int) - 1) = (r : Int) := (IntWalk.i64_in _ ⟨by omega, by omega⟩).trans (by omega)
          have hrki : (r : Int) < k := by omega
          have hki0 : (0 : Int) < k := by omega
          have HX := Lib.hid hx
          have HY := Lib.hid hy
          have HG5 := Lib.hid g5
          have hk0 : 0 < k := g0
          clear hsh g0 g1 g2 g3 g4 g5 hk18 hkp18 hx hy hr HDi
          have q0 := (HMB.out _ HBd2.out).1.c0
          have q1 := (HMB.out _ HBd2.out).1.c1
          obtain ⟨bB, oB, rfl, -⟩ := (HIf.out wd HBd2.out).at hk0
          have c0 := Ints.cell0 (HIf.out wd HBd2.out) hk0
          have c1 := Ints.cell (HIf.out wd HBd2.out) hrk
          rw [HX.out] at c0
          rw [HY.out] at c1
          go_wp2_with fail
          refine wp_region_later (by kernel_rfl) (by kernel_rfl) ?_
          have k0 : ∀ q : Later wd, q.to.cell? ⟨bB, oB, none⟩ = some (.int .i64 (x : Int)) := fun q => q.cell c0
          have k1 : ∀ q : Later wd, q.to.cell? ⟨bB, oB + r, none⟩ = some (.int .i64 (y : Int)) := fun q => q.cell c1
          clear c0 c1 q0 q1
          repeat
            (with_reducible refine wpQuiet_step ?_
             intro K hK
             go_simp
             refine hK _ ?_
             clear hK K)
          with_reducible refine wpQuiet_nil ?_
          intro _ hw'
          obtain ⟨q, rfl⟩ := hw'
          have HBf := Lib.hid (HBd2.out.trans (q.below.mono HBd2.out.size))
          have HKf := Lib.hid (HKd.out.trans (q.below.mono HKd.out.size))
          clear k0 k1
          generalize q.to = wf at *
          have q0 := (HMB.out _ HBf.out).1.c0
          have q1 := (HMB.out _ HBf.out).1.c1
          obtain ⟨bC, oC, rfl, -⟩ := (HIp.out wf HBf.out).at (show 0 < kp by have := HKp.out; omega)
          have c2 := Ints.cell (HIp.out wf HBf.out) (show x < kp by have := HKp.out; omega)
          have c3 := Ints.cell (HIp.out wf HBf.out) (show y < kp by have := HKp.out; omega)
          obtain ⟨bR, oR, cR, d1, d2⟩ := (HR.out.keep HKf.out) x hxn
          have d3 := d2 y hyn
          have hxkp : (x : Int) < kp := by have := HKp.out; omega
          have hykp : (y : Int) < kp := by have := HKp.out; omega
          have hxni : (x : Int) < n := by omega
          have hyni : (y : Int) < n := by omega
          have hix : inB (n : Int) (x : Int) = true := inB_t.2 ⟨by omega, by omega⟩
          have hiy : inB (n : Int) (y : Int) = true := inB_t.2 ⟨by omega, by omega⟩
          have HSx := Lib.hid (fun q : Later wf => stop_any A m c n x q.to)
          have HSy := Lib.hid (fun q : Later wf => stop_any A m c n y q.to)
          rw [hix] at HSx
          rw [hiy] at HSy
          have HAw := Lib.hid (fun q : Later wf => awake_any q.to)
          generalize rowD (dsT n M F) x y = dv at *
          generalize p x = px at *
          generalize p y = py at *
          have hw3 : IntKind.i64.wrap (py - px) = py - px := IntWalk.i64_in _ ⟨by omega, by omega⟩
          have hq : (py - px == dv) = true := beq_t HG5.out
          clear d2 hix hiy
          go_wp2_with fail
          refine wp_region_later (by kernel_rfl) (by kernel_rfl) ?_
          have k0 : ∀ q : Later wf, q.to.cell? ⟨w.heap.size, 0, none⟩ = some (.int .i64 n) := fun q => q.cell q0
          have k1 : ∀ q : Later wf, q.to.cell? ⟨w.heap.size, 1, none⟩ = some (.slice A m c) := fun q => q.cell q1
          have k2 : ∀ q : Later wf, q.to.cell? ⟨bC, oC + x, none⟩ = some (.int .i64 px) := fun q => q.cell c2
          have k3 : ∀ q : Later wf, q.to.cell? ⟨bC, oC + y, none⟩ = some (.int .i64 py) := fun q => q.cell c3
          have k4 : ∀ q : Later wf, q.to.cell? ⟨G, x, none⟩ = some (.slice (some ⟨bR, oR, none⟩) n cR) := fun q => q.cell d1
          have k5 : ∀ q : Later wf, q.to.cell? ⟨bR, oR + y, none⟩ = some (.int .i64 dv) := fun q => q.cell d3
          clear c2 c3 d1 d3 q0 q1
          repeat
            (with_reducible refine wpQuiet_step ?_
             intro K hK
             go_simp
             first
               | (refine hK _ ?_; clear hK K)
               | (apply Exists.intro
                  refine ⟨fun _ => ?_, hK _ ?_⟩
                  (first
                    | (go_at_call 13; exact Lr.later (HAw.out _))
                    | (go_at_call_of 16 (x : Int); exact Lr.later (HSx.out _))
                    | (go_at_call 16; exact Lr.later (HSy.out _)))
                  clear hK K))
          with_reducible refine wpQuiet_nil ?_
          intro _ hw'
          obtain ⟨q, rfl⟩ := hw'
          have HBg := Lib.hid (HMB.out _ (HBf.out.trans (q.below.mono HBf.out.size))).2
          clear k0 k1 k2 k3 k4 k5
          generalize q.to = wg at *
          go_wp2
          go_ret
          exact ⟨rfl, HBg.out⟩
      · exfalso
        have := hasW_iff.2 (⟨v, hv, HN400.out⟩ : ∃ j, j < n ∧ (fun b => dsT n M F (8 * u + b)) j = 400)
        rw [hh] at this
        cases this
    · have HLt := Lib.hid hlt
      obtain ⟨AW, cW, rfl, -, hIW, -, hkW⟩ := hOL.form
      have HIW := Lib.hid hIW
      have HWyF := Lib.hid hwy
      have HLen := Lib.hid hkW
      clear hlt hwy hOL hIW hkW
      go_wp2_with fail
      refine (HOf.out _ HB7.out).mono ?_
      rintro e w8 ⟨A8, c8, rfl, hR8, hb8⟩
      have HB8 := Lib.hid (HB7.out.trans (hb8.mono HB7.out.size))
      have HK8 := Lib.hid (HK7.out.trans (hb8.mono HK7.out.size))
      have HIW8 := Lib.hid (HIW.out.keep hb8)
      have HPo := Lib.hid (potentials_ok A8 M c8 n u F w8 hR8 HOk.out hu)
      clear hb8 hR8 q0 q1
      go_wp2_with fail
      refine HPo.out.mono ?_
      rintro e w9 ⟨hor9, hb9⟩
      have HB9 := Lib.hid (HB8.out.trans (hb9.mono HB8.out.size))
      have HK9 := Lib.hid (HK8.out.trans (hb9.mono HK8.out.size))
      rcases hor9 with ⟨hh, rfl⟩ | ⟨hh, vP, rfl, hOP⟩
      · clear hh hb9 HPo
        have q0 := (HMB.out _ HB9.out).1.c0
        have q1 := (HMB.out _ HB9.out).1.c1
        go_wp2_with fail
        refine (HOf.out _ HB9.out).mono ?_
        rintro e wa ⟨Aa, ca, rfl, hRa, hba⟩
        have HBa := Lib.hid (HB9.out.trans (hba.mono HB9.out.size))
        have HKa := Lib.hid (HK9.out.trans (hba.mono HK9.out.size))
        have HRa := Lib.hid hRa
        clear hba hRa q0 q1
        go_wp2_with fail
        refine (HLf.out wa HBa.out).mono ?_
        rintro e wb ⟨vb, rfl, hOb, hbb⟩
        obtain ⟨Ab, cb, rfl, -, hIb, -, hkb⟩ := hOb.form
        rw [lst_len] at hIb hkb ⊢
        have HIb := Lib.hid (hIb.congr (g := f) (fun b hb => lst_getD _ _ _ hb))
        have HBb := Lib.hid (HBa.out.trans (hbb.mono HBa.out.size))
        have HKb := Lib.hid (HKa.out.trans (hbb.mono HKa.out.size))
        have HRb := Lib.hid (HRa.out.keep hbb)
        clear hOb hIb hbb
        go_wp2_with fail
        refine (HLp.out wb HBb.out).mono ?_
        rintro e wc ⟨vc, rfl, hOc, hbc⟩
        obtain ⟨Ac, cc, rfl, -, hIc, -, -⟩ := hOc.form
        rw [lst_len] at hIc ⊢
        have HIc := Lib.hid (hIc.congr (g := p) (fun b hb => lst_getD _ _ _ hb))
        have HBc := Lib.hid (HBb.out.trans (hbc.mono HBb.out.size))
        have HKc := Lib.hid (HKb.out.trans (hbc.mono HKb.out.size))
        have HRc := Lib.hid (HRb.out.keep hbc)
        have HFc := Lib.hid (HIb.out.keep hbc)
        clear hOc hIc hbc
        have HCk := Lib.hid (CheckWay_ok Aa Ab Ac M ca n (min k 18) cb (min kp 18) cc F f p wc HRc.out HFc.out HIc.out HOk.out (by omega) hkb (by omega))
        have HDi := Lib.hid (fun h => sh_dist (f := f) (p := p) (k := min k 18) (kp := min kp 18) HOk.out h)
        generalize shB n M F f (min k 18) p (min kp 18) = SH at *
        clear hkb
        go_wp2_with fail
        refine HCk.out.use fun wd hbd => ?_
        have HBd2 := Lib.hid (HBc.out.trans (hbd.mono HBc.out.size))
        have HKd := Lib.hid (HKc.out.trans (hbd.mono HKc.out.size))
        clear hbd HCk
        cases hsh : SH with
        | false =>
          clear hsh
          go_wp2_with fail
          refine (awake_any wd).use fun we hbe => ?_
          have HBe := Lib.hid (HBd2.out.trans (hbe.mono HBd2.out.size))
          clear hbe
          go_wp2
          go_ret
          exact ⟨rfl, (HMB.out _ HBe.out).2⟩
        | true =>
          obtain ⟨g0, g1, g2, g3, g4, g5⟩ := HDi.out hsh
          have hk18 : min k 18 = k := by omega
          have hkp18 : min kp 18 = kp := by omega
          rw [hk18] at g0 g1 g3 g5
          rw [hkp18] at g2
          obtain ⟨x, hx⟩ : ∃ x : Nat, f 0 = x := ⟨(f 0).toNat, by have := g3 0 (by omega); omega⟩
          obtain ⟨r, hr⟩ : ∃ r, r = k - 1 := ⟨_, rfl⟩
          rw [← hr] at g5
          have hrk : r < k := by omega
          obtain ⟨y, hy⟩ : ∃ y : Nat, f r = y := ⟨(f r).toNat, by have := g3 r hrk; omega⟩
          have hxn : x < n := by have := g3 0 (by omega); omega
          have hyn : y < n := by have := g3 r hrk; omega
          have hqk : ((k : Int) == 0) = false := beq_f (by omega)
          have hqp : ((kp : Int) != n) = false := bne_f (by omega)
          have HKp := Lib.hid g2
          have hx1 := (g4 x hxn).1
          have hx2 := (g4 x hxn).2
          have hy1 := (g4 y hyn).1
          have hy2 := (g4 y hyn).2
          rw [hx, hy, Int.toNat_natCast, Int.toNat_natCast] at g5
          have hw2 : IntKind.i64.wrap ((k : Int) - 1) = (r : Int) := (IntWalk.i64_in _ ⟨by omega, by omega⟩).trans (by omega)
          have hrki : (r : Int) < k := by omega
          have hki0 : (0 : Int) < k := by omega
          have HX := Lib.hid hx
          have HY := Lib.hid hy
          have HG5 := Lib.hid g5
          have hk0 : 0 < k := g0
          clear hsh g0 g1 g2 g3 g4 g5 hk18 hkp18 hx hy hr HDi
          have q0 := (HMB.out _ HBd2.out).1.c0
          have q1 := (HMB.out _ HBd2.out).1.c1
          obtain ⟨bB, oB, rfl, -⟩ := (HIf.out wd HBd2.out).at hk0
          have c0 := Ints.cell0 (HIf.out wd HBd2.out) hk0
          have c1 := Ints.cell (HIf.out wd HBd2.out) hrk
          rw [HX.out] at c0
          rw [HY.out] at c1
          go_wp2_with fail
          refine wp_region_later (by kernel_rfl) (by kernel_rfl) ?_
          have k0 : ∀ q : Later wd, q.to.cell? ⟨bB, oB, none⟩ = some (.int .i64 (x : Int)) := fun q => q.cell c0
          have k1 : ∀ q : Later wd, q.to.cell? ⟨bB, oB + r, none⟩ = some (.int .i64 (y : Int)) := fun q => q.cell c1
          clear c0 c1 q0 q1
          repeat
            (with_reducible refine wpQuiet_step ?_
             intro K hK
             go_simp
             refine hK _ ?_
             clear hK K)
          with_reducible refine wpQuiet_nil ?_
          intro _ hw'
          obtain ⟨q, rfl⟩ := hw'
          have HBf := Lib.hid (HBd2.out.trans (q.below.mono HBd2.out.size))
          have HKf := Lib.hid (HKd.out.trans (q.below.mono HKd.out.size))
          clear k0 k1
          generalize q.to = wf at *
          have q0 := (HMB.out _ HBf.out).1.c0
          have q1 := (HMB.out _ HBf.out).1.c1
          obtain ⟨bC, oC, rfl, -⟩ := (HIp.out wf HBf.out).at (show 0 < kp by have := HKp.out; omega)
          have c2 := Ints.cell (HIp.out wf HBf.out) (show x < kp by have := HKp.out; omega)
          have c3 := Ints.cell (HIp.out wf HBf.out) (show y < kp by have := HKp.out; omega)
          obtain ⟨bR, oR, cR, d1, d2⟩ := (HR.out.keep HKf.out) x hxn
          have d3 := d2 y hyn
          have hxkp : (x : Int) < kp := by have := HKp.out; omega
          have hykp : (y : Int) < kp := by have := HKp.out; omega
          have hxni : (x : Int) < n := by omega
          have hyni : (y : Int) < n := by omega
          have hix : inB (n : Int) (x : Int) = true := inB_t.2 ⟨by omega, by omega⟩
          have hiy : inB (n : Int) (y : Int) = true := inB_t.2 ⟨by omega, by omega⟩
          have HSx := Lib.hid (fun q : Later wf => stop_any A m c n x q.to)
          have HSy := Lib.hid (fun q : Later wf => stop_any A m c n y q.to)
          rw [hix] at HSx
          rw [hiy] at HSy
          have HAw := Lib.hid (fun q : Later wf => awake_any q.to)
          generalize rowD (dsT n M F) x y = dv at *
          generalize p x = px at *
          generalize p y = py at *
          have hw3 : IntKind.i64.wrap (py - px) = py - px := IntWalk.i64_in _ ⟨by omega, by omega⟩
          have hq : (py - px == dv) = true := beq_t HG5.out
          clear d2 hix hiy
          go_wp2_with fail
          refine wp_region_later (by kernel_rfl) (by kernel_rfl) ?_
          have k0 : ∀ q : Later wf, q.to.cell? ⟨w.heap.size, 0, none⟩ = some (.int .i64 n) := fun q => q.cell q0
          have k1 : ∀ q : Later wf, q.to.cell? ⟨w.heap.size, 1, none⟩ = some (.slice A m c) := fun q => q.cell q1
          have k2 : ∀ q : Later wf, q.to.cell? ⟨bC, oC + x, none⟩ = some (.int .i64 px) := fun q => q.cell c2
          have k3 : ∀ q : Later wf, q.to.cell? ⟨bC, oC + y, none⟩ = some (.int .i64 py) := fun q => q.cell c3
          have k4 : ∀ q : Later wf, q.to.cell? ⟨G, x, none⟩ = some (.slice (some ⟨bR, oR, none⟩) n cR) := fun q => q.cell d1
          have k5 : ∀ q : Later wf, q.to.cell? ⟨bR, oR + y, none⟩ = some (.int .i64 dv) := fun q => q.cell d3
          clear c2 c3 d1 d3 q0 q1
          repeat
            (with_reducible refine wpQuiet_step ?_
             intro K hK
             go_simp
             first
               | (refine hK _ ?_; clear hK K)
               | (apply Exists.intro
                  refine ⟨fun _ => ?_, hK _ ?_⟩
                  (first
                    | (go_at_call 13; exact Lr.later (HAw.out _))
                    | (go_at_call_of 16 (x : Int); exact Lr.later (HSx.out _))
                    | (go_at_call 16; exact Lr.later (HSy.out _)))
                  clear hK K))
          with_reducible refine wpQuiet_nil ?_
          intro _ hw'
          obtain ⟨q, rfl⟩ := hw'
          have HBg := Lib.hid (HMB.out _ (HBf.out.trans (q.below.mono HBf.out.size))).2
          clear k0 k1 k2 k3 k4 k5
          generalize q.to = wg at *
          go_wp2
          go_ret
          exact ⟨rfl, HBg.out⟩
      · obtain ⟨AP, cP, rfl, -, hIP, -, -⟩ := hOP.form
        rw [lst_len] at hIP ⊢
        have HIP := Lib.hid (hIP.congr (g := fun b => dsT n M F (8 * u + b)) (fun b hb => lst_getD _ _ _ hb))
        have HIW9 := Lib.hid (HIW8.out.keep hb9)
        clear hh hb9 HPo hOP hIP
        have q0 := (HMB.out _ HB9.out).1.c0
        have q1 := (HMB.out _ HB9.out).1.c1
        go_wp2_with fail
        refine (HOf.out _ HB9.out).mono ?_
        rintro e wx ⟨Ax, cx, rfl, hRx, hbx⟩
        have HBx := Lib.hid (HB9.out.trans (hbx.mono HB9.out.size))
        have HKx := Lib.hid (HK9.out.trans (hbx.mono HK9.out.size))
        have HRx := Lib.hid hRx
        have HShW := Lib.hid (sh_way HOk.out hu hv HLt.out HWyF.out)
        have HLn : Hid (L.length ≤ 10000) := Lib.hid (by
          have h1 := HShW.out
          unfold shB at h1
          rw [Bool.and_eq_true_iff, Bool.and_eq_true_iff] at h1
          have := wkB_le h1.1.1
          omega)
        have HCx := Lib.hid (CheckWay_ok Ax AW AP M cx n L.length cW n cP F (fun i => L.getD i 0) (fun b => dsT n M F (8 * u + b)) wx HRx.out (HIW9.out.keep hbx) (HIP.out.keep hbx) HOk.out HLn.out HLen.out (by omega))
        rw [HShW.out] at HCx
        clear hbx hRx q0 q1 HShW HLn HIP
        go_wp2_with fail
        refine HCx.out.use fun wy hby => ?_
        have HBy := Lib.hid (HBx.out.trans (hby.mono HBx.out.size))
        have HKy := Lib.hid (HKx.out.trans (hby.mono HKx.out.size))
        clear hby HCx
        have q0 := (HMB.out _ HBy.out).1.c0
        have q1 := (HMB.out _ HBy.out).1.c1
        go_wp2_with fail
        refine (HOf.out _ HBy.out).mono ?_
        rintro e wa ⟨Aa, ca, rfl, hRa, hba⟩
        have HBa := Lib.hid (HBy.out.trans (hba.mono HBy.out.size))
        have HKa := Lib.hid (HKy.out.trans (hba.mono HKy.out.size))
        have HRa := Lib.hid hRa
        clear hba hRa q0 q1
        go_wp2_with fail
        refine (HLf.out wa HBa.out).mono ?_
        rintro e wb ⟨vb, rfl, hOb, hbb⟩
        obtain ⟨Ab, cb, rfl, -, hIb, -, hkb⟩ := hOb.form
        rw [lst_len] at hIb hkb ⊢
        have HIb := Lib.hid (hIb.congr (g := f) (fun b hb => lst_getD _ _ _ hb))
        have HBb := Lib.hid (HBa.out.trans (hbb.mono HBa.out.size))
        have HKb := Lib.hid (HKa.out.trans (hbb.mono HKa.out.size))
        have HRb := Lib.hid (HRa.out.keep hbb)
        clear hOb hIb hbb
        go_wp2_with fail
        refine (HLp.out wb HBb.out).mono ?_
        rintro e wc ⟨vc, rfl, hOc, hbc⟩
        obtain ⟨Ac, cc, rfl, -, hIc, -, -⟩ := hOc.form
        rw [lst_len] at hIc ⊢
        have HIc := Lib.hid (hIc.congr (g := p) (fun b hb => lst_getD _ _ _ hb))
        have HBc := Lib.hid (HBb.out.trans (hbc.mono HBb.out.size))
        have HKc := Lib.hid (HKb.out.trans (hbc.mono HKb.out.size))
        have HRc := Lib.hid (HRb.out.keep hbc)
        have HFc := Lib.hid (HIb.out.keep hbc)
        clear hOc hIc hbc
        have HCk := Lib.hid (CheckWay_ok Aa Ab Ac M ca n (min k 18) cb (min kp 18) cc F f p wc HRc.out HFc.out HIc.out HOk.out (by omega) hkb (by omega))
        have HDi := Lib.hid (fun h => sh_dist (f := f) (p := p) (k := min k 18) (kp := min kp 18) HOk.out h)
        generalize shB n M F f (min k 18) p (min kp 18) = SH at *
        clear hkb
        go_wp2_with fail
        refine HCk.out.use fun wd hbd => ?_
        have HBd2 := Lib.hid (HBc.out.trans (hbd.mono HBc.out.size))
        have HKd := Lib.hid (HKc.out.trans (hbd.mono HKc.out.size))
        clear hbd HCk
        cases hsh : SH with
        | false =>
          clear hsh
          go_wp2_with fail
          refine (awake_any wd).use fun we hbe => ?_
          have HBe := Lib.hid (HBd2.out.trans (hbe.mono HBd2.out.size))
          clear hbe
          go_wp2
          go_ret
          exact ⟨rfl, (HMB.out _ HBe.out).2⟩
        | true =>
          obtain ⟨g0, g1, g2, g3, g4, g5⟩ := HDi.out hsh
          have hk18 : min k 18 = k := by omega
          have hkp18 : min kp 18 = kp := by omega
          rw [hk18] at g0 g1 g3 g5
          rw [hkp18] at g2
          obtain ⟨x, hx⟩ : ∃ x : Nat, f 0 = x := ⟨(f 0).toNat, by have := g3 0 (by omega); omega⟩
          obtain ⟨r, hr⟩ : ∃ r, r = k - 1 := ⟨_, rfl⟩
          rw [← hr] at g5
          have hrk : r < k := by omega
          obtain ⟨y, hy⟩ : ∃ y : Nat, f r = y := ⟨(f r).toNat, by have := g3 r hrk; omega⟩
          have hxn : x < n := by have := g3 0 (by omega); omega
          have hyn : y < n := by have := g3 r hrk; omega
          have hqk : ((k : Int) == 0) = false := beq_f (by omega)
          have hqp : ((kp : Int) != n) = false := bne_f (by omega)
          have HKp := Lib.hid g2
          have hx1 := (g4 x hxn).1
          have hx2 := (g4 x hxn).2
          have hy1 := (g4 y hyn).1
          have hy2 := (g4 y hyn).2
          rw [hx, hy, Int.toNat_natCast, Int.toNat_natCast] at g5
          have hw2 : IntKind.i64.wrap ((k : Int) - 1) = (r : Int) := (IntWalk.i64_in _ ⟨by omega, by omega⟩).trans (by omega)
          have hrki : (r : Int) < k := by omega
          have hki0 : (0 : Int) < k := by omega
          have HX := Lib.hid hx
          have HY := Lib.hid hy
          have HG5 := Lib.hid g5
          have hk0 : 0 < k := g0
          clear hsh g0 g1 g2 g3 g4 g5 hk18 hkp18 hx hy hr HDi
          have q0 := (HMB.out _ HBd2.out).1.c0
          have q1 := (HMB.out _ HBd2.out).1.c1
          obtain ⟨bB, oB, rfl, -⟩ := (HIf.out wd HBd2.out).at hk0
          have c0 := Ints.cell0 (HIf.out wd HBd2.out) hk0
          have c1 := Ints.cell (HIf.out wd HBd2.out) hrk
          rw [HX.out] at c0
          rw [HY.out] at c1
          go_wp2_with fail
          refine wp_region_later (by kernel_rfl) (by kernel_rfl) ?_
          have k0 : ∀ q : Later wd, q.to.cell? ⟨bB, oB, none⟩ = some (.int .i64 (x : Int)) := fun q => q.cell c0
          have k1 : ∀ q : Later wd, q.to.cell? ⟨bB, oB + r, none⟩ = some (.int .i64 (y : Int)) := fun q => q.cell c1
          clear c0 c1 q0 q1
          repeat
            (with_reducible refine wpQuiet_step ?_
             intro K hK
             go_simp
             refine hK _ ?_
             clear hK K)
          with_reducible refine wpQuiet_nil ?_
          intro _ hw'
          obtain ⟨q, rfl⟩ := hw'
          have HBf := Lib.hid (HBd2.out.trans (q.below.mono HBd2.out.size))
          have HKf := Lib.hid (HKd.out.trans (q.below.mono HKd.out.size))
          clear k0 k1
          generalize q.to = wf at *
          have q0 := (HMB.out _ HBf.out).1.c0
          have q1 := (HMB.out _ HBf.out).1.c1
          obtain ⟨bC, oC, rfl, -⟩ := (HIp.out wf HBf.out).at (show 0 < kp by have := HKp.out; omega)
          have c2 := Ints.cell (HIp.out wf HBf.out) (show x < kp by have := HKp.out; omega)
          have c3 := Ints.cell (HIp.out wf HBf.out) (show y < kp by have := HKp.out; omega)
          obtain ⟨bR, oR, cR, d1, d2⟩ := (HR.out.keep HKf.out) x hxn
          have d3 := d2 y hyn
          have hxkp : (x : Int) < kp := by have := HKp.out; omega
          have hykp : (y : Int) < kp := by have := HKp.out; omega
          have hxni : (x : Int) < n := by omega
          have hyni : (y : Int) < n := by omega
          have hix : inB (n : Int) (x : Int) = true := inB_t.2 ⟨by omega, by omega⟩
          have hiy : inB (n : Int) (y : Int) = true := inB_t.2 ⟨by omega, by omega⟩
          have HSx := Lib.hid (fun q : Later wf => stop_any A m c n x q.to)
          have HSy := Lib.hid (fun q : Later wf => stop_any A m c n y q.to)
          rw [hix] at HSx
          rw [hiy] at HSy
          have HAw := Lib.hid (fun q : Later wf => awake_any q.to)
          generalize rowD (dsT n M F) x y = dv at *
          generalize p x = px at *
          generalize p y = py at *
          have hw3 : IntKind.i64.wrap (py - px) = py - px := IntWalk.i64_in _ ⟨by omega, by omega⟩
          have hq : (py - px == dv) = true := beq_t HG5.out
          clear d2 hix hiy
          go_wp2_with fail
          refine wp_region_later (by kernel_rfl) (by kernel_rfl) ?_
          have k0 : ∀ q : Later wf, q.to.cell? ⟨w.heap.size, 0, none⟩ = some (.int .i64 n) := fun q => q.cell q0
          have k1 : ∀ q : Later wf, q.to.cell? ⟨w.heap.size, 1, none⟩ = some (.slice A m c) := fun q => q.cell q1
          have k2 : ∀ q : Later wf, q.to.cell? ⟨bC, oC + x, none⟩ = some (.int .i64 px) := fun q => q.cell c2
          have k3 : ∀ q : Later wf, q.to.cell? ⟨bC, oC + y, none⟩ = some (.int .i64 py) := fun q => q.cell c3
          have k4 : ∀ q : Later wf, q.to.cell? ⟨G, x, none⟩ = some (.slice (some ⟨bR, oR, none⟩) n cR) := fun q => q.cell d1
          have k5 : ∀ q : Later wf, q.to.cell? ⟨bR, oR + y, none⟩ = some (.int .i64 dv) := fun q => q.cell d3
          clear c2 c3 d1 d3 q0 q1
          repeat
            (with_reducible refine wpQuiet_step ?_
             intro K hK
             go_simp
             first
               | (refine hK _ ?_; clear hK K)
               | (apply Exists.intro
                  refine ⟨fun _ => ?_, hK _ ?_⟩
                  (first
                    | (go_at_call 13; exact Lr.later (HAw.out _))
                    | (go_at_call_of 16 (x : Int); exact Lr.later (HSx.out _))
                    | (go_at_call 16; exact Lr.later (HSy.out _)))
                  clear hK K))
          with_reducible refine wpQuiet_nil ?_
          intro _ hw'
          obtain ⟨q, rfl⟩ := hw'
          have HBg := Lib.hid (HMB.out _ (HBf.out.trans (q.below.mono HBf.out.size))).2
          clear k0 k1 k2 k3 k4 k5
          generalize q.to = wg at *
          go_wp2
          go_ret
          exact ⟨rfl, HBg.out⟩
end Go.Proofs.Ytclhamemlpbpiaa
