/- RouteMetric, walked. -/
import Derived.Test.YtclhamemlpbpiaaWf
import Derived.Test.YtclhamemlpbpiaaHt
import Derived.Test.YtclhamemlpbpiaaHs
namespace Go.Proofs.Ytclhamemlpbpiaa
open Go.RowKit

set_option maxHeartbeats 8000000 in
set_option maxRecDepth 1000000 in
theorem routeMetric_walk (N : Int) (A : Option Addr) (m c : Nat) (F : Nat → Nat → Int) (w : World) (h : ArgK 3 w A m c F) :
    Calls Try.prog 8 #[.agg #[.int .i64 N, .slice A m c]] w fun e w' => e = .returned (.bool true) ∧ Below w.heap.size w w' := by
  have hB1 := MapBR.new w N (.slice A m c)
  have hb1 := (Below.refl w.heap.size w).alloc (Nat.le_refl _) (.cells #[.int .i64 N, .slice A m c] 24)
  obtain ⟨W1, hW1⟩ : ∃ W1, W1 = w.alloc (.cells #[.int .i64 N, .slice A m c] 24) := ⟨_, rfl⟩
  rw [← hW1] at hB1 hb1
  have HWW : Hid (w.alloc (.cells #[.int .i64 N, .slice A m c] 24) = W1) := Lib.hid hW1.symm
  have HMB : Hid (∀ w', Below W1.heap.size W1 w' → MapBR w' w.heap.size N (.slice A m c) ∧ Below w.heap.size w w') := Lib.hid (fun w' hb => ⟨hB1.keep hb, hb1.trans (hb.mono hb1.size)⟩)
  have HOf := Lib.hid (ofM_any A m c N F W1 (h.2.2.2.keep hb1) (by have := h.1; have := h.2.1; omega))
  clear hB1 hb1 hW1 h
  go_enter Try.func8, Try.ntmps8
  go_wp2_with fail
  rw [HWW.out]
  refine HOf.out.mono ?_
  rintro e w2 ⟨A2, c2, rfl, hO2, hb2⟩
  have hR2 : Recs 3 w2 A2 (min m 18) F := by
    obtain ⟨A3, c3, e, -, hR, -⟩ := hO2.form
    injection e with e1 e2 e3
    subst e1
    exact hR
  have HR2 := Lib.hid hR2
  have HB2 := Lib.hid hb2
  clear hO2 hb2 hR2 HOf HWW
  cases hok : okM N m F with
  | false =>
    have HDb := Lib.hid (Distances_bad A2 (min m 18) c2 N F w2 HR2.out (by omega) (by rw [okM_min]; exact hok))
    clear hok
    go_wp2_with fail
    refine HDb.out.mono ?_
    rintro e w3 ⟨rfl, hb3⟩
    have HB3 := Lib.hid (HB2.out.trans (hb3.mono HB2.out.size))
    clear hb3
    go_wp2_with fail
    refine (awake_any w3).use fun w4 hb4 => ?_
    have HB4 := Lib.hid (HB3.out.trans (hb4.mono HB3.out.size))
    clear hb4
    go_wp2
    go_ret
    exact ⟨rfl, (HMB.out _ HB4.out).2⟩
  | true =>
    obtain ⟨n, rfl⟩ : ∃ n : Nat, N = n := ⟨N.toNat, by have := (okM_iff.1 hok).1; omega⟩
    have hn8 : n ≤ 8 := by have := (okM_iff.1 hok).1; omega
    have hok' : okM n (min m 18) F = true := by rw [okM_min]; exact hok
    have HDg := Lib.hid (Distances_ok A2 (min m 18) c2 n F w2 HR2.out hok')
    have HMt := Lib.hid (fun a b (ha : a < n) (hb : b < n) => rowD_met hok' ha hb)
    have hn1 : 0 < n := by have := (okM_iff.1 hok).1; omega
    clear hok hok'
    generalize rowD (dsT n (min m 18) F) = D at *
    go_wp2_with fail
    refine HDg.out.mono ?_
    rintro e w3 ⟨G, V, rfl, -, hg, ho, hb3⟩
    have HR := Lib.hid (RowsD.of hn1 hg ho)
    have HB3 := Lib.hid (HB2.out.trans (hb3.mono HB2.out.size))
    have q0 := (HMB.out _ HB3.out).1.c0
    have hnn := bne_f (rfl : (n : Int) = n)
    clear hg ho hb3 HDg HR2
    go_wp2
    go_loopw [28] (fun i wr => ∃ k : Nat, k ≤ n ∧ i = .int .i64 k ∧ Below w3.heap.size w3 wr) (fun i _ => n - (intOf i).toNat)
    case atStart => exact ⟨0, Nat.zero_le _, rfl, Below.refl _ _⟩
    case round =>
      obtain ⟨a, ha, rfl, hDa⟩ := hrel
      clear q0
      by_cases hla : a < n
      · go_wp2
        go_loopw [33] (fun i wx => ∃ k : Nat, k ≤ n ∧ i = .int .i64 k ∧ Below w3.heap.size w3 wx) (fun i _ => n - (intOf i).toNat)
        case atStart => exact ⟨0, Nat.zero_le _, rfl, hDa⟩
        case round =>
          obtain ⟨b, hb, rfl, hDb⟩ := hrel
          clear hDa
          by_cases hlb : b < n
          · have HB4 := Lib.hid (HB3.out.trans (hDb.mono HB3.out.size))
            have q0 := (HMB.out _ HB4.out).1.c0
            have HR4 := Lib.hid (HR.out.keep hDb)
            obtain ⟨b1, o1, c1, r1, r2⟩ := HR4.out a hla
            obtain ⟨b2, o2, c2, r3, r4⟩ := HR4.out b hlb
            have r2 := r2 b hlb
            have r4 := r4 a hla
            obtain ⟨m1, m2, m3, m4, m5⟩ := HMt.out a b hla hlb
            have HM5 := Lib.hid m5
            have HDb := Lib.hid hDb
            have e1 := bne_f m1
            have e3 : decide (D a b < -1) = false := decide_eq_false (by omega)
            have e2 : (D a b == 0) = ((a : Int) == (b : Int)) := by
              by_cases e : a = b
              · rw [beq_t (m2.2 e), beq_t (by omega)]
              · rw [beq_f (fun h => e (m2.1 h)), beq_f (by omega)]
            have e4 : (((a : Int) == (b : Int)) != ((a : Int) == (b : Int))) = false := by cases ((a : Int) == (b : Int)) <;> rfl
            clear m1 m2 m3 m4 m5 hDb
            go_wp2_with fail
            refine wp_region_later (by kernel_rfl) (by kernel_rfl) ?_
            have k0 : ∀ q : Later wr, q.to.cell? ⟨w.heap.size, 0, none⟩ = some (.int .i64 n) := fun q => q.cell q0
            have k1 : ∀ q : Later wr, q.to.cell? ⟨G, a, none⟩ = some (.slice (some ⟨b1, o1, none⟩) n c1) := fun q => q.cell r1
            have k2 : ∀ q : Later wr, q.to.cell? ⟨b1, o1 + b, none⟩ = some (.int .i64 (D a b)) := fun q => q.cell r2
            have k3 : ∀ q : Later wr, q.to.cell? ⟨G, b, none⟩ = some (.slice (some ⟨b2, o2, none⟩) n c2) := fun q => q.cell r3
            have k4 : ∀ q : Later wr, q.to.cell? ⟨b2, o2 + a, none⟩ = some (.int .i64 (D b a)) := fun q => q.cell r4
            clear q0 r1 r2 r3 r4
            repeat
              (with_reducible refine wpQuiet_step ?_
               intro K hK
               go_simp
               (refine hK _ ?_; clear hK K))
            with_reducible refine wpQuiet_nil ?_
            intro _ hw'
            obtain ⟨q, rfl⟩ := hw'
            have HD5 := Lib.hid (HDb.out.trans (q.below.mono HDb.out.size))
            clear k0 k1 k2 k3 k4 e1 e2 e3 e4 HDb HB4 HR4
            generalize q.to = wq at *
            go_wp2
            go_loopw [87] (fun i wy => ∃ k : Nat, k ≤ n ∧ i = .int .i64 k ∧ Below w3.heap.size w3 wy) (fun i _ => n - (intOf i).toNat)
            case atStart => exact ⟨0, Nat.zero_le _, rfl, HD5.out⟩
            case round =>
              obtain ⟨k, hk, rfl, hDc⟩ := hrel
              clear HD5
              by_cases hlc : k < n
              · have HR6 := Lib.hid (HR.out.keep hDc)
                obtain ⟨b1, o1, c1, r1, r2⟩ := HR6.out a hla
                obtain ⟨b3, o3, c3, r5, r6⟩ := HR6.out k hlc
                have r3 := r2 b hlb
                have r4 := r2 k hlc
                have r6 := r6 b hlb
                have n1 := (HMt.out a k hla hlc).2.2
                have n2 := (HMt.out k b hlc hlb).2.2
                have n3 := (HMt.out a b hla hlb).2.2
                have n4 := n3.2.2 k hlc
                obtain ⟨x1a, x1b⟩ : -1 ≤ D a k ∧ D a k ≤ 399 := ⟨n1.1, n1.2.1⟩
                obtain ⟨x2a, x2b⟩ : -1 ≤ D k b ∧ D k b ≤ 399 := ⟨n2.1, n2.2.1⟩
                obtain ⟨x3a, x3b⟩ : -1 ≤ D a b ∧ D a b ≤ 399 := ⟨n3.1, n3.2.1⟩
                have HDc := Lib.hid hDc
                have k1 : ∀ q : Later wr, q.to.cell? ⟨G, a, none⟩ = some (.slice (some ⟨b1, o1, none⟩) n c1) := fun q => q.cell r1
                have k2 : ∀ q : Later wr, q.to.cell? ⟨b1, o1 + b, none⟩ = some (.int .i64 (D a b)) := fun q => q.cell r3
                have k3 : ∀ q : Later wr, q.to.cell? ⟨G, k, none⟩ = some (.slice (some ⟨b3, o3, none⟩) n c3) := fun q => q.cell r5
                have k4 : ∀ q : Later wr, q.to.cell? ⟨b1, o1 + k, none⟩ = some (.int .i64 (D a k)) := fun q => q.cell r4
                have k5 : ∀ q : Later wr, q.to.cell? ⟨b3, o3 + b, none⟩ = some (.int .i64 (D k b)) := fun q => q.cell r6
                clear r1 r2 r3 r4 r5 r6 n1 n2 n3 hDc
                generalize D a b = z3 at *
                generalize D a k = z1 at *
                generalize D k b = z2 at *
                by_cases p1 : 0 ≤ z1
                · have d1 : decide (0 ≤ z1) = true := decide_eq_true p1
                  by_cases p2 : 0 ≤ z2
                  · have d2 : decide (0 ≤ z2) = true := decide_eq_true p2
                    have n5 := n4 p1 p2
                    have d3 : decide (z3 < 0) = false := decide_eq_false (by omega)
                    have d4 : decide (z1 + z2 < z3) = false := decide_eq_false (by omega)
                    have hw : IntKind.i64.wrap (z1 + z2) = z1 + z2 := IntWalk.i64_in _ ⟨by omega, by omega⟩
                    clear n4 n5
                    go_wp2_with fail
                    refine wp_region_later (by kernel_rfl) (by kernel_rfl) ?_
                    repeat
                      (with_reducible refine wpQuiet_step ?_
                       intro K hK
                       go_simp
                       (refine hK _ ?_; clear hK K))
                    with_reducible refine wpQuiet_nil ?_
                    intro _ hw'
                    obtain ⟨q, rfl⟩ := hw'
                    have HD6 := Lib.hid (HDc.out.trans (q.below.mono HDc.out.size))
                    go_wp2
                    first
                      | exact ⟨⟨k + 1, by omega, by go_num, HD6.out⟩, by simp [intOf]; omega⟩
                      | (go_roundw
                         case rel => exact ⟨k + 1, by omega, by go_num, HD6.out⟩
                         case measure => simp [intOf]; omega)
                  · have d2 : decide (0 ≤ z2) = false := decide_eq_false p2
                    clear n4
                    go_wp2_with fail
                    refine wp_region_later (by kernel_rfl) (by kernel_rfl) ?_
                    repeat
                      (with_reducible refine wpQuiet_step ?_
                       intro K hK
                       go_simp
                       (refine hK _ ?_; clear hK K))
                    with_reducible refine wpQuiet_nil ?_
                    intro _ hw'
                    obtain ⟨q, rfl⟩ := hw'
                    have HD6 := Lib.hid (HDc.out.trans (q.below.mono HDc.out.size))
                    go_wp2
                    first
                      | exact ⟨⟨k + 1, by omega, by go_num, HD6.out⟩, by simp [intOf]; omega⟩
                      | (go_roundw
                         case rel => exact ⟨k + 1, by omega, by go_num, HD6.out⟩
                         case measure => simp [intOf]; omega)
                · have d1 : decide (0 ≤ z1) = false := decide_eq_false p1
                  clear n4
                  go_wp2_with fail
                  refine wp_region_later (by kernel_rfl) (by kernel_rfl) ?_
                  repeat
                    (with_reducible refine wpQuiet_step ?_
                     intro K hK
                     go_simp
                     (refine hK _ ?_; clear hK K))
                  with_reducible refine wpQuiet_nil ?_
                  intro _ hw'
                  obtain ⟨q, rfl⟩ := hw'
                  have HD6 := Lib.hid (HDc.out.trans (q.below.mono HDc.out.size))
                  go_wp2
                  first
                    | exact ⟨⟨k + 1, by omega, by go_num, HD6.out⟩, by simp [intOf]; omega⟩
                    | (go_roundw
                       case rel => exact ⟨k + 1, by omega, by go_num, HD6.out⟩
                       case measure => simp [intOf]; omega)
              · obtain rfl : k = n := by omega
                go_wp2
                go_roundw
                case rel => exact ⟨b + 1, by omega, by go_num, hDc⟩
                case measure => simp [intOf]; omega
          · obtain rfl : b = n := by omega
            go_wp2
            go_roundw
            case rel => exact ⟨a + 1, by omega, by go_num, hDb⟩
            case measure => simp [intOf]; omega
      · obtain rfl : a = n := by omega
        go_wp2_with fail
        refine (awake_any _).use fun w4 hb4 => ?_
        have HB4 := Lib.hid ((HB3.out.trans (hDa.mono HB3.out.size)).trans (hb4.mono (HB3.out.trans (hDa.mono HB3.out.size)).size))
        clear hb4
        go_wp2
        go_ret
        exact ⟨rfl, (HMB.out _ HB4.out).2⟩
end Go.Proofs.Ytclhamemlpbpiaa
