/- The reference's Whole. -/
import Derived.Test.YthbahfmcmbjglaaQs
namespace Go.Proofs.Ythbahfmcmbjglaa
open Go.RowKit

def refB (n : Nat) (J p : Nat → Nat → Int) (k : Nat) : Bool := plP n p k && relP J p k
def timeB (J : Nat → Nat → Int) (d : Nat → Int) (j : Nat) : Bool := decide (d j = J j 0)
/-- A whole plan. -/
def whB (m n : Nat) (J p : Nat → Nat → Int) : Bool := allB (refB n J p) m && allB (timeB J (dnF p m)) n
theorem refB_pl {n : Nat} {J p : Nat → Nat → Int} {k : Nat} (h : refB n J p k = true) : plP n p k = true := (Bool.and_eq_true_iff.1 h).1

set_option maxHeartbeats 4000000 in
set_option maxRecDepth 1000000 in
theorem whole_any (A B : Option Addr) (m c n c2 : Nat) (p J : Nat → Nat → Int) (w : World) (h : Recs 3 w A m p) (hJ : Recs 4 w B n J) (hok : okJ n J = true) (hm : m ≤ maxLen) (hmb : whB m n J p = true → m ≤ 10000) :
    Calls Try.prog 33 #[.slice B n c2, .slice A m c] w fun e w' => ((whB m n J p = false ∧ e = .returned (.tuple #[.slice none 0 0, .bool false])) ∨ (whB m n J p = true ∧ ∃ g, e = .returned (.tuple #[.slice (some ⟨g, 0, none⟩) n n, .bool true]) ∧ RowI w' g n (enF p m))) ∧ Below w.heap.size w w' := by
  have H := Lib.hid h
  have HJ := Lib.hid hJ
  have HO := Lib.hid hok
  have HMB := Lib.hid hmb
  have hm2 : m ≤ 9223372036854775807 := by unfold maxLen at hm; omega
  have hn := (okJ_iff.1 hok).1
  obtain ⟨hn1, hn8⟩ := hn
  have hM : (w.alloc (.cells #[.int .i64 0, .int .i64 0, .int .i64 0, .int .i64 0, .int .i64 0, .int .i64 0, .int .i64 0, .int .i64 0] 90)).rowIs w.heap.size 90 8 (fun i => .int .i64 (dnF p 0 i)) := ⟨_, heap_alloc_new w _, rfl, fun i hi => by
    have : i = 0 ∨ i = 1 ∨ i = 2 ∨ i = 3 ∨ i = 4 ∨ i = 5 ∨ i = 6 ∨ i = 7 := by omega
    rcases this with rfl | rfl | rfl | rfl | rfl | rfl | rfl | rfl <;> rfl⟩
  have hB0 := (Below.refl w.heap.size w).alloc (Nat.le_refl _) (.cells #[.int .i64 0, .int .i64 0, .int .i64 0, .int .i64 0, .int .i64 0, .int .i64 0, .int .i64 0, .int .i64 0] 90)
  have HF : Hid (∀ k, k < m → refB n J p k = false → whB m n J p = false) := Lib.hid (fun k hk h => by unfold whB; rw [allB_f hk h, Bool.false_and])
  clear h hm hJ hok hmb
  go_enter Try.func33, Try.ntmps33
  go_wp2
  generalize w.alloc (.cells #[.int .i64 0, .int .i64 0, .int .i64 0, .int .i64 0, .int .i64 0, .int .i64 0, .int .i64 0, .int .i64 0] 90) = W0 at *
  go_loopw [13] (fun i wr => ∃ k : Nat, k ≤ m ∧ i = .int .i64 k ∧ AllLt (refB n J p) k ∧ wr.rowIs w.heap.size 90 8 (fun i => .int .i64 (dnF p k i)) ∧ Below w.heap.size w wr) (fun i _ => m - (intOf i).toNat)
  case atStart => exact ⟨0, Nat.zero_le _, rfl, AllLt.zero, hM, hB0⟩
  case round =>
    obtain ⟨k, hk, rfl, hA, hR, hD⟩ := hrel
    have HA := Lib.hid hA
    have HR := Lib.hid hR
    have HD := Lib.hid hD
    clear hA hR hM hB0
    by_cases hlt : k < m
    · obtain ⟨b, o, rfl, c0, c1, c2⟩ := (H.out.keep hD).three hlt
      go_wp2_with fail
      have hW1 := hD.alloc hD.size (.cells #[.int .i64 (p k 0), .int .i64 (p k 1), .int .i64 (p k 2)] 48)
      have hR1 := World.rowIs.alloc HR.out (.cells #[.int .i64 (p k 0), .int .i64 (p k 1), .int .i64 (p k 2)] 48)
      have x0 : (wr.alloc (.cells #[.int .i64 (p k 0), .int .i64 (p k 1), .int .i64 (p k 2)] 48)).cell? ⟨wr.heap.size, 0, none⟩ = some (.int .i64 (p k 0)) := by simp [World.cell?_alloc_at]
      have x1 : (wr.alloc (.cells #[.int .i64 (p k 0), .int .i64 (p k 1), .int .i64 (p k 2)] 48)).cell? ⟨wr.heap.size, 1, none⟩ = some (.int .i64 (p k 1)) := by simp [World.cell?_alloc_at]
      have x2 : (wr.alloc (.cells #[.int .i64 (p k 0), .int .i64 (p k 1), .int .i64 (p k 2)] 48)).cell? ⟨wr.heap.size, 2, none⟩ = some (.int .i64 (p k 2)) := by simp [World.cell?_alloc_at]
      generalize wr.alloc (.cells #[.int .i64 (p k 0), .int .i64 (p k 1), .int .i64 (p k 2)] 48) = W1 at *
      have HW1 := Lib.hid hW1
      have HR1 := Lib.hid hR1
      have HJ1 := Lib.hid (HJ.out.keep hW1)
      have HH1 := Lib.hid (H.out.keep hW1)
      have HRef : Hid (refB n J p k = (plP n p k && decide (J (p k 0).toNat 1 ≤ p k 1))) := Lib.hid rfl
      have HPl := Lib.hid (plP_iff (n := n) (p := p) (k := k))
      clear hW1 hR1 hD
      by_cases h1 : p k 0 < 0
      · have HE := Lib.hid (HF.out k hlt (by rw [HRef.out, Bool.and_eq_false_iff]; left; exact Bool.eq_false_iff.2 (fun h => by have := HPl.out.1 h; omega)))
        go_wp2_with fail
        have k0 : ∀ q : Later W1, q.to.cell? ⟨wr.heap.size, 0, none⟩ = some (.int .i64 (p k 0)) := fun q => q.cell x0
        have k1 : ∀ q : Later W1, q.to.cell? ⟨wr.heap.size, 1, none⟩ = some (.int .i64 (p k 1)) := fun q => q.cell x1
        have k2 : ∀ q : Later W1, q.to.cell? ⟨wr.heap.size, 2, none⟩ = some (.int .i64 (p k 2)) := fun q => q.cell x2
        refine wp_region_later (by kernel_rfl) (by kernel_rfl) ?_
        repeat
          (with_reducible refine wpQuiet_step ?_
           intro K hK
           go_simp
           (refine hK _ ?_; clear hK K))
        with_reducible refine wpQuiet_nil ?_
        intro _ hw'
        obtain ⟨p2, hw''⟩ := hw'
        subst hw''
        have HB2 := Lib.hid p2.below
        clear k0 k1 k2
        generalize p2.to = w2 at HB2 ⊢
        clear p2
        go_wp2
        go_returns
        exact ⟨.inl ⟨HE.out, rfl⟩, HW1.out.trans (HB2.out.mono HW1.out.size)⟩
      · have hd0 : decide (p k 0 < 0) = false := decide_eq_false h1
        by_cases h2 : (n : Int) ≤ p k 0
        · have HE := Lib.hid (HF.out k hlt (by rw [HRef.out, Bool.and_eq_false_iff]; left; exact Bool.eq_false_iff.2 (fun h => by have := HPl.out.1 h; omega)))
          have hd1 : decide ((n : Int) ≤ p k 0) = true := decide_eq_true h2
          go_wp2_with fail
          have k0 : ∀ q : Later W1, q.to.cell? ⟨wr.heap.size, 0, none⟩ = some (.int .i64 (p k 0)) := fun q => q.cell x0
          have k1 : ∀ q : Later W1, q.to.cell? ⟨wr.heap.size, 1, none⟩ = some (.int .i64 (p k 1)) := fun q => q.cell x1
          have k2 : ∀ q : Later W1, q.to.cell? ⟨wr.heap.size, 2, none⟩ = some (.int .i64 (p k 2)) := fun q => q.cell x2
          refine wp_region_later (by kernel_rfl) (by kernel_rfl) ?_
          repeat
            (with_reducible refine wpQuiet_step ?_
             intro K hK
             go_simp
             (refine hK _ ?_; clear hK K))
          with_reducible refine wpQuiet_nil ?_
          intro _ hw'
          obtain ⟨p2, hw''⟩ := hw'
          subst hw''
          have HB2 := Lib.hid p2.below
          clear k0 k1 k2
          generalize p2.to = w2 at HB2 ⊢
          clear p2
          go_wp2
          go_returns
          exact ⟨.inl ⟨HE.out, rfl⟩, HW1.out.trans (HB2.out.mono HW1.out.size)⟩
        · obtain ⟨j, hj, hjn⟩ : ∃ j : Nat, p k 0 = (j : Int) ∧ j < n := ⟨(p k 0).toNat, by omega, by omega⟩
          obtain ⟨b2, o2, rfl, g0, g1, g2, g3⟩ := HJ1.out.four hjn
          rw [hj] at c0 x0 HRef HPl
          rw [Int.toNat_natCast] at HRef
          have hJj := (okJ_iff.1 HO.out).2 j hjn
          obtain ⟨-, ⟨hJ1, hJ2⟩, -⟩ := hJj
          have HDn := Lib.hid (show dnF p (k + 1) = upd (dnF p k) j (dnF p k j + (p k 2 - p k 1)) by rw [dnF, hj]; rfl)
          have hj0 : ¬ (j : Int) < 0 := by omega
          have hjn2 : ¬ (n : Int) ≤ (j : Int) := by omega
          have hjd : decide ((j : Int) < 0) = false := decide_eq_false hj0
          have hjd2 : decide ((n : Int) ≤ (j : Int)) = false := decide_eq_false hjn2
          have HJI := Lib.hid hj
          clear h1 h2 hj hd0
          by_cases h3 : p k 2 ≤ p k 1
          · have HE := Lib.hid (HF.out k hlt (by rw [HRef.out, Bool.and_eq_false_iff]; left; exact Bool.eq_false_iff.2 (fun h => by have := HPl.out.1 h; omega)))
            have d3 : decide (p k 2 ≤ p k 1) = true := decide_eq_true h3
            go_wp2_with fail
            have k0 : ∀ q : Later W1, q.to.cell? ⟨wr.heap.size, 0, none⟩ = some (.int .i64 (j)) := fun q => q.cell x0
            have k1 : ∀ q : Later W1, q.to.cell? ⟨wr.heap.size, 1, none⟩ = some (.int .i64 (p k 1)) := fun q => q.cell x1
            have k2 : ∀ q : Later W1, q.to.cell? ⟨wr.heap.size, 2, none⟩ = some (.int .i64 (p k 2)) := fun q => q.cell x2
            have k3 : ∀ q : Later W1, q.to.cell? ⟨b2, o2 + j * 4 + 1, none⟩ = some (.int .i64 (J j 1)) := fun q => q.cell g1
            refine wp_region_later (by kernel_rfl) (by kernel_rfl) ?_
            repeat
              (with_reducible refine wpQuiet_step ?_
               intro K hK
               go_simp
               (refine hK _ ?_; clear hK K))
            with_reducible refine wpQuiet_nil ?_
            intro _ hw'
            obtain ⟨p2, hw''⟩ := hw'
            subst hw''
            have HB2 := Lib.hid p2.below
            clear k0 k1 k2 k3
            generalize p2.to = w2 at HB2 ⊢
            clear p2
            go_wp2
            go_returns
            exact ⟨.inl ⟨HE.out, rfl⟩, HW1.out.trans (HB2.out.mono HW1.out.size)⟩
          · have d3 : decide (p k 2 ≤ p k 1) = false := decide_eq_false h3
            by_cases h4 : 1000 < p k 2
            · have HE := Lib.hid (HF.out k hlt (by rw [HRef.out, Bool.and_eq_false_iff]; left; exact Bool.eq_false_iff.2 (fun h => by have := HPl.out.1 h; omega)))
              have d4 : decide (1000 < p k 2) = true := decide_eq_true h4
              go_wp2_with fail
              have k0 : ∀ q : Later W1, q.to.cell? ⟨wr.heap.size, 0, none⟩ = some (.int .i64 (j)) := fun q => q.cell x0
              have k1 : ∀ q : Later W1, q.to.cell? ⟨wr.heap.size, 1, none⟩ = some (.int .i64 (p k 1)) := fun q => q.cell x1
              have k2 : ∀ q : Later W1, q.to.cell? ⟨wr.heap.size, 2, none⟩ = some (.int .i64 (p k 2)) := fun q => q.cell x2
              have k3 : ∀ q : Later W1, q.to.cell? ⟨b2, o2 + j * 4 + 1, none⟩ = some (.int .i64 (J j 1)) := fun q => q.cell g1
              refine wp_region_later (by kernel_rfl) (by kernel_rfl) ?_
              repeat
                (with_reducible refine wpQuiet_step ?_
                 intro K hK
                 go_simp
                 (refine hK _ ?_; clear hK K))
              with_reducible refine wpQuiet_nil ?_
              intro _ hw'
              obtain ⟨p2, hw''⟩ := hw'
              subst hw''
              have HB2 := Lib.hid p2.below
              clear k0 k1 k2 k3
              generalize p2.to = w2 at HB2 ⊢
              clear p2
              go_wp2
              go_returns
              exact ⟨.inl ⟨HE.out, rfl⟩, HW1.out.trans (HB2.out.mono HW1.out.size)⟩
            · have d4 : decide (1000 < p k 2) = false := decide_eq_false h4
              by_cases h5 : p k 1 < J j 1
              · have HE := Lib.hid (HF.out k hlt (by rw [HRef.out, Bool.and_eq_false_iff]; right; exact decide_eq_false (by omega)))
                have d5 : decide (p k 1 < J j 1) = true := decide_eq_true h5
                go_wp2_with fail
                have k0 : ∀ q : Later W1, q.to.cell? ⟨wr.heap.size, 0, none⟩ = some (.int .i64 (j)) := fun q => q.cell x0
                have k1 : ∀ q : Later W1, q.to.cell? ⟨wr.heap.size, 1, none⟩ = some (.int .i64 (p k 1)) := fun q => q.cell x1
                have k2 : ∀ q : Later W1, q.to.cell? ⟨wr.heap.size, 2, none⟩ = some (.int .i64 (p k 2)) := fun q => q.cell x2
                have k3 : ∀ q : Later W1, q.to.cell? ⟨b2, o2 + j * 4 + 1, none⟩ = some (.int .i64 (J j 1)) := fun q => q.cell g1
                refine wp_region_later (by kernel_rfl) (by kernel_rfl) ?_
                repeat
                  (with_reducible refine wpQuiet_step ?_
                   intro K hK
                   go_simp
                   (refine hK _ ?_; clear hK K))
                with_reducible refine wpQuiet_nil ?_
                intro _ hw'
                obtain ⟨p2, hw''⟩ := hw'
                subst hw''
                have HB2 := Lib.hid p2.below
                clear k0 k1 k2 k3
                generalize p2.to = w2 at HB2 ⊢
                clear p2
                go_wp2
                go_returns
                exact ⟨.inl ⟨HE.out, rfl⟩, HW1.out.trans (HB2.out.mono HW1.out.size)⟩
              · have d5 : decide (p k 1 < J j 1) = false := decide_eq_false h5
                have hdr := dnF_rng k (fun a ha => refB_pl (HA.out a ha))
                have hd1 := (hdr.2 j).1
                have hd2 : dnF p k j ≤ 1000 := by have := (hdr.2 j).2; omega
                have HRs : Hid (∀ W3 : World, Below W1.heap.size W1 W3 → (W3.setCell ⟨w.heap.size, j, none⟩ (.int .i64 (dnF p k j + (p k 2 - p k 1)))).rowIs w.heap.size 90 8 (fun i => .int .i64 (dnF p (k + 1) i))) := Lib.hid (fun W3 hb3 => World.rowIs.congr (World.rowIs.set (World.rowIs.of_block HR1.out (hb3.block _ (World.rowIs.lt HR1.out))) j (.int .i64 (dnF p k j + (p k 2 - p k 1)))) (g := fun i => .int .i64 (dnF p (k + 1) i)) (fun i hi => by
                  rw [HDn.out]
                  unfold upd
                  by_cases e : i = j
                  · subst e
                    simp only [if_true]
                  · simp only [if_neg e]))
                have HCd := Lib.hid (World.rowIs.cell HR1.out (show j < 8 by omega))
                have HFd : Hid (∀ W3 : World, Below W1.heap.size W1 W3 → W3.frozen? ⟨w.heap.size, j, none⟩ = false) := Lib.hid (fun W3 hb3 => World.rowIs.frozen (World.rowIs.of_block HR1.out (hb3.block _ (World.rowIs.lt HR1.out))) j)
                have hj8 : (j : Int) < 8 := by omega
                clear hdr
                rcases k with _ | K
                · have HT : Hid (refB n J p 0 = true) := Lib.hid (by
                    rw [HRef.out, Bool.and_eq_true_iff]
                    refine ⟨HPl.out.2 ⟨by omega, by omega, ?_, by omega, by omega, fun h => ?_⟩, decide_eq_true (by omega)⟩
                    · show (0 : Int) ≤ _
                      omega
                    · have : (j : Int) = -1 := h.1
                      omega)
                  have h00 : decide ((0 : Int) < ((0 : Nat) : Int)) = false := by simp
                  go_wp2_with fail
                  have k0 : ∀ q : Later W1, q.to.cell? ⟨wr.heap.size, 0, none⟩ = some (.int .i64 (j)) := fun q => q.cell x0
                  have k1 : ∀ q : Later W1, q.to.cell? ⟨wr.heap.size, 1, none⟩ = some (.int .i64 (p 0 1)) := fun q => q.cell x1
                  have k2 : ∀ q : Later W1, q.to.cell? ⟨wr.heap.size, 2, none⟩ = some (.int .i64 (p 0 2)) := fun q => q.cell x2
                  have k3 : ∀ q : Later W1, q.to.cell? ⟨b2, o2 + j * 4 + 1, none⟩ = some (.int .i64 (J j 1)) := fun q => q.cell g1
                  refine wp_region_later (by kernel_rfl) (by kernel_rfl) ?_
                  repeat
                    (with_reducible refine wpQuiet_step ?_
                     intro K hK
                     go_simp
                     (refine hK _ ?_; clear hK K))
                  with_reducible refine wpQuiet_nil ?_
                  intro _ hw'
                  obtain ⟨p2, hw''⟩ := hw'
                  subst hw''
                  have HB2 := Lib.hid p2.below
                  clear k0 k1 k2 k3
                  generalize p2.to = w2 at HB2 ⊢
                  clear p2
                  go_wp2_with fail
                  have k0 : ∀ q : Later w2, q.to.cell? ⟨wr.heap.size, 0, none⟩ = some (.int .i64 (j)) := fun q => q.cell (HB2.out.cell (World.block_lt_of_cell? _ _ x0) |>.trans x0)
                  have k1 : ∀ q : Later w2, q.to.cell? ⟨wr.heap.size, 1, none⟩ = some (.int .i64 (p 0 1)) := fun q => q.cell (HB2.out.cell (World.block_lt_of_cell? _ _ x1) |>.trans x1)
                  have k2 : ∀ q : Later w2, q.to.cell? ⟨wr.heap.size, 2, none⟩ = some (.int .i64 (p 0 2)) := fun q => q.cell (HB2.out.cell (World.block_lt_of_cell? _ _ x2) |>.trans x2)
                  refine wp_region_later (by kernel_rfl) (by kernel_rfl) ?_
                  repeat
                    (with_reducible refine wpQuiet_step ?_
                     intro K hK
                     go_simp
                     (refine hK _ ?_; clear hK K))
                  with_reducible refine wpQuiet_nil ?_
                  intro _ hw'
                  obtain ⟨p2, hw''⟩ := hw'
                  subst hw''
                  have HB3 := Lib.hid p2.below
                  clear k0 k1 k2
                  generalize p2.to = w3 at HB3 ⊢
                  clear p2
                  have HB13 := Lib.hid (HB2.out.trans (HB3.out.mono HB2.out.size))
                  have y0 := (HB13.out.cell (World.block_lt_of_cell? _ _ x0)).trans x0
                  have y1 := (HB13.out.cell (World.block_lt_of_cell? _ _ x1)).trans x1
                  have y2 := (HB13.out.cell (World.block_lt_of_cell? _ _ x2)).trans x2
                  have yd := (HB13.out.cell (World.block_lt_of_cell? _ _ HCd.out)).trans HCd.out
                  have yf := HFd.out w3 HB13.out
                  have HRs3 := Lib.hid (HRs.out w3 HB13.out)
                  have HW3 := Lib.hid (HW1.out.trans (HB13.out.mono HW1.out.size))
                  have HDs := Lib.hid (HW3.out.setCell (p := ⟨w.heap.size, j, none⟩) (Nat.le_refl _) (.int .i64 (dnF p 0 j + (p 0 2 - p 0 1))))
                  clear x0 x1 x2
                  generalize dnF p 0 j = d at *
                  generalize p 0 1 = z1 at *
                  generalize p 0 2 = z2 at *
                  go_wp2_with fail
                  go_region
                  go_wp2
                  go_roundw
                  case rel => exact ⟨0 + 1, by omega, by go_num, HA.out.succ HT.out, World.rowIs.of_block HRs3.out rfl, HDs.out.trans (((Dn.refl _).drewN _).below _)⟩
                  case measure => simp [intOf]; omega
                · obtain ⟨b3, o3, e3, v0, v1, v2⟩ := HH1.out.three (show K < m by omega)
                  injection e3 with e3
                  injection e3 with e4 e5
                  subst e4 e5
                  have HPv : Hid (pvF p (K + 1) = p K) := Lib.hid rfl
                  generalize hKx : K + 1 = Kx at *
                  have u1 : IntKind.i64.wrap ((Kx : Int) - 1) = (K : Int) := (IntWalk.i64_in _ ⟨by omega, by omega⟩).trans (by omega)
                  have u2 : ((Kx : Int) - 1).toNat = K := by omega
                  have u3 : (0 : Int) ≤ (Kx : Int) - 1 := by omega
                  have u4 : (K : Int) < (m : Int) := by omega
                  have u5 : 0 < Kx := by omega
                  have HKx := Lib.hid hKx
                  by_cases h6 : p Kx 1 < p K 2
                  · have HE := Lib.hid (HF.out Kx hlt (by rw [HRef.out, Bool.and_eq_false_iff]; left; exact Bool.eq_false_iff.2 (fun h => by have h := (HPl.out.1 h).2.2.1; rw [HPv.out] at h; omega)))
                    have d6 : decide (p Kx 1 < p K 2) = true := decide_eq_true h6
                    clear hKx
                    go_wp2_with fail
                    have k0 : ∀ q : Later W1, q.to.cell? ⟨wr.heap.size, 0, none⟩ = some (.int .i64 (j)) := fun q => q.cell x0
                    have k1 : ∀ q : Later W1, q.to.cell? ⟨wr.heap.size, 1, none⟩ = some (.int .i64 (p Kx 1)) := fun q => q.cell x1
                    have k2 : ∀ q : Later W1, q.to.cell? ⟨wr.heap.size, 2, none⟩ = some (.int .i64 (p Kx 2)) := fun q => q.cell x2
                    have k3 : ∀ q : Later W1, q.to.cell? ⟨b2, o2 + j * 4 + 1, none⟩ = some (.int .i64 (J j 1)) := fun q => q.cell g1
                    refine wp_region_later (by kernel_rfl) (by kernel_rfl) ?_
                    repeat
                      (with_reducible refine wpQuiet_step ?_
                       intro K hK
                       go_simp
                       (refine hK _ ?_; clear hK K))
                    with_reducible refine wpQuiet_nil ?_
                    intro _ hw'
                    obtain ⟨p2, hw''⟩ := hw'
                    subst hw''
                    have HB2 := Lib.hid p2.below
                    clear k0 k1 k2 k3
                    generalize p2.to = w2 at HB2 ⊢
                    clear p2
                    go_wp2_with fail
                    have k0 : ∀ q : Later w2, q.to.cell? ⟨wr.heap.size, 0, none⟩ = some (.int .i64 (j)) := fun q => q.cell (HB2.out.cell (World.block_lt_of_cell? _ _ x0) |>.trans x0)
                    have k1 : ∀ q : Later w2, q.to.cell? ⟨wr.heap.size, 1, none⟩ = some (.int .i64 (p Kx 1)) := fun q => q.cell (HB2.out.cell (World.block_lt_of_cell? _ _ x1) |>.trans x1)
                    have k2 : ∀ q : Later w2, q.to.cell? ⟨wr.heap.size, 2, none⟩ = some (.int .i64 (p Kx 2)) := fun q => q.cell (HB2.out.cell (World.block_lt_of_cell? _ _ x2) |>.trans x2)
                    have k3 : ∀ q : Later w2, q.to.cell? ⟨b, o + K * 3, none⟩ = some (.int .i64 (p K 0)) := fun q => q.cell (HB2.out.cell (World.block_lt_of_cell? _ _ v0) |>.trans v0)
                    have k4 : ∀ q : Later w2, q.to.cell? ⟨b, o + K * 3 + 1, none⟩ = some (.int .i64 (p K 1)) := fun q => q.cell (HB2.out.cell (World.block_lt_of_cell? _ _ v1) |>.trans v1)
                    have k5 : ∀ q : Later w2, q.to.cell? ⟨b, o + K * 3 + 2, none⟩ = some (.int .i64 (p K 2)) := fun q => q.cell (HB2.out.cell (World.block_lt_of_cell? _ _ v2) |>.trans v2)
                    refine wp_region_later (by kernel_rfl) (by kernel_rfl) ?_
                    repeat
                      (with_reducible refine wpQuiet_step ?_
                       intro K hK
                       go_simp
                       (refine hK _ ?_; clear hK K))
                    with_reducible refine wpQuiet_nil ?_
                    intro _ hw'
                    obtain ⟨p2, hw''⟩ := hw'
                    subst hw''
                    have HB3 := Lib.hid p2.below
                    clear k0 k1 k2 k3 k4 k5
                    generalize p2.to = w3 at HB3 ⊢
                    clear p2
                    go_wp2
                    go_returns
                    exact ⟨.inl ⟨HE.out, rfl⟩, HW1.out.trans ((HB2.out.trans (HB3.out.mono HB2.out.size)).mono HW1.out.size)⟩
                  · have d6 : decide (p Kx 1 < p K 2) = false := decide_eq_false h6
                    by_cases h7 : p Kx 1 = p K 2
                    · by_cases h8 : (j : Int) = p K 0
                      · have HE := Lib.hid (HF.out Kx hlt (by rw [HRef.out, Bool.and_eq_false_iff]; left; exact Bool.eq_false_iff.2 (fun h => by have h := (HPl.out.1 h).2.2.2.2.2; rw [HPv.out] at h; exact h ⟨h8, h7⟩)))
                        have d7 := beq_t h7
                        have d8 := beq_t h8
                        clear hKx h7 h8
                        go_wp2_with fail
                        have k0 : ∀ q : Later W1, q.to.cell? ⟨wr.heap.size, 0, none⟩ = some (.int .i64 (j)) := fun q => q.cell x0
                        have k1 : ∀ q : Later W1, q.to.cell? ⟨wr.heap.size, 1, none⟩ = some (.int .i64 (p Kx 1)) := fun q => q.cell x1
                        have k2 : ∀ q : Later W1, q.to.cell? ⟨wr.heap.size, 2, none⟩ = some (.int .i64 (p Kx 2)) := fun q => q.cell x2
                        have k3 : ∀ q : Later W1, q.to.cell? ⟨b2, o2 + j * 4 + 1, none⟩ = some (.int .i64 (J j 1)) := fun q => q.cell g1
                        refine wp_region_later (by kernel_rfl) (by kernel_rfl) ?_
                        repeat
                          (with_reducible refine wpQuiet_step ?_
                           intro K hK
                           go_simp
                           (refine hK _ ?_; clear hK K))
                        with_reducible refine wpQuiet_nil ?_
                        intro _ hw'
                        obtain ⟨p2, hw''⟩ := hw'
                        subst hw''
                        have HB2 := Lib.hid p2.below
                        clear k0 k1 k2 k3
                        generalize p2.to = w2 at HB2 ⊢
                        clear p2
                        go_wp2_with fail
                        have k0 : ∀ q : Later w2, q.to.cell? ⟨wr.heap.size, 0, none⟩ = some (.int .i64 (j)) := fun q => q.cell (HB2.out.cell (World.block_lt_of_cell? _ _ x0) |>.trans x0)
                        have k1 : ∀ q : Later w2, q.to.cell? ⟨wr.heap.size, 1, none⟩ = some (.int .i64 (p Kx 1)) := fun q => q.cell (HB2.out.cell (World.block_lt_of_cell? _ _ x1) |>.trans x1)
                        have k2 : ∀ q : Later w2, q.to.cell? ⟨wr.heap.size, 2, none⟩ = some (.int .i64 (p Kx 2)) := fun q => q.cell (HB2.out.cell (World.block_lt_of_cell? _ _ x2) |>.trans x2)
                        have k3 : ∀ q : Later w2, q.to.cell? ⟨b, o + K * 3, none⟩ = some (.int .i64 (p K 0)) := fun q => q.cell (HB2.out.cell (World.block_lt_of_cell? _ _ v0) |>.trans v0)
                        have k4 : ∀ q : Later w2, q.to.cell? ⟨b, o + K * 3 + 1, none⟩ = some (.int .i64 (p K 1)) := fun q => q.cell (HB2.out.cell (World.block_lt_of_cell? _ _ v1) |>.trans v1)
                        have k5 : ∀ q : Later w2, q.to.cell? ⟨b, o + K * 3 + 2, none⟩ = some (.int .i64 (p K 2)) := fun q => q.cell (HB2.out.cell (World.block_lt_of_cell? _ _ v2) |>.trans v2)
                        refine wp_region_later (by kernel_rfl) (by kernel_rfl) ?_
                        repeat
                          (with_reducible refine wpQuiet_step ?_
                           intro K hK
                           go_simp
                           (refine hK _ ?_; clear hK K))
                        with_reducible refine wpQuiet_nil ?_
                        intro _ hw'
                        obtain ⟨p2, hw''⟩ := hw'
                        subst hw''
                        have HB3 := Lib.hid p2.below
                        clear k0 k1 k2 k3 k4 k5
                        generalize p2.to = w3 at HB3 ⊢
                        clear p2
                        go_wp2
                        go_returns
                        exact ⟨.inl ⟨HE.out, rfl⟩, HW1.out.trans ((HB2.out.trans (HB3.out.mono HB2.out.size)).mono HW1.out.size)⟩
                      · have HT : Hid (refB n J p Kx = true) := Lib.hid (by
                          rw [HRef.out, Bool.and_eq_true_iff]
                          refine ⟨HPl.out.2 ⟨by omega, by omega, ?_, by omega, by omega, fun h => ?_⟩, decide_eq_true (by omega)⟩
                          · rw [HPv.out]; omega
                          · rw [HPv.out] at h; exact h8 h.1)
                        have d7 := beq_t h7
                        have d8 := beq_f h8
                        clear hKx h7 h8
                        go_wp2_with fail
                        have k0 : ∀ q : Later W1, q.to.cell? ⟨wr.heap.size, 0, none⟩ = some (.int .i64 (j)) := fun q => q.cell x0
                        have k1 : ∀ q : Later W1, q.to.cell? ⟨wr.heap.size, 1, none⟩ = some (.int .i64 (p Kx 1)) := fun q => q.cell x1
                        have k2 : ∀ q : Later W1, q.to.cell? ⟨wr.heap.size, 2, none⟩ = some (.int .i64 (p Kx 2)) := fun q => q.cell x2
                        have k3 : ∀ q : Later W1, q.to.cell? ⟨b2, o2 + j * 4 + 1, none⟩ = some (.int .i64 (J j 1)) := fun q => q.cell g1
                        refine wp_region_later (by kernel_rfl) (by kernel_rfl) ?_
                        repeat
                          (with_reducible refine wpQuiet_step ?_
                           intro K hK
                           go_simp
                           (refine hK _ ?_; clear hK K))
                        with_reducible refine wpQuiet_nil ?_
                        intro _ hw'
                        obtain ⟨p2, hw''⟩ := hw'
                        subst hw''
                        have HB2 := Lib.hid p2.below
                        clear k0 k1 k2 k3
                        generalize p2.to = w2 at HB2 ⊢
                        clear p2
                        go_wp2_with fail
                        have k0 : ∀ q : Later w2, q.to.cell? ⟨wr.heap.size, 0, none⟩ = some (.int .i64 (j)) := fun q => q.cell (HB2.out.cell (World.block_lt_of_cell? _ _ x0) |>.trans x0)
                        have k1 : ∀ q : Later w2, q.to.cell? ⟨wr.heap.size, 1, none⟩ = some (.int .i64 (p Kx 1)) := fun q => q.cell (HB2.out.cell (World.block_lt_of_cell? _ _ x1) |>.trans x1)
                        have k2 : ∀ q : Later w2, q.to.cell? ⟨wr.heap.size, 2, none⟩ = some (.int .i64 (p Kx 2)) := fun q => q.cell (HB2.out.cell (World.block_lt_of_cell? _ _ x2) |>.trans x2)
                        have k3 : ∀ q : Later w2, q.to.cell? ⟨b, o + K * 3, none⟩ = some (.int .i64 (p K 0)) := fun q => q.cell (HB2.out.cell (World.block_lt_of_cell? _ _ v0) |>.trans v0)
                        have k4 : ∀ q : Later w2, q.to.cell? ⟨b, o + K * 3 + 1, none⟩ = some (.int .i64 (p K 1)) := fun q => q.cell (HB2.out.cell (World.block_lt_of_cell? _ _ v1) |>.trans v1)
                        have k5 : ∀ q : Later w2, q.to.cell? ⟨b, o + K * 3 + 2, none⟩ = some (.int .i64 (p K 2)) := fun q => q.cell (HB2.out.cell (World.block_lt_of_cell? _ _ v2) |>.trans v2)
                        refine wp_region_later (by kernel_rfl) (by kernel_rfl) ?_
                        repeat
                          (with_reducible refine wpQuiet_step ?_
                           intro K hK
                           go_simp
                           (refine hK _ ?_; clear hK K))
                        with_reducible refine wpQuiet_nil ?_
                        intro _ hw'
                        obtain ⟨p2, hw''⟩ := hw'
                        subst hw''
                        have HB3 := Lib.hid p2.below
                        clear k0 k1 k2 k3 k4 k5
                        generalize p2.to = w3 at HB3 ⊢
                        clear p2
                        have HB13 := Lib.hid (HB2.out.trans (HB3.out.mono HB2.out.size))
                        have y0 := (HB13.out.cell (World.block_lt_of_cell? _ _ x0)).trans x0
                        have y1 := (HB13.out.cell (World.block_lt_of_cell? _ _ x1)).trans x1
                        have y2 := (HB13.out.cell (World.block_lt_of_cell? _ _ x2)).trans x2
                        have yd := (HB13.out.cell (World.block_lt_of_cell? _ _ HCd.out)).trans HCd.out
                        have yf := HFd.out w3 HB13.out
                        have HRs3 := Lib.hid (HRs.out w3 HB13.out)
                        have HW3 := Lib.hid (HW1.out.trans (HB13.out.mono HW1.out.size))
                        have HDs := Lib.hid (HW3.out.setCell (p := ⟨w.heap.size, j, none⟩) (Nat.le_refl _) (.int .i64 (dnF p Kx j + (p Kx 2 - p Kx 1))))
                        clear x0 x1 x2
                        generalize dnF p Kx j = d at *
                        generalize p Kx 1 = z1 at *
                        generalize p Kx 2 = z2 at *
                        go_wp2_with fail
                        go_region
                        go_wp2
                        go_roundw
                        case rel => exact ⟨Kx + 1, by omega, by go_num, HA.out.succ HT.out, World.rowIs.of_block HRs3.out rfl, HDs.out.trans (((Dn.refl _).drewN _).below _)⟩
                        case measure => simp [intOf]; omega
                    · have HT : Hid (refB n J p Kx = true) := Lib.hid (by
                        rw [HRef.out, Bool.and_eq_true_iff]
                        refine ⟨HPl.out.2 ⟨by omega, by omega, ?_, by omega, by omega, fun h => ?_⟩, decide_eq_true (by omega)⟩
                        · rw [HPv.out]; omega
                        · rw [HPv.out] at h; exact h7 h.2)
                      have d7 := beq_f h7
                      clear hKx h7
                      go_wp2_with fail
                      have k0 : ∀ q : Later W1, q.to.cell? ⟨wr.heap.size, 0, none⟩ = some (.int .i64 (j)) := fun q => q.cell x0
                      have k1 : ∀ q : Later W1, q.to.cell? ⟨wr.heap.size, 1, none⟩ = some (.int .i64 (p Kx 1)) := fun q => q.cell x1
                      have k2 : ∀ q : Later W1, q.to.cell? ⟨wr.heap.size, 2, none⟩ = some (.int .i64 (p Kx 2)) := fun q => q.cell x2
                      have k3 : ∀ q : Later W1, q.to.cell? ⟨b2, o2 + j * 4 + 1, none⟩ = some (.int .i64 (J j 1)) := fun q => q.cell g1
                      refine wp_region_later (by kernel_rfl) (by kernel_rfl) ?_
                      repeat
                        (with_reducible refine wpQuiet_step ?_
                         intro K hK
                         go_simp
                         (refine hK _ ?_; clear hK K))
                      with_reducible refine wpQuiet_nil ?_
                      intro _ hw'
                      obtain ⟨p2, hw''⟩ := hw'
                      subst hw''
                      have HB2 := Lib.hid p2.below
                      clear k0 k1 k2 k3
                      generalize p2.to = w2 at HB2 ⊢
                      clear p2
                      go_wp2_with fail
                      have k0 : ∀ q : Later w2, q.to.cell? ⟨wr.heap.size, 0, none⟩ = some (.int .i64 (j)) := fun q => q.cell (HB2.out.cell (World.block_lt_of_cell? _ _ x0) |>.trans x0)
                      have k1 : ∀ q : Later w2, q.to.cell? ⟨wr.heap.size, 1, none⟩ = some (.int .i64 (p Kx 1)) := fun q => q.cell (HB2.out.cell (World.block_lt_of_cell? _ _ x1) |>.trans x1)
                      have k2 : ∀ q : Later w2, q.to.cell? ⟨wr.heap.size, 2, none⟩ = some (.int .i64 (p Kx 2)) := fun q => q.cell (HB2.out.cell (World.block_lt_of_cell? _ _ x2) |>.trans x2)
                      have k3 : ∀ q : Later w2, q.to.cell? ⟨b, o + K * 3, none⟩ = some (.int .i64 (p K 0)) := fun q => q.cell (HB2.out.cell (World.block_lt_of_cell? _ _ v0) |>.trans v0)
                      have k4 : ∀ q : Later w2, q.to.cell? ⟨b, o + K * 3 + 1, none⟩ = some (.int .i64 (p K 1)) := fun q => q.cell (HB2.out.cell (World.block_lt_of_cell? _ _ v1) |>.trans v1)
                      have k5 : ∀ q : Later w2, q.to.cell? ⟨b, o + K * 3 + 2, none⟩ = some (.int .i64 (p K 2)) := fun q => q.cell (HB2.out.cell (World.block_lt_of_cell? _ _ v2) |>.trans v2)
                      refine wp_region_later (by kernel_rfl) (by kernel_rfl) ?_
                      repeat
                        (with_reducible refine wpQuiet_step ?_
                         intro K hK
                         go_simp
                         (refine hK _ ?_; clear hK K))
                      with_reducible refine wpQuiet_nil ?_
                      intro _ hw'
                      obtain ⟨p2, hw''⟩ := hw'
                      subst hw''
                      have HB3 := Lib.hid p2.below
                      clear k0 k1 k2 k3 k4 k5
                      generalize p2.to = w3 at HB3 ⊢
                      clear p2
                      have HB13 := Lib.hid (HB2.out.trans (HB3.out.mono HB2.out.size))
                      have y0 := (HB13.out.cell (World.block_lt_of_cell? _ _ x0)).trans x0
                      have y1 := (HB13.out.cell (World.block_lt_of_cell? _ _ x1)).trans x1
                      have y2 := (HB13.out.cell (World.block_lt_of_cell? _ _ x2)).trans x2
                      have yd := (HB13.out.cell (World.block_lt_of_cell? _ _ HCd.out)).trans HCd.out
                      have yf := HFd.out w3 HB13.out
                      have HRs3 := Lib.hid (HRs.out w3 HB13.out)
                      have HW3 := Lib.hid (HW1.out.trans (HB13.out.mono HW1.out.size))
                      have HDs := Lib.hid (HW3.out.setCell (p := ⟨w.heap.size, j, none⟩) (Nat.le_refl _) (.int .i64 (dnF p Kx j + (p Kx 2 - p Kx 1))))
                      clear x0 x1 x2
                      generalize dnF p Kx j = d at *
                      generalize p Kx 1 = z1 at *
                      generalize p Kx 2 = z2 at *
                      go_wp2_with fail
                      go_region
                      go_wp2
                      go_roundw
                      case rel => exact ⟨Kx + 1, by omega, by go_num, HA.out.succ HT.out, World.rowIs.of_block HRs3.out rfl, HDs.out.trans (((Dn.refl _).drewN _).below _)⟩
                      case measure => simp [intOf]; omega
    · obtain rfl : k = m := by omega
      have HWh : Hid (whB k n J p = allB (timeB J (dnF p k)) n) := Lib.hid (by unfold whB; rw [allB_t HA.out, Bool.true_and])
      have HPl : Hid (∀ a, a < k → 0 ≤ p a 0 ∧ p a 0 < n) := Lib.hid (fun a ha => by
        have := plP_iff.1 (refB_pl (HA.out a ha))
        exact ⟨this.1, this.2.1⟩)
      go_wp2
      go_loopw [100] (fun i wx => ∃ j : Nat, j ≤ n ∧ i = .int .i64 j ∧ AllLt (timeB J (dnF p k)) j ∧ Below w.heap.size w wx ∧ wx.rowIs w.heap.size 90 8 (fun i => .int .i64 (dnF p k i))) (fun i _ => n - (intOf i).toNat)
      case atStart => exact ⟨0, Nat.zero_le _, rfl, AllLt.zero, HD.out, HR.out⟩
      case round =>
        obtain ⟨j, hj, rfl, hT, hD2, hR2⟩ := hrel
        have HT := Lib.hid hT
        have HD2 := Lib.hid hD2
        have HR2 := Lib.hid hR2
        clear hT hR2
        by_cases hjl : j < n
        · obtain ⟨b2, o2, rfl, g0, g1, g2, g3⟩ := (HJ.out.keep hD2).four hjl
          have hW1 := hD2.alloc hD2.size (.cells #[.int .i64 (J j 0), .int .i64 (J j 1), .int .i64 (J j 2), .int .i64 (J j 3)] 64)
          have hR1 := World.rowIs.alloc HR2.out (.cells #[.int .i64 (J j 0), .int .i64 (J j 1), .int .i64 (J j 2), .int .i64 (J j 3)] 64)
          have hcd := World.rowIs.cell hR1 (show j < 8 by omega)
          have hj8 : (j : Int) < 8 := by omega
          have HW1 := Lib.hid hW1
          have HR1 := Lib.hid hR1
          have HTB : Hid (timeB J (dnF p k) j = decide (dnF p k j = J j 0)) := Lib.hid rfl
          clear hW1 hR1 hD2
          generalize dnF p k j = d at *
          by_cases hd : d = J j 0
          · have HTt := Lib.hid (show timeB J (dnF p k) j = true by rw [HTB.out]; exact decide_eq_true hd)
            have hB := bne_f hd
            clear hd
            go_wp2_with fail
            go_quiet (fail)
            go_wp2
            go_roundw
            case rel => exact ⟨j + 1, by omega, by go_num, HT.out.succ HTt.out, HW1.out.trans (((Dn.refl _).drewN _).below _), World.rowIs.of_block HR1.out rfl⟩
            case measure => simp [intOf]; omega
          · have HE := Lib.hid (show whB k n J p = false by rw [HWh.out]; exact allB_f hjl (by rw [HTB.out]; exact decide_eq_false hd))
            have hB := bne_t hd
            clear hd
            go_wp2_with fail
            go_quiet (fail)
            go_wp2
            go_returns
            exact ⟨.inl ⟨HE.out, rfl⟩, HW1.out.trans (((Dn.refl _).drewN _).below _)⟩
        · obtain rfl : n = j := by omega
          have HE := Lib.hid (show whB k n J p = true by rw [HWh.out]; exact allB_t HT.out)
          have hk10 := HMB.out HE.out
          go_wp2_with fail
          refine (refEnds_any A B k c c2 n p _ (H.out.keep HD2.out) HPl.out hk10 hn8).mono ?_
          rintro e w4 ⟨rfl, hEn, hb4⟩
          have HEn := Lib.hid hEn
          have HB4 := Lib.hid (HD2.out.trans (hb4.mono HD2.out.size))
          clear hEn hb4
          go_wp2
          go_returns
          exact ⟨.inr ⟨HE.out, _, rfl, HEn.out⟩, HB4.out⟩
end Go.Proofs.Ythbahfmcmbjglaa
