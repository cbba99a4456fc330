import Derived.Test.YtiigcjcolpmafaaVb
import Derived.Deep.RegionHeld3
namespace Go.Proofs.Ytiigcjcolpmafaa
open Go.RowKit

/-- The box of a plan. -/
def BoxP (w : World) (bx : Nat) (AH AS AP : Option Addr) (nH nS nP cH cS cP : Nat) : Prop :=
  w.cell? ⟨bx, 0, none⟩ = some (.slice AH nH cH) ∧ w.cell? ⟨bx, 1, none⟩ = some (.slice AS nS cS) ∧ w.cell? ⟨bx, 2, none⟩ = some (.slice AP nP cP)
theorem BoxP.new (w : World) (AH AS AP : Option Addr) (nH nS nP cH cS cP : Nat) : BoxP (w.alloc (.cells #[.slice AH nH cH, .slice AS nS cS, .slice AP nP cP] 29)) w.heap.size AH AS AP nH nS nP cH cS cP := by
  refine ⟨?_, ?_, ?_⟩ <;> simp [World.cell?_alloc_at]
theorem BoxP.keep {w w' : World} {bx : Nat} {AH AS AP : Option Addr} {nH nS nP cH cS cP : Nat} (h : BoxP w bx AH AS AP nH nS nP cH cS cP) (hb : Below w.heap.size w w') : BoxP w' bx AH AS AP nH nS nP cH cS cP :=
  ⟨old_cell h.1 hb, old_cell h.2.1 hb, old_cell h.2.2 hb⟩

theorem OwnL.shp {w : World} {base : Nat} {v : Value} {xs : List Int} {k : Nat} (h : OwnL w base v xs) (hk : xs.length = k) : ∃ A c, v = .slice A k c ∧ Ints w A k (fun j => xs.getD j 0) := by
  obtain ⟨A, c, e, -, hI, -⟩ := h.form
  subst hk
  exact ⟨A, c, e, hI⟩

set_option maxHeartbeats 2000000 in
set_option maxRecDepth 1000000 in
theorem matches_any (AH AS AP D : Option Addr) (cH cS cP n c : Nat) (p : PlanD) (m : Nat → Int) (w : World) (h : PlanIn w AH AS AP p) (hd : Ints w D n m) (hn : n ≤ 9) :
    Lr 68 #[.agg #[.slice AH p.nH cH, .slice AS p.nS cS, .slice AP p.nP cP], .slice D n c] w (.bool (okMat p n m)) := by
  have Hb0 := Lib.hid (below_box w (.cells #[.slice AH p.nH cH, .slice AS p.nS cS, .slice AP p.nP cP] 29))
  have HB0 := Lib.hid (BoxP.new w AH AS AP p.nH p.nS p.nP cH cS cP)
  have HV := Lib.hid (valid_any AH AS AP cH cS cP p _ (h.keep Hb0.out))
  have HPl := Lib.hid h
  have HD := Lib.hid hd
  clear h hd
  show Calls _ _ _ _ _
  cases hok : okPlan p with
  | false =>
    have HE : Hid (okMat p n m = false) := Lib.hid (by unfold okMat; rw [hok]; rfl)
    rw [hok] at HV
    clear hok
    go_enter Try.func68, Try.ntmps68
    go_wp2_with fail
    refine Lr.use HV.out ?_
    intro w1 hb1
    have Hb1 := Lib.hid (Hb0.out.trans (hb1.mono Hb0.out.size))
    clear hb1
    go_wp2
    go_ret
    exact ⟨ret_bool HE.out.symm, Hb1.out⟩
  | true =>
    have HOk := Lib.hid hok
    rw [hok] at HV
    by_cases hlen : n = p.nH
    · go_enter Try.func68, Try.ntmps68
      go_wp2_with fail
      refine Lr.use HV.out ?_
      intro w1 hb1
      obtain ⟨q0, q1, q2⟩ := HB0.out.keep hb1
      have HB1 := Lib.hid (HB0.out.keep hb1)
      have Hb1 := Lib.hid (Hb0.out.trans (hb1.mono Hb0.out.size))
      have hlB := bne_f (a := (n : Int)) (b := (p.nH : Int)) (by omega)
      clear hb1
      have HLen := Lib.hid hlen
      clear hlen hok
      go_wp2
      go_loopw [20] (fun x wr => ∃ k : Nat, k ≤ n ∧ x = .int .i64 k ∧ AllLt (matP p m) k ∧ Below w.heap.size w wr ∧ BoxP wr w.heap.size AH AS AP p.nH p.nS p.nP cH cS cP) (fun x _ => n - (intOf x).toNat)
      case atStart => exact ⟨0, Nat.zero_le _, rfl, AllLt.zero, Hb1.out, HB1.out⟩
      case round =>
        obtain ⟨k, hk, rfl, hA, hbel, hbox⟩ := hrel
        have HA := Lib.hid hA
        have Hbel := Lib.hid hbel
        have HBox := Lib.hid hbox
        clear hA hbel hbox q0 q1 q2
        by_cases hlt : k < n
        · obtain ⟨bD, oD, rfl, hck⟩ := (HD.out.keep Hbel.out).at hlt
          by_cases e1 : m k = -1
          · have HN := Lib.hid (HA.out.succ (by unfold matP; rw [decide_eq_true e1]; rfl))
            have eB := beq_t e1
            go_wp2
            go_roundw
            case rel => exact ⟨k + 1, by omega, by go_num, HN.out, Hbel.out, HBox.out⟩
            case measure => simp [intOf]; omega
          · have eB := beq_f e1
            have hkH : k < p.nH := by have := HLen.out; omega
            have HPos : ∀ w' : World, Below wr.heap.size wr w' → Lr 89 #[.agg #[.slice AH p.nH cH, .slice AS p.nS cS, .slice AP p.nP cP], .int .i64 k, .int .i64 (m k)] w' (.bool (possB p k (m k))) := fun w' hb' =>
              possible_any AH AS AP cH cS cP p k (m k) w' (HPl.out.keep (Hbel.out.trans (hb'.mono Hbel.out.size))).hands.rows (HPl.out.keep (Hbel.out.trans (hb'.mono Hbel.out.size))).shifts.rows HOk.out hkH
            have HPos := Lib.hid HPos
            cases hpo : possB p k (m k) with
            | false =>
              rw [hpo] at HPos
              have HE : Hid (okMat p n m = false) := Lib.hid (by
                unfold okMat
                rw [allB_f hkH (by unfold matP; rw [decide_eq_false e1, hpo]; rfl)]
                simp)
              have k0 : ∀ q : Later wr, q.to.cell? ⟨w.heap.size, 0, none⟩ = some (.slice AH p.nH cH) := fun q => q.cell HBox.out.1
              have k1 : ∀ q : Later wr, q.to.cell? ⟨w.heap.size, 1, none⟩ = some (.slice AS p.nS cS) := fun q => q.cell HBox.out.2.1
              have k2 : ∀ q : Later wr, q.to.cell? ⟨w.heap.size, 2, none⟩ = some (.slice AP p.nP cP) := fun q => q.cell HBox.out.2.2
              clear hpo e1
              go_wp2
              refine wp_region_later (by kernel_rfl) (by kernel_rfl) ?_
              repeat
                (with_reducible refine wpQuiet_step ?_
                 intro K hK
                 go_simp
                 first
                   | (refine hK _ ?_; clear hK K)
                   | (apply Exists.intro
                      refine ⟨fun _ => ?_, hK _ ?_⟩
                      (go_at_call 89; exact Lr.later (HPos.out _ (Later.below (by assumption))))
                      clear hK K))
              with_reducible refine wpQuiet_nil ?_
              intro _ hw'
              obtain ⟨q, hw''⟩ := hw'
              subst hw''
              have Hq := Lib.hid (Hbel.out.trans (q.below.mono Hbel.out.size))
              clear k0 k1 k2
              go_wp2
              go_ret
              exact ⟨ret_bool HE.out.symm, Hq.out⟩
            | true =>
              rw [hpo] at HPos
              obtain ⟨⟨-, -, -, -, h5⟩, -, h7, -⟩ := okPlan_of HOk.out
              have hx : 0 ≤ idxI (p.vH k) (m k) (p.LH k) := by
                have := hpo
                unfold possB at this
                rw [Bool.and_eq_true] at this
                exact of_decide_eq_true this.1
              obtain ⟨hs0, hs1⟩ := (h7 k hkH).rng hx
              obtain ⟨t, ht⟩ : ∃ t : Nat, m k = t := ⟨(m k).toNat, by omega⟩
              have htP : t < p.nP := by omega
              have htP' : (t : Int) < (p.nP : Int) := by omega
              have ht0 : (0 : Int) ≤ t := by omega
              have HMk : Hid (matP p m k = decide ((cnt m (t : Int) n : Int) ≤ p.pl t)) := Lib.hid (by
                unfold matP
                rw [decide_eq_false e1, hpo, ht, Int.toNat_natCast, HLen.out]
                rfl)
              rw [ht] at hck HPos eB
              obtain ⟨bP, oP, hAP, hcp⟩ := ((HPl.out.keep Hbel.out).places).at htP
              subst hAP
              obtain ⟨q0, q1, q2⟩ := HBox.out
              have HQ2 := Lib.hid q2
              have HCp := Lib.hid hcp
              clear hpo e1 hx hs0 hs1 ht h5 h7 hcp
              have HHo : ∀ w' : World, Below wr.heap.size wr w' → Calls Try.prog 62 #[.slice (some ⟨bD, oD, none⟩) n c, .int .i64 (t : Int)] w' fun e w'' => ∃ A c, e = .returned (.slice A (cnt m (t : Int) n) c) ∧ Below w'.heap.size w' w'' := fun w' hb' =>
                (handsOf_any _ n c m (t : Int) w' (HD.out.keep (Hbel.out.trans (hb'.mono Hbel.out.size))) (by omega)).mono (by
                  rintro e w'' ⟨x, rfl, hx, hb''⟩
                  obtain ⟨A, c, rfl, -⟩ := hx.shp (hndL_len _ _ _)
                  exact ⟨A, c, rfl, hb''⟩)
              have HHo := Lib.hid HHo
              by_cases hgt : p.pl t < (cnt m (t : Int) n : Int)
              · have HE : Hid (okMat p n m = false) := Lib.hid (by
                  unfold okMat
                  rw [allB_f hkH (by rw [HMk.out]; exact decide_eq_false (by omega))]
                  simp)
                generalize cnt m (t : Int) n = ct at *
                go_wp2_with fail
                first
                  | go_region_with ((first
                      | (go_at_call 89; refine Lr.use (HPos.out _ ?_) ?_; exact ((Dn.refl wr).drew.below _); intro w2 hb2; have hB2 : Below wr.heap.size wr w2 := ((Dn.refl wr).drew.below _).trans hb2; have f2 := old_cell HQ2.out hB2; have g2 := old_cell HCp.out hB2)
                      | (go_at_call 62; refine (HHo.out _ hB2).mono ?_; rintro e w3 ⟨A3, c3, rfl, hb3⟩; have hB3 : Below wr.heap.size wr w3 := hB2.trans (hb3.mono hB2.size); have f3 := old_cell HQ2.out hB3; have g3 := old_cell HCp.out hB3)))
                all_goals
                  have Hq := Lib.hid (Hbel.out.trans (hB3.mono Hbel.out.size))
                  clear hB2 hb2 hB3 hb3
                  go_wp2
                  go_ret
                  exact ⟨ret_bool HE.out.symm, Hq.out⟩
              · have HN := Lib.hid (HA.out.succ (by rw [HMk.out]; exact decide_eq_true (by omega)))
                generalize cnt m (t : Int) n = ct at *
                go_wp2_with fail
                first
                  | go_region_with ((first
                      | (go_at_call 89; refine Lr.use (HPos.out _ ?_) ?_; exact ((Dn.refl wr).drew.below _); intro w2 hb2; have hB2 : Below wr.heap.size wr w2 := ((Dn.refl wr).drew.below _).trans hb2; have f2 := old_cell HQ2.out hB2; have g2 := old_cell HCp.out hB2)
                      | (go_at_call 62; refine (HHo.out _ hB2).mono ?_; rintro e w3 ⟨A3, c3, rfl, hb3⟩; have hB3 : Below wr.heap.size wr w3 := hB2.trans (hb3.mono hB2.size); have f3 := old_cell HQ2.out hB3; have g3 := old_cell HCp.out hB3)))
                all_goals
                  have Hq := Lib.hid (Hbel.out.trans (hB3.mono Hbel.out.size))
                  have HBq := Lib.hid (HBox.out.keep hB3)
                  clear hB2 hb2 hB3 hb3
                  go_wp2
                  go_roundw
                  case rel => exact ⟨k + 1, by omega, by go_num, HN.out, Hq.out, HBq.out⟩
                  case measure => simp [intOf]; omega
        · obtain rfl : k = n := by omega
          have HE : Hid (okMat p k m = true) := Lib.hid (by
            unfold okMat
            rw [HOk.out, decide_eq_true HLen.out, allB_t (by rw [← HLen.out]; exact HA.out)]
            rfl)
          go_wp2
          go_ret
          exact ⟨ret_bool HE.out.symm, Hbel.out⟩
    · have HE : Hid (okMat p n m = false) := Lib.hid (by unfold okMat; rw [decide_eq_false hlen]; simp)
      have hlB := bne_t (a := (n : Int)) (b := (p.nH : Int)) (by omega)
      clear hlen hok
      go_enter Try.func68, Try.ntmps68
      go_wp2_with fail
      refine Lr.use HV.out ?_
      intro w1 hb1
      obtain ⟨q0, q1, q2⟩ := HB0.out.keep hb1
      have Hb1 := Lib.hid (Hb0.out.trans (hb1.mono Hb0.out.size))
      clear hb1
      go_wp2
      go_ret
      exact ⟨ret_bool HE.out.symm, Hb1.out⟩
end Go.Proofs.Ytiigcjcolpmafaa
