/- A part of the proof: Tvz. -/
import Derived.Test.YtiigcjcolpmafaaTuz
namespace Go.Proofs.Ytiigcjcolpmafaa
open Go.RowKit

set_option maxHeartbeats 2000000 in
set_option maxRecDepth 1000000 in
theorem rblocks_any (AH AS AP D : Option Addr) (cH cS cP n c : Nat) (p : PlanD) (m : Nat → Int) (h s : Nat) (w : World) (hp : PlanArg w AH AS AP cH cS cP p) (hd : Ints w D n m) (hn : n = p.nH) (hok : okPlan p = true) (hl : Lstd p m) (hhas : Has p m) (hh : h < p.nH) (hs : s < p.nS) :
    Lr 81 #[.agg #[.slice AH p.nH cH, .slice AS p.nS cS, .slice AP p.nP cP], .slice D n c, .int .i64 h, .int .i64 s] w (.bool (blkB p m h s)) := by
  obtain ⟨⟨a1, a2, a3, a4, a5⟩, a6, a7, a8⟩ := okPlan_of hok
  obtain ⟨W, hW⟩ : ∃ W, W = w.alloc (.cells #[.slice AH p.nH cH, .slice AS p.nS cS, .slice AP p.nP cP] 25) := ⟨_, rfl⟩
  have hb0 : Below w.heap.size w W := by rw [hW]; exact below_box _ _
  have hB0 : BoxP W w.heap.size AH AS AP p.nH p.nS p.nP cH cS cP := by rw [hW]; exact BoxP.newR w AH AS AP p.nH p.nS p.nP cH cS cP
  have hPl := hp.keep hb0
  have hD := hd.keep hb0
  obtain ⟨bH, oH, RH, kH, rfl, hcH, hIH⟩ := hPl.hands.rows.at hh
  obtain ⟨bS, oS, RS, kS, rfl, hcS, hIS⟩ := hPl.shifts.rows.at hs
  obtain ⟨bP, oP, rfl, hcP⟩ := hPl.places.2.2.2.at (show s < p.nP by omega)
  obtain ⟨bD, oD, rfl, hcD⟩ := hD.at (show h < n by omega)
  have hLS := (a8 s hs).1
  have hLS9 : p.LS s ≤ 9 := by omega
  have hpl1 := (a6 s (by omega)).1
  have hhn : (h : Int) < (n : Int) := by omega
  have hsP : (s : Int) < (p.nP : Int) := by omega
  have hsS : (s : Int) < (p.nS : Int) := by omega
  have hs0 : (0 : Int) ≤ (s : Int) := by omega
  have HPos : ∀ q : Later W, Hid (Lr 77 #[.agg #[.slice (some ⟨bH, oH, none⟩) p.nH cH, .slice (some ⟨bS, oS, none⟩) p.nS cS, .slice (some ⟨bP, oP, none⟩) p.nP cP], .int .i64 h, .int .i64 (s : Int)] q.to (.bool (possB p h (s : Int)))) := fun q => Lib.hid
    (rpossible_any _ _ _ cH cS cP p h (s : Int) q.to (hPl.keep q.below).hands.rows (hPl.keep q.below).shifts.rows hok hh)
  have HLk : ∀ q : Later W, Hid (Lr 76 #[.agg #[.slice (some ⟨bH, oH, none⟩) p.nH cH, .slice (some ⟨bS, oS, none⟩) p.nS cS, .slice (some ⟨bP, oP, none⟩) p.nP cP], .int .i64 h, .int .i64 (s : Int), .int .i64 (m h)] q.to (.bool (likB p h (s : Int) (m h)))) := fun q => Lib.hid
    (likes_any _ _ _ cH cS cP p h (s : Int) (m h) q.to (hPl.keep q.below).hands.rows hok hh)
  have HLi : Hid (possB p h (s : Int) = true → likB p h (s : Int) (m h) = decide (rkI (p.vH h) (p.LH h) (s : Int) < rkI (p.vH h) (p.LH h) (m h)) ∧ 0 ≤ idxI (p.vS s) (h : Int) (p.LS s)) := Lib.hid (fun hpo => by
    unfold possB at hpo
    rw [Bool.and_eq_true, Int.toNat_natCast] at hpo
    exact ⟨lik_rk hok hh (.inr (of_decide_eq_true hpo.1)) (hhas h hh), of_decide_eq_true hpo.2⟩)
  have HB0 := Lib.hid hB0
  have Hb0 := Lib.hid hb0
  have HcS := Lib.hid hcS
  have HcP := Lib.hid hcP
  have HcD := Lib.hid hcD
  have HIS := Lib.hid hIS
  have HD := Lib.hid hD
  have HLst := Lib.hid hl
  have HN := Lib.hid hn
  have HDef : Hid (blkB p m h s = (possB p h (s : Int) && decide (rkI (p.vH h) (p.LH h) (s : Int) < rkI (p.vH h) (p.LH h) (m h)) && (decide ((cnt m (s : Int) n : Int) < p.pl s) || anyB (lessP p m h s) n))) := Lib.hid (by rw [hn]; rfl)
  have hn9 : n ≤ 9 := by omega
  clear hp hd hb0 hB0 hPl hD hcH hcS hcP hcD hIH hIS hl a5 a6 a7 a8 hn hok hhas
  show Calls _ _ _ _ _
  go_enter Try.func81, Try.ntmps81
  go_wp2_with fail
  rw [← hW]
  have k0 : ∀ q : Later W, q.to.cell? ⟨w.heap.size, 0, none⟩ = some (.slice (some ⟨bH, oH, none⟩) p.nH cH) := fun q => q.cell HB0.out.1
  have k1 : ∀ q : Later W, q.to.cell? ⟨w.heap.size, 1, none⟩ = some (.slice (some ⟨bS, oS, none⟩) p.nS cS) := fun q => q.cell HB0.out.2.1
  have k2 : ∀ q : Later W, q.to.cell? ⟨w.heap.size, 2, none⟩ = some (.slice (some ⟨bP, oP, none⟩) p.nP cP) := fun q => q.cell HB0.out.2.2
  have k4 : ∀ q : Later W, q.to.cell? ⟨bD, oD + h, none⟩ = some (.int .i64 (m h)) := fun q => q.cell HcD.out
  clear hW
  generalize hpo : possB p h (s : Int) = po at *
  generalize hlk : likB p h (s : Int) (m h) = lk at *
  refine wp_region_later (by kernel_rfl) (by kernel_rfl) ?_
  cases po with
  | false =>
    repeat
      (with_reducible refine wpQuiet_step ?_
       intro K hK
       go_simp
       first
         | (refine hK _ ?_; clear hK K)
         | (apply Exists.intro
            refine ⟨fun _ => ?_, hK _ ?_⟩
            (first
              | (go_at_call 77; exact Lr.later (HPos _).out)
              | (go_at_call 76; exact Lr.later (HLk _).out))
            clear hK K))
    with_reducible refine wpQuiet_nil ?_
    intro _ hw'
    obtain ⟨q, hw''⟩ := hw'
    subst hw''
    have Hq := Lib.hid (Hb0.out.trans (q.below.mono Hb0.out.size))
    clear k0 k1 k2 k4
    go_wp2
    go_ret
    exact ⟨ret_bool (by rw [HDef.out]; rfl), Hq.out⟩
  | true =>
    obtain ⟨hl1, hl2⟩ := HLi.out rfl
    have HDef2 : Hid (blkB p m h s = (lk && (decide ((cnt m (s : Int) n : Int) < p.pl s) || anyB (lessP p m h s) n))) := Lib.hid (by rw [HDef.out, ← hl1]; rfl)
    have HL2 := Lib.hid hl2
    clear hl1 hl2
    cases lk with
    | false =>
      repeat
        (with_reducible refine wpQuiet_step ?_
         intro K hK
         go_simp
         first
           | (refine hK _ ?_; clear hK K)
           | (apply Exists.intro
              refine ⟨fun _ => ?_, hK _ ?_⟩
              (first
                | (go_at_call 77; exact Lr.later (HPos _).out)
                | (go_at_call 76; exact Lr.later (HLk _).out))
              clear hK K))
      with_reducible refine wpQuiet_nil ?_
      intro _ hw'
      obtain ⟨q, hw''⟩ := hw'
      subst hw''
      have Hq := Lib.hid (Hb0.out.trans (q.below.mono Hb0.out.size))
      clear k0 k1 k2 k4
      go_wp2
      go_ret
      exact ⟨ret_bool (by rw [HDef2.out]; rfl), Hq.out⟩
    | true =>
      have HDef3 : Hid (blkB p m h s = (decide ((cnt m (s : Int) n : Int) < p.pl s) || anyB (lessP p m h s) n)) := Lib.hid (by rw [HDef2.out]; rfl)
      repeat
        (with_reducible refine wpQuiet_step ?_
         intro K hK
         go_simp
         first
           | (refine hK _ ?_; clear hK K)
           | (apply Exists.intro
              refine ⟨fun _ => ?_, hK _ ?_⟩
              (first
                | (go_at_call 77; exact Lr.later (HPos _).out)
                | (go_at_call 76; exact Lr.later (HLk _).out))
              clear hK K))
      with_reducible refine wpQuiet_nil ?_
      intro _ hw'
      obtain ⟨q, hw''⟩ := hw'
      subst hw''
      have hb2 := q.below
      clear k0 k1 k2 k4 HPos HLk
      generalize q.to = w2 at hb2 ⊢
      clear q hpo hlk
      obtain ⟨g0, g1, g2⟩ := HB0.out.keep hb2
      have g3 := old_cell HcP.out hb2
      have g4 := old_cell HcS.out hb2
      have HD2 := Lib.hid (HD.out.keep hb2)
      have HIS2 := Lib.hid (HIS.out.keep hb2)
      have Hbw := Lib.hid (Hb0.out.trans (hb2.mono Hb0.out.size))
      clear hb2
      go_wp2
      go_loopw [9, 30] (fun y x wr => ∃ k : Nat, k ≤ n ∧ x = .int .i64 k ∧ y = .int .i64 (cnt m (s : Int) k) ∧ NoneLt (lessP p m h s) k ∧ Dn w2 wr) (fun _ x _ => n - (intOf x).toNat)
      case atStart => exact ⟨0, Nat.zero_le _, rfl, rfl, NoneLt.zero, Dn.refl _⟩
      case round =>
        obtain ⟨k, hk, rfl, rfl, hN, hDn⟩ := hrel
        have HNl := Lib.hid hN
        clear hN
        have hct := cnt_le m (s : Int) k
        have f1 := old_cell g1 (hDn.below _)
        have f2 := old_cell g2 (hDn.below _)
        have f3 := old_cell g3 (hDn.below _)
        have f4 := old_cell g4 (hDn.below _)
        by_cases hlt : k < n
        · obtain ⟨bD', oD', eD, hck⟩ := (HD2.out.dn hDn).at hlt
          injection eD with eD
          injection eD with e1 e2
          subst e1 e2
          by_cases ex : m k = (s : Int)
          · have HC : Hid (cnt m (s : Int) (k + 1) = cnt m (s : Int) k + 1) := Lib.hid (by simp only [cnt]; rw [if_pos ex])
            have hxl := HLst.out k s (by rw [← HN.out]; exact hlt) ex
            have HLe : Hid (lessP p m h s k = decide (idxI (p.vS s) (h : Int) (p.LS s) < idxI (p.vS s) (k : Int) (p.LS s))) := Lib.hid (by
              unfold lessP
              rw [decide_eq_true ex, rkI_listed HL2.out, rkI_listed hxl]
              rfl)
            have HR1 : ∀ q, Hid (Ro 86 #[.slice RS (p.LS s) kS, .int .i64 (h : Int)] (wr.drewN q) (.int .i64 (idxI (p.vS s) (h : Int) (p.LS s)))) := fun q => Lib.hid (Ro.same (rRank_any RS _ kS (p.vS s) (h : Int) _ ((HIS2.out.dn hDn).dn ⟨q, rfl⟩) (by omega)))
            have HR2 : ∀ q, Hid (Ro 86 #[.slice RS (p.LS s) kS, .int .i64 (k : Int)] (wr.drewN q) (.int .i64 (idxI (p.vS s) (k : Int) (p.LS s)))) := fun q => Lib.hid (Ro.same (rRank_any RS _ kS (p.vS s) (k : Int) _ ((HIS2.out.dn hDn).dn ⟨q, rfl⟩) (by omega)))
            generalize idxI (p.vS s) (h : Int) (p.LS s) = i1 at *
            generalize idxI (p.vS s) (k : Int) (p.LS s) = i2 at *
            have eB := beq_t ex
            clear ex hxl
            by_cases hi : i1 < i2
            · have HE : Hid (blkB p m h s = true) := Lib.hid (by
                rw [HDef3.out, anyB_t hlt (by rw [HLe.out]; exact decide_eq_true hi)]
                simp)
              go_wp2_with fail
              go_quiet (first | (go_at_call_of 86 ((k : Nat) : Int); exact Ro.quiet (HR2 _).out) | (go_at_call 86; exact Ro.quiet (HR1 _).out))
              go_wp2
              go_ret
              exact ⟨ret_bool HE.out.symm, Hbw.out.trans (((hDn.drewN _).below _).mono Hbw.out.size)⟩
            · have HN2 := Lib.hid (HNl.out.succ (by rw [HLe.out]; exact decide_eq_false hi))
              go_wp2_with fail
              go_quiet (first | (go_at_call_of 86 ((k : Nat) : Int); exact Ro.quiet (HR2 _).out) | (go_at_call 86; exact Ro.quiet (HR1 _).out))
              go_wp2
              go_roundw
              case rel => exact ⟨k + 1, by omega, by go_num, val_int (by rw [HC.out]; omega), HN2.out, hDn.drewN _⟩
              case measure => simp [intOf]; omega
          · have HC : Hid (cnt m (s : Int) (k + 1) = cnt m (s : Int) k) := Lib.hid (by simp only [cnt]; rw [if_neg ex])
            have HN2 := Lib.hid (HNl.out.succ (by unfold lessP; rw [decide_eq_false ex]; rfl))
            have eB := beq_f ex
            clear ex
            go_wp2
            go_roundw
            case rel => exact ⟨k + 1, by omega, by go_num, val_int (by rw [HC.out]), HN2.out, hDn⟩
            case measure => simp [intOf]; omega
        · obtain rfl : k = n := by omega
          have HE : Hid (blkB p m h s = decide ((cnt m (s : Int) k : Int) < p.pl s)) := Lib.hid (by rw [HDef3.out, anyB_f HNl.out]; simp)
          generalize cnt m (s : Int) k = ct at *
          go_wp2
          go_ret
          exact ⟨ret_bool HE.out.symm, Hbw.out.trans ((hDn.below _).mono Hbw.out.size)⟩
end Go.Proofs.Ytiigcjcolpmafaa

