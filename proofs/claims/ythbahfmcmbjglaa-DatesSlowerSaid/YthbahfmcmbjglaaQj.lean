/- The reference's plan by rule 0. -/
import Derived.Test.YthbahfmcmbjglaaQi
namespace Go.Proofs.Ythbahfmcmbjglaa
open Go.RowKit

set_option maxHeartbeats 4000000 in
set_option maxRecDepth 1000000 in
theorem refPlan0_any (A : Option Addr) (n c : Nat) (J : Nat → Nat → Int) (w : World) (h : Recs 4 w A n J) (hok : okJ n J = true) :
    Calls Try.prog 48 #[.slice A n c, .int .i64 0] w fun e w' => ∃ v, e = .returned v ∧ OwnK 3 48 w' w.heap.size v (plS 0 n J).m (plS 0 n J).p ∧ Below w.heap.size w w' := by
  have H := Lib.hid h
  have HO := Lib.hid hok
  obtain ⟨hn1, hn8⟩ := (okJ_iff.1 hok).1
  clear h hok
  go_enter Try.func48, Try.ntmps48
  go_wp2_with fail
  have q1 : 0 ≤ 0 := Nat.le_refl _
  obtain ⟨i1, hi1, hz01, hz11, hz21⟩ := info_parts infoInt
  obtain ⟨i0, hi, hz0, hz1, hz2⟩ := info_parts infoRp
  go_loopw [6, 7, 17] (fun v t i wr => ∃ k : Nat, k ≤ n ∧ i = .int .i64 k ∧ OwnL wr w.heap.size v (lst k (fun a => J a 0)) ∧ t = .int .i64 (smT (fun a => J a 0) k) ∧ 0 ≤ smT (fun a => J a 0) k ∧ smT (fun a => J a 0) k ≤ 20 * k ∧ Below w.heap.size w wr) (fun _ _ i _ => n - (intOf i).toNat)
  case atStart => exact ⟨0, Nat.zero_le _, rfl, OwnL.nil_ _ _, rfl, Int.le_refl _, by simp [smT], Below.refl _ _⟩
  case round =>
    obtain ⟨k, hk, rfl, hown, rfl, h0, h1, hbel⟩ := hrel
    have HO2 := Lib.hid hown
    have HB := Lib.hid hbel
    clear hown
    by_cases hlt : k < n
    · obtain ⟨b, o, rfl, c0, c1, c2, c3⟩ := (H.out.keep hbel).four hlt
      have hs0 : w.heap.size ≤ wr.heap.size := hbel.size
      have hJ := (okJ_iff.1 HO.out).2 k hlt
      obtain ⟨⟨hJ1, hJ2⟩, -⟩ := hJ
      have HS : Hid (smT (fun a => J a 0) (k + 1) = smT (fun a => J a 0) k + J k 0) := Lib.hid rfl
      have hwl := HO2.out
      unfold OwnL at hwl
      rw [lst_len] at hwl
      have HWL := Lib.hid hwl
      clear hbel hwl
      generalize smT (fun a => J a 0) k = sm at *
      go_wp2_with (at_builtin; go_loud (refine wpList_append_own _ rfl _ _ 23 rfl w.heap.size 3 i1 (.int .i64 0) 1 8 Try.underlying23 hi1 hz01 hz11 hz21 rfl (by decide) _ _ _ rfl (World.ownsRow.alloc (World.ownsRow.alloc HWL.out _) _) ⟨wr.heap.size + 1, 0, none⟩ 1 1 [.int .i64 (J k 0)] rfl rfl (fun a u hu => by have h := news1 (wr.alloc (.cells #[.int .i64 (J k 0), .int .i64 (J k 1), .int .i64 (J k 2), .int .i64 (J k 3)] 64)) _ 3 a u hu; rw [World.size_alloc] at h; exact h) (one1 rfl) (by unfold maxLen; omega) (by omega) (by simp; omega) ?_))
      intro v' w5 hown hgrow _
      have HO5 := Lib.hid hown
      have HG5 := Lib.hid hgrow
      clear hown hgrow
      have hbx : w5.cell? ⟨wr.heap.size, 0, none⟩ = some (.int .i64 (J k 0)) := World.grownBy.cell HG5.out (Lib.cell?_alloc_some _ (by simp [World.cell?_alloc_at])) (fun e => by
        have h := (World.ownsRow.lt HWL.out _ e.symm).2
        exact Nat.lt_irrefl _ h)
      go_wp2
      go_roundw
      case rel =>
        refine ⟨k + 1, by omega, by go_num, ?_, by rw [HS.out], by rw [HS.out]; omega, by rw [HS.out]; push_cast; omega, ?_⟩
        · unfold OwnL
          rw [lst_len, lst_succ, List.map_append]
          exact HO5.out
        · refine ((HB.out.alloc hs0 _).alloc (by simp; omega) _).grown HG5.out (by simp; omega) ?_
          intro g hg
          exact (World.ownsRow.lt HWL.out g hg).1
      case measure => simp [intOf]; omega
    · have hkn : k = n := by omega
      rw [hkn] at HO2 h0 h1 ⊢
      clear hkn hlt hk
      obtain ⟨g, cap, rfl, hg, hR⟩ := HO2.out.rowC (by omega)
      have HR := Lib.hid hR
      have HT := Lib.hid (total_le HO.out)
      clear hR hbel
      obtain ⟨WA, rfl⟩ : ∃ WA, WA = wr := ⟨wr, rfl⟩
      go_wp2
      have hlt0 : g < WA.heap.size := HR.out.lt
      go_loopw [5, 7, 10] (fun v t i wx => ∃ k : Nat, k ≤ 260 ∧ i = .int .i64 k ∧ t = .int .i64 (smT (stF 0 n J k).left n) ∧ OwnK 3 48 wx WA.heap.size v (stF 0 n J k).m (stF 0 n J k).p ∧ RowC wx g cap n (stF 0 n J k).left ∧ WA.heap.size ≤ wx.heap.size ∧ Below w.heap.size w wx) (fun _ _ i _ => 261 - (intOf i).toNat)
      case atStart => exact ⟨0, Nat.zero_le _, rfl, rfl, OwnK.nil_ _ _ _ _ _, HR.out, Nat.le_refl _, HB.out⟩
      case round =>
        obtain ⟨k, hk, rfl, rfl, hO, hL, hWAx, hD⟩ := hrel
        have HOA := Lib.hid hWAx
        clear hWAx
        have hleft := (stF_left (ru := 0) HO.out k).1
        have HInv := Lib.hid (stF_inv (ru := 0) HO.out k)
        have HS := Lib.hid (stF_succ 0 n J k)
        have hle := (stF_left (ru := 0) HO.out k).2
        have HEnd := Lib.hid (fun hz => stF_end (ru := 0) (n := n) (J := J) hk hz)
        generalize hst : stF 0 n J k = s at *
        have hs0 := smT_nonneg (fun a ha => (hleft a ha).1)
        have HOw := Lib.hid hO
        have HL := Lib.hid hL
        have HLe := Lib.hid hleft
        have HD := Lib.hid hD
        obtain ⟨Av, cv, rfl, hnil, hRp, hbk, hmc, hcm⟩ := hO.form
        have hm260 : s.m ≤ 260 := Nat.le_trans HInv.out.m_le hk
        have hsle : smT s.left n ≤ 160 := Int.le_trans (smT_le (fun a ha => (HLe.out a ha).2)) HT.out
        have hk2 : 0 < smT s.left n → (k : Int) < 260 := fun hp => by
          have h1 := hle hp
          have h2 := HT.out
          omega
        have HSm := Lib.hid (fun (j : Nat) (x : Int) => smT_upd (f := s.left) (j := j) (x := x) (n := n))
        have HSz := Lib.hid (fun h0 => smT_zero (f := s.left) (n := n) (fun a ha => (HLe.out a ha).1) h0)
        generalize hsm : smT s.left n = sm at *
        clear hO hL hD hleft hnil hRp hbk hst hle
        by_cases hpos : 0 < sm
        · have hk260 := hk2 hpos
          have HSM := Lib.hid hsm
          clear hsm hk2
          obtain ⟨W0, rfl⟩ : ∃ W0, W0 = wr := ⟨wr, rfl⟩
          go_wp2
          go_loopw [11, 37] (fun at_ i wy => ∃ a : Nat, a ≤ n ∧ i = .int .i64 a ∧ at_ = .int .i64 (chF s.left (fun k => J k 1) (rkF 0 J s.left) (k : Int) a) ∧ Below W0.heap.size W0 wy) (fun _ i _ => n - (intOf i).toNat)
          case atStart => exact ⟨0, Nat.zero_le _, rfl, rfl, Below.refl _ _⟩
          case round =>
            obtain ⟨a, ha, rfl, rfl, hD0⟩ := hrel
            have hlo := chF_lo (left := s.left) (r := fun k => J k 1) (rk := rkF 0 J s.left) (now := (k : Int)) a
            have HC := Lib.hid (chF_succ s.left (fun k => J k 1) (rkF 0 J s.left) (k : Int) a)
            have hDw : Below w.heap.size w wr := HD.out.trans (hD0.mono HD.out.size)
            have hLw : RowC wr g cap n s.left := HL.out.keep hD0
            by_cases hlt : a < n
            · obtain ⟨b, o, rfl, c0, c1, c2, c3⟩ := (H.out.keep hDw).four hlt
              have hW1 : Below wr.heap.size wr (wr.alloc (.cells #[.int .i64 (J a 0), .int .i64 (J a 1), .int .i64 (J a 2), .int .i64 (J a 3)] 64)) := (Below.refl _ _).alloc (Nat.le_refl _) _
              have HLw := Lib.hid (hLw.keep hW1)
              have cl := HLw.out.cell hlt
              have HD1 := Lib.hid (hD0.trans (hW1.mono hD0.size))
              have hB0 : W0.heap.size ≤ wr.heap.size := hD0.size
              have HRk := Lib.hid ((H.out.keep (hDw.trans (hW1.mono hDw.size))))
              clear hW1 hLw hDw hD0
              by_cases hr : (k : Int) < J a 1
              · have HN : Hid (chF s.left (fun k => J k 1) (rkF 0 J s.left) (k : Int) (a + 1) = chF s.left (fun k => J k 1) (rkF 0 J s.left) (k : Int) a) := Lib.hid (by rw [HC.out, if_neg (by simp [avl]; omega)])
                generalize chF s.left (fun k => J k 1) (rkF 0 J s.left) (k : Int) a = q at *
                go_wp2
                go_roundw
                case rel => exact ⟨a + 1, by omega, by go_num, by rw [HN.out], HD1.out⟩
                case measure => simp [intOf]; omega
              · by_cases hz : s.left a = 0
                · have HN : Hid (chF s.left (fun k => J k 1) (rkF 0 J s.left) (k : Int) (a + 1) = chF s.left (fun k => J k 1) (rkF 0 J s.left) (k : Int) a) := Lib.hid (by rw [HC.out, if_neg (by simp [avl, hz])])
                  generalize chF s.left (fun k => J k 1) (rkF 0 J s.left) (k : Int) a = q at *
                  rw [hz] at cl
                  go_wp2
                  go_roundw
                  case rel => exact ⟨a + 1, by omega, by go_num, by rw [HN.out], HD1.out⟩
                  case measure => simp [intOf]; omega
                · have HN : Hid (chF s.left (fun k => J k 1) (rkF 0 J s.left) (k : Int) (a + 1) = if chF s.left (fun k => J k 1) (rkF 0 J s.left) (k : Int) a < 0 ∨ rkF 0 J s.left a < rkF 0 J s.left (chF s.left (fun k => J k 1) (rkF 0 J s.left) (k : Int) a).toNat then (a : Int) else chF s.left (fun k => J k 1) (rkF 0 J s.left) (k : Int) a) := Lib.hid (by rw [HC.out, if_pos (by simp [avl, hz]; omega)])
                  have hB := beq_f hz
                  generalize chF s.left (fun k => J k 1) (rkF 0 J s.left) (k : Int) a = q at *
                  clear HC
                  rcases (show q < 0 ∨ 0 ≤ q by omega) with hq0 | hq0
                  · have HN2 : Hid (chF s.left (fun k => J k 1) (rkF 0 J s.left) (k : Int) (a + 1) = (a : Int)) := Lib.hid (by rw [HN.out, if_pos (.inl hq0)])
                    clear HN
                    go_wp2_with fail
                    go_quiet (fail)
                    go_wp2
                    go_roundw
                    case rel => exact ⟨a + 1, by omega, by go_num, by rw [HN2.out], HD1.out.trans (((Dn.refl _).drewN _).below _)⟩
                    case measure => simp [intOf]; omega
                  · obtain ⟨z, rfl⟩ : ∃ z : Nat, q = (z : Int) := ⟨q.toNat, by omega⟩
                    simp only [Int.toNat_natCast] at HN
                    have hza : z < n := by omega
                    obtain ⟨b2, o2, e2, c20, c21, c22, c23⟩ := HRk.out.four hza
                    injection e2 with e2
                    injection e2 with e3 e4
                    subst e3 e4
                    have cz := HLw.out.cell hza
                    have hdn : decide ((z : Int) < 0) = false := decide_eq_false (by omega)
                    by_cases hlt2 : J a 2 < J z 2
                    · have HN2 : Hid (chF s.left (fun k => J k 1) (rkF 0 J s.left) (k : Int) (a + 1) = (a : Int)) := Lib.hid (by rw [HN.out, if_pos (.inr hlt2)])
                      have hdl : decide (J a 2 < J z 2) = true := decide_eq_true hlt2
                      clear HN hlt2
                      go_wp2_with fail
                      go_quiet (fail)
                      go_wp2
                      go_roundw
                      case rel => exact ⟨a + 1, by omega, by go_num, by rw [HN2.out], HD1.out.trans (((Dn.refl _).drewN _).below _)⟩
                      case measure => simp [intOf]; omega
                    · have HN2 : Hid (chF s.left (fun k => J k 1) (rkF 0 J s.left) (k : Int) (a + 1) = (z : Int)) := Lib.hid (by rw [HN.out, if_neg (fun h => by rcases h with h | h; omega; exact hlt2 h)])
                      have hdl : decide (J a 2 < J z 2) = false := decide_eq_false hlt2
                      clear HN hlt2
                      go_wp2_with fail
                      go_quiet (fail)
                      go_wp2
                      go_roundw
                      case rel => exact ⟨a + 1, by omega, by go_num, by rw [HN2.out], HD1.out.trans (((Dn.refl _).drewN _).below _)⟩
                      case measure => simp [intOf]; omega
            · obtain rfl : n = a := by omega
              clear hlt ha hlo HC hLw
              have HD3 := Lib.hid hDw
              have HO3 := Lib.hid (HOw.out.below hD0)
              have HL3 := Lib.hid (HL.out.keep hD0)
              have hWA : WA.heap.size ≤ wr.heap.size := by
                have h := hD0.size
                have h2 := HOA.out
                omega
              clear hDw hD0
              rcases chF_spec (left := s.left) (r := fun k => J k 1) (rk := rkF 0 J s.left) (now := (k : Int)) n with ⟨ec, hno⟩ | ⟨j, hj, ec, ha, -, -⟩
              · have HN : Hid (stF 0 n J (k + 1) = s) := Lib.hid (by rw [HS.out]; unfold stp; rw [ec, if_pos (by omega)])
                rw [ec]
                clear ec hno
                go_wp2
                go_roundw
                case rel => exact ⟨k + 1, by omega, by go_num, by rw [HN.out, HSM.out], by rw [HN.out]; exact HO3.out, by rw [HN.out]; exact HL3.out, hWA, HD3.out⟩
                case measure => simp [intOf]; omega
              · have HN : Hid (stF 0 n J (k + 1) = pushS s (j : Int) (k : Int)) := Lib.hid (by rw [HS.out]; unfold stp; rw [ec, if_neg (by omega)])
                rw [ec]
                have hlj := HLe.out j hj
                have hl0 : s.left j ≠ 0 := fun h0 => by simp [avl, h0] at ha
                clear ec ha
                have hJ := (okJ_iff.1 HO.out).2 j hj
                have hx20 : s.left j ≤ 20 := by omega
                have hx0 : 1 ≤ s.left j := by omega
                have hcl := HL3.out.cell hj
                have hfl := HL3.out.frozen j
                have HLs := Lib.hid (HL3.out.set j (s.left j - 1))
                have HDs := Lib.hid (HD3.out.setCell (p := ⟨g, j, none⟩) hg (.int .i64 (s.left j - 1)))
                have HOs : Hid (OwnK 3 48 (wr.setCell ⟨g, j, none⟩ (.int .i64 (s.left j - 1))) WA.heap.size (.slice Av s.m cv) s.m s.p) := Lib.hid (HO3.out.exc ((Exc.refl g wr).set j _) (by
                  rcases HO3.out.2 with ⟨e, -⟩ | ⟨g', cap', cur, e, hg', -⟩
                  · rw [e]; exact .inl rfl
                  · rw [e]
                    refine .inr (fun h => ?_)
                    injection h with h
                    have h : g' = g := h
                    omega))
                clear hlj hJ HO3 HL3
                have hj8 : (j : Int) < n := by omega
                have HS1 : Hid (smT (upd s.left j (s.left j - 1)) n = sm - 1) := Lib.hid (by rw [HSm.out j (s.left j - 1), if_pos hj]; omega)
                generalize hy : s.left j = y at *
                have HY := Lib.hid hy
                clear hy hl0
                have hszs : (wr.setCell ⟨g, j, none⟩ (.int .i64 (y - 1))).heap.size = wr.heap.size := by simp
                have HSZ := Lib.hid hszs
                clear hszs
                by_cases hm : s.m = 0
                · have HP : Hid (pushS s (j : Int) (k : Int) = ⟨upd s.left j (y - 1), s.m + 1, pcK s.p s.m j k (k + 1)⟩) := Lib.hid (by unfold pushS; rw [if_neg (by omega)]; simp [HY.out])
                  clear hmc
                  generalize s.m = mm at *
                  subst hm
                  rcases Av with _ | av
                  · obtain rfl : cv = 0 := by
                      rcases HOs.out.2 with ⟨e, -⟩ | ⟨g, cap, cur, e, -⟩
                      · injection e
                      · injection e with e
                        cases e
                    go_wp2_with (at_builtin; go_loud (refine wpList_append_own _ rfl _ _ 46 rfl WA.heap.size 48 i0 (.agg #[.int .i64 0, .int .i64 0, .int .i64 0]) 3 24 Try.underlying46 hi hz0 hz1 hz2 rfl (by decide) _ _ _ rfl (World.ownsRow.alloc HOs.out _) ⟨wr.heap.size, 0, none⟩ 1 1 [.int .i64 j, .int .i64 k, .int .i64 (k + 1)] rfl rfl (fun a u hu => by have h := news3 (wr.setCell ⟨g, j, none⟩ (.int .i64 (y - 1))) _ _ _ 48 a u hu; rw [HSZ.out] at h; exact h) (by intro u hu; simp at hu; rcases hu with rfl | rfl | rfl <;> rfl) (by unfold maxLen; omega) (by omega) (by simp; omega) ?_))
                    intro v' w5 hown hgrow _
                    have HO5 := Lib.hid hown
                    have HG5 := Lib.hid hgrow
                    clear hown hgrow
                    go_wp2
                    go_roundw
                    case rel =>
                      refine ⟨k + 1, by omega, by go_num, by rw [HN.out, HP.out, HS1.out], ?_, ?_, by have h := HG5.out.size; simp at h; omega, ?_⟩
                      · rw [HN.out, HP.out]
                        unfold OwnK
                        rw [← recL_pc]
                        exact HO5.out
                      · rw [HN.out, HP.out]
                        have hAl : RowC ((wr.setCell ⟨g, j, none⟩ (.int .i64 (y - 1))).alloc (.cells #[.int .i64 j, .int .i64 k, .int .i64 (k + 1)] 48)) g cap n (upd s.left j (y - 1)) := HLs.out.keep ((Below.refl _ _).alloc (Nat.le_refl _) _)
                        obtain ⟨F, h1, h2, h3⟩ := hAl
                        refine ⟨F, World.rowIs.of_block h1 (HG5.out.block g (by simp; omega) ?_), h2, h3⟩
                        rcases HOs.out.2 with ⟨e, -⟩ | ⟨g', cap', cur, e, hg', -⟩
                        · rw [e]; simp [Value.ownBlock]
                        · rw [e]
                          intro h
                          injection h with h
                          have h : g = g' := h
                          omega
                      · refine (HDs.out.alloc (by have := HDs.out.size; exact this) _).grown HG5.out (by simp; omega) ?_
                        intro b hb
                        have := (World.ownsRow.lt HOs.out b hb).1
                        omega
                    case measure => simp [intOf]; omega
                  · have H0 := trivial
                    go_wp2_with (at_builtin; go_loud (refine wpList_append_own _ rfl _ _ 46 rfl WA.heap.size 48 i0 (.agg #[.int .i64 0, .int .i64 0, .int .i64 0]) 3 24 Try.underlying46 hi hz0 hz1 hz2 rfl (by decide) _ _ _ rfl (World.ownsRow.alloc HOs.out _) ⟨wr.heap.size, 0, none⟩ 1 1 [.int .i64 j, .int .i64 k, .int .i64 (k + 1)] rfl rfl (fun a u hu => by have h := news3 (wr.setCell ⟨g, j, none⟩ (.int .i64 (y - 1))) _ _ _ 48 a u hu; rw [HSZ.out] at h; exact h) (by intro u hu; simp at hu; rcases hu with rfl | rfl | rfl <;> rfl) (by unfold maxLen; omega) (by omega) (by simp; omega) ?_))
                    intro v' w5 hown hgrow _
                    have HO5 := Lib.hid hown
                    have HG5 := Lib.hid hgrow
                    clear hown hgrow
                    go_wp2
                    go_roundw
                    case rel =>
                      refine ⟨k + 1, by omega, by go_num, by rw [HN.out, HP.out, HS1.out], ?_, ?_, by have h := HG5.out.size; simp at h; omega, ?_⟩
                      · rw [HN.out, HP.out]
                        unfold OwnK
                        rw [← recL_pc]
                        exact HO5.out
                      · rw [HN.out, HP.out]
                        have hAl : RowC ((wr.setCell ⟨g, j, none⟩ (.int .i64 (y - 1))).alloc (.cells #[.int .i64 j, .int .i64 k, .int .i64 (k + 1)] 48)) g cap n (upd s.left j (y - 1)) := HLs.out.keep ((Below.refl _ _).alloc (Nat.le_refl _) _)
                        obtain ⟨F, h1, h2, h3⟩ := hAl
                        refine ⟨F, World.rowIs.of_block h1 (HG5.out.block g (by simp; omega) ?_), h2, h3⟩
                        rcases HOs.out.2 with ⟨e, -⟩ | ⟨g', cap', cur, e, hg', -⟩
                        · rw [e]; simp [Value.ownBlock]
                        · rw [e]
                          intro h
                          injection h with h
                          have h : g = g' := h
                          omega
                      · refine (HDs.out.alloc (by have := HDs.out.size; exact this) _).grown HG5.out (by simp; omega) ?_
                        intro b hb
                        have := (World.ownsRow.lt HOs.out b hb).1
                        omega
                    case measure => simp [intOf]; omega
                · obtain ⟨M, hM⟩ : ∃ M, s.m = M + 1 := ⟨s.m - 1, by omega⟩
                  have hMM : s.m - 1 = M := by omega
                  obtain ⟨G, cG, ev, hcs, hfr, hbG, hGl, hmc2, HPut, HExc⟩ := HOs.out.put (k := M) (i := 2) (by omega) (by omega) (k + 1)
                  injection ev with ev1 ev2 ev3
                  subst ev1
                  have g0 : (wr.setCell ⟨g, j, none⟩ (.int .i64 (y - 1))).cell? ⟨G, M * 3, none⟩ = some (.int .i64 (s.p M 0)) := hcs 0 (by omega)
                  have g2 := hcs 2 (by omega)
                  have u1 : IntKind.i64.wrap ((s.m : Int) - 1) = (s.m : Int) - 1 := IntWalk.i64_in _ ⟨by omega, by omega⟩
                  have u2 : ((s.m : Int) - 1).toNat = M := by omega
                  have u3 : (0 : Int) ≤ (s.m : Int) - 1 := by omega
                  have u4 : (s.m : Int) - 1 < (s.m : Int) := by omega
                  have hm1 : (0 : Int) < (s.m : Int) := by omega
                  have HPut := Lib.hid HPut
                  have HMM := Lib.hid hMM
                  clear hcs hM hMM ev2 ev3
                  by_cases hpj : s.p M 0 = (j : Int)
                  · have hp2 : s.p M 2 = (k : Int) := by
                      have h := HInv.out.last (by omega) (by rw [HMM.out, hpj, Int.toNat_natCast, HY.out]; omega)
                      rw [HMM.out] at h
                      exact h
                    have HP : Hid (pushS s (j : Int) (k : Int) = ⟨upd s.left j (y - 1), s.m, updK s.p M 2 (k + 1)⟩) := Lib.hid (by unfold pushS; rw [HMM.out, if_pos ⟨by omega, hpj⟩, hp2]; simp [HY.out])
                    rw [hpj] at g0
                    rw [hp2] at g2
                    clear hpj hp2
                    go_wp2
                    go_roundw
                    case rel => exact ⟨k + 1, by omega, by go_num, by rw [HN.out, HP.out, HS1.out], by rw [HN.out, HP.out]; exact HPut.out, by rw [HN.out, HP.out]; exact HLs.out.setOther (by show g ≠ G; omega) _, by simp; omega, HDs.out.setCell (p := ⟨G, M * 3 + 2, none⟩) (by show w.heap.size ≤ G; omega) _⟩
                    case measure => simp [intOf]; omega
                  · have HP : Hid (pushS s (j : Int) (k : Int) = ⟨upd s.left j (y - 1), s.m + 1, pcK s.p s.m j k (k + 1)⟩) := Lib.hid (by unfold pushS; rw [HMM.out, if_neg (fun h => hpj h.2)]; simp [HY.out])
                    have hB := beq_f hpj
                    generalize hpm : s.p M 0 = z at *
                    generalize hpm2 : s.p M 2 = z2 at *
                    clear hpm hpj hpm2
                    go_wp2_with (at_builtin; go_loud (refine wpList_append_own _ rfl _ _ 46 rfl WA.heap.size 48 i0 (.agg #[.int .i64 0, .int .i64 0, .int .i64 0]) 3 24 Try.underlying46 hi hz0 hz1 hz2 rfl (by decide) _ _ _ rfl (World.ownsRow.alloc HOs.out _) ⟨wr.heap.size, 0, none⟩ 1 1 [.int .i64 j, .int .i64 k, .int .i64 (k + 1)] rfl rfl (fun a u hu => by have h := news3 (wr.setCell ⟨g, j, none⟩ (.int .i64 (y - 1))) _ _ _ 48 a u hu; rw [HSZ.out] at h; exact h) (by intro u hu; simp at hu; rcases hu with rfl | rfl | rfl <;> rfl) (by unfold maxLen; omega) (by omega) (by simp; omega) ?_))
                    intro v' w5 hown hgrow _
                    have HO5 := Lib.hid hown
                    have HG5 := Lib.hid hgrow
                    clear hown hgrow
                    go_wp2
                    go_roundw
                    case rel =>
                      refine ⟨k + 1, by omega, by go_num, by rw [HN.out, HP.out, HS1.out], ?_, ?_, by have h := HG5.out.size; simp at h; omega, ?_⟩
                      · rw [HN.out, HP.out]
                        unfold OwnK
                        rw [← recL_pc]
                        exact HO5.out
                      · rw [HN.out, HP.out]
                        have hAl : RowC ((wr.setCell ⟨g, j, none⟩ (.int .i64 (y - 1))).alloc (.cells #[.int .i64 j, .int .i64 k, .int .i64 (k + 1)] 48)) g cap n (upd s.left j (y - 1)) := HLs.out.keep ((Below.refl _ _).alloc (Nat.le_refl _) _)
                        obtain ⟨F, h1, h2, h3⟩ := hAl
                        refine ⟨F, World.rowIs.of_block h1 (HG5.out.block g (by simp; omega) ?_), h2, h3⟩
                        rcases HOs.out.2 with ⟨e, -⟩ | ⟨g', cap', cur, e, hg', -⟩
                        · rw [e]; simp [Value.ownBlock]
                        · rw [e]
                          intro h
                          injection h with h
                          have h : g = g' := h
                          omega
                      · refine (HDs.out.alloc (by have := HDs.out.size; exact this) _).grown HG5.out (by simp; omega) ?_
                        intro b hb
                        have := (World.ownsRow.lt HOs.out b hb).1
                        omega
                    case measure => simp [intOf]; omega
        · have hz := HSz.out (by omega)
          have HZ := Lib.hid (HEnd.out hz)
          clear hz
          go_wp2
          go_ret
          refine ⟨_, rfl, ?_, HD.out⟩
          rw [← HZ.out]
          exact HOw.out.rebase HB.out.size
end Go.Proofs.Ythbahfmcmbjglaa
