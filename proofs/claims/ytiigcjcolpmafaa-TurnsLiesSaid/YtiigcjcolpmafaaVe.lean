import Derived.Test.YtiigcjcolpmafaaVd
namespace Go.Proofs.Ytiigcjcolpmafaa
open Go.RowKit

def stRow (p : PlanD) (m : Nat → Int) (h : Nat) : Bool := allB (fun s => !blkB p m h s) p.nS
theorem stabB_def (p : PlanD) (m : Nat → Int) : stabB p m = allB (stRow p m) p.nH := rfl

set_option maxHeartbeats 2000000 in
set_option maxRecDepth 1000000 in
theorem stable_any (AH AS AP D : Option Addr) (cH cS cP n c : Nat) (p : PlanD) (m : Nat → Int) (w : World) (hp : PlanIn w AH AS AP p) (hd : Ints w D n m) (hn : n = p.nH) (hok : okPlan p = true) (hl : Lstd p m) :
    Lr 88 #[.agg #[.slice AH p.nH cH, .slice AS p.nS cS, .slice AP p.nP cP], .slice D n c] w (.bool (stabB p m)) := by
  have Hb0 := Lib.hid (below_box w (.cells #[.slice AH p.nH cH, .slice AS p.nS cS, .slice AP p.nP cP] 29))
  have HB0 := Lib.hid (BoxP.new w AH AS AP p.nH p.nS p.nP cH cS cP)
  have HBl : Hid (∀ (w' : World) (h s : Nat), Below w.heap.size w w' → h < p.nH → s < p.nS → Lr 69 #[.agg #[.slice AH p.nH cH, .slice AS p.nS cS, .slice AP p.nP cP], .slice D n c, .int .i64 h, .int .i64 s] w' (.bool (blkB p m h s))) := Lib.hid (fun w' h s hb hh hs =>
    blocks_any AH AS AP D cH cS cP n c p m h s w' (hp.keep hb) (hd.keep hb) hn hok hl hh hs)
  obtain ⟨⟨a1, a2, a3, a4, -⟩, -, -, -⟩ := okPlan_of hok
  clear hp hd hn hok hl
  show Calls _ _ _ _ _
  go_enter Try.func88, Try.ntmps88
  go_wp2
  go_loopw [10] (fun x wr => ∃ k : Nat, k ≤ p.nH ∧ x = .int .i64 k ∧ AllLt (stRow p m) k ∧ Below w.heap.size w wr ∧ BoxP wr w.heap.size AH AS AP p.nH p.nS p.nP cH cS cP) (fun x _ => p.nH - (intOf x).toNat)
  case atStart => exact ⟨0, Nat.zero_le _, rfl, AllLt.zero, Hb0.out, HB0.out⟩
  case round =>
    obtain ⟨k, hk, rfl, hA, hbel, hbox⟩ := hrel
    have HA := Lib.hid hA
    have Hbel := Lib.hid hbel
    have HBox := Lib.hid hbox
    obtain ⟨q0, q1, q2⟩ := hbox
    clear hA hbel
    by_cases hlt : k < p.nH
    · go_wp2
      obtain ⟨wo, hwo⟩ : ∃ wo : World, wo = wr := ⟨_, rfl⟩
      have HWo := Lib.hid hwo
      clear hwo q0 q1 q2
      go_loopw [16] (fun x wi => ∃ s : Nat, s ≤ p.nS ∧ x = .int .i64 s ∧ AllLt (fun s => !blkB p m k s) s ∧ Below w.heap.size w wi ∧ BoxP wi w.heap.size AH AS AP p.nH p.nS p.nP cH cS cP) (fun x _ => p.nS - (intOf x).toNat)
      case atStart => exact ⟨0, Nat.zero_le _, rfl, AllLt.zero, Hbel.out, HBox.out⟩
      case round =>
        obtain ⟨s, hs, rfl, hA2, hbel2, hbox2⟩ := hrel
        have HA2 := Lib.hid hA2
        have Hbel2 := Lib.hid hbel2
        have HBox2 := Lib.hid hbox2
        obtain ⟨q0, q1, q2⟩ := hbox2
        clear hA2 hbel2
        by_cases hlt2 : s < p.nS
        · have HC := Lib.hid (HBl.out wr k s Hbel2.out hlt hlt2)
          go_wp2_with fail
          refine Lr.use HC.out ?_
          intro w2 hb2
          have Hb2 := Lib.hid (Hbel2.out.trans (hb2.mono Hbel2.out.size))
          have HBx2 := Lib.hid (HBox2.out.keep hb2)
          clear hb2 q0 q1 q2 HC
          cases hx : blkB p m k s with
          | true =>
            have HE : Hid (stabB p m = false) := Lib.hid (by
              rw [stabB_def]
              exact allB_f hlt (allB_f hlt2 (by rw [hx]; rfl)))
            clear hx
            go_wp2
            go_ret
            exact ⟨ret_bool HE.out.symm, Hb2.out⟩
          | false =>
            have HN := Lib.hid (HA2.out.succ (by rw [hx]; rfl))
            clear hx
            go_wp2
            go_roundw
            case rel => exact ⟨s + 1, by omega, by go_num, HN.out, Hb2.out, HBx2.out⟩
            case measure => simp [intOf]; omega
        · obtain rfl : s = p.nS := by omega
          have HN := Lib.hid (HA.out.succ (allB_t HA2.out))
          go_wp2
          go_roundw
          case rel => exact ⟨k + 1, by omega, by go_num, HN.out, Hbel2.out, HBox2.out⟩
          case measure => simp [intOf]; omega
    · obtain rfl : k = p.nH := by omega
      have HE : Hid (stabB p m = true) := Lib.hid (allB_t HA.out)
      go_wp2
      go_ret
      exact ⟨ret_bool HE.out.symm, Hbel.out⟩

set_option maxHeartbeats 2000000 in
set_option maxRecDepth 1000000 in
theorem middle_any (AH AS AP M : Option Addr) (cH cS cP N cM k : Nat) (p : PlanD) (mm : Nat → Nat → Int) (mid : Nat → Int) (w : World) (hp : PlanIn w AH AS AP p) (hM : Rows2 w M N (fun _ => p.nH) mm) (hN : N ≤ 12) (hk : k < N)
    (hmid : ∀ h, h < p.nH → ∀ F : Nat → Int, (lst N F).Perm (lst N (fun j => mm j h)) → Srt (rkI (p.vH h) (p.LH h)) F N → F k = mid h) :
    Calls Try.prog 58 #[.agg #[.slice AH p.nH cH, .slice AS p.nS cS, .slice AP p.nP cP], .int .i64 ((k + 1 : Nat) : Int), .slice M N cM] w fun e w' => ∃ g, e = .returned (.slice (some ⟨g, 0, none⟩) p.nH p.nH) ∧ RowI w' g p.nH mid ∧ Below w.heap.size w w' := by
  obtain ⟨i0, hi, hz0, hz1, hz2⟩ := info_parts infoInt
  have hnH := hp.nH9
  have hmk := mk_ints p.nH (by omega)
  have HsH := Lib.hid hp.sH
  have Hb0 := Lib.hid (below_box w (.cells #[.slice AH p.nH cH, .slice AS p.nS cS, .slice AP p.nP cP] 29))
  have HB0 := Lib.hid (BoxP.new w AH AS AP p.nH p.nS p.nP cH cS cP)
  obtain ⟨W, hW⟩ : ∃ W, W = w.alloc (.cells #[.slice AH p.nH cH, .slice AS p.nS cS, .slice AP p.nP cP] 29) := ⟨_, rfl⟩
  rw [← hW] at Hb0 HB0
  have HHd := Lib.hid (hp.hands.keep Hb0.out)
  have HM := Lib.hid (hM.keep Hb0.out)
  have HMid := Lib.hid hmid
  obtain ⟨K, hK⟩ : ∃ K, K = k + 1 := ⟨_, rfl⟩
  rw [← hK]
  have HK := Lib.hid hK
  have hr0 : RowI (W.alloc (.cells (madeCells #[.int .i64 0] p.nH) 3)) W.heap.size p.nH (fun g => if g < 0 then mid g else 0) := (RowI.made W p.nH).congr fun g _ => by rw [if_neg (by omega)]
  have HR0 := Lib.hid hr0
  have Hbm := Lib.hid (below_box W (.cells (madeCells #[.int .i64 0] p.nH) 3))
  obtain ⟨q0, q1, q2⟩ := HB0.out
  have q0' := old_cell q0 Hbm.out
  clear hp hM hmid hK hr0
  go_enter Try.func58, Try.ntmps58
  have hWs : W.heap.size = w.heap.size + 1 := by rw [hW]; simp
  rw [hWs] at HR0
  go_wp2
  rw [← hW]
  clear hmk q0 q1 q2 q0' hW
  obtain ⟨gm, hgm⟩ : ∃ gm, gm = w.heap.size + 1 := ⟨_, rfl⟩
  have HGm : Hid (gm = W.heap.size) := Lib.hid (by rw [hgm, hWs])
  rw [← hgm]
  rw [← hgm] at HR0
  clear hWs
  have HBm2 := Lib.hid (HB0.out.keep Hbm.out)
  have Hwm := Lib.hid (Hb0.out.trans (Hbm.out.mono Hb0.out.size))
  clear hgm
  go_loopw [20] (fun x wr => ∃ h : Nat, h ≤ p.nH ∧ x = .int .i64 h ∧ RowI wr gm p.nH (fun g => if g < h then mid g else 0) ∧ Below w.heap.size w wr ∧ Below W.heap.size W wr) (fun x _ => p.nH - (intOf x).toNat)
  case atStart => exact ⟨0, Nat.zero_le _, rfl, HR0.out, Hwm.out, Hbm.out⟩
  case round =>
    obtain ⟨h, hh, rfl, hR, hbel, hbW⟩ := hrel
    have HR := Lib.hid hR
    have Hbel := Lib.hid hbel
    have HbW := Lib.hid hbW
    clear hR hbel hbW
    by_cases hlt : h < p.nH
    · obtain ⟨bH, oH, RH, kH, rfl, hcH, -, hIH⟩ := (HHd.out.keep HbW.out).at hlt
      have HIH := Lib.hid hIH
      clear hIH
      go_wp2
      obtain ⟨wo, hwo⟩ : ∃ wo : World, wo = wr := ⟨_, rfl⟩
      have HWo := Lib.hid hwo
      clear hwo
      go_loopw [10, 27] (fun s x wi => ∃ j : Nat, j ≤ N ∧ x = .int .i64 j ∧ OwnL wi wo.heap.size s (lst j (fun i => mm i h)) ∧ Below wo.heap.size wo wi) (fun _ x _ => N - (intOf x).toNat)
      case atStart => exact ⟨0, Nat.zero_le _, rfl, OwnL.nil_ _ _, by rw [HWo.out]; exact Below.refl _ _⟩
      case round =>
        obtain ⟨j, hj, rfl, hown, hbi⟩ := hrel
        have HOwn := Lib.hid hown
        have HBi := Lib.hid hbi
        have hszi := hbi.size
        clear hown hbi
        have HbWi : Hid (Below W.heap.size W wr) := Lib.hid (by
          have h1 := HbW.out
          rw [← HWo.out] at h1
          exact h1.trans (HBi.out.mono h1.size))
        by_cases hlt2 : j < N
        · obtain ⟨bM, oM, RM, kM, rfl, hcM, hIM⟩ := (HM.out.keep HbWi.out).at hlt2
          obtain ⟨bm, om, rfl, hcm⟩ := hIM.at hlt
          have hlen := lst_len j (fun i => mm i h)
          have HS := Lib.hid (lst_succ j (fun i => mm i h))
          go_wp2_with (at_builtin; go_loud (refine wpList_append_own _ rfl _ _ 23 rfl wo.heap.size 3 i0 (.int .i64 0) 1 8 Try.underlying23 hi hz0 hz1 hz2 rfl (by decide) _ _ _ rfl (World.ownsRow.alloc HOwn.out _) ⟨wr.heap.size, 0, none⟩ 1 1 [.int .i64 (mm j h)] rfl rfl (news1 _ _ _) (one1 rfl) (by rw [hlen]; unfold maxLen; omega) (by rw [hlen]; omega) (by simp; omega) ?_))
          intro v2 w2 hown2 hgrow2 _
          have hb2 : Below wo.heap.size wo w2 := (HBi.out.alloc hszi _).grown hgrow2 (by simp; omega) (fun g hg => (World.ownsRow.lt HOwn.out g hg).1)
          have hO2 : OwnL w2 wo.heap.size v2 (lst (j + 1) (fun i => mm i h)) := by
            rw [HS.out]
            unfold OwnL
            simpa [hlen] using hown2
          have HO2 := Lib.hid hO2
          have Hb2 := Lib.hid hb2
          clear hown2 hgrow2 hO2 hb2
          go_wp2
          go_roundw
          case rel => exact ⟨j + 1, by omega, by go_num, HO2.out, Hb2.out⟩
          case measure => simp [intOf]; omega
        · obtain rfl : j = N := by omega
          obtain ⟨A3, c3, rfl, hI3'⟩ := HOwn.out.shp (lst_len _ _)
          have hI3 := hI3'.congr (g := fun i => mm i h) (fun q hq => lst_getD _ _ _ hq)
          clear hI3'
          have hLh := HsH.out h hlt
          have hch := choice_any RH A3 (p.LH h) kH j c3 k (p.vH h) (fun i => mm i h) (mid h) wr (by
            have h1 := HIH.out
            rw [← HWo.out] at h1
            exact h1.keep HBi.out) hI3 (by omega) hN hk (HMid.out h hlt)
          rw [← HK.out] at hch
          have HCh := Lib.hid hch
          have HR2 : Hid (RowI wr gm p.nH (fun g => if g < h then mid g else 0)) := Lib.hid (by
            have h1 := HR.out
            rw [← HWo.out] at h1
            exact h1.keep HBi.out)
          have Hbel2 : Hid (Below w.heap.size w wr) := Lib.hid (by
            have h1 := Hbel.out
            rw [← HWo.out] at h1
            exact h1.trans (HBi.out.mono h1.size))
          clear hch hI3
          go_wp2_with fail
          refine Lr.use HCh.out ?_
          intro w4 hb4
          have HR4 := HR2.out.keep hb4
          have hck := HR4.cell hlt
          have hfz := HR4.frozen h
          have HR5 := Lib.hid (HR4.set h (mid h))
          have hgw : w.heap.size ≤ gm := by rw [HGm.out]; exact Hb0.out.size
          have hgW : W.heap.size ≤ gm := by rw [HGm.out]; exact Nat.le_refl _
          have Hb5 := Lib.hid ((Hbel2.out.trans (hb4.mono Hbel2.out.size)).setCell (p := ⟨gm, h, none⟩) hgw (.int .i64 (mid h)))
          have HbW5 := Lib.hid ((HbWi.out.trans (hb4.mono HbWi.out.size)).setCell (p := ⟨gm, h, none⟩) hgW (.int .i64 (mid h)))
          clear HR4 hb4 hgw hgW
          go_wp2
          go_roundw
          case rel =>
            refine ⟨h + 1, by omega, by go_num, HR5.out.congr (fun g hg => ?_), Hb5.out, HbW5.out⟩
            simp only [upd]
            by_cases e : g = h
            · rw [if_pos e, if_pos (by omega), e]
            · rw [if_neg e]
              by_cases e2 : g < h
              · rw [if_pos e2, if_pos (by omega)]
              · rw [if_neg e2, if_neg (by omega)]
          case measure => simp [intOf]; omega
    · obtain rfl : h = p.nH := by omega
      go_wp2
      go_ret
      exact ⟨gm, rfl, HR.out.congr (fun g hg => by rw [if_pos hg]), Hbel.out⟩
end Go.Proofs.Ytiigcjcolpmafaa
