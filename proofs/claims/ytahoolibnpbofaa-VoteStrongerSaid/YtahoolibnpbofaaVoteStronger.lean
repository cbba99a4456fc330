/- The law VoteStronger, walked. -/
import Derived.Test.YtahoolibnpbofaaWi
namespace Go.Proofs.Ytahoolibnpbofaa
open Go.RowKit

set_option maxHeartbeats 2000000 in
set_option maxRecDepth 1000000 in
theorem voteStronger_bad (A : Option Addr) (n c : Nat) (L : Nat → Nat) (v : Nat → Nat → Int) (w : World) (h : ArgR w A n c L v) (hok : okBal n L v = false) :
    Calls Try.prog 8 #[.slice A n c] w fun e w' => e = .returned (.bool true) ∧ Below w.heap.size w w' := by
  have H := Lib.hid h
  have HK := Lib.hid hok
  clear h hok
  go_enter Try.func8, Try.ntmps8
  go_wp2_with fail
  refine (FewF A n c L v _ H.out).mono ?_
  rintro e w1 ⟨A1, k1, c1, rfl, hk1, hr1, hc1, hb1⟩
  have HM := Lib.hid (WidthsFbad (cA := c1) hr1 hk1 HK.out)
  have Hb1 := Lib.hid hb1
  clear hk1 hr1 hc1 hb1
  go_wp2_with fail
  refine Lr.use HM.out ?_
  intro w2 hb2
  have Hb2 := Lib.hid (Hb1.out.trans (hb2.mono Hb1.out.size))
  clear hb2 HM
  go_wp2_with fail
  refine Lr.use (awake_any _) ?_
  intro w6 hb6
  have Hb6 := Lib.hid (Hb2.out.trans (hb6.mono Hb2.out.size))
  clear hb6
  go_wp2
  go_ret
  exact ⟨rfl, Hb6.out⟩

set_option maxHeartbeats 4000000 in
set_option maxRecDepth 1000000 in
theorem voteStronger_fine (A : Option Addr) (n c : Nat) (L : Nat → Nat) (v : Nat → Nat → Int) (w : World) (h : ArgR w A n c L v) (hok : okBal n L v = true) :
    Calls Try.prog 8 #[.slice A n c] w fun e w' => e = .returned (.bool true) ∧ Below w.heap.size w w' := by
  have H := Lib.hid h
  have HK := Lib.hid hok
  obtain ⟨hB1, ⟨hB2, hB3⟩, hB4⟩ := okBal_iff.1 hok
  obtain ⟨s0, hs0⟩ := bst_exists (T := mAll v (L 0) n) hB2 hB3
  have hcls := wT_cls (T := mAll v (L 0) n) hB3 (mAll_dia hok) (L 0) (Nat.le_refl _)
  obtain ⟨k0, hk0, hst, hno⟩ := str_exists hB2 hcls
  have HBit : Hid (bitN s0 k0 = true) := Lib.hid (str_best hB3 (mAll_dia hok) (mAll_anti hok) hs0 hk0 hst)
  have HTr : Hid (∀ a b d, a < L 0 → b < L 0 → d < L 0 → wT (L 0) (mAll v (L 0) n) (L 0) (5 * b + a) < wT (L 0) (mAll v (L 0) n) (L 0) (5 * a + b) → wT (L 0) (mAll v (L 0) n) (L 0) (5 * d + b) < wT (L 0) (mAll v (L 0) n) (L 0) (5 * b + d) → wT (L 0) (mAll v (L 0) n) (L 0) (5 * d + a) < wT (L 0) (mAll v (L 0) n) (L 0) (5 * a + d)) := Lib.hid (fun a b d ha hb hd h1 h2 => str_trans hcls ha hb hd h1 h2)
  have HS := Lib.hid hs0
  have HSt := Lib.hid hst
  have HNo := Lib.hid hno
  clear h hok hs0 hB1 hB4 hcls hst hno
  go_enter Try.func8, Try.ntmps8
  go_wp2_with fail
  refine (FewF A n c L v _ H.out).mono ?_
  rintro e w1 ⟨A1, k1, c1, rfl, hk1, hr1, hc1, hb1⟩
  have HM := Lib.hid (WidthsF (cA := c1) hr1 hk1 hc1 HK.out)
  have Hb1 := Lib.hid hb1
  clear hk1 hr1 hc1 hb1
  go_wp2_with fail
  refine HM.out.mono ?_
  rintro e w2 ⟨A2, c2, rfl, hr2, hb2⟩
  have HX2 := Lib.hid hr2
  have Hb2 := Lib.hid (Hb1.out.trans (hb2.mono Hb1.out.size))
  clear hb2 HM hr2
  go_wp2_with fail
  refine (FewF A n c L v _ (H.out.below Hb2.out)).mono ?_
  rintro e w3 ⟨A3, k3, c3, rfl, hk3, hr3, hc3, hb3⟩
  have HM := Lib.hid (WinF (cA := c3) hr3 hk3 hc3 HK.out hk0 HSt.out HNo.out)
  have HX3 := Lib.hid (HX2.out.keep hb3)
  have Hb3 := Lib.hid (Hb2.out.trans (hb3.mono Hb2.out.size))
  clear hk3 hr3 hc3 hb3
  go_wp2_with fail
  refine Lr.use HM.out ?_
  intro w4 hb4
  have HX4 := Lib.hid (HX3.out.keep hb4)
  have Hb4 := Lib.hid (Hb3.out.trans (hb4.mono Hb3.out.size))
  clear hb4 HM
  go_wp2_with fail
  refine (FewF A n c L v _ (H.out.below Hb4.out)).mono ?_
  rintro e w5 ⟨A5, k5, c5, rfl, hk5, hr5, hc5, hb5⟩
  have HM := Lib.hid (BestF (cA := c5) hr5 hk5 hc5 HK.out HS.out)
  have HX5 := Lib.hid (HX4.out.keep hb5)
  have Hb5 := Lib.hid (Hb4.out.trans (hb5.mono Hb4.out.size))
  clear hk5 hr5 hc5 hb5
  go_wp2_with fail
  refine Lr.use HM.out ?_
  intro w6 hb6
  have HX6 := Lib.hid (HX5.out.keep hb6)
  have Hb6 := Lib.hid (Hb5.out.trans (hb6.mono Hb5.out.size))
  clear hb6 HM HX2 HX3 HX4 HX5 HS
  generalize wT (L 0) (mAll v (L 0) n) (L 0) = W at *
  generalize hcc : L 0 = C at *
  clear hcc
  go_wp2
  go_loopw [8, 40] (fun x i wr => ∃ a : Nat, a ≤ C ∧ i = .int .i64 a ∧ x = .int .i64 (if k0 < a then (k0 : Int) else -1) ∧ Dn w6 wr) (fun _ i _ => C - (intOf i).toNat)
  case atStart => exact ⟨0, Nat.zero_le _, rfl, by rw [if_neg (by omega)], Dn.refl _⟩
  case round =>
    obtain ⟨a, ha, rfl, rfl, hD⟩ := hrel
    have HDa := Lib.hid hD
    clear hD
    by_cases hla : a < C
    · obtain ⟨Y, rfl⟩ : ∃ Y, Y = wr := ⟨wr, rfl⟩
      generalize hfst : (if k0 < a then (k0 : Int) else -1) = fst at *
      have HFst := Lib.hid hfst
      clear hfst
      go_wp2
      go_loopw [10, 45] (fun s i wx => ∃ b : Nat, b ≤ C ∧ i = .int .i64 b ∧ s = .bool (allB (strP W a) b) ∧ Dn Y wx) (fun _ i _ => C - (intOf i).toNat)
      case atStart => exact ⟨0, Nat.zero_le _, rfl, rfl, Dn.refl _⟩
      case round =>
        obtain ⟨b, hb, rfl, rfl, hD⟩ := hrel
        have HDb := Lib.hid (HDa.out.trans hD)
        have HDy := Lib.hid hD
        clear hD
        by_cases hlb : b < C
        · have HNx : Hid (allB (strP W a) (b + 1) = (allB (strP W a) b && strP W a b)) := Lib.hid rfl
          have HU : Hid (strP W a b = !decide (W (5 * a + b) < W (5 * b + a))) := Lib.hid rfl
          obtain ⟨xb, xo, X1, x1, eX, hX1, hX2⟩ := (HX6.out.dn HDb.out).at hla
          obtain ⟨yb, yo, Y1, y1, eY, hY1, hY2⟩ := (HX6.out.dn HDb.out).at hlb
          subst eX
          injection eY with eY
          injection eY with eY1 eY2
          subst eY1 eY2
          obtain ⟨p1, p2, rfl, hp⟩ := hX2.at hlb
          obtain ⟨q1, q2, rfl, hq⟩ := hY2.at hla
          clear hX2 hY2
          obtain ⟨Z, rfl⟩ : ∃ Z, Z = wr := ⟨wr, rfl⟩
          have key : ∀ st : Bool, Hid (allB (strP W a) b = st) → True := fun _ _ => trivial
          have HOut : Hid (∃ st' : Bool, allB (strP W a) (b + 1) = st') := Lib.hid ⟨_, rfl⟩
          generalize hst0 : allB (strP W a) b = st at *
          have HSt0 := Lib.hid hst0
          clear hst0 key
          have hge : (decide (W (5 * b + a) ≤ W (5 * a + b))) = strP W a b := by
            rw [HU.out]
            by_cases hz : W (5 * a + b) < W (5 * b + a)
            · rw [decide_eq_true hz, decide_eq_false (by omega)]; rfl
            · rw [decide_eq_false hz, decide_eq_true (by omega)]; rfl
          have HGe := Lib.hid hge
          clear hge
          generalize hm1 : W (5 * a + b) = m1 at *
          generalize hm2 : W (5 * b + a) = m2 at *
          have HM1 := Lib.hid hm1
          have HM2 := Lib.hid hm2
          clear hm1 hm2
          generalize hsp : strP W a b = sp at *
          have HSp := Lib.hid hsp
          clear hsp
          have HC : Hid (∀ wz : World, Dn Z wz → Dn Y wz) := Lib.hid (fun wz hd => HDy.out.trans hd)
          cases st with
          | false =>
            go_wp2
            go_quiet (fail)
            go_wp2
            go_loopw [68] (fun i wy => ∃ d : Nat, d ≤ C ∧ i = .int .i64 d ∧ Dn Z wy) (fun i _ => C - (intOf i).toNat)
            case atStart => exact ⟨0, Nat.zero_le _, rfl, (Dn.refl _).drewN _⟩
            case round =>
              obtain ⟨d, hd, rfl, hD⟩ := hrel
              have HDd := Lib.hid hD
              have HDw := Lib.hid (HDb.out.trans hD)
              clear hD hX1 hY1 hp hq
              by_cases hld : d < C
              · obtain ⟨xb', xo', X1', x1', eX, hX1, hX2⟩ := (HX6.out.dn HDw.out).at hla
                obtain ⟨yb', yo', Y1', y1', eY, hY1, hY2⟩ := (HX6.out.dn HDw.out).at hlb
                obtain ⟨zb', zo', Z1', z1', eZ, hZ1, hZ2⟩ := (HX6.out.dn HDw.out).at hld
                injection eX with eX
                injection eX with eX1 eX2
                subst eX1 eX2
                injection eY with eY
                injection eY with eY1 eY2
                subst eY1 eY2
                injection eZ with eZ
                injection eZ with eZ1 eZ2
                subst eZ1 eZ2
                obtain ⟨u1, u2, eu, hab⟩ := hX2.at hlb
                obtain ⟨u3, u4, eu', had⟩ := hX2.at hld
                obtain ⟨v1, v2, ev, hba⟩ := hY2.at hla
                obtain ⟨v3, v4, ev', hbd⟩ := hY2.at hld
                obtain ⟨z1, z2, ez, hda⟩ := hZ2.at hla
                obtain ⟨z3, z4, ez', hdb⟩ := hZ2.at hlb
                subst eu ev ez
                injection eu' with eu'
                injection eu' with eu1 eu2
                subst eu1 eu2
                injection ev' with ev'
                injection ev' with ev1 ev2
                subst ev1 ev2
                injection ez' with ez'
                injection ez' with ez1 ez2
                subst ez1 ez2
                rw [HM1.out] at hab
                rw [HM2.out] at hba
                have htr := HTr.out a b d hla hlb hld
                rw [HM1.out, HM2.out] at htr
                have HTrd := Lib.hid htr
                clear htr hX2 hY2 hZ2
                generalize W (5 * a + d) = n1 at *
                generalize W (5 * d + a) = n2 at *
                generalize W (5 * b + d) = o1 at *
                generalize W (5 * d + b) = o2 at *
                rcases Int.lt_or_le m2 m1 with hm | hm
                · rcases Int.lt_or_le o2 o1 with ho | ho
                  · have hn := HTrd.out hm ho
                    go_wp2
                    go_quiet (fail)
                    go_wp2
                    go_roundw
                    case rel => exact ⟨d + 1, by omega, by go_num, HDd.out.drewN _⟩
                    case measure => simp [intOf]; omega
                  · have ho' : decide (o2 < o1) = false := decide_eq_false (by omega)
                    go_wp2
                    go_quiet (fail)
                    go_wp2
                    go_roundw
                    case rel => exact ⟨d + 1, by omega, by go_num, HDd.out.drewN _⟩
                    case measure => simp [intOf]; omega
                · have hm' : decide (m2 < m1) = false := decide_eq_false (by omega)
                  go_wp2
                  go_quiet (fail)
                  go_wp2
                  go_roundw
                  case rel => exact ⟨d + 1, by omega, by go_num, HDd.out.drewN _⟩
                  case measure => simp [intOf]; omega
              · have HNw := Lib.hid (HC.out _ HDd.out)
                go_wp2
                go_roundw
                case rel => exact ⟨b + 1, by omega, by go_num, by rw [HNx.out, Bool.false_and], HNw.out⟩
                case measure => simp [intOf]; omega
          | true =>
            rcases Int.lt_or_le m1 m2 with hmm | hmm
            · have HSf : Hid (sp = false) := Lib.hid (by rw [← HGe.out]; exact decide_eq_false (by omega))
              go_wp2
              go_quiet (fail)
              go_wp2
              go_loopw [68] (fun i wy => ∃ d : Nat, d ≤ C ∧ i = .int .i64 d ∧ Dn Z wy) (fun i _ => C - (intOf i).toNat)
              case atStart => exact ⟨0, Nat.zero_le _, rfl, (Dn.refl _).drewN _⟩
              case round =>
                obtain ⟨d, hd, rfl, hD⟩ := hrel
                have HDd := Lib.hid hD
                have HDw := Lib.hid (HDb.out.trans hD)
                clear hD hX1 hY1 hp hq
                by_cases hld : d < C
                · obtain ⟨xb', xo', X1', x1', eX, hX1, hX2⟩ := (HX6.out.dn HDw.out).at hla
                  obtain ⟨yb', yo', Y1', y1', eY, hY1, hY2⟩ := (HX6.out.dn HDw.out).at hlb
                  obtain ⟨zb', zo', Z1', z1', eZ, hZ1, hZ2⟩ := (HX6.out.dn HDw.out).at hld
                  injection eX with eX
                  injection eX with eX1 eX2
                  subst eX1 eX2
                  injection eY with eY
                  injection eY with eY1 eY2
                  subst eY1 eY2
                  injection eZ with eZ
                  injection eZ with eZ1 eZ2
                  subst eZ1 eZ2
                  obtain ⟨u1, u2, eu, hab⟩ := hX2.at hlb
                  obtain ⟨u3, u4, eu', had⟩ := hX2.at hld
                  obtain ⟨v1, v2, ev, hba⟩ := hY2.at hla
                  obtain ⟨v3, v4, ev', hbd⟩ := hY2.at hld
                  obtain ⟨z1, z2, ez, hda⟩ := hZ2.at hla
                  obtain ⟨z3, z4, ez', hdb⟩ := hZ2.at hlb
                  subst eu ev ez
                  injection eu' with eu'
                  injection eu' with eu1 eu2
                  subst eu1 eu2
                  injection ev' with ev'
                  injection ev' with ev1 ev2
                  subst ev1 ev2
                  injection ez' with ez'
                  injection ez' with ez1 ez2
                  subst ez1 ez2
                  rw [HM1.out] at hab
                  rw [HM2.out] at hba
                  have htr := HTr.out a b d hla hlb hld
                  rw [HM1.out, HM2.out] at htr
                  have HTrd := Lib.hid htr
                  clear htr hX2 hY2 hZ2
                  generalize W (5 * a + d) = n1 at *
                  generalize W (5 * d + a) = n2 at *
                  generalize W (5 * b + d) = o1 at *
                  generalize W (5 * d + b) = o2 at *
                  have hm' : decide (m2 < m1) = false := decide_eq_false (by omega)
                  go_wp2
                  go_quiet (fail)
                  go_wp2
                  go_roundw
                  case rel => exact ⟨d + 1, by omega, by go_num, HDd.out.drewN _⟩
                  case measure => simp [intOf]; omega
                · have HNw := Lib.hid (HC.out _ HDd.out)
                  go_wp2
                  go_roundw
                  case rel => exact ⟨b + 1, by omega, by go_num, (by first | (rw [HNx.out, HSf.out]; rfl) | (rw [HNx.out, HSf.out, decide_eq_false (by omega)]; rfl) | (rw [HNx.out, HSf.out, decide_eq_true (by omega)]; rfl)), HNw.out⟩
                  case measure => simp [intOf]; omega
            · have HSf : Hid (sp = true) := Lib.hid (by rw [← HGe.out]; exact decide_eq_true hmm)
              go_wp2
              go_quiet (fail)
              go_wp2
              go_loopw [68] (fun i wy => ∃ d : Nat, d ≤ C ∧ i = .int .i64 d ∧ Dn Z wy) (fun i _ => C - (intOf i).toNat)
              case atStart => exact ⟨0, Nat.zero_le _, rfl, (Dn.refl _).drewN _⟩
              case round =>
                obtain ⟨d, hd, rfl, hD⟩ := hrel
                have HDd := Lib.hid hD
                have HDw := Lib.hid (HDb.out.trans hD)
                clear hD hX1 hY1 hp hq
                by_cases hld : d < C
                · obtain ⟨xb', xo', X1', x1', eX, hX1, hX2⟩ := (HX6.out.dn HDw.out).at hla
                  obtain ⟨yb', yo', Y1', y1', eY, hY1, hY2⟩ := (HX6.out.dn HDw.out).at hlb
                  obtain ⟨zb', zo', Z1', z1', eZ, hZ1, hZ2⟩ := (HX6.out.dn HDw.out).at hld
                  injection eX with eX
                  injection eX with eX1 eX2
                  subst eX1 eX2
                  injection eY with eY
                  injection eY with eY1 eY2
                  subst eY1 eY2
                  injection eZ with eZ
                  injection eZ with eZ1 eZ2
                  subst eZ1 eZ2
                  obtain ⟨u1, u2, eu, hab⟩ := hX2.at hlb
                  obtain ⟨u3, u4, eu', had⟩ := hX2.at hld
                  obtain ⟨v1, v2, ev, hba⟩ := hY2.at hla
                  obtain ⟨v3, v4, ev', hbd⟩ := hY2.at hld
                  obtain ⟨z1, z2, ez, hda⟩ := hZ2.at hla
                  obtain ⟨z3, z4, ez', hdb⟩ := hZ2.at hlb
                  subst eu ev ez
                  injection eu' with eu'
                  injection eu' with eu1 eu2
                  subst eu1 eu2
                  injection ev' with ev'
                  injection ev' with ev1 ev2
                  subst ev1 ev2
                  injection ez' with ez'
                  injection ez' with ez1 ez2
                  subst ez1 ez2
                  rw [HM1.out] at hab
                  rw [HM2.out] at hba
                  have htr := HTr.out a b d hla hlb hld
                  rw [HM1.out, HM2.out] at htr
                  have HTrd := Lib.hid htr
                  clear htr hX2 hY2 hZ2
                  generalize W (5 * a + d) = n1 at *
                  generalize W (5 * d + a) = n2 at *
                  generalize W (5 * b + d) = o1 at *
                  generalize W (5 * d + b) = o2 at *
                  rcases Int.lt_or_le m2 m1 with hm | hm
                  · rcases Int.lt_or_le o2 o1 with ho | ho
                    · have hn := HTrd.out hm ho
                      go_wp2
                      go_quiet (fail)
                      go_wp2
                      go_roundw
                      case rel => exact ⟨d + 1, by omega, by go_num, HDd.out.drewN _⟩
                      case measure => simp [intOf]; omega
                    · have ho' : decide (o2 < o1) = false := decide_eq_false (by omega)
                      go_wp2
                      go_quiet (fail)
                      go_wp2
                      go_roundw
                      case rel => exact ⟨d + 1, by omega, by go_num, HDd.out.drewN _⟩
                      case measure => simp [intOf]; omega
                  · have hm' : decide (m2 < m1) = false := decide_eq_false (by omega)
                    go_wp2
                    go_quiet (fail)
                    go_wp2
                    go_roundw
                    case rel => exact ⟨d + 1, by omega, by go_num, HDd.out.drewN _⟩
                    case measure => simp [intOf]; omega
                · have HNw := Lib.hid (HC.out _ HDd.out)
                  go_wp2
                  go_roundw
                  case rel => exact ⟨b + 1, by omega, by go_num, (by first | (rw [HNx.out, HSf.out]; rfl) | (rw [HNx.out, HSf.out, decide_eq_false (by omega)]; rfl) | (rw [HNx.out, HSf.out, decide_eq_true (by omega)]; rfl)), HNw.out⟩
                  case measure => simp [intOf]; omega
        · have hbc : b = C := by omega
          have HStr : Hid (allB (strP W a) C = strB W C a) := Lib.hid rfl
          rw [hbc]
          clear hbc hlb hb
          have HDz := Lib.hid HDb.out
          rcases Nat.lt_trichotomy a k0 with hl | hl | hl
          · have e1 := HNo.out a hl
            rw [← HStr.out] at e1
            rw [e1]
            have HF : Hid (fst = (if k0 < a + 1 then (k0 : Int) else -1)) := Lib.hid (by rw [← HFst.out, if_neg (by omega), if_neg (by omega)])
            clear e1
            go_wp2
            go_roundw
            case rel => exact ⟨a + 1, by omega, by go_num, by rw [← HF.out], HDz.out⟩
            case measure => simp [intOf]; omega
          · have e1 := HSt.out
            rw [← hl, ← HStr.out] at e1
            rw [e1]
            have HF : Hid (((a : Nat) : Int) = (if k0 < a + 1 then (k0 : Int) else -1)) := Lib.hid (by rw [if_pos (by omega), hl])
            have hf1 : fst = -1 := by rw [← HFst.out, if_neg (by omega)]
            have hf2 : fst < 0 := by omega
            clear e1 hf1
            go_wp2
            go_roundw
            case rel => exact ⟨a + 1, by omega, by go_num, by rw [← HF.out], HDz.out⟩
            case measure => simp [intOf]; omega
          · have hf1 : fst = (k0 : Int) := by rw [← HFst.out, if_pos hl]
            have HF : Hid (fst = (if k0 < a + 1 then (k0 : Int) else -1)) := Lib.hid (by rw [hf1, if_pos (by omega)])
            have hf2 : ¬ fst < 0 := by omega
            clear hf1
            generalize allB (strP W a) C = st at *
            cases st with
            | false =>
              go_wp2
              go_roundw
              case rel => exact ⟨a + 1, by omega, by go_num, by rw [← HF.out], HDz.out⟩
              case measure => simp [intOf]; omega
            | true =>
              go_wp2
              go_roundw
              case rel => exact ⟨a + 1, by omega, by go_num, by rw [← HF.out], HDz.out⟩
              case measure => simp [intOf]; omega
    · have hac : a = C := by omega
      rw [hac, if_pos hk0]
      clear hac hla ha
      have hbit := bit_one s0 k0
      rw [HBit.out] at hbit
      have Hb7 := Lib.hid (Hb6.out.trans (HDa.out.below _))
      go_wp2_with fail
      refine Lr.use (awake_any _) ?_
      intro w8 hb8
      have Hb8 := Lib.hid (Hb7.out.trans (hb8.mono Hb7.out.size))
      clear hb8
      go_wp2
      go_ret
      exact ⟨rfl, Hb8.out⟩
theorem voteStronger_walk (A : Option Addr) (n c : Nat) (L : Nat → Nat) (v : Nat → Nat → Int) (w : World) (h : ArgR w A n c L v) :
    Calls Try.prog 8 #[.slice A n c] w fun e w' => e = .returned (.bool true) ∧ Below w.heap.size w w' := by
  cases hok : okBal n L v with
  | false => exact voteStronger_bad A n c L v w h hok
  | true => exact voteStronger_fine A n c L v w h hok
end Go.Proofs.Ytahoolibnpbofaa
