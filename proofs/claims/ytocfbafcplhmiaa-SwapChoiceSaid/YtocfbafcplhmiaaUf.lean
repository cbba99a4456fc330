/- swap: trade. -/
import Derived.Test.YtocfbafcplhmiaaUe
namespace Go.Proofs.Ytocfbafcplhmiaa
open Go.RowKit

theorem two_made (w : World) (n : Nat) : RowI ((w.alloc (.cells (madeCells #[.int .i64 0] n) 3)).alloc (.cells (madeCells #[.int .i64 0] n) 3)).drew w.heap.size n (fun _ => 0) ∧
    RowI ((w.alloc (.cells (madeCells #[.int .i64 0] n) 3)).alloc (.cells (madeCells #[.int .i64 0] n) 3)).drew (w.heap.size + 1) n (fun _ => 0) ∧
    Below w.heap.size w ((w.alloc (.cells (madeCells #[.int .i64 0] n) 3)).alloc (.cells (madeCells #[.int .i64 0] n) 3)).drew := by
  have h2 := RowI.made (w.alloc (.cells (madeCells #[.int .i64 0] n) 3)) n
  rw [World.size_alloc] at h2
  exact ⟨((RowI.made w n).keep (box_bel _ _)).drew, h2.drew, (((Below.refl _ _).alloc (Nat.le_refl _) _).alloc (by simp) _).drew⟩
set_option maxHeartbeats 4000000 in
set_option maxRecDepth 1000000 in
theorem trade_any (A : Option Addr) (n c : Nat) (t : Nat → Nat → Nat) (G : Option Addr) (cG : Nat) (g : Nat → Nat) (w : World) (h : Wis w A n t) (hG : Ints w G n (fun k => (g k : Int))) (hn : n ≤ 5) (ht : ∀ i, i < n → Pm n (t i)) (hg : Pm n g) :
    Calls Try.prog 51 #[.agg #[.int .i64 n, .slice A n c, .slice G n cG, .int .i64 ((2 ^ n - 1 : Nat) : Int)]] w fun e w' => ∃ B1 B2 : Nat,
      e = .returned (.tuple #[.slice (some ⟨B1, 0, none⟩) n n, .slice (some ⟨B2, 0, none⟩) n n]) ∧ w.heap.size ≤ B1 ∧ w.heap.size ≤ B2 ∧ B1 ≠ B2 ∧ RowI w' B1 n (fun p => (trF t n (owF g n) p : Int)) ∧ RowI w' B2 n (fun p => (rnF t n (owF g n) p : Int)) ∧ Below w.heap.size w w' := by
  have H := Lib.hid h
  have HG := Lib.hid hG
  have HT := Lib.hid ht
  have HP := Lib.hid hg
  have HL0 := Lib.hid (LeftS.first (t := t) hn hg)
  obtain ⟨S0, hS0⟩ : ∃ S0, S0 = 2 ^ n - 1 := ⟨_, rfl⟩
  rw [← hS0] at HL0 ⊢
  have hbb := box_bel w (.cells #[.int .i64 n, .slice A n c, .slice G n cG, .int .i64 S0] 55)
  have hbx := HoldI.box w A n c G cG S0
  have HX := Lib.hid hbx
  have HB := Lib.hid hbb
  have hs1 : (w.alloc (.cells #[.int .i64 n, .slice A n c, .slice G n cG, .int .i64 S0] 55)).heap.size = w.heap.size + 1 := by simp
  clear h hG ht hg hbx hbb hS0
  go_enter Try.func51, Try.ntmps51
  go_upto_region 1 with fail
  generalize w.alloc (.cells #[.int .i64 n, .slice A n c, .slice G n cG, .int .i64 S0] 55) = W1 at *
  have HS1 := Lib.hid hs1
  clear hs1
  go_cut [4, 5] (fun s4 s5 wx => ∃ B1 B2 : Nat, s4 = .slice (some ⟨B1, 0, none⟩) n n ∧ s5 = .slice (some ⟨B2, 0, none⟩) n n ∧ w.heap.size < B1 ∧ w.heap.size < B2 ∧ B1 ≠ B2 ∧ RowI wx B1 n (fun _ => 0) ∧ RowI wx B2 n (fun _ => 0) ∧ Below W1.heap.size W1 wx)
  case first =>
    have hmk := mk_ints n (by omega)
    have c0 := HX.out.c0
    have c1 : ∀ o : Obj, (W1.alloc o).cell? ⟨w.heap.size, 0, none⟩ = some (.int .i64 n) := fun o => cell_on HX.out.c0 (box_bel _ _)
    go_region
    all_goals
      go_wp2_with fail
      go_meet
      have hsz := HS1.out
      obtain ⟨q1, q2, q3⟩ := two_made W1 n
      first
        | exact ⟨_, _, rfl, rfl, by omega, by omega, by omega, q1, q2, q3⟩
        | exact ⟨_, _, rfl, rfl, by omega, by omega, by omega, q2, q1, q3⟩
  case rest =>
    obtain ⟨B1, B2, rfl, rfl, hB1, hB2, hne, hr1, hr2, hbc⟩ := hcut
    have HX1 := Lib.hid (HX.out.keep hbc)
    have HB1c := Lib.hid (HB.out.trans (hbc.mono HB.out.size))
    have HR1 := Lib.hid hr1
    have HR2 := Lib.hid hr2
    clear hr1 hr2 hbc HX HB HS1
    go_wp2_with fail
    go_loopw [6] (fun r wr => ∃ q S : Nat, r = .int .i64 q ∧ LeftS t n g q S ∧ HoldI wr w.heap.size A n c G cG S ∧ RowI wr B1 n (fun p => (oF t n (owF g n) q p : Int)) ∧ RowI wr B2 n (fun p => (rF t n (owF g n) q p : Int)) ∧ Below w.heap.size w wr) (fun r _ => n - (intOf r).toNat)
    case atStart => exact ⟨0, S0, rfl, HL0.out, HX1.out, HR1.out, HR2.out, HB1c.out⟩
    case round =>
      obtain ⟨q, S, rfl, hL, hX, hr1, hr2, hB⟩ := hrel
      clear HX1 HR1 HR2 HB1c HL0
      have HL := Lib.hid hL
      have HX := Lib.hid hX
      have HR1 := Lib.hid hr1
      have HR2 := Lib.hid hr2
      have HB := Lib.hid hB
      have c3 := hX.c3
      clear hL hX hr1 hr2 hB
      by_cases hS : S = 0
      · subst hS
        have hW : Wsh n t (owF g n) := ⟨HT.out, owF_pm HP.out⟩
        have hd : ∀ i, i < n → lfF t n (owF g n) q i = false := fun i hi => by rw [HL.out.lv i hi]; exact inS_zero _
        have HF1 := Lib.hid (HR1.out.congr (fun p hp => congrArg (fun x : Nat => (x : Int)) (of_done hW hd hp).1))
        have HF2 := Lib.hid (HR2.out.congr (fun p hp => congrArg (fun x : Nat => (x : Int)) (of_done hW hd hp).2))
        have hq0 : ((0 : Int) != 0) = false := rfl
        clear hd
        go_wp2
        go_ret2
        exact ⟨B1, B2, rfl, by omega, by omega, hne, HF1.out, HF2.out, HB.out⟩
      · have hqn := HL.out.round HT.out HP.out hS
        have hq0 := bne_t (a := (S : Int)) (b := 0) (by omega)
        have hS32 := HL.out.lt
        have HEx := Lib.hid (HL.out.some hS)
        have HGS : Hid (∀ p, p < n → gsF t n (owF g n) (lfF t n (owF g n) q) p = (inS S (g p) && onC (nxB t n g S) n p)) := Lib.hid (fun p hp => HL.out.gs HT.out HP.out hp)
        have HBK : Hid (∀ p, p < n → bsB t n S p = bsF t n (owF g n) (lfF t n (owF g n) q) p) := Lib.hid (fun p hp => bsB_bsF HP.out (HT.out p hp) HL.out.lv)
        have HNX : Hid (∀ Tn, Tn < 32 → (∀ x, x < 5 → inS Tn x = anyB (fun p => gsF t n (owF g n) (lfF t n (owF g n) q) p && decide (bsF t n (owF g n) (lfF t n (owF g n) q) p = x)) n) → LeftS t n g (q + 1) (adN S Tn)) := Lib.hid (fun Tn h1 h2 => HL.out.next hn HT.out HP.out h1 h2)
        have HO1 : Hid (∀ p, oF t n (owF g n) (q + 1) p = if gsF t n (owF g n) (lfF t n (owF g n) q) p then bsF t n (owF g n) (lfF t n (owF g n) q) p else oF t n (owF g n) q p) := Lib.hid (fun _ => rfl)
        have HQ1 : Hid (∀ p, rF t n (owF g n) (q + 1) p = if gsF t n (owF g n) (lfF t n (owF g n) q) p then q else rF t n (owF g n) q p) := Lib.hid (fun _ => rfl)
        generalize gsF t n (owF g n) (lfF t n (owF g n) q) = gk at *
        generalize bsF t n (owF g n) (lfF t n (owF g n) q) = bk at *
        generalize hO1 : oF t n (owF g n) (q + 1) = O1 at *
        have HEO := Lib.hid hO1
        clear hO1
        generalize oF t n (owF g n) q = O0 at *
        generalize hQ1 : rF t n (owF g n) (q + 1) = Q1 at *
        have HEQ := Lib.hid hQ1
        clear hQ1
        generalize rF t n (owF g n) q = Q0 at *
        have c2 := HX.out.c2
        go_wp2_with fail
        clear c2 c3
        go_loopw [7, 26] (fun T k w2 => ∃ m Tn : Nat, m ≤ n ∧ k = .int .i64 m ∧ T = .int .i64 Tn ∧ Tn < 32 ∧ (∀ x, x < 5 → inS Tn x = anyB (fun p => gk p && decide (bk p = x)) m) ∧ RowI w2 B1 n (fun p => ((if p < m then O1 p else O0 p : Nat) : Int)) ∧ RowI w2 B2 n (fun p => ((if p < m then Q1 p else Q0 p : Nat) : Int)) ∧ HoldI w2 w.heap.size A n c G cG S ∧ Below w.heap.size w w2) (fun _ k _ => n - (intOf k).toNat)
        case atStart => exact ⟨0, 0, Nat.zero_le _, rfl, rfl, by omega, fun x _ => inS_zero x, HR1.out.congr (fun p _ => by simp), HR2.out.congr (fun p _ => by simp), HX.out, HB.out⟩
        case round =>
          obtain ⟨m, Tn, hm, rfl, rfl, hT32, hTx, hr1, hr2, hX, hB⟩ := hrel
          clear HX HR1 HR2 HB
          have HTx := Lib.hid hTx
          have HR1 := Lib.hid hr1
          have HR2 := Lib.hid hr2
          have HX := Lib.hid hX
          have HB := Lib.hid hB
          clear hTx hr1 hr2 hX hB
          by_cases hlt : m < n
          · obtain ⟨b, o, rfl, hc⟩ := (HG.out.keep HB.out).at hlt
            have c0 := HX.out.c0
            have c1 := HX.out.c1
            have c2 := HX.out.c2
            have c3 := HX.out.c3
            have hgm := HP.out.lt m hlt
            have hhas := has_any S (g m) (by omega)
            have HGm := Lib.hid (HGS.out m hlt)
            have HSame : Hid (gk m = false → ∃ m' Tn' : Nat, m' ≤ n ∧ (Value.int .i64 ((m : Int) + 1)) = .int .i64 (m' : Int) ∧ (Value.int .i64 (Tn : Int)) = .int .i64 (Tn' : Int) ∧ Tn' < 32 ∧ (∀ x, x < 5 → inS Tn' x = anyB (fun p => gk p && decide (bk p = x)) m') ∧ (∀ p, (if p < m then O1 p else O0 p) = if p < m' then O1 p else O0 p) ∧ (∀ p, (if p < m then Q1 p else Q0 p) = if p < m' then Q1 p else Q0 p)) := Lib.hid (fun hgf => by
              refine ⟨m + 1, Tn, by omega, by go_num, rfl, hT32, fun x hx => ?_, fun p => ?_, fun p => ?_⟩
              · rw [HTx.out x hx]
                show _ = (anyB _ m || (gk m && decide (bk m = x)))
                rw [hgf, Bool.false_and, Bool.or_false]
              · by_cases e : p = m
                · rw [if_neg (by omega), if_pos (by omega), e, HO1.out, hgf]; rfl
                · by_cases e2 : p < m
                  · rw [if_pos e2, if_pos (by omega)]
                  · rw [if_neg e2, if_neg (by omega)]
              · by_cases e : p = m
                · rw [if_neg (by omega), if_pos (by omega), e, HQ1.out, hgf]; rfl
                · by_cases e2 : p < m
                  · rw [if_pos e2, if_pos (by omega)]
                  · rw [if_neg e2, if_neg (by omega)])
            cases h1 : inS S (g m) with
            | false =>
              rw [h1] at hhas HGm
              have HSm := Lib.hid (HSame.out (by rw [HGm.out]; rfl))
              have HH := Lib.hid hhas
              clear h1 hhas
              go_wp2_with fail
              refine (HH.out _).mono ?_
              rintro e w' ⟨rfl, rfl⟩
              go_wp2
              go_roundw
              case rel =>
                obtain ⟨m', Tn', a1, a2, a3, a4, a5, a6, a7⟩ := HSm.out
                exact ⟨m', Tn', a1, by first | exact a2 | (rw [← a2]; go_num), a3, a4, a5, HR1.out.congr (fun p _ => by rw [a6]), HR2.out.congr (fun p _ => by rw [a7]), HX.out, HB.out⟩
              case measure => simp [intOf]; omega
            | true =>
              rw [h1] at hhas HGm
              have HH := Lib.hid hhas
              have HOn := Lib.hid (onCycle_any A n c t (some ⟨b, o, none⟩) cG g S m wr (H.out.keep HB.out) (HG.out.keep HB.out) hn hlt HT.out HP.out HEx.out)
              clear h1 hhas
              cases h2 : onC (nxB t n g S) n m with
              | false =>
                rw [h2] at HOn HGm
                have HSm := Lib.hid (HSame.out (by rw [HGm.out]; rfl))
                clear h2
                go_wp2_with fail
                refine (HH.out _).mono ?_
                rintro e w' ⟨rfl, rfl⟩
                go_wp2_with fail
                refine HOn.out.use fun w3 hb3 => ?_
                have HR13 := Lib.hid (HR1.out.keep hb3)
                have HR23 := Lib.hid (HR2.out.keep hb3)
                have HX3 := Lib.hid (HX.out.keep hb3)
                have HB3 := Lib.hid (HB.out.trans (hb3.mono HB.out.size))
                clear hb3 c0 c1 c2 c3
                go_wp2
                go_roundw
                case rel =>
                  obtain ⟨m', Tn', a1, a2, a3, a4, a5, a6, a7⟩ := HSm.out
                  exact ⟨m', Tn', a1, by first | exact a2 | (rw [← a2]; go_num), a3, a4, a5, HR13.out.congr (fun p _ => by rw [a6]), HR23.out.congr (fun p _ => by rw [a7]), HX3.out, HB3.out⟩
                case measure => simp [intOf]; omega
              | true =>
                rw [h2] at HOn HGm
                clear h2
                have HBt := Lib.hid (fun w' (hw : Wis w' A n t) => best_any A n c t m S w' hw hn hlt (HT.out m hlt).lt (best_ex (HT.out m hlt) HEx.out))
                have hbl := (bsB_lt (t := t) (HT.out m hlt) HEx.out).1
                have HBe := Lib.hid (HBK.out m hlt)
                generalize bsB t n S m = bv at *
                go_wp2_with fail
                refine (HH.out _).mono ?_
                rintro e w' ⟨rfl, rfl⟩
                go_wp2_with fail
                refine HOn.out.use fun w3 hb3 => ?_
                have HR13 := Lib.hid (HR1.out.keep hb3)
                have HR23 := Lib.hid (HR2.out.keep hb3)
                have HX3 := Lib.hid (HX.out.keep hb3)
                have HB3 := Lib.hid (HB.out.trans (hb3.mono HB.out.size))
                clear hb3 c0 c1 c2 c3
                have c0 := HX3.out.c0
                have c1 := HX3.out.c1
                have c3 := HX3.out.c3
                go_wp2_with fail
                refine (HBt.out _ (H.out.keep HB3.out)).use fun w4 hb4 => ?_
                have HR14 := Lib.hid (HR13.out.keep hb4)
                have HR24 := Lib.hid (HR23.out.keep hb4)
                have HX4 := Lib.hid (HX3.out.keep hb4)
                have HB4 := Lib.hid (HB3.out.trans (hb4.mono HB3.out.size))
                clear hb4 c0 c1 c3
                have d1 := HR14.out.cell hlt
                have z1 := HR14.out.frozen m
                have HS1 := Lib.hid (HR14.out.set m (bv : Int))
                have HS2 := Lib.hid (HR24.out.setOther (a := ⟨B1, m, none⟩) (fun e => hne e.symm) (.int .i64 (bv : Int)))
                have d2 := HS2.out.cell hlt
                have z2 := HS2.out.frozen m
                have HS3 := Lib.hid (HS2.out.set m (q : Int))
                have HS4 := Lib.hid (HS1.out.setOther (a := ⟨B2, m, none⟩) hne (.int .i64 (q : Int)))
                have d3 := HS4.out.cell hlt
                rw [upd_at] at d3
                have HXs : Hid (HoldI ((w4.setCell ⟨B1, m, none⟩ (.int .i64 (bv : Int))).setCell ⟨B2, m, none⟩ (.int .i64 (q : Int))) w.heap.size A n c (some ⟨b, o, none⟩) cG S) := Lib.hid (World.rowIs.setOther (World.rowIs.setOther HX4.out (a := ⟨B1, m, none⟩) (by show w.heap.size ≠ B1; omega) _) (a := ⟨B2, m, none⟩) (by show w.heap.size ≠ B2; omega) _)
                have HBs := Lib.hid ((HB4.out.setCell (p := ⟨B1, m, none⟩) (by show _ ≤ B1; omega) (.int .i64 (bv : Int))).setCell (p := ⟨B2, m, none⟩) (by show _ ≤ B2; omega) (.int .i64 (q : Int)))
                have hor := orN_eq Tn hT32 bv (by omega)
                go_wp2
                go_roundw
                case rel =>
                  refine ⟨m + 1, Tn ||| 2 ^ bv, by omega, by go_num, by first | rfl | exact val_int hor, orN_lt Tn hT32 bv (by omega), fun x hx => ?_, HS4.out.congr (fun p _ => ?_), HS3.out.congr (fun p _ => ?_), HXs.out, HBs.out⟩
                  · rw [orN_in Tn hT32 bv (by omega) x hx, HTx.out x hx]
                    show _ = (anyB _ m || (gk m && decide (bk m = x)))
                    rw [HGm.out, HBe.out]
                    rfl
                  · unfold upd
                    by_cases e : p = m
                    · rw [if_pos e, if_pos (by omega), e, HO1.out, HGm.out, HBe.out]; rfl
                    · rw [if_neg e]
                      dsimp only
                      by_cases e2 : p < m
                      · rw [if_pos e2, if_pos (by omega)]
                      · rw [if_neg e2, if_neg (by omega)]
                  · unfold upd
                    by_cases e : p = m
                    · rw [if_pos e, if_pos (by omega), e, HQ1.out, HGm.out]; rfl
                    · rw [if_neg e]
                      dsimp only
                      by_cases e2 : p < m
                      · rw [if_pos e2, if_pos (by omega)]
                      · rw [if_neg e2, if_neg (by omega)]
                case measure => simp [intOf]; omega
          · obtain rfl : m = n := by omega
            have c3 := HX.out.c3
            have z3 := HX.out.frozen 3
            have HN := Lib.hid (HNX.out Tn hT32 HTx.out)
            have hand := adN_eq S hS32 Tn hT32
            have HXs := Lib.hid (HX.out.set (adN S Tn))
            have HR1s := Lib.hid (HR1.out.setOther (a := ⟨w.heap.size, 3, none⟩) (by show B1 ≠ w.heap.size; omega) (.int .i64 ((adN S Tn : Nat) : Int)))
            have HR2s := Lib.hid (HR2.out.setOther (a := ⟨w.heap.size, 3, none⟩) (by show B2 ≠ w.heap.size; omega) (.int .i64 ((adN S Tn : Nat) : Int)))
            have HBs := Lib.hid (HB.out.setCell (p := ⟨w.heap.size, 3, none⟩) (Nat.le_refl _) (.int .i64 ((adN S Tn : Nat) : Int)))
            go_wp2
            go_roundw
            case rel => exact ⟨q + 1, adN S Tn, by go_num, HN.out, HXs.out, HR1s.out.congr (fun p hp => by rw [if_pos hp, HEO.out]), HR2s.out.congr (fun p hp => by rw [if_pos hp, HEQ.out]), HBs.out⟩
            case measure => simp [intOf]; omega
end Go.Proofs.Ytocfbafcplhmiaa
