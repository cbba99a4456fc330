import Derived.Test.YtgdlkmgdljcgnaaDoorGfa
import Derived.Test.YtgdlkmgdljcgnaaDoorGamesShapley
namespace Go.Proofs.YtgdlkmgdljcgnaaDoor
open Go.RowKit

theorem raG_succ (C : Nat → Int) (i t : Nat) : raG C i (t + 1) = (raG C i t || !(decide (C (t ||| 2 ^ i) = C t))) := rfl
theorem alG_succ (C : Nat → Int) (i j t : Nat) : alG C i j (t + 1) = (alG C i j t && (inS t i || (inS t j || decide (C (t ||| 2 ^ i) = C (t ||| 2 ^ j))))) := rfl
theorem raG_none {C : Nat → Int} {i t : Nat} (h : raG C i t = false) : ∀ s, s < t → C (s ||| 2 ^ i) = C s := by
  intro s hs
  by_cases e : C (s ||| 2 ^ i) = C s
  · exact e
  · have := anyB_t (p := fun s => !(decide (C (s ||| 2 ^ i) = C s))) hs (by simp [e])
    unfold raG at h
    rw [this] at h
    cases h
theorem and_bit (s x : Nat) : bits .and .i64 ((s : Int) / 2 ^ x) 1 = ((s / 2 ^ x % 2 : Nat) : Int) := by
  have e : ((s : Int) / 2 ^ x) = ((s / 2 ^ x : Nat) : Int) := by push_cast; rfl
  rw [e, i64_and1]
  omega
theorem shl_k : ∀ k : Nat, k ≤ 4 → wrap64 (2 ^ k) = ((2 ^ k : Nat) : Int) ∧ IntKind.i64.wrap (2 ^ k) = ((2 ^ k : Nat) : Int) := by decide +kernel

set_option maxHeartbeats 16000000 in
set_option maxRecDepth 1000000 in
theorem gamesFair_walk (A : Option Addr) (n c : Nat) (C : Nat → Int) (B : Option Addr) (m cB : Nat) (D : Nat → Int) (W : World) (h : ArgI W A n c C) (hD : ArgI W B m cB D) (ht : Tab W) : TrueBelow 10 #[.slice A n c, .slice B m cB] W := by
  have hnm : n ≤ maxLen := Nat.le_trans h.1 h.2.1
  have H := Lib.hid h
  have Hn := Lib.hid hnm
  have HT := Lib.hid ht
  have HB := Lib.hid (Below.refl W.heap.size W)
  have HMin := Lib.hid (okC_min n C)
  have HO := Lib.hid hD
  have hm64 : m ≤ 9223372036854775807 := by have := Nat.le_trans hD.1 hD.2.1; unfold maxLen at this; omega
  clear h ht hnm hD
  show Calls _ _ _ _ _
  go_enter Tryd.func10, Tryd.ntmps10
  cases hok : okC n C with
  | false =>
    have HOk := Lib.hid hok
    have HO1 := Lib.hid (show okC (min n 18) C = false by rw [HMin.out]; exact hok)
    have HP : Hid (plN n C = 0) := Lib.hid (by unfold plN; rw [hok]; rfl)
    clear hok
    go_wp2_with fail
    refine (list_any A n c C _ (H.out.below HB.out)).mono ?_
    rintro e wc ⟨v, rfl, hv, hb⟩
    obtain ⟨A1, c1, rfl, hI⟩ := hv.ints
    clear hv
    have HT := Lib.hid (HT.out.keep hb)
    have HB := Lib.hid (HB.out.trans (hb.mono HB.out.size))
    clear hb
    have HI := Lib.hid hI.2.2.2
    have HIa := Lib.hid hI
    clear hI
    go_wp2_with fail
    refine (shapley_bad A1 (min n 18) c1 C _ HI.out (by omega) HT.out HO1.out).mono ?_
    rintro e w' ⟨rfl, rfl⟩
    go_wp2_with fail
    refine (refPlayers_any A n c C _ (H.out.below HB.out).2.2.2 Hn.out).mono ?_
    rintro e w' ⟨rfl, rfl⟩
    rw [HP.out]
    go_wp2_with fail
    refine (awake_any _ HT.out).use fun wc hb => ?_
    have HI := Lib.hid (HI.out.keep hb)
    have HT := Lib.hid (HT.out.keep hb)
    have HB := Lib.hid (HB.out.trans (hb.mono HB.out.size))
    clear hb
    go_wp2
    go_ret
    exact ⟨rfl, HB.out⟩
  | true =>
    have HOk := Lib.hid hok
    obtain ⟨k, hk, hk1, hk4, hL, hL2, hL16⟩ := okC_n hok
    have HP : Hid (plN n C = k) := Lib.hid (by unfold plN; rw [hok, if_pos rfl, hk])
    have Hmn := Lib.hid (show min n 18 = n by omega)
    have Hk := Lib.hid hk
    have hne := beq_f (a := (k : Int)) (b := 0) (by omega)
    have hkk := bne_f (a := (k : Int)) rfl
    have HC := Lib.hid (okC_iff.1 hok).2.2
    have HPy := Lib.hid (pySh (C := C) hL hk4 (okC_iff.1 hok).2.2)
    have HPw := Lib.hid (fun a b h => pays_whole (C := C) (a := a) (b := b) hL hk1 hk4 (okC_iff.1 hok).2.1 h)
    have HOr : Hid (∀ s, s < n → ∀ p, p < k → s ||| 2 ^ p < n) := Lib.hid (fun s hs p hp => by rw [hL] at hs ⊢; exact or_lt k hk4 s hs p hp)
    have HAl := Lib.hid (fun (i j : Nat) (hi : i < k) (hj : j < i) h => shF_same (sh_alike (C := C) hL hk4 hi hj h))
    have HNo := Lib.hid (fun (i : Nat) h => shF_none (C := C) (i := i) hk4 (shP_zero n (raG_none h)))
    have HHd := Lib.hid (fun (E : Nat → Int) h => pySh (C := E) hL hk4 h)
    have hsh := shl_k k hk4
    rw [← hL] at hsh
    have HSh := Lib.hid hsh
    clear hok hk hL hsh
    go_wp2_with fail
    refine (list_any A n c C _ (H.out.below HB.out)).mono ?_
    rintro e wc ⟨v, rfl, hv, hb⟩
    obtain ⟨A1, c1, rfl, hI⟩ := hv.ints
    rw [Hmn.out] at hI ⊢
    clear hv
    have HT := Lib.hid (HT.out.keep hb)
    have HB := Lib.hid (HB.out.trans (hb.mono HB.out.size))
    clear hb
    have HI := Lib.hid hI.2.2.2
    have HIa := Lib.hid hI
    clear hI
    go_wp2_with fail
    refine (shapley_ok A1 n c1 k C _ HI.out HT.out HOk.out Hk.out).mono ?_
    rintro e wx ⟨rfl, hF, hb⟩
    obtain ⟨gx, hgx⟩ : ∃ gx, gx = wc.heap.size := ⟨_, rfl⟩
    rw [← hgx] at hF ⊢
    have HF := Lib.hid hF
    have HT := Lib.hid (HT.out.keep hb)
    have HB := Lib.hid (HB.out.trans (hb.mono HB.out.size))
    clear hF hb hgx HI HIa
    go_wp2_with fail
    refine (refPlayers_any A n c C wx (H.out.below HB.out).2.2.2 Hn.out).mono ?_
    rintro e w' ⟨rfl, rfl⟩
    rw [HP.out]
    go_wp2_with fail
    go_loopw [49] (fun i wi => ∃ p : Nat, p ≤ k ∧ i = .int .i64 p ∧ Below wx.heap.size wx wi) (fun i _ => k - (intOf i).toNat)
    case atStart => exact ⟨0, Nat.zero_le _, rfl, Below.refl _ _⟩
    case round =>
      obtain ⟨p, hp, rfl, hbel⟩ := hrel
      have HBl := Lib.hid hbel
      by_cases hpl : p < k
      · have c0 := (HF.out.keep hbel).cell0 hpl
        have c1 := (HF.out.keep hbel).cell1 hpl
        have HDa := Lib.hid (hbel.alloc hbel.size (.cells #[.int .i64 (shF k n C p 0), .int .i64 (shF k n C p 1)] 34))
        have HX := Lib.hid (BxF.new wr (shF k n C p 0) (shF k n C p 1))
        obtain ⟨hlw, h24, hm1, hm2⟩ := lw_py (allB_iff.1 HPy.out p hpl)
        have HL := Lib.hid (fun w => lowest_any (shF k n C p 0) (shF k n C p 1) w)
        rw [hlw] at HL
        clear hlw
        generalize shF k n C p 0 = x at *
        generalize shF k n C p 1 = y at *
        have d1 : decide (24 < y) = false := decide_eq_false (by omega)
        have d2 : decide (100000 < x) = false := decide_eq_false (by omega)
        have d3 : decide (x < -100000) = false := decide_eq_false (by omega)
        clear hbel
        go_wp2_with fail
        refine (HL.out _).use fun w2 hb2 => ?_
        have HX2 := Lib.hid (HX.out.keep hb2)
        have HD2 := Lib.hid (HDa.out.trans (hb2.mono HDa.out.size))
        have x0 := HX2.out.c0
        have x1 := HX2.out.c1
        clear hb2 c0 c1
        go_wp2
        go_roundw
        case rel => exact ⟨p + 1, by omega, by go_num, HD2.out⟩
        case measure => simp [intOf]; omega
      · obtain rfl : k = p := by omega
        have HF1 := Lib.hid (HF.out.keep hbel)
        have HB1 := Lib.hid (HB.out.trans (hbel.mono HB.out.size))
        have HT1 := Lib.hid (HT.out.keep hbel)
        clear hbel HF HB HT HBl hp hpl
        obtain ⟨L1, hL1⟩ : ∃ L1, n - 1 = L1 := ⟨_, rfl⟩
        have hl1 : L1 < n := by omega
        have hsub : (n : Int) - 1 = (L1 : Int) := by omega
        have hwr : IntKind.i64.wrap (L1 : Int) = (L1 : Int) := IntWalk.i64_in _ (by omega)
        obtain ⟨hs1, hs2⟩ := HSh.out
        have HPs : Hid (∀ (w : World), Below wr.heap.size wr w → Lr 33 #[.slice (some ⟨gx, 0, none⟩) k k, .int .i64 L1] w (.agg #[.int .i64 (C L1), .int .i64 1])) := Lib.hid (fun w hb => by
          refine (pays_any (some ⟨gx, 0, none⟩) k k L1 (shF k n C) w (HF1.out.keep hb).recs hk4 HPy.out).mono ?_
          rintro e w' ⟨a, b, rfl, hPI, hb2⟩
          rw [← hL1] at hPI ⊢
          obtain ⟨rfl, rfl⟩ := HPw.out a b hPI
          exact ⟨rfl, hb2⟩)
        obtain ⟨g, o, e0, hc⟩ := (H.out.below HB1.out).2.2.2.at hl1
        subst e0
        have hcmp := fun w => cmpF (C L1) 1 (C L1) 1 w
        have ek : (!(decide (C L1 = C L1) && decide ((1 : Int) = 1))) = false := by simp
        rw [ek] at hcmp
        generalize C L1 = xx at *
        have k0 : ∀ q : Later wr, q.to.cell? ⟨g, o + L1, none⟩ = some (.int .i64 xx) := fun q => q.cell hc
        clear ek hL1
        go_wp2_with fail
        refine wp_region_later (by kernel_rfl) (by kernel_rfl) ?_
        repeat
          (with_reducible refine wpQuiet_step ?_
           intro K hK
           go_simp
           first
             | (refine hK _ ?_; clear hK K)
             | (apply Exists.intro
                refine ⟨fun _ => ?_, hK _ ?_⟩
                (first | (go_at_call 33; exact Lr.later (HPs.out _ (Later.below (by assumption)))) | (go_at_call 24; exact Lr.later (wholeL_any _ _)))
                clear hK K))
        with_reducible refine wpQuiet_nil ?_
        intro _ hw'
        obtain ⟨p2, hw''⟩ := hw'
        subst hw''
        have HB3 := Lib.hid (HB1.out.trans (p2.below.mono HB1.out.size))
        have HF3 := Lib.hid (HF1.out.keep p2.below)
        have HT3 := Lib.hid (HT1.out.keep p2.below)
        clear k0
        have HF := HF3
        have HB := HB3
        have HT := HT3
        clear HF3 HB3 HT3 HF1 HB1 HT1 HPs
        generalize p2.to = Y at *
        clear hc hcmp hs1 hs2 hsub hwr
        go_wp2_with fail
        go_loopw [86] (fun i wi => ∃ p : Nat, p ≤ k ∧ i = .int .i64 p ∧ Below Y.heap.size Y wi) (fun i _ => k - (intOf i).toNat)
        case atStart => exact ⟨0, Nat.zero_le _, rfl, Below.refl _ _⟩
        case round =>
          obtain ⟨p, hp, rfl, hbel⟩ := hrel
          have HBl := Lib.hid hbel
          clear hbel
          by_cases hpl : p < k
          · obtain ⟨V, rfl⟩ : ∃ V, V = wr := ⟨wr, rfl⟩
            have hp3 : p < 4 := by omega
            have hp64 : (p : Int) < 64 := by omega
            go_wp2_with fail
            go_loopw [11, 91] (fun ra i wi => ∃ s : Nat, s ≤ n ∧ i = .int .i64 s ∧ ra = .bool (raG C p s) ∧ Below V.heap.size V wi) (fun _ i _ => n - (intOf i).toNat)
            case atStart => exact ⟨0, Nat.zero_le _, rfl, rfl, Below.refl _ _⟩
            case round =>
              obtain ⟨s, hs, rfl, rfl, hE⟩ := hrel
              have HE := Lib.hid hE
              clear hE
              by_cases hsl : s < n
              · have hI := (H.out.below (HB.out.trans ((HBl.out.trans (HE.out.mono HBl.out.size)).mono HB.out.size))).2.2.2
                have hsp := HOr.out s hsl p hpl
                have c0 := hI.cell hsl
                have c1 := hI.cell hsp
                have e1 := or_eval2 s (by omega) p hp3
                have e2 := or_eval3 s (by omega) p hp3
                have HRs := Lib.hid (raG_succ C p s)
                generalize s ||| 2 ^ p = s2 at *
                generalize C s = x at *
                generalize C s2 = y at *
                clear hI
                cases hra : raG C p s with
                | true =>
                  have HZ : Hid (raG C p (s + 1) = true) := Lib.hid (by rw [HRs.out, hra]; rfl)
                  clear hra c0 c1
                  go_wp2
                  go_region
                  go_wp2
                  go_roundw
                  case rel => exact ⟨s + 1, by omega, by go_num, by rw [HZ.out], HE.out.drew⟩
                  case measure => simp [intOf]; omega
                | false =>
                  by_cases exy : y = x
                  · have HZ : Hid (raG C p (s + 1) = false) := Lib.hid (by rw [HRs.out, hra, decide_eq_true exy]; rfl)
                    have hq := bne_f exy
                    clear hra exy
                    go_wp2
                    go_region
                    go_wp2
                    go_roundw
                    case rel => exact ⟨s + 1, by omega, by go_num, by rw [HZ.out], HE.out.drew⟩
                    case measure => simp [intOf]; omega
                  · have HZ : Hid (raG C p (s + 1) = true) := Lib.hid (by rw [HRs.out, hra, decide_eq_false exy]; rfl)
                    have hq := bne_t exy
                    clear hra exy
                    go_wp2
                    go_region
                    go_wp2
                    go_roundw
                    case rel => exact ⟨s + 1, by omega, by go_num, by rw [HZ.out], HE.out.drew⟩
                    case measure => simp [intOf]; omega
              · obtain rfl : n = s := by omega
                have HBv := Lib.hid (HBl.out.trans (HE.out.mono HBl.out.size))
                have HFv := Lib.hid (HF.out.keep HBv.out)
                have x0 := HFv.out.cell0 hpl
                have x1 := HFv.out.cell1 hpl
                have HNp := Lib.hid (HNo.out p)
                have HAp := Lib.hid (fun j hj h => HAl.out p j hpl hj h)
                have HTl := Lib.hid (HT.out.keep HBv.out)
                clear HE
                cases hra : raG C p n with
                | true => as_aux_lemma =>
                  have k0 : ∀ q : Later wr, q.to.cell? ⟨gx, p * 2, none⟩ = some (.int .i64 (shF k n C p 0)) := fun q => q.cell x0
                  clear x0 x1 hra
                  go_wp2_with fail
                  refine wp_region_later (by kernel_rfl) (by kernel_rfl) ?_
                  repeat
                    (with_reducible refine wpQuiet_step ?_
                     intro K hK
                     go_simp
                     first
                       | (refine hK _ ?_; clear hK K)
                       | (apply Exists.intro
                          refine ⟨fun _ => ?_, hK _ ?_⟩
                          (first | (go_at_call 24; exact Lr.later (wholeL_any _ _)))
                          clear hK K))
                  with_reducible refine wpQuiet_nil ?_
                  intro _ hw'
                  obtain ⟨p2, hw''⟩ := hw'
                  subst hw''
                  clear k0
                  have HBw := Lib.hid (HBv.out.trans (p2.below.mono HBv.out.size))
                  clear HNp HBv HFv HTl
                  generalize p2.to = V2 at *
                  go_wp2_with fail
                  go_loopw [121] (fun i wi => ∃ j : Nat, j ≤ p ∧ i = .int .i64 j ∧ Below Y.heap.size Y wi) (fun i _ => p - (intOf i).toNat)
                  case atStart => exact ⟨0, Nat.zero_le _, rfl, HBw.out⟩
                  case round =>
                    obtain ⟨j, hj, rfl, hbel⟩ := hrel
                    have HBj := Lib.hid hbel
                    clear hbel
                    by_cases hjl : j < p
                    · obtain ⟨V3, rfl⟩ : ∃ V3, V3 = wr := ⟨wr, rfl⟩
                      have hj3 : j < 4 := by omega
                      have hj64 : (j : Int) < 64 := by omega
                      have hjk : j < k := by omega
                      go_wp2_with fail
                      go_loopw [14, 126] (fun al i wi => ∃ s : Nat, s ≤ n ∧ i = .int .i64 s ∧ al = .bool (alG C p j s) ∧ Below Y.heap.size Y wi) (fun _ i _ => n - (intOf i).toNat)
                      case atStart => exact ⟨0, Nat.zero_le _, rfl, rfl, HBj.out⟩
                      case round =>
                        obtain ⟨s, hs, rfl, rfl, hE⟩ := hrel
                        have HE := Lib.hid hE
                        clear hE
                        by_cases hsl : s < n
                        · have hI := (H.out.below (HB.out.trans (HE.out.mono HB.out.size))).2.2.2
                          have c0 := hI.cell (HOr.out s hsl p hpl)
                          have c1 := hI.cell (HOr.out s hsl j hjk)
                          have hsp := HOr.out s hsl p hpl
                          have hsj := HOr.out s hsl j hjk
                          have e1 := or_eval2 s (by omega) p hp3
                          have e2 := or_eval3 s (by omega) p hp3
                          have e3 := or_eval2 s (by omega) j hj3
                          have e4 := or_eval3 s (by omega) j hj3
                          have hhp := and_bit s p
                          have hhj := and_bit s j
                          have HAs := Lib.hid (alG_succ C p j s)
                          have HUp : Hid (inS s p = decide (s / 2 ^ p % 2 = 1)) := Lib.hid rfl
                          have HUj : Hid (inS s j = decide (s / 2 ^ j % 2 = 1)) := Lib.hid rfl
                          have hmp : s / 2 ^ p % 2 = 0 ∨ s / 2 ^ p % 2 = 1 := by omega
                          have hmj : s / 2 ^ j % 2 = 0 ∨ s / 2 ^ j % 2 = 1 := by omega
                          clear hI
                          cases hal : alG C p j s with
                          | false =>
                            have HZ : Hid (alG C p j (s + 1) = false) := Lib.hid (by rw [HAs.out, hal]; rfl)
                            clear hal c0 c1 hmp hmj hhp hhj
                            go_wp2
                            go_region
                            go_wp2
                            go_roundw
                            case rel => exact ⟨s + 1, by omega, by go_num, by rw [HZ.out], HE.out.drew⟩
                            case measure => simp [intOf]; omega
                          | true =>
                            rcases hmp with hmp | hmp
                            · have hqp : (((s / 2 ^ p % 2 : Nat) : Int) == 1) = false := by rw [hmp]; rfl
                              rcases hmj with hmj | hmj
                              · have hqj : (((s / 2 ^ j % 2 : Nat) : Int) == 1) = false := by rw [hmj]; rfl
                                have HZ : Hid (alG C p j (s + 1) = decide (C (s ||| 2 ^ p) = C (s ||| 2 ^ j))) := Lib.hid (by rw [HAs.out, hal, HUp.out, HUj.out, hmp, hmj]; rfl)
                                clear hmp hmj hal HAs HUp HUj
                                generalize s / 2 ^ p % 2 = z1 at *
                                generalize s / 2 ^ j % 2 = z2 at *
                                generalize s ||| 2 ^ p = s2 at *
                                generalize s ||| 2 ^ j = s3 at *
                                generalize C s2 = x at *
                                generalize C s3 = y at *
                                by_cases exy : x = y
                                · have HZ2 : Hid (alG C p j (s + 1) = true) := Lib.hid (by rw [HZ.out, decide_eq_true exy])
                                  have hq := beq_t exy
                                  clear exy
                                  go_wp2
                                  go_region
                                  go_wp2
                                  go_roundw
                                  case rel => exact ⟨s + 1, by omega, by go_num, by rw [HZ2.out], HE.out.drew⟩
                                  case measure => simp [intOf]; omega
                                · have HZ2 : Hid (alG C p j (s + 1) = false) := Lib.hid (by rw [HZ.out, decide_eq_false exy])
                                  have hq := beq_f exy
                                  clear exy
                                  go_wp2
                                  go_region
                                  go_wp2
                                  go_roundw
                                  case rel => exact ⟨s + 1, by omega, by go_num, by rw [HZ2.out], HE.out.drew⟩
                                  case measure => simp [intOf]; omega
                              · have hqj : (((s / 2 ^ j % 2 : Nat) : Int) == 1) = true := by rw [hmj]; rfl
                                have HZ : Hid (alG C p j (s + 1) = true) := Lib.hid (by rw [HAs.out, hal, HUp.out, HUj.out, hmp, hmj]; rfl)
                                clear hmp hmj hal HAs HUp HUj c0 c1 e1 e2 e3 e4
                                generalize s / 2 ^ p % 2 = z1 at *
                                generalize s / 2 ^ j % 2 = z2 at *
                                go_wp2
                                go_region
                                go_wp2
                                go_roundw
                                case rel => exact ⟨s + 1, by omega, by go_num, by rw [HZ.out], HE.out.drew⟩
                                case measure => simp [intOf]; omega
                            · have hqp : (((s / 2 ^ p % 2 : Nat) : Int) == 1) = true := by rw [hmp]; rfl
                              have HZ : Hid (alG C p j (s + 1) = true) := Lib.hid (by rw [HAs.out, hal, HUp.out, hmp]; rfl)
                              clear hmp hmj hal HAs HUp HUj c0 c1 hhj e1 e2 e3 e4
                              generalize s / 2 ^ p % 2 = z1 at *
                              go_wp2
                              go_region
                              go_wp2
                              go_roundw
                              case rel => exact ⟨s + 1, by omega, by go_num, by rw [HZ.out], HE.out.drew⟩
                              case measure => simp [intOf]; omega
                        · obtain rfl : n = s := by omega
                          cases hal : alG C p j n with
                          | false =>
                            clear hal
                            go_wp2
                            go_region
                            go_wp2
                            go_roundw
                            case rel => exact ⟨j + 1, by omega, by go_num, HE.out.drew⟩
                            case measure => simp [intOf]; omega
                          | true =>
                            have hFe := HF.out.keep HE.out
                            have x0 := hFe.cell0 hpl
                            have x1 := hFe.cell1 hpl
                            have y0 := hFe.cell0 hjk
                            have y1 := hFe.cell1 hjk
                            have a0 := HAp.out j hjl hal
                            rw [← a0 0] at y0
                            rw [← a0 1] at y1
                            generalize shF k n C p 0 = f0 at *
                            generalize shF k n C p 1 = f1 at *
                            have hcmp := fun w => cmpF f0 f1 f0 f1 w
                            have ek : (!(decide (f0 = f0) && decide (f1 = f1))) = false := by simp
                            rw [ek] at hcmp
                            clear ek a0 hal hFe
                            go_wp2
                            go_region
                            go_wp2
                            go_roundw
                            case rel => exact ⟨j + 1, by omega, by go_num, HE.out.drew⟩
                            case measure => simp [intOf]; omega
                    · obtain rfl : p = j := by omega
                      go_wp2
                      go_roundw
                      case rel => exact ⟨p + 1, by omega, by go_num, HBj.out⟩
                      case measure => simp [intOf]; omega
                | false => as_aux_lemma =>
                  obtain ⟨z0, z1⟩ := HNp.out hra
                  rw [z0] at x0
                  rw [z1] at x1
                  have hcmp := fun w => cmpF 0 1 0 1 w
                  have ek : (!(decide ((0 : Int) = 0) && decide ((1 : Int) = 1))) = false := by decide
                  rw [ek] at hcmp
                  have k0 : ∀ q : Later wr, q.to.cell? ⟨gx, p * 2, none⟩ = some (.int .i64 0) := fun q => q.cell x0
                  have k1 : ∀ q : Later wr, q.to.cell? ⟨gx, p * 2 + 1, none⟩ = some (.int .i64 1) := fun q => q.cell x1
                  clear x0 x1 hra ek z0 z1
                  go_wp2_with fail
                  refine wp_region_later (by kernel_rfl) (by kernel_rfl) ?_
                  repeat
                    (with_reducible refine wpQuiet_step ?_
                     intro K hK
                     go_simp
                     first
                       | (refine hK _ ?_; clear hK K)
                       | (apply Exists.intro
                          refine ⟨fun _ => ?_, hK _ ?_⟩
                          (first | (go_at_call 24; exact Lr.later (wholeL_any _ _)))
                          clear hK K))
                  with_reducible refine wpQuiet_nil ?_
                  intro _ hw'
                  obtain ⟨p2, hw''⟩ := hw'
                  subst hw''
                  clear k0 k1 hcmp
                  have HBw := Lib.hid (HBv.out.trans (p2.below.mono HBv.out.size))
                  clear HNp HBv HFv HTl
                  generalize p2.to = V2 at *
                  go_wp2_with fail
                  go_loopw [121] (fun i wi => ∃ j : Nat, j ≤ p ∧ i = .int .i64 j ∧ Below Y.heap.size Y wi) (fun i _ => p - (intOf i).toNat)
                  case atStart => exact ⟨0, Nat.zero_le _, rfl, HBw.out⟩
                  case round =>
                    obtain ⟨j, hj, rfl, hbel⟩ := hrel
                    have HBj := Lib.hid hbel
                    clear hbel
                    by_cases hjl : j < p
                    · obtain ⟨V3, rfl⟩ : ∃ V3, V3 = wr := ⟨wr, rfl⟩
                      have hj3 : j < 4 := by omega
                      have hj64 : (j : Int) < 64 := by omega
                      have hjk : j < k := by omega
                      go_wp2_with fail
                      go_loopw [14, 126] (fun al i wi => ∃ s : Nat, s ≤ n ∧ i = .int .i64 s ∧ al = .bool (alG C p j s) ∧ Below Y.heap.size Y wi) (fun _ i _ => n - (intOf i).toNat)
                      case atStart => exact ⟨0, Nat.zero_le _, rfl, rfl, HBj.out⟩
                      case round =>
                        obtain ⟨s, hs, rfl, rfl, hE⟩ := hrel
                        have HE := Lib.hid hE
                        clear hE
                        by_cases hsl : s < n
                        · have hI := (H.out.below (HB.out.trans (HE.out.mono HB.out.size))).2.2.2
                          have c0 := hI.cell (HOr.out s hsl p hpl)
                          have c1 := hI.cell (HOr.out s hsl j hjk)
                          have hsp := HOr.out s hsl p hpl
                          have hsj := HOr.out s hsl j hjk
                          have e1 := or_eval2 s (by omega) p hp3
                          have e2 := or_eval3 s (by omega) p hp3
                          have e3 := or_eval2 s (by omega) j hj3
                          have e4 := or_eval3 s (by omega) j hj3
                          have hhp := and_bit s p
                          have hhj := and_bit s j
                          have HAs := Lib.hid (alG_succ C p j s)
                          have HUp : Hid (inS s p = decide (s / 2 ^ p % 2 = 1)) := Lib.hid rfl
                          have HUj : Hid (inS s j = decide (s / 2 ^ j % 2 = 1)) := Lib.hid rfl
                          have hmp : s / 2 ^ p % 2 = 0 ∨ s / 2 ^ p % 2 = 1 := by omega
                          have hmj : s / 2 ^ j % 2 = 0 ∨ s / 2 ^ j % 2 = 1 := by omega
                          clear hI
                          cases hal : alG C p j s with
                          | false =>
                            have HZ : Hid (alG C p j (s + 1) = false) := Lib.hid (by rw [HAs.out, hal]; rfl)
                            clear hal c0 c1 hmp hmj hhp hhj
                            go_wp2
                            go_region
                            go_wp2
                            go_roundw
                            case rel => exact ⟨s + 1, by omega, by go_num, by rw [HZ.out], HE.out.drew⟩
                            case measure => simp [intOf]; omega
                          | true =>
                            rcases hmp with hmp | hmp
                            · have hqp : (((s / 2 ^ p % 2 : Nat) : Int) == 1) = false := by rw [hmp]; rfl
                              rcases hmj with hmj | hmj
                              · have hqj : (((s / 2 ^ j % 2 : Nat) : Int) == 1) = false := by rw [hmj]; rfl
                                have HZ : Hid (alG C p j (s + 1) = decide (C (s ||| 2 ^ p) = C (s ||| 2 ^ j))) := Lib.hid (by rw [HAs.out, hal, HUp.out, HUj.out, hmp, hmj]; rfl)
                                clear hmp hmj hal HAs HUp HUj
                                generalize s / 2 ^ p % 2 = z1 at *
                                generalize s / 2 ^ j % 2 = z2 at *
                                generalize s ||| 2 ^ p = s2 at *
                                generalize s ||| 2 ^ j = s3 at *
                                generalize C s2 = x at *
                                generalize C s3 = y at *
                                by_cases exy : x = y
                                · have HZ2 : Hid (alG C p j (s + 1) = true) := Lib.hid (by rw [HZ.out, decide_eq_true exy])
                                  have hq := beq_t exy
                                  clear exy
                                  go_wp2
                                  go_region
                                  go_wp2
                                  go_roundw
                                  case rel => exact ⟨s + 1, by omega, by go_num, by rw [HZ2.out], HE.out.drew⟩
                                  case measure => simp [intOf]; omega
                                · have HZ2 : Hid (alG C p j (s + 1) = false) := Lib.hid (by rw [HZ.out, decide_eq_false exy])
                                  have hq := beq_f exy
                                  clear exy
                                  go_wp2
                                  go_region
                                  go_wp2
                                  go_roundw
                                  case rel => exact ⟨s + 1, by omega, by go_num, by rw [HZ2.out], HE.out.drew⟩
                                  case measure => simp [intOf]; omega
                              · have hqj : (((s / 2 ^ j % 2 : Nat) : Int) == 1) = true := by rw [hmj]; rfl
                                have HZ : Hid (alG C p j (s + 1) = true) := Lib.hid (by rw [HAs.out, hal, HUp.out, HUj.out, hmp, hmj]; rfl)
                                clear hmp hmj hal HAs HUp HUj c0 c1 e1 e2 e3 e4
                                generalize s / 2 ^ p % 2 = z1 at *
                                generalize s / 2 ^ j % 2 = z2 at *
                                go_wp2
                                go_region
                                go_wp2
                                go_roundw
                                case rel => exact ⟨s + 1, by omega, by go_num, by rw [HZ.out], HE.out.drew⟩
                                case measure => simp [intOf]; omega
                            · have hqp : (((s / 2 ^ p % 2 : Nat) : Int) == 1) = true := by rw [hmp]; rfl
                              have HZ : Hid (alG C p j (s + 1) = true) := Lib.hid (by rw [HAs.out, hal, HUp.out, hmp]; rfl)
                              clear hmp hmj hal HAs HUp HUj c0 c1 hhj e1 e2 e3 e4
                              generalize s / 2 ^ p % 2 = z1 at *
                              go_wp2
                              go_region
                              go_wp2
                              go_roundw
                              case rel => exact ⟨s + 1, by omega, by go_num, by rw [HZ.out], HE.out.drew⟩
                              case measure => simp [intOf]; omega
                        · obtain rfl : n = s := by omega
                          cases hal : alG C p j n with
                          | false =>
                            clear hal
                            go_wp2
                            go_region
                            go_wp2
                            go_roundw
                            case rel => exact ⟨j + 1, by omega, by go_num, HE.out.drew⟩
                            case measure => simp [intOf]; omega
                          | true =>
                            have hFe := HF.out.keep HE.out
                            have x0 := hFe.cell0 hpl
                            have x1 := hFe.cell1 hpl
                            have y0 := hFe.cell0 hjk
                            have y1 := hFe.cell1 hjk
                            have a0 := HAp.out j hjl hal
                            rw [← a0 0] at y0
                            rw [← a0 1] at y1
                            generalize shF k n C p 0 = f0 at *
                            generalize shF k n C p 1 = f1 at *
                            have hcmp := fun w => cmpF f0 f1 f0 f1 w
                            have ek : (!(decide (f0 = f0) && decide (f1 = f1))) = false := by simp
                            rw [ek] at hcmp
                            clear ek a0 hal hFe
                            go_wp2
                            go_region
                            go_wp2
                            go_roundw
                            case rel => exact ⟨j + 1, by omega, by go_num, HE.out.drew⟩
                            case measure => simp [intOf]; omega
                    · obtain rfl : p = j := by omega
                      go_wp2
                      go_roundw
                      case rel => exact ⟨p + 1, by omega, by go_num, HBj.out⟩
                      case measure => simp [intOf]; omega
          · obtain rfl : k = p := by omega
            have HBv := Lib.hid (HB.out.trans (HBl.out.mono HB.out.size))
            have HFv := Lib.hid (HF.out.keep HBl.out)
            have HTv := Lib.hid (HT.out.keep HBl.out)
            clear HBl hp hpl HF HB HT HAl HNo
            by_cases hmn : m = n
            · obtain rfl : n = m := hmn.symm
              have hq := bne_f (a := (n : Int)) rfl
              go_wp2_with fail
              refine (list_any B n cB D wr (HO.out.below HBv.out)).mono ?_
              rintro e w4 ⟨v, rfl, hv, hb⟩
              obtain ⟨A4, c4, rfl, hI⟩ := hv.ints
              rw [Hmn.out] at hI ⊢
              have HI4 := Lib.hid hI.2.2.2
              have HF4 := Lib.hid (HFv.out.keep hb)
              have HT4 := Lib.hid (HTv.out.keep hb)
              have HB4 := Lib.hid (HBv.out.trans (hb.mono HBv.out.size))
              clear hv hI hb HFv HTv HBv
              cases hod : okC n D with
              | false => as_aux_lemma =>
                have HOd := Lib.hid hod
                clear hod
                go_wp2_with fail
                refine (shapley_bad A4 n c4 D w4 HI4.out (by omega) HT4.out HOd.out).mono ?_
                rintro e w' ⟨rfl, rfl⟩
                obtain ⟨X, rfl⟩ : ∃ X, X = w4 := ⟨w4, rfl⟩
                have HBX := HB4
                have HTX := HT4
                clear HB4 HT4 HF4 HI4
                have HsE : Hid (∀ s, lst (s + 1) (fun s => wrap64 (C s + D s)) = lst s (fun s => wrap64 (C s + D s)) ++ lst 1 (fun _ => wrap64 (C s + D s))) := Lib.hid (fun s => by rw [lst_succ]; simp [lst])
                go_wp2_with fail
                go_loopw [17, 190] (fun v i wi => ∃ s : Nat, s ≤ n ∧ i = .int .i64 s ∧ OwnL wi X.heap.size v (lst s (fun s => wrap64 (C s + D s))) ∧ Below X.heap.size X wi) (fun _ i _ => n - (intOf i).toNat)
                case atStart => exact ⟨0, Nat.zero_le _, rfl, OwnL.nil_ _ _, Below.refl _ _⟩
                case round =>
                  obtain ⟨s, hs, rfl, hO, hE⟩ := hrel
                  have HO1 := Lib.hid hO
                  have HE := Lib.hid hE
                  have hsb := hE.size
                  clear hO hE
                  by_cases hsl : s < n
                  · have HBe := Lib.hid (HBX.out.trans (HE.out.mono HBX.out.size))
                    have c0 := (H.out.below HBe.out).2.2.2.cell hsl
                    obtain ⟨g2, o2, rfl, c1⟩ := (HO.out.below HBe.out).2.2.2.at hsl
                    have d0 := (H.out.below HBX.out).2.2.2.cell hsl
                    have d1 := (HO.out.below HBX.out).2.2.2.cell hsl
                    have HSs := Lib.hid (HsE.out s)
                    generalize C s = x at *
                    generalize D s = y at *
                    obtain ⟨z, hz⟩ : ∃ z, wrap64 (x + y) = z := ⟨_, rfl⟩
                    have hz2 : IntKind.i64.wrap (x + y) = z := (IntWalk.i64_left _).trans hz
                    rw [hz] at HSs
                    obtain ⟨S0, hS0⟩ : ∃ S0, S0 = lst s (fun s => wrap64 (C s + D s)) := ⟨_, rfl⟩
                    have hS0l : S0.length = s := by rw [hS0, lst_len]
                    rw [← hS0] at HO1 HSs
                    have HKp : Hid (∀ w', Below X.heap.size X w' → w'.cell? ⟨g, o + s, none⟩ = some (.int .i64 x) ∧ w'.cell? ⟨g2, o2 + s, none⟩ = some (.int .i64 y)) := Lib.hid (fun w' hb => ⟨(hb.cell (World.block_lt_of_cell? _ _ d0)).trans d0, (hb.cell (World.block_lt_of_cell? _ _ d1)).trans d1⟩)
                    clear d0 d1
                    have HA1 := Lib.hid ((Below.refl wr.heap.size wr).alloc (Nat.le_refl _) (.cells #[.int .i64 z] 3))
                    have HR1 : Hid (RowI (wr.alloc (.cells #[.int .i64 z] 3)) wr.heap.size 1 (fun _ => z)) := Lib.hid (row1 rfl z)
                    have HEA := Lib.hid (HE.out.trans (HA1.out.mono hsb))
                    have HOa := Lib.hid (fun w' hb => OwnL.below (w' := w') HO1.out hb)
                    clear hS0
                    go_wp2_with fail
                    go_region_held3 (fun w' => w'.cell? ⟨g, o + s, none⟩ = some (.int .i64 x) ∧ w'.cell? ⟨g2, o2 + s, none⟩ = some (.int .i64 y)) (first | exact HKp.out _ HE.out | exact HKp.out _ HE.out.drew | exact HKp.out _ HEA.out | exact HKp.out _ HEA.out.drew | exact HKp.out _ hB2)
                      (first
                        | ((refine step_append_ints (by rfl) (.tmp 193) (.tmp 203) (by rfl) X.heap.size u17 S0 (by rfl) (by first | exact HOa.out _ HA1.out | exact HOa.out _ HA1.out.drew) (some ⟨wr.heap.size, 0, none⟩) 1 1 (fun _ => z) (by rfl) (by first | exact HR1.out.ints | exact (HR1.out.dn (Dn.refl _).drew).ints) (by omega) (by first | exact HEA.out.size | exact HEA.out.drew.size) ?_; intro v2 w2 hv2 hb2 hr2; have hB2 : Below X.heap.size X w2 := (by first | exact HEA.out.trans hb2 | exact HEA.out.drew.trans hb2)))
                        | fail)
                    have HV2 := Lib.hid hv2
                    have HB2 := Lib.hid hB2
                    clear hv2 hb2 hr2 hB2 c0 c1
                    go_wp2
                    go_roundw
                    case rel => exact ⟨s + 1, by omega, by go_num, by rw [HSs.out]; exact HV2.out, HB2.out⟩
                    case measure => simp [intOf]; omega
                  · obtain rfl : n = s := by omega
                    obtain ⟨A6, c6, e6, hI6⟩ := HO1.out.ints
                    subst e6
                    have HI6 := Lib.hid hI6.2.2.2
                    have HBs := Lib.hid (HBX.out.trans (HE.out.mono HBX.out.size))
                    have HTs := Lib.hid (HTX.out.keep HE.out)
                    clear hI6
                    cases hos : okC n (fun s => wrap64 (C s + D s)) with
                    | false =>
                      have HOs := Lib.hid hos
                      clear hos
                      go_wp2_with fail
                      refine (shapley_bad A6 n c6 (fun s => wrap64 (C s + D s)) _ HI6.out (by omega) HTs.out HOs.out).mono ?_
                      rintro e w' ⟨rfl, rfl⟩
                      have HTz := HTs
                      have HBz := HBs
                      go_wp2_with fail
                      refine (awake_any _ HTz.out).use fun w9 hb9 => ?_
                      have HB9 := Lib.hid (HBz.out.trans (hb9.mono HBz.out.size))
                      clear hb9
                      go_wp2
                      go_ret
                      exact ⟨rfl, HB9.out⟩
                    | true => as_aux_lemma =>
                      have HOs := Lib.hid hos
                      clear hos
                      go_wp2_with fail
                      refine (shapley_ok A6 n c6 k (fun s => wrap64 (C s + D s)) _ HI6.out HTs.out HOs.out Hk.out).mono ?_
                      rintro e wz ⟨rfl, hZ, hb⟩
                      obtain ⟨gz, hgz⟩ : ∃ gz, gz = wr.heap.size := ⟨_, rfl⟩
                      rw [← hgz] at hZ ⊢
                      have HZ := Lib.hid hZ
                      have HTz := Lib.hid (HTs.out.keep hb)
                      have HBz := Lib.hid (HBs.out.trans (hb.mono HBs.out.size))
                      have HEz := Lib.hid (HE.out.trans (hb.mono hsb))
                      clear hZ hb hgz
                      go_wp2_with fail
                      refine (awake_any _ HTz.out).use fun w9 hb9 => ?_
                      have HB9 := Lib.hid (HBz.out.trans (hb9.mono HBz.out.size))
                      clear hb9
                      go_wp2
                      go_ret
                      exact ⟨rfl, HB9.out⟩
              | true => as_aux_lemma =>
                have HOd := Lib.hid hod
                have HDv := Lib.hid (okC_iff.1 hod).2.2
                have HGy := Lib.hid (HHd.out D (okC_iff.1 hod).2.2)
                clear hod
                go_wp2_with fail
                refine (shapley_ok A4 n c4 k D w4 HI4.out HT4.out HOd.out Hk.out).mono ?_
                rintro e X ⟨rfl, hG, hb⟩
                obtain ⟨gy, hgy⟩ : ∃ gy, gy = w4.heap.size := ⟨_, rfl⟩
                rw [← hgy] at hG ⊢
                have HG := Lib.hid hG
                have HFX := Lib.hid (HF4.out.keep hb)
                have HTX := Lib.hid (HT4.out.keep hb)
                have HBX := Lib.hid (HB4.out.trans (hb.mono HB4.out.size))
                clear hG hb hgy HB4 HT4 HF4 HI4
                have HsE : Hid (∀ s, lst (s + 1) (fun s => wrap64 (C s + D s)) = lst s (fun s => wrap64 (C s + D s)) ++ lst 1 (fun _ => wrap64 (C s + D s))) := Lib.hid (fun s => by rw [lst_succ]; simp [lst])
                go_wp2_with fail
                go_loopw [17, 190] (fun v i wi => ∃ s : Nat, s ≤ n ∧ i = .int .i64 s ∧ OwnL wi X.heap.size v (lst s (fun s => wrap64 (C s + D s))) ∧ Below X.heap.size X wi) (fun _ i _ => n - (intOf i).toNat)
                case atStart => exact ⟨0, Nat.zero_le _, rfl, OwnL.nil_ _ _, Below.refl _ _⟩
                case round =>
                  obtain ⟨s, hs, rfl, hO, hE⟩ := hrel
                  have HO1 := Lib.hid hO
                  have HE := Lib.hid hE
                  have hsb := hE.size
                  clear hO hE
                  by_cases hsl : s < n
                  · have HBe := Lib.hid (HBX.out.trans (HE.out.mono HBX.out.size))
                    have c0 := (H.out.below HBe.out).2.2.2.cell hsl
                    obtain ⟨g2, o2, rfl, c1⟩ := (HO.out.below HBe.out).2.2.2.at hsl
                    have d0 := (H.out.below HBX.out).2.2.2.cell hsl
                    have d1 := (HO.out.below HBX.out).2.2.2.cell hsl
                    have HSs := Lib.hid (HsE.out s)
                    generalize C s = x at *
                    generalize D s = y at *
                    obtain ⟨z, hz⟩ : ∃ z, wrap64 (x + y) = z := ⟨_, rfl⟩
                    have hz2 : IntKind.i64.wrap (x + y) = z := (IntWalk.i64_left _).trans hz
                    rw [hz] at HSs
                    obtain ⟨S0, hS0⟩ : ∃ S0, S0 = lst s (fun s => wrap64 (C s + D s)) := ⟨_, rfl⟩
                    have hS0l : S0.length = s := by rw [hS0, lst_len]
                    rw [← hS0] at HO1 HSs
                    have HKp : Hid (∀ w', Below X.heap.size X w' → w'.cell? ⟨g, o + s, none⟩ = some (.int .i64 x) ∧ w'.cell? ⟨g2, o2 + s, none⟩ = some (.int .i64 y)) := Lib.hid (fun w' hb => ⟨(hb.cell (World.block_lt_of_cell? _ _ d0)).trans d0, (hb.cell (World.block_lt_of_cell? _ _ d1)).trans d1⟩)
                    clear d0 d1
                    have HA1 := Lib.hid ((Below.refl wr.heap.size wr).alloc (Nat.le_refl _) (.cells #[.int .i64 z] 3))
                    have HR1 : Hid (RowI (wr.alloc (.cells #[.int .i64 z] 3)) wr.heap.size 1 (fun _ => z)) := Lib.hid (row1 rfl z)
                    have HEA := Lib.hid (HE.out.trans (HA1.out.mono hsb))
                    have HOa := Lib.hid (fun w' hb => OwnL.below (w' := w') HO1.out hb)
                    clear hS0
                    go_wp2_with fail
                    go_region_held3 (fun w' => w'.cell? ⟨g, o + s, none⟩ = some (.int .i64 x) ∧ w'.cell? ⟨g2, o2 + s, none⟩ = some (.int .i64 y)) (first | exact HKp.out _ HE.out | exact HKp.out _ HE.out.drew | exact HKp.out _ HEA.out | exact HKp.out _ HEA.out.drew | exact HKp.out _ hB2)
                      (first
                        | ((refine step_append_ints (by rfl) (.tmp 193) (.tmp 203) (by rfl) X.heap.size u17 S0 (by rfl) (by first | exact HOa.out _ HA1.out | exact HOa.out _ HA1.out.drew) (some ⟨wr.heap.size, 0, none⟩) 1 1 (fun _ => z) (by rfl) (by first | exact HR1.out.ints | exact (HR1.out.dn (Dn.refl _).drew).ints) (by omega) (by first | exact HEA.out.size | exact HEA.out.drew.size) ?_; intro v2 w2 hv2 hb2 hr2; have hB2 : Below X.heap.size X w2 := (by first | exact HEA.out.trans hb2 | exact HEA.out.drew.trans hb2)))
                        | fail)
                    have HV2 := Lib.hid hv2
                    have HB2 := Lib.hid hB2
                    clear hv2 hb2 hr2 hB2 c0 c1
                    go_wp2
                    go_roundw
                    case rel => exact ⟨s + 1, by omega, by go_num, by rw [HSs.out]; exact HV2.out, HB2.out⟩
                    case measure => simp [intOf]; omega
                  · obtain rfl : n = s := by omega
                    obtain ⟨A6, c6, e6, hI6⟩ := HO1.out.ints
                    subst e6
                    have HI6 := Lib.hid hI6.2.2.2
                    have HBs := Lib.hid (HBX.out.trans (HE.out.mono HBX.out.size))
                    have HTs := Lib.hid (HTX.out.keep HE.out)
                    clear hI6
                    cases hos : okC n (fun s => wrap64 (C s + D s)) with
                    | false =>
                      have HOs := Lib.hid hos
                      clear hos
                      go_wp2_with fail
                      refine (shapley_bad A6 n c6 (fun s => wrap64 (C s + D s)) _ HI6.out (by omega) HTs.out HOs.out).mono ?_
                      rintro e w' ⟨rfl, rfl⟩
                      have HTz := HTs
                      have HBz := HBs
                      go_wp2_with fail
                      refine (awake_any _ HTz.out).use fun w9 hb9 => ?_
                      have HB9 := Lib.hid (HBz.out.trans (hb9.mono HBz.out.size))
                      clear hb9
                      go_wp2
                      go_ret
                      exact ⟨rfl, HB9.out⟩
                    | true => as_aux_lemma =>
                      have HOs := Lib.hid hos
                      clear hos
                      go_wp2_with fail
                      refine (shapley_ok A6 n c6 k (fun s => wrap64 (C s + D s)) _ HI6.out HTs.out HOs.out Hk.out).mono ?_
                      rintro e wz ⟨rfl, hZ, hb⟩
                      obtain ⟨gz, hgz⟩ : ∃ gz, gz = wr.heap.size := ⟨_, rfl⟩
                      rw [← hgz] at hZ ⊢
                      have HZ := Lib.hid hZ
                      have HTz := Lib.hid (HTs.out.keep hb)
                      have HBz := Lib.hid (HBs.out.trans (hb.mono HBs.out.size))
                      have HEz := Lib.hid (HE.out.trans (hb.mono hsb))
                      clear hZ hb hgz
                      have HF := Lib.hid (HFX.out.keep HEz.out)
                      have HGz := Lib.hid (HG.out.keep HEz.out)
                      have HSum : Hid (∀ p, p < k → shP k (fun s => wrap64 (C s + D s)) p n = shP k C p n + shP k D p n) := Lib.hid (fun p hp => by
                        have hw : ∀ s, s < n → wrap64 (C s + D s) = C s + D s := fun s hs => IntWalk.wrap64_in _ (by have := HC.out s hs; have := HDv.out s hs; omega)
                        exact shP_add n hw (fun s hs => hw _ (HOr.out s hs p hp)))
                      have HAd := Lib.hid (fun (p : Nat) (hp : p < k) => shF_add (L := n) (C := C) (D := D) (S := fun s => wrap64 (C s + D s)) (p := p) hk4 (HSum.out p hp))
                      clear HSum HOs HOd HsE HDv HTs HBs
                      go_wp2_with fail
                      go_loopw [227] (fun i wi => ∃ p : Nat, p ≤ k ∧ i = .int .i64 p ∧ Below wz.heap.size wz wi) (fun i _ => k - (intOf i).toNat)
                      case atStart => exact ⟨0, Nat.zero_le _, rfl, Below.refl _ _⟩
                      case round =>
                        obtain ⟨p, hp, rfl, hbel⟩ := hrel
                        have HBl := Lib.hid hbel
                        clear hbel
                        by_cases hpl : p < k
                        · have x0 := (HF.out.keep HBl.out).cell0 hpl
                          have x1 := (HF.out.keep HBl.out).cell1 hpl
                          have y0 := (HGz.out.keep HBl.out).cell0 hpl
                          have y1 := (HGz.out.keep HBl.out).cell1 hpl
                          have z0 := (HZ.out.keep HBl.out).cell0 hpl
                          have z1 := (HZ.out.keep HBl.out).cell1 hpl
                          obtain ⟨hlw, h24, hm1, hm2⟩ := lw_py (allB_iff.1 HGy.out p hpl)
                          obtain ⟨-, g24, gm1, gm2⟩ := lw_py (allB_iff.1 HPy.out p hpl)
                          have py := (pyOne_iff.1 (allB_iff.1 HGy.out p hpl)).1.1
                          have px := (pyOne_iff.1 (allB_iff.1 HPy.out p hpl)).1.1
                          obtain ⟨a0, a1⟩ := HAd.out p hpl
                          rw [a0] at z0
                          rw [a1] at z1
                          have HL := Lib.hid (fun w => lowest_any (shF k n D p 0) (shF k n D p 1) w)
                          rw [hlw] at HL
                          clear hlw a0 a1
                          generalize shF k n C p 0 = xa at *
                          generalize shF k n C p 1 = xb at *
                          generalize shF k n D p 0 = ya at *
                          generalize shF k n D p 1 = yb at *
                          have HA := Lib.hid (fun w => addF_any xa xb ya yb px py (mul_2400 gm1 gm2 py h24) (mul_2400 hm1 hm2 px g24) (Nat.le_trans (mul_2400 (by omega) (by omega) py h24) (by omega)) w)
                          generalize rN (xa * yb + ya * xb) (xb * yb) = N at *
                          generalize rD (xa * yb + ya * xb) (xb * yb) = M at *
                          have d1 : decide (24 < yb) = false := decide_eq_false (by omega)
                          have hcmp := fun w => cmpF N M N M w
                          have ek : (!(decide (N = N) && decide (M = M))) = false := by simp
                          rw [ek] at hcmp
                          have k0 : ∀ q : Later wr, q.to.cell? ⟨gx, p * 2, none⟩ = some (.int .i64 xa) := fun q => q.cell x0
                          have k1 : ∀ q : Later wr, q.to.cell? ⟨gx, p * 2 + 1, none⟩ = some (.int .i64 xb) := fun q => q.cell x1
                          have k2 : ∀ q : Later wr, q.to.cell? ⟨gy, p * 2, none⟩ = some (.int .i64 ya) := fun q => q.cell y0
                          have k3 : ∀ q : Later wr, q.to.cell? ⟨gy, p * 2 + 1, none⟩ = some (.int .i64 yb) := fun q => q.cell y1
                          have k4 : ∀ q : Later wr, q.to.cell? ⟨gz, p * 2, none⟩ = some (.int .i64 N) := fun q => q.cell z0
                          have k5 : ∀ q : Later wr, q.to.cell? ⟨gz, p * 2 + 1, none⟩ = some (.int .i64 M) := fun q => q.cell z1
                          clear ek x0 x1 y0 y1 z0 z1
                          go_wp2_with fail
                          refine wp_region_later (by kernel_rfl) (by kernel_rfl) ?_
                          repeat
                            (with_reducible refine wpQuiet_step ?_
                             intro K hK
                             go_simp
                             first
                               | (refine hK _ ?_; clear hK K)
                               | (apply Exists.intro
                                  refine ⟨fun _ => ?_, hK _ ?_⟩
                                  (first | (go_at_call 22; exact Lr.later (HL.out _)) | (go_at_call 23; exact Lr.later (HA.out _)))
                                  clear hK K))
                          with_reducible refine wpQuiet_nil ?_
                          intro _ hw'
                          obtain ⟨p2, hw''⟩ := hw'
                          subst hw''
                          have HB3 := Lib.hid (HBl.out.trans (p2.below.mono HBl.out.size))
                          clear k0 k1 k2 k3 k4 k5
                          go_wp2
                          go_roundw
                          case rel => exact ⟨p + 1, by omega, by go_num, HB3.out⟩
                          case measure => simp [intOf]; omega
                        · have HDe := Lib.hid (HBz.out.trans (HBl.out.mono HBz.out.size))
                          have HTe := Lib.hid (HTz.out.keep HBl.out)
                          go_wp2_with fail
                          refine (awake_any _ HTe.out).use fun w9 hb9 => ?_
                          have HB9 := Lib.hid (HDe.out.trans (hb9.mono HDe.out.size))
                          clear hb9
                          go_wp2
                          go_ret
                          exact ⟨rfl, HB9.out⟩
            · have hq := bne_t (a := (m : Int)) (b := (n : Int)) (by omega)
              go_wp2_with fail
              refine (awake_any _ HTv.out).use fun w9 hb9 => ?_
              have HB9 := Lib.hid (HBv.out.trans (hb9.mono HBv.out.size))
              clear hb9
              go_wp2
              go_ret
              exact ⟨rfl, HB9.out⟩
end Go.Proofs.YtgdlkmgdljcgnaaDoor
