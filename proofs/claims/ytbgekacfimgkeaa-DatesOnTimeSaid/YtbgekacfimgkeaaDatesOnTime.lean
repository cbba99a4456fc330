import Derived.Test.YtbgekacfimgkeaaJk
import Derived.Test.YtbgekacfimgkeaaJm
import Derived.Test.YtbgekacfimgkeaaQi
import Derived.Test.YtbgekacfimgkeaaQo
namespace Go.Proofs.Ytbgekacfimgkeaa
open Go.RowKit

theorem ordB_minT (m : Nat) (f : Nat → Int) (n : Nat) (hn : n ≤ 8) : ordB (min m 10) f n = ordB m f n := by
  by_cases h : m ≤ 10
  · rw [Nat.min_eq_left h]
  · unfold ordB
    rw [decide_eq_false (show ¬ min m 10 = n by omega), decide_eq_false (show ¬ m = n by omega), Bool.false_and, Bool.false_and]
/-- Two slices share no block. -/
def Sep (v1 v2 : Value) : Prop := ∀ g, v1.ownBlock = some g → v2.ownBlock = some g → False
theorem Sep.ne {v1 v2 : Value} (h : Sep v1 v2) : v2.ownBlock = none ∨ v2.ownBlock ≠ v1.ownBlock := by
  cases e : v2.ownBlock with
  | none => exact .inl rfl
  | some g => exact .inr (fun h2 => h g h2.symm e)
theorem Sep.ne2 {v1 v2 : Value} (h : Sep v1 v2) : v1.ownBlock = none ∨ v1.ownBlock ≠ v2.ownBlock := by
  cases e : v1.ownBlock with
  | none => exact .inl rfl
  | some g => exact .inr (fun h2 => h g e h2.symm)
theorem fit_zero (n : Nat) (J : Nat → Nat → Int) : fitB n J 0 = true := fitG_none (fun k _ => by simp [btN])
/-- What Most and Weigh choose. -/
theorem most_facts {n : Nat} {J : Nat → Nat → Int} (hn : n ≤ 8) (wt : Nat → Int) : (hvF (wtS n wt) (fitB n J) (2 ^ n)).1 < 256 ∧ fitB n J (hvF (wtS n wt) (fitB n J) (2 ^ n)).1 = true ∧ (hvF (wtS n wt) (fitB n J) (2 ^ n)).2 = wtS n wt (hvF (wtS n wt) (fitB n J) (2 ^ n)).1 ∧ ∀ t, t < 2 ^ n → fitB n J t = true → wtS n wt t ≤ (hvF (wtS n wt) (fitB n J) (2 ^ n)).2 := by
  have h1 := hvF_lt (wtS n wt) (fitB n J) (2 ^ n) (Nat.pow_pos (by omega))
  have h2 := Nat.pow_le_pow_right (n := 2) (by omega) hn
  exact ⟨by omega, hvF_ok (fit_zero n J) _, hvF_val (wtS_none n wt) _, fun t ht hf => hvF_max _ t ht hf⟩

set_option maxHeartbeats 8000000 in
set_option maxRecDepth 1000000 in
theorem datesOnTime_walk (A : Option Addr) (n c : Nat) (J : Nat → Nat → Int) (B : Option Addr) (m c2 : Nat) (f : Nat → Int) (W : World) (h : ArgK 4 W A n c J) (hf : ArgI W B m c2 f) : TrueBelow 9 #[.slice A n c, .slice B m c2] W := by
  have hnm : n ≤ maxLen := Nat.le_trans h.1 h.2.1
  have hmm : m ≤ maxLen := Nat.le_trans hf.1 hf.2.1
  have hb0 := (Below.refl W.heap.size W).alloc (Nat.le_refl _) (.cells #[.slice A n c] 22)
  have hbox : (W.alloc (.cells #[.slice A n c] 22)).cell? ⟨W.heap.size, 0, none⟩ = some (.slice A n c) := by simp [World.cell?_alloc_at]
  obtain ⟨W1, hW1⟩ : ∃ W1, W1 = W.alloc (.cells #[.slice A n c] 22) := ⟨_, rfl⟩
  have hs1 : W1.heap.size = W.heap.size + 1 := by rw [hW1]; simp
  have HW1 := Lib.hid hW1
  rw [← hW1] at hb0 hbox
  have HBW : Hid (∀ w', Below W1.heap.size W1 w' → Below W.heap.size W w') := Lib.hid (fun w' hb => hb0.trans (hb.mono (by omega)))
  have HX : Hid (∀ w', Below W1.heap.size W1 w' → w'.cell? ⟨W.heap.size, 0, none⟩ = some (.slice A n c)) := Lib.hid (fun w' hb => (hb.cell (by show W.heap.size < _; omega)).trans hbox)
  have HRW : Hid (∀ w', Below W1.heap.size W1 w' → Recs 4 w' A n J) := Lib.hid (fun w' hb => h.2.2.2.keep (HBW.out w' hb))
  have HAl : Hid (0 < n → ∀ b o, A = some ⟨b, o, none⟩ → b < W.heap.size) := Lib.hid (fun hn b o e => by
    obtain ⟨b', o', e', hc⟩ := h.2.2.2 hn
    rw [e] at e'
    injection e' with e'
    injection e' with e1
    have := World.block_lt_of_cell? _ _ (hc 0 hn 0 (by omega))
    simp only at this
    omega)
  have HF := Lib.hid hf
  have Hn := Lib.hid hnm
  have Hm := Lib.hid hmm
  have HS1 := Lib.hid hs1
  clear h hf hnm hmm hb0 hbox hs1 hW1
  show Calls _ _ _ _ _
  go_enter Try.func9, Try.ntmps9
  have hbx1 := HX.out W1 (Below.refl _ _)
  rw [HW1.out] at hbx1
  go_wp2_with fail
  rw [← HW1.out] at hbx1 ⊢
  clear hbx1
  refine (of_any A n c J W1 (HRW.out W1 (Below.refl _ _)) Hn.out).mono ?_
  rintro e w2 ⟨x, rfl, hx, hb2⟩
  obtain ⟨Ax, cx, rfl, -, hRx, -, hcx, hcm⟩ := hx.form
  have HXx := Lib.hid hRx
  have HB2 := Lib.hid hb2
  have Hm10 := Lib.hid (show min n 10 ≤ maxLen by have := Hn.out; omega)
  have HMin := Lib.hid (okJ_min n J)
  clear hx hRx hb2 hcx hcm
  cases hok : okJ n J with
  | false =>
    have HOk := Lib.hid hok
    have HBad := Lib.hid (show okJ (min n 10) J = false by rw [HMin.out, HOk.out])
    clear hok
    go_wp2_with fail
    refine (most_bad Ax (min n 10) cx J w2 HXx.out Hm10.out HBad.out).use fun w3 hb3 => ?_
    have HB3 := Lib.hid (HB2.out.trans (hb3.mono HB2.out.size))
    have hbx := HX.out w3 HB3.out
    clear hb3
    go_wp2_with fail
    refine (of_any A n c J w3 (HRW.out w3 HB3.out) Hn.out).mono ?_
    rintro e w4 ⟨x, rfl, hx, hb4⟩
    obtain ⟨Ay, cy, rfl, -, hRx, -, hcx, hcm⟩ := hx.form
    have HY := Lib.hid hRx
    have HB4 := Lib.hid (HB3.out.trans (hb4.mono HB3.out.size))
    clear hx hRx hb4 hcx hcm hbx
    go_wp2_with fail
    refine (weigh_bad Ay (min n 10) cy J w4 HY.out Hm10.out HBad.out).use fun w5 hb5 => ?_
    have HB5 := Lib.hid (HB4.out.trans (hb5.mono HB4.out.size))
    clear hb5
    go_wp2_with fail
    refine (awake_any w5).use fun w8 hb8 => ?_
    have HB8 := Lib.hid (HB5.out.trans (hb8.mono HB5.out.size))
    clear hb8
    go_wp2
    go_ret
    exact ⟨rfl, HBW.out _ HB8.out⟩
  | true =>
    have HOk := Lib.hid hok
    have hn8 := (okJ_iff.1 hok).1
    have hmn : min n 10 = n := by omega
    rw [hmn] at HXx ⊢
    have HMn := Lib.hid hmn
    have HJ := Lib.hid (okJ_iff.1 hok).2
    have HMF := Lib.hid (most_facts (J := J) hn8.2 (wtM J))
    have HWF := Lib.hid (most_facts (J := J) hn8.2 (wtW J))
    have hn80 := hn8.1
    have hn81 := hn8.2
    clear hok hmn Hm10 hn8
    go_wp2_with fail
    refine (most_ok Ax n cx J w2 HXx.out HOk.out).use fun w3 hb3 => ?_
    have HB3 := Lib.hid (HB2.out.trans (hb3.mono HB2.out.size))
    have hbx := HX.out w3 HB3.out
    generalize (hvF (wtS n (wtM J)) (fitB n J) (2 ^ n)).1 = sa at *
    generalize (hvF (wtS n (wtM J)) (fitB n J) (2 ^ n)).2 = na at *
    clear hb3
    go_wp2_with fail
    refine (of_any A n c J w3 (HRW.out w3 HB3.out) Hn.out).mono ?_
    rintro e w4 ⟨x, rfl, hx, hb4⟩
    rw [HMn.out] at hx
    obtain ⟨Ay, cy, rfl, -, hRx, -, hcx, hcm⟩ := hx.form
    have HY := Lib.hid hRx
    have HB4 := Lib.hid (HB3.out.trans (hb4.mono HB3.out.size))
    clear hx hRx hb4 hcx hcm hbx
    go_wp2_with fail
    refine (weigh_ok Ay n cy J w4 HY.out HOk.out).use fun w5 hb5 => ?_
    have HB5 := Lib.hid (HB4.out.trans (hb5.mono HB4.out.size))
    have hbx := HX.out w5 HB5.out
    generalize (hvF (wtS n (wtW J)) (fitB n J) (2 ^ n)).1 = sb at *
    generalize (hvF (wtS n (wtW J)) (fitB n J) (2 ^ n)).2 = nb at *
    clear hb5
    go_wp2_with fail
    refine (refValid_any A n c J w5 (HRW.out w5 HB5.out) Hn.out).use fun w6 hb6 => ?_
    have HB6 := Lib.hid (HB5.out.trans (hb6.mono HB5.out.size))
    clear hb6 hbx
    rw [HOk.out]
    go_wp2_with fail
    have hV0 := (Below.refl w6.heap.size w6).alloc (Nat.le_refl _) (.cells #[.int .i64 sa, .int .i64 sb] 3)
    have hc0 : (w6.alloc (.cells #[.int .i64 sa, .int .i64 sb] 3)).cell? ⟨w6.heap.size, 0, none⟩ = some (.int .i64 sa) := by simp [World.cell?_alloc_at]
    have hc1 : (w6.alloc (.cells #[.int .i64 sa, .int .i64 sb] 3)).cell? ⟨w6.heap.size, 1, none⟩ = some (.int .i64 sb) := by simp [World.cell?_alloc_at]
    have hszV : w6.heap.size < (w6.alloc (.cells #[.int .i64 sa, .int .i64 sb] 3)).heap.size := by simp
    have HBV := Lib.hid (HB6.out.trans (hV0.mono HB6.out.size))
    generalize w6.alloc (.cells #[.int .i64 sa, .int .i64 sb] 3) = V0 at *
    obtain ⟨vb, hvb⟩ : ∃ vb, vb = w6.heap.size := ⟨_, rfl⟩
    rw [← hvb] at hc0 hc1 hszV ⊢
    have HC : Hid (∀ w' k, Below V0.heap.size V0 w' → k < 2 → ∃ s : Nat, w'.cell? ⟨vb, k, none⟩ = some (.int .i64 s) ∧ s < 256 ∧ fitB n J s = true ∧ (k = 0 → s = sa)) := Lib.hid (fun w' k hb hk => by
      have hk2 : k = 0 ∨ k = 1 := by omega
      rcases hk2 with rfl | rfl
      · exact ⟨sa, (hb.cell (by show vb < _; omega)).trans hc0, HMF.out.1, HMF.out.2.1, fun _ => rfl⟩
      · exact ⟨sb, (hb.cell (by show vb < _; omega)).trans hc1, HWF.out.1, HWF.out.2.1, fun h => absurd h (by omega)⟩)
    have HVS : Hid (W.heap.size < V0.heap.size) := Lib.hid (by have := HBV.out.size; have := HS1.out; omega)
    have HCT : Hid (na = ctS sa n) := Lib.hid HMF.out.2.2.1
    clear hc0 hc1 hV0 hvb
    obtain ⟨i1, hi1, hz01, hz11, hz21⟩ := info_parts infoInt
    go_loopw [10, 63] (fun mo i wr => ∃ (k : Nat) (z : Int), k ≤ 2 ∧ i = .int .i64 k ∧ mo = .int .i64 z ∧ (0 < k → z = na) ∧ Below V0.heap.size V0 wr) (fun _ i _ => 2 - (intOf i).toNat)
    case atStart => exact ⟨0, 0, Nat.zero_le _, rfl, rfl, fun h => absurd h (by omega), Below.refl _ _⟩
    case round =>
      obtain ⟨k, z, hk, rfl, rfl, hz, hD⟩ := hrel
      have HZ := Lib.hid hz
      clear hz
      have HD := Lib.hid hD
      have HBk := Lib.hid (HBV.out.trans (hD.mono HBV.out.size))
      clear hD
      by_cases hlt : k < 2
      · obtain ⟨s, hcs, hs256, hfit, hk0⟩ := HC.out wr k HD.out hlt
        have HFit := Lib.hid hfit
        have Hk0 := Lib.hid hk0
        have hbx := HX.out wr HBk.out
        have hk2 : (k : Int) < 2 := by omega
        clear hfit hk0
        obtain ⟨WA, rfl⟩ : ∃ WA, WA = wr := ⟨wr, rfl⟩
        go_wp2_with fail
        go_loopw [14, 15, 69] (fun v1 v2 i wx => ∃ j : Nat, j ≤ n ∧ i = .int .i64 j ∧ OwnL wx WA.heap.size v1 (inL s j) ∧ OwnL wx WA.heap.size v2 (outL s j) ∧ Sep v1 v2 ∧ (inL s j = [] → v1 = .slice none 0 0) ∧ (outL s j = [] → v2 = .slice none 0 0) ∧ Below WA.heap.size WA wx) (fun _ _ i _ => n - (intOf i).toNat)
        case atStart => exact ⟨0, Nat.zero_le _, rfl, OwnL.nil_ _ _, OwnL.nil_ _ _, fun g h => by simp [Value.ownBlock] at h, fun _ => rfl, fun _ => rfl, Below.refl _ _⟩
        case round =>
          obtain ⟨j, hj, rfl, hO1, hO2, hsep, hn1, hn2, hE⟩ := hrel
          have HO1 := Lib.hid hO1
          have HO2 := Lib.hid hO2
          have HSep := Lib.hid hsep
          have HN1 := Lib.hid hn1
          have HN2 := Lib.hid hn2
          have HE := Lib.hid hE
          have hl1 : (inL s j).length ≤ j := by have := inL_len s j; have := ctS_le s j; omega
          have hl2 : (outL s j).length ≤ j := by have := (in_out s j).length_eq; rw [List.length_append, lst_len] at this; omega
          clear hO1 hO2 hsep hn1 hn2 hE
          by_cases hjn : j < n
          · have hbit := bit_and s j
            have hj64 : j < 64 := by omega
            have hs0 : WA.heap.size ≤ wr.heap.size := HE.out.size
            have hI := Lib.hid (inL_succ s j)
            have hU := Lib.hid (outL_succ s j)
            cases hb : btN s j with
            | true =>
              have HI2 := Lib.hid (show inL s (j + 1) = inL s j ++ [(j : Int)] by rw [hI.out, hb]; rfl)
              have HU2 := Lib.hid (show outL s (j + 1) = outL s j by rw [hU.out, hb]; rfl)
              rw [hb] at hbit
              simp only [if_true] at hbit
              clear hb
              have hwl : wr.ownsRow WA.heap.size 3 1 u14 (inL s j).length ((inL s j).map (Value.int .i64)) := HO1.out
              have HWL := Lib.hid hwl
              clear hwl
              generalize hL1 : inL s j = L1 at *
              go_wp2_with (at_builtin; go_loud (refine wpList_append_own_at _ rfl _ _ 23 rfl WA.heap.size 3 i1 (.int .i64 0) 1 8 Try.underlying23 hi1 hz01 hz11 hz21 rfl (by decide) _ _ _ rfl (World.ownsRow.alloc HWL.out _) ⟨wr.heap.size, 0, none⟩ 1 1 [.int .i64 j] rfl rfl (news1 _ _ _) (one1 rfl) (by unfold maxLen; omega) (by omega) (by simp; omega) ?_))
              intro v' w5 hown hgrow hnil hat
              have HO5 := Lib.hid hown
              have HG5 := Lib.hid hgrow
              have HAt := Lib.hid hat
              clear hown hgrow hnil hat
              go_wp2
              go_roundw
              case rel =>
                refine ⟨j + 1, by omega, by go_num, ?_, ?_, ?_, ?_, ?_, ?_⟩
                · rw [HI2.out]
                  unfold OwnL
                  rw [List.length_append, List.map_append]
                  exact HO5.out
                · rw [HU2.out]
                  exact World.ownsRow.kept (World.ownsRow.alloc HO2.out _) HG5.out HSep.out.ne
                · intro g hg1 hg2
                  rcases HAt.out with h | h
                  · exact HSep.out g (h.symm.trans hg1) hg2
                  · rw [h] at hg1
                    injection hg1 with hg1
                    have := (World.ownsRow.lt HO2.out g hg2).2
                    have h5 : (wr.alloc (.cells #[.int .i64 j] 3)).heap.size = wr.heap.size + 1 := by simp
                    omega
                · rw [HI2.out]
                  intro h
                  simp at h
                · rw [HU2.out]
                  exact HN2.out
                · refine (HE.out.alloc hs0 _).grown HG5.out (by simp; omega) ?_
                  intro g hg
                  exact (World.ownsRow.lt HO1.out g hg).1
              case measure => simp [intOf]; omega
            | false =>
              have HI2 := Lib.hid (show inL s (j + 1) = inL s j by rw [hI.out, hb]; rfl)
              have HU2 := Lib.hid (show outL s (j + 1) = outL s j ++ [(j : Int)] by rw [hU.out, hb]; rfl)
              rw [hb] at hbit
              simp only [Bool.false_eq_true, if_false] at hbit
              clear hb
              have hwl : wr.ownsRow WA.heap.size 3 1 u15 (outL s j).length ((outL s j).map (Value.int .i64)) := HO2.out
              have HWL := Lib.hid hwl
              clear hwl
              go_wp2_with (at_builtin; go_loud (refine wpList_append_own_at _ rfl _ _ 23 rfl WA.heap.size 3 i1 (.int .i64 0) 1 8 Try.underlying23 hi1 hz01 hz11 hz21 rfl (by decide) _ _ _ rfl (World.ownsRow.alloc HWL.out _) ⟨wr.heap.size, 0, none⟩ 1 1 [.int .i64 j] rfl rfl (news1 _ _ _) (one1 rfl) (by unfold maxLen; omega) (by omega) (by simp; omega) ?_))
              intro v' w5 hown hgrow hnil hat
              have HO5 := Lib.hid hown
              have HG5 := Lib.hid hgrow
              have HAt := Lib.hid hat
              clear hown hgrow hnil hat
              go_wp2
              go_roundw
              case rel =>
                refine ⟨j + 1, by omega, by go_num, ?_, ?_, ?_, ?_, ?_, ?_⟩
                · rw [HI2.out]
                  exact World.ownsRow.kept (World.ownsRow.alloc HO1.out _) HG5.out HSep.out.ne2
                · rw [HU2.out]
                  unfold OwnL
                  rw [List.length_append, List.map_append]
                  exact HO5.out
                · intro g hg1 hg2
                  rcases HAt.out with h | h
                  · exact HSep.out g hg1 (h.symm.trans hg2)
                  · rw [h] at hg2
                    injection hg2 with hg2
                    have := (World.ownsRow.lt HO1.out g hg1).2
                    have h5 : (wr.alloc (.cells #[.int .i64 j] 3)).heap.size = wr.heap.size + 1 := by simp
                    omega
                · rw [HI2.out]
                  exact HN1.out
                · rw [HU2.out]
                  intro h
                  simp at h
                · refine (HE.out.alloc hs0 _).grown HG5.out (by simp; omega) ?_
                  intro g hg
                  exact (World.ownsRow.lt HO2.out g hg).1
              case measure => simp [intOf]; omega
          · have hjn2 : n = j := by omega
            subst hjn2
            have hL := HE.out
            have HBe := Lib.hid (HBk.out.trans (hL.mono HBk.out.size))
            have hbx2 := HX.out wr HBe.out
            have HVA := Lib.hid (show W.heap.size < WA.heap.size by have := HD.out.size; have := HVS.out; omega)
            have hlen12 : (inL s n).length ≤ 12 := by omega
            have HPm := Lib.hid (in_out s n)
            have HLn := Lib.hid (inL_len s n)
            clear hL
            go_wp2_with fail
            refine (sortOwnQ WA.heap.size W.heap.size n c u14 (inL s n) A J wr HO1.out HN1.out hlen12 (fun x hx => by
              obtain ⟨j, hj, rfl, -⟩ := inL_mem hx
              omega) hbx2 HVA.out (HRW.out wr HBe.out) (fun h0 b o e => by have := HAl.out h0 b o e; have := HVA.out; omega) (by omega) (fun k hk => (HJ.out k hk).2.2.1)).mono ?_
            rintro e w7 ⟨rfl, F1, hO7, hP7, hS7, hG7⟩
            have HIT := Lib.hid (fun i (hi : i < (inL s n).length) => in_time hP7 hS7 (fun k hk => by have := (HJ.out k hk).1; omega) HFit.out hi)
            have HPm2 := Lib.hid ((hP7.append_right (outL s n)).trans HPm.out)
            have hmem : ∀ a, a < (inL s n).length → 0 ≤ F1 a ∧ F1 a < (n : Int) := fun a ha => by
              obtain ⟨j, hj, e, -⟩ := inL_mem (hP7.mem_iff.1 (List.mem_of_getElem? (lst_get _ F1 a ha)))
              omega
            have HMem := Lib.hid hmem
            have HO7 := Lib.hid hO7
            have HO72 := Lib.hid (show OwnL w7 WA.heap.size u15 (outL s n) from World.ownsRow.kept HO2.out hG7 HSep.out.ne)
            have HE7 := Lib.hid (HE.out.grown hG7 HE.out.size (fun g hg => (World.ownsRow.lt HO1.out g hg).1))
            have HB7 := Lib.hid (HBk.out.trans (HE7.out.mono HBk.out.size))
            have hbx3 := HX.out w7 HB7.out
            have hl2n : (outL s n).length ≤ 8 := by omega
            have HLs := Lib.hid (show (inL s n).length + (outL s n).length = n by
              have := HPm.out.length_eq
              rw [List.length_append, lst_len] at this
              exact this)
            obtain ⟨A1, c1, e1, -⟩ := hO7.form
            rw [lst_len] at e1
            subst e1
            clear hO7 hP7 hS7 hG7 hmem
            generalize hN1 : (inL s n).length = n1 at *
            have hn18 : n1 ≤ 8 := by have := HLs.out; omega
            clear hN1 hl1 hl2 hbx2 hlen12 hbx
            go_wp2_with fail
            refine (of_any A n c J w7 (HRW.out w7 HB7.out) Hn.out).mono ?_
            rintro e w8 ⟨x, rfl, hx, hb8⟩
            rw [HMn.out] at hx
            obtain ⟨Az, cz, rfl, -, hRz, hbkz, -⟩ := hx.form
            obtain ⟨v9, w9, hr9, hO9, hG9, hk9⟩ := append_two w8 WA.heap.size 23 (.slice A1 n1 c1) u15 (lst n1 F1) (outL s n) (HO7.out.below hb8) (HO72.out.below hb8) HN2.out (by rw [lst_len]; omega) (Nat.le_trans HE7.out.size hb8.size)
            have hI1 := hk9 A1 c1 (by rw [lst_len])
            rw [lst_len] at hI1
            have HI1 := Lib.hid (hI1.congr (fun k hk => lst_getD _ _ _ hk))
            have hlo : (lst n1 F1 ++ outL s n).length = n := by rw [List.length_append, lst_len]; exact HLs.out
            obtain ⟨A9, c9, rfl, -, hI9, -, hc9⟩ := hO9.form
            have hlf : lst n (fun k => (lst n1 F1 ++ outL s n).getD k 0) = lst n1 F1 ++ outL s n := by
              have := lst_of (lst n1 F1 ++ outL s n)
              rw [hlo] at this
              exact this
            have hfo : ∀ a, a < n1 → (lst n1 F1 ++ outL s n).getD a 0 = F1 a := fun a ha => by
              rw [List.getD_eq_getElem?_getD, List.getElem?_append_left (by rw [lst_len]; exact ha), lst_get _ _ _ ha]
              rfl
            rw [hlo] at hI9 hc9 hr9
            rw [← hlf] at HPm2
            have HHr := Lib.hid hr9
            have HFo := Lib.hid hfo
            have HI9 := Lib.hid hI9
            have HC9 := Lib.hid hc9
            have HRz9 : Hid (Recs 4 w9 Az n J) := Lib.hid (hRz.grown hG9 (fun b o e h => by
              have h1 := (hbkz b o e).1
              have h2 := (World.ownsRow.lt HO7.out b h.symm).2
              omega))
            have HE9 := Lib.hid ((HE7.out.trans (hb8.mono HE7.out.size)).grown hG9 (Nat.le_trans HE7.out.size hb8.size) (fun g hg => (World.ownsRow.lt HO7.out g hg).1))
            generalize hfog : (fun k => (lst n1 F1 ++ outL s n).getD k 0) = fo at *
            have HFo2 : Hid (∀ a, a < n1 → fo a = F1 a) := Lib.hid (by rw [← hfog]; exact HFo.out)
            clear hx hRz hbkz hO9 hG9 hk9 hI1 hI9 hc9 hr9 hlf hfo hlo hb8 hfog HFo hbx3
            go_wp2_with (at_builtin; go_loud (refine wpList_append_run rfl _ _ 23 rfl _ _ _ w9 rfl rfl HHr.out ?_))
            refine (ends_ok Az A9 n cz n c9 J fo w9 HRz9.out HI9.out HC9.out HOk.out (ordB_perm HPm2.out)).mono ?_
            rintro e wA ⟨g, rfl, hg, hRA, hbA⟩
            have HRA := Lib.hid hRA
            have HEA := Lib.hid (HE9.out.trans (hbA.mono HE9.out.size))
            have HIA := Lib.hid (HI1.out.keep hbA)
            have HBA := Lib.hid (HBk.out.trans (HEA.out.mono HBk.out.size))
            have HRc := Lib.hid (HRW.out wA HBA.out)
            have hbxA := HX.out wA HBA.out
            have hnn := bne_f (a := (n : Int)) rfl
            have HOrd := Lib.hid (ordB_perm HPm2.out)
            clear hg hRA hbA
            go_wp2_with fail
            go_loopw [109] (fun i wy => ∃ a : Nat, a ≤ n1 ∧ i = .int .i64 a ∧ Dn wA wy) (fun i _ => n1 - (intOf i).toNat)
            case atStart => exact ⟨0, Nat.zero_le _, rfl, Dn.refl _⟩
            case round =>
              obtain ⟨a, ha, rfl, hDn⟩ := hrel
              have HDn := Lib.hid hDn
              clear hbxA
              have hbxy := HX.out wr (HBA.out.trans (hDn.below _))
              by_cases ha1 : a < n1
              · obtain ⟨b, o, rfl, hca⟩ := (HIA.out.dn hDn) (show 0 < n1 by omega)
                have hc := hca a ha1
                obtain ⟨hf1, hf2⟩ := HMem.out a ha1
                obtain ⟨X, hX⟩ : ∃ X : Nat, F1 a = X := ⟨(F1 a).toNat, by omega⟩
                rw [hX] at hc
                have hXn : X < n := by omega
                have hX0 : (0 : Int) ≤ X := by omega
                have hXI : (X : Int) < n := by omega
                have hrc := (HRA.out.dn hDn).cell hXn
                obtain ⟨b2, o2, rfl, e0, e1, e2, e3⟩ := (HRc.out.dn hDn).four hXn
                have hle : decide (J X 2 < eoF J fo n X) = false := decide_eq_false (by
                  have h1 := HIT.out a ha1
                  have h2 := eoF_ord (J := J) HOrd.out (i := a) (by have := HLs.out; omega)
                  rw [HFo2.out a ha1, hX, Int.toNat_natCast] at h2
                  rw [hX, Int.toNat_natCast] at h1
                  have h3 : smT (fun a => J (fo a).toNat 0) (a + 1) = smT (fun a => J (F1 a).toNat 0) (a + 1) := smT_congr (fun k hk => by rw [HFo2.out k (by omega)])
                  omega)
                clear hca hX hf1 hf2 hDn e0 e1 e3
                generalize eoF J fo n X = ex at *
                go_wp2_with fail
                go_quiet (fail)
                go_wp2
                go_roundw
                case rel => exact ⟨a + 1, by omega, by go_num, HDn.out.drewN _⟩
                case measure => simp [intOf]; omega
              · have HEW := Lib.hid (HD.out.trans ((HEA.out.trans ((hDn.below _))).mono HD.out.size))
                clear hDn hbxy
                by_cases hss : s = sa
                · have hbs := beq_t (a := (s : Int)) (b := (sa : Int)) (by rw [hss])
                  have HNa := Lib.hid (show (n1 : Int) = na by rw [HLn.out, HCT.out, hss])
                  clear hss
                  go_wp2
                  go_roundw
                  case rel => exact ⟨k + 1, n1, by omega, by go_num, rfl, fun _ => HNa.out, HEW.out⟩
                  case measure => simp [intOf]; omega
                · have hbs := beq_f (a := (s : Int)) (b := (sa : Int)) (by omega)
                  have HNa := Lib.hid (show z = na by
                    refine HZ.out ?_
                    rcases Nat.eq_zero_or_pos k with h | h
                    · exact absurd (Hk0.out h) hss
                    · exact h)
                  clear hss
                  go_wp2
                  go_roundw
                  case rel => exact ⟨k + 1, z, by omega, by go_num, rfl, fun _ => HNa.out, HEW.out⟩
                  case measure => simp [intOf]; omega
      · have hzn : z = na := HZ.out (by omega)
        subst hzn
        have hbx := HX.out wr HBk.out
        have HWs : Hid (∀ s k, wtS (k + 1) (wtW J) s = wtS k (wtW J) s + if btN s k = true then J k 3 else 0) := Lib.hid (fun _ _ => rfl)
        have HWr := Lib.hid (fun s => wtS_rng (s := s) (wtW_rng HOk.out))
        have HWN := Lib.hid (show wtS n (wtW J) sb = nb from HWF.out.2.2.1.symm)
        have hW00 : wtS 0 (wtW J) sb = 0 := rfl
        obtain ⟨WA, rfl⟩ : ∃ WA, WA = wr := ⟨wr, rfl⟩
        go_wp2_with fail
        go_loopw [11, 132] (fun we i wy => ∃ j : Nat, j ≤ n ∧ i = .int .i64 j ∧ we = .int .i64 (wtS j (wtW J) sb) ∧ Dn WA wy) (fun _ i _ => n - (intOf i).toNat)
        case atStart => exact ⟨0, Nat.zero_le _, rfl, by rw [hW00], Dn.refl _⟩
        case round =>
          obtain ⟨j, hj, rfl, rfl, hDn⟩ := hrel
          have HDn := Lib.hid hDn
          clear hbx hW00
          have HBy := Lib.hid (HBk.out.trans (hDn.below _))
          have hbxy := HX.out wr HBy.out
          obtain ⟨hr0, hr1⟩ := HWr.out sb j hj
          by_cases hjn : j < n
          · obtain ⟨b2, o2, rfl, e0, e1, e2, e3⟩ := (HRW.out wr HBy.out).four hjn
            have hbit := bit_and sb j
            have hj64 : j < 64 := by omega
            have hj8 : (j : Int) < 8 := by omega
            obtain ⟨-, -, -, hw0, hw1⟩ := HJ.out j hjn
            have hS := Lib.hid (HWs.out sb j)
            have hsu : wtS j (wtW J) sb ≤ 160 := by omega
            generalize wtS j (wtW J) sb = su at *
            clear hr1 hDn e0 e1 e2
            cases hb : btN sb j with
            | true =>
              have HS2 := Lib.hid (show wtS (j + 1) (wtW J) sb = su + J j 3 by rw [hS.out, hb]; simp)
              rw [hb] at hbit
              simp only [if_true] at hbit
              clear hb
              go_wp2_with fail
              go_quiet (fail)
              go_wp2
              go_roundw
              case rel => exact ⟨j + 1, by omega, by go_num, by rw [HS2.out], HDn.out.drewN _⟩
              case measure => simp [intOf]; omega
            | false =>
              have HS2 := Lib.hid (show wtS (j + 1) (wtW J) sb = su by rw [hS.out, hb]; simp)
              rw [hb] at hbit
              simp only [Bool.false_eq_true, if_false] at hbit
              clear hb
              go_wp2_with fail
              go_quiet (fail)
              go_wp2
              go_roundw
              case rel => exact ⟨j + 1, by omega, by go_num, by rw [HS2.out], HDn.out.drewN _⟩
              case measure => simp [intOf]; omega
          · have hjn2 : n = j := by omega
            subst hjn2
            have hnb : 0 ≤ nb ∧ nb ≤ 160 := by rw [← HWN.out]; omega
            rw [HWN.out]
            obtain ⟨hnb0, hnb1⟩ := hnb
            have hnn := beq_t (a := nb) rfl
            clear hr0 hr1 hDn
            go_wp2_with fail
            refine (of_any A n c J wr (HRW.out wr HBy.out) Hn.out).mono ?_
            rintro e w7 ⟨x, rfl, hx, hb7⟩
            rw [HMn.out] at hx
            obtain ⟨Az, cz, rfl, -, hRz, -⟩ := hx.form
            have HB7 := Lib.hid (HBy.out.trans (hb7.mono HBy.out.size))
            have HZ7 := Lib.hid hRz
            clear hx hRz hb7 hbxy
            go_wp2_with fail
            refine (list_any B m c2 f w7 (HF.out.below (HBW.out w7 HB7.out))).mono ?_
            rintro e w8 ⟨y, rfl, hy, hb8⟩
            obtain ⟨By, cy, rfl, -, hIy, -, hcy⟩ := hy.form
            rw [lst_len] at hIy hcy ⊢
            have HYl := Lib.hid (hIy.congr (fun k hk => lst_getD _ _ _ hk))
            have HZ8 := Lib.hid (HZ7.out.keep hb8)
            have HB8 := Lib.hid (HB7.out.trans (hb8.mono HB7.out.size))
            have Hcy := Lib.hid hcy
            have Hm11 := Lib.hid (show min m 10 ≤ maxLen by have := Hm.out; omega)
            have HOM := Lib.hid (ordB_minT m f n hn81)
            clear hy hIy hb8 hcy
            cases hor : ordB m f n with
            | false =>
              have HOr := Lib.hid hor
              clear hor
              go_wp2_with fail
              refine (ends_bad Az By n cz (min m 10) cy J f w8 HZ8.out HYl.out Hcy.out Hn.out Hm11.out (.inr (by rw [HOM.out, HOr.out]))).use fun w9 hb9 => ?_
              have HB9 := Lib.hid (HB8.out.trans (hb9.mono HB8.out.size))
              clear hb9
              go_wp2_with fail
              refine (awake_any w9).use fun wA hbA => ?_
              have HBA := Lib.hid (HB9.out.trans (hbA.mono HB9.out.size))
              clear hbA
              go_wp2
              go_ret
              exact ⟨rfl, HBW.out _ HBA.out⟩
            | true =>
              have HOr := Lib.hid hor
              have hmn : m = n := of_decide_eq_true (Bool.and_eq_true_iff.1 hor).1
              subst hmn
              have hmx : min m 10 = m := by omega
              rw [hmx] at HYl Hcy ⊢
              obtain ⟨t, ht, hte⟩ := set_ex (fun j => decide (eoF J f m j ≤ J j 2)) m
              have hft := fit_ord HOr.out (perm_ord HOr.out) (fun k hk => by have := (HJ.out k hk).1; omega) hte
              have HCnt := Lib.hid (show ctS t m ≤ z from HMF.out.2.2.2 t ht hft)
              have HHv := Lib.hid (HWF.out.2.2.2 t ht hft)
              have HTe := Lib.hid hte
              have HCs : Hid (∀ k, ctS t (k + 1) = ctS t k + if btN t k = true then 1 else 0) := Lib.hid (fun _ => rfl)
              have hC00 : ctS t 0 = 0 := rfl
              have hW00 : wtS 0 (wtW J) t = 0 := rfl
              clear hor hmx HOM Hm11 ht hte hft
              go_wp2_with fail
              refine (ends_ok Az By m cz m cy J f w8 HZ8.out HYl.out Hcy.out HOk.out HOr.out).mono ?_
              rintro e w9 ⟨g, rfl, hg, hR9, hb9⟩
              have HB9 := Lib.hid (HB8.out.trans (hb9.mono HB8.out.size))
              have HR9 := Lib.hid hR9
              have hbx9 := HX.out w9 HB9.out
              clear hg hR9 hb9
              go_wp2_with fail
              go_loopw [23, 24, 170] (fun co he i wy => ∃ j : Nat, j ≤ m ∧ i = .int .i64 j ∧ co = .int .i64 (ctS t j) ∧ he = .int .i64 (wtS j (wtW J) t) ∧ Dn w9 wy) (fun _ _ i _ => m - (intOf i).toNat)
              case atStart => exact ⟨0, Nat.zero_le _, rfl, by rw [hC00], by rw [hW00], Dn.refl _⟩
              case round =>
                obtain ⟨j, hj, rfl, rfl, rfl, hDn⟩ := hrel
                have HDn := Lib.hid hDn
                clear hbx9 hC00 hW00
                have HBy2 := Lib.hid (HB9.out.trans (hDn.below _))
                have hbxy := HX.out wr HBy2.out
                obtain ⟨hr0, hr1⟩ := HWr.out t j hj
                have hcl := ctS_le t j
                have hcl0 : 0 ≤ ctS t j := by rw [← inL_len]; omega
                by_cases hjn : j < m
                · obtain ⟨b2, o2, rfl, e0, e1, e2, e3⟩ := (HRW.out wr HBy2.out).four hjn
                  have hrc := (HR9.out.dn hDn).cell hjn
                  have hj8 : (j : Int) < 8 := by omega
                  obtain ⟨-, -, -, hw0, hw1⟩ := HJ.out j hjn
                  have hS := Lib.hid (HWs.out t j)
                  have hCS := Lib.hid (HCs.out j)
                  have HT := Lib.hid (HTe.out j hjn)
                  have hsu : wtS j (wtW J) t ≤ 160 := by omega
                  have hco : ctS t j ≤ 8 := by omega
                  generalize wtS j (wtW J) t = su at *
                  generalize ctS t j = co at *
                  generalize eoF J f m j = ex at *
                  clear hr1 hDn e0 e1 hcl
                  by_cases hx : ex ≤ J j 2
                  · have hdx : decide (ex ≤ J j 2) = true := decide_eq_true hx
                    have HS2 := Lib.hid (show wtS (j + 1) (wtW J) t = su + J j 3 by rw [hS.out, HT.out, hdx]; simp)
                    have HS3 := Lib.hid (show ctS t (j + 1) = co + 1 by rw [hCS.out, HT.out, hdx]; simp)
                    clear hx
                    go_wp2_with fail
                    go_quiet (fail)
                    go_wp2
                    go_roundw
                    case rel => exact ⟨j + 1, by omega, by go_num, by rw [HS3.out], by rw [HS2.out], HDn.out.drewN _⟩
                    case measure => simp [intOf]; omega
                  · have hdx : decide (ex ≤ J j 2) = false := decide_eq_false hx
                    have HS2 := Lib.hid (show wtS (j + 1) (wtW J) t = su by rw [hS.out, HT.out, hdx]; simp)
                    have HS3 := Lib.hid (show ctS t (j + 1) = co by rw [hCS.out, HT.out, hdx]; simp)
                    clear hx
                    go_wp2_with fail
                    go_quiet (fail)
                    go_wp2
                    go_roundw
                    case rel => exact ⟨j + 1, by omega, by go_num, by rw [HS3.out], by rw [HS2.out], HDn.out.drewN _⟩
                    case measure => simp [intOf]; omega
                · have hjm : m = j := by omega
                  subst hjm
                  have hd1 : decide (ctS t m ≤ z) = true := decide_eq_true HCnt.out
                  have hd2 : decide (wtS m (wtW J) t ≤ nb) = true := decide_eq_true HHv.out
                  clear hr0 hr1 hDn hcl hcl0
                  generalize wtS m (wtW J) t = su at *
                  generalize ctS t m = co at *
                  go_wp2_with fail
                  refine (awake_any wr).use fun wA hbA => ?_
                  have HBA := Lib.hid (HBy2.out.trans (hbA.mono HBy2.out.size))
                  clear hbA
                  go_wp2
                  go_ret
                  exact ⟨rfl, HBW.out _ HBA.out⟩
end Go.Proofs.Ytbgekacfimgkeaa
