/- The reference: Blocks, Group. -/
import Derived.Test.YtahoolibnpbofaaCv
namespace Go.Proofs.Ytahoolibnpbofaa
open Go.RowKit

set_option maxHeartbeats 1000000 in
set_option maxRecDepth 1000000 in
theorem rBlocks_any (c k : Nat) (A : Option Addr) (n cA cm gr : Nat) (f : Nat → Int) (g : Nat → Nat) (w : World) (h : Ints w A n f) (hn : n ≤ 9) (hg : Sets n f g) (hc : c ≤ 8) (hk : k ≤ 8) (hcm : cm < 256) (hgr : gr < 512) :
    Ro 68 #[.int .i64 c, .int .i64 k, .slice A n cA, .int .i64 cm, .int .i64 gr] w (.bool (blkB g c k n cm gr)) := by
  refine Ro.of ?_
  have H := Lib.hid h
  have HG := Lib.hid hg
  have HU : Hid (blkB g c k n cm gr = (allB (whoP g cm gr) n && (decide (0 < gr) && (decide (0 < cmnN g c gr n) && decide (n ≤ pcN gr * k))))) := Lib.hid rfl
  have hpw := pow_wrap c (by omega)
  have hM : 2 ^ c ≤ 256 := by
    have : 2 ^ c ≤ 2 ^ 8 := Nat.pow_le_pow_right (by omega) hc
    omega
  have hp : 0 < 2 ^ c := Nat.pow_pos (by omega)
  have H0 : Hid (((2 ^ c : Nat) : Int) - 1 = (cmnN g c gr 0 : Nat)) := Lib.hid (by show _ = ((2 ^ c - 1 : Nat) : Int); omega)
  have HLt : Hid (∀ j, cmnN g c gr j < 256) := Lib.hid (fun j => by have := cmnN_lt g c gr j; omega)
  clear h hg
  generalize 2 ^ c = M at *
  go_enter Try.func68, Try.ntmps68
  go_wp2_with fail
  clear hpw
  go_loopw [11, 19] (fun x i wr => ∃ j : Nat, j ≤ n ∧ i = .int .i64 j ∧ x = .int .i64 (cmnN g c gr j : Nat) ∧ AllLt (whoP g cm gr) j ∧ Dn w wr) (fun _ i _ => n - (intOf i).toNat)
  case atStart => exact ⟨0, Nat.zero_le _, rfl, val_int H0.out, AllLt.zero, Dn.refl _⟩
  case round =>
    obtain ⟨j, hj, rfl, rfl, hA, hD⟩ := hrel
    have HA := Lib.hid hA
    clear hA
    by_cases hlt : j < n
    · obtain ⟨b, o, rfl, hcc⟩ := (H.out.dn hD).at hlt
      obtain ⟨hfj, hgj⟩ := HG.out j hlt
      rw [hfj] at hcc
      have hx := HLt.out j
      have HC1 : Hid (bitN gr j = true → cmnN g c gr (j + 1) = cmnN g c gr j &&& g j) := Lib.hid (fun h => by simp only [cmnN, h, if_true])
      have HC0 : Hid (bitN gr j = false → cmnN g c gr (j + 1) = cmnN g c gr j) := Lib.hid (fun h => by simp [cmnN, h])
      have HW : Hid (whoP g cm gr j = !(bitN gr j && !decide (g j &&& cm = 0))) := Lib.hid rfl
      have hb1 := bit_one gr j
      have ha1 := and_nat (cmnN g c gr j) (g j) (by omega) (by omega)
      have ha2 := and_nat (g j) cm (by omega) (by omega)
      generalize cmnN g c gr j = x at *
      generalize hxg : x &&& g j = y at *
      generalize g j &&& cm = t at *
      clear hxg hfj
      cases hb : bitN gr j with
      | false =>
        have HE := Lib.hid (HC0.out hb)
        have HN := Lib.hid (HA.out.succ (by rw [HW.out, hb]; rfl))
        rw [hb] at hb1
        clear hb ha1 ha2
        go_wp2
        go_roundw
        case rel => exact ⟨j + 1, by omega, by go_num, by rw [HE.out], HN.out, hD⟩
        case measure => simp [intOf]; omega
      | true =>
        have HE := Lib.hid (HC1.out hb)
        rw [hb] at hb1
        rcases Nat.eq_zero_or_pos t with h0 | h0
        · have HN := Lib.hid (HA.out.succ (by rw [HW.out, hb, decide_eq_true h0]; rfl))
          have hn0 : (bits .and .i64 ((g j : Nat) : Int) (cm : Int) != 0) = false := by rw [ha2]; exact bne_f (by omega)
          clear hb ha2
          go_wp2
          go_roundw
          case rel => exact ⟨j + 1, by omega, by go_num, by rw [HE.out], HN.out, hD⟩
          case measure => simp [intOf]; omega
        · have HF := Lib.hid (allB_f (p := whoP g cm gr) hlt (by rw [HW.out, hb, decide_eq_false (by omega)]; rfl))
          have hn0 : (bits .and .i64 ((g j : Nat) : Int) (cm : Int) != 0) = true := by rw [ha2]; exact bne_t (by omega)
          clear hb ha2
          go_wp2
          go_ret
          exact ⟨ret_bool (by rw [HU.out, HF.out]; rfl), hD⟩
    · have hjn : j = n := by omega
      rw [hjn] at HA ⊢
      clear hjn hlt hj
      have HT : Hid (blkB g c k n cm gr = (decide (0 < gr) && (decide (0 < cmnN g c gr n) && decide (n ≤ pcN gr * k)))) := Lib.hid (by rw [HU.out, allB_t HA.out, Bool.true_and])
      have HO := Lib.hid (size_any gr hgr wr)
      have hp9 := pcN_bd gr
      generalize cmnN g c gr n = x at *
      generalize pcN gr = p at *
      have hmul : wrap64 ((p : Int) * (k : Int)) = ((p * k : Nat) : Int) := by
        have e : ((p * k : Nat) : Int) = (p : Int) * (k : Int) := by push_cast; rfl
        have h1 : p * k ≤ 9 * 8 := Nat.mul_le_mul hp9 hk
        rw [← e]
        exact IntWalk.wrap64_in _ ⟨by omega, by omega⟩
      generalize p * k = pk at *
      by_cases h1 : 0 < gr
      · by_cases h2 : 0 < x
        · have HV : Hid (blkB g c k n cm gr = decide (n ≤ pk)) := Lib.hid (by rw [HT.out, decide_eq_true h1, decide_eq_true h2, Bool.true_and, Bool.true_and])
          have e2 := bne_t (a := (x : Int)) (b := 0) (by omega)
          rcases Nat.lt_or_ge pk n with h3 | h3
          · have HV2 : Hid (blkB g c k n cm gr = false) := Lib.hid (by rw [HV.out]; exact decide_eq_false (by omega))
            go_wp2_with (go_at_call 46; refine HO.out.mono ?_; rintro e w3 ⟨rfl, rfl⟩)
            go_ret
            exact ⟨ret_bool (by first | (rw [HV2.out]; done) | (rw [HV2.out]; rfl) | (rw [HV2.out]; simp; omega)), hD⟩
          · have HV2 : Hid (blkB g c k n cm gr = true) := Lib.hid (by rw [HV.out]; exact decide_eq_true h3)
            go_wp2_with (go_at_call 46; refine HO.out.mono ?_; rintro e w3 ⟨rfl, rfl⟩)
            go_ret
            exact ⟨ret_bool (by first | (rw [HV2.out]; done) | (rw [HV2.out]; rfl) | (rw [HV2.out]; simp; omega)), hD⟩
        · have HV2 : Hid (blkB g c k n cm gr = false) := Lib.hid (by rw [HT.out, decide_eq_false h2, Bool.false_and, Bool.and_false])
          have e2 := bne_f (a := (x : Int)) (b := 0) (by omega)
          go_wp2
          go_ret
          exact ⟨ret_bool (by first | (rw [HV2.out]; done) | (rw [HV2.out]; rfl) | (rw [HV2.out]; simp; omega)), hD⟩
      · have HV2 : Hid (blkB g c k n cm gr = false) := Lib.hid (by rw [HT.out, decide_eq_false h1, Bool.false_and])
        have e2 : ¬ (0 : Int) < (gr : Int) := by omega
        go_wp2
        go_ret
        exact ⟨ret_bool (by first | (rw [HV2.out]; done) | (rw [HV2.out]; rfl) | (rw [HV2.out]; simp; omega)), hD⟩

theorem GrI.zero (g : Nat → Nat) (c k n cm : Nat) : GrI g c k n cm 0 0 := ⟨.inl rfl, fun x hx => absurd hx (by omega)⟩
theorem GrI.yes {g : Nat → Nat} {c k n cm t b : Nat} (h : GrI g c k n cm t b) (hB : BlkG g c k n cm t) (hp : pcN b < pcN t) : GrI g c k n cm (t + 1) t := by
  refine ⟨.inr ⟨by omega, hB⟩, fun x hx hX => ?_⟩
  rcases Nat.lt_or_ge x t with hl | hl
  · have := (h.mx x hl hX).1
    exact ⟨by omega, fun e => by omega⟩
  · obtain rfl : x = t := by omega
    exact ⟨Nat.le_refl _, fun _ => Nat.le_refl _⟩
theorem GrI.no {g : Nat → Nat} {c k n cm t b : Nat} (h : GrI g c k n cm t b) (hN : ¬ (BlkG g c k n cm t ∧ pcN b < pcN t)) : GrI g c k n cm (t + 1) b := by
  refine ⟨?_, fun x hx hX => ?_⟩
  · rcases h.ok with h0 | ⟨h1, h2⟩
    · exact .inl h0
    · exact .inr ⟨by omega, h2⟩
  · rcases Nat.lt_or_ge x t with hl | hl
    · exact h.mx x hl hX
    · obtain rfl : x = t := by omega
      have h1 : ¬ pcN b < pcN x := fun q => hN ⟨hX, q⟩
      refine ⟨by omega, fun _ => ?_⟩
      rcases h.ok with h0 | ⟨h0, -⟩ <;> omega

set_option maxHeartbeats 1000000 in
set_option maxRecDepth 1000000 in
theorem rGroup_any (c k : Nat) (A : Option Addr) (n cA cm : Nat) (f : Nat → Int) (g : Nat → Nat) (w : World) (h : Ints w A n f) (hn1 : 1 ≤ n) (hn : n ≤ 9) (hg : Sets n f g) (hc : c ≤ 8) (hk : k ≤ 8) (hcm : cm < 256) :
    Ro 37 #[.int .i64 c, .int .i64 k, .slice A n cA, .int .i64 cm] w (gpV (gpF g k n cm c)) := by
  refine Ro.of ?_
  have HBk : Hid (∀ (t : Nat) (w' : World), t < 512 → Dn w w' → Ro 68 #[.int .i64 c, .int .i64 k, .slice A n cA, .int .i64 cm, .int .i64 t] w' (.bool (blkB g c k n cm t))) := Lib.hid (fun t w' ht hd => rBlocks_any c k A n cA cm t f g w' (h.dn hd) hn hg hc hk hcm ht)
  have HIf : Hid (∀ t, blkB g c k n cm t = true ↔ BlkG g c k n cm t) := Lib.hid (fun t => blkB_iff (by omega))
  have hpw := pow_wrap n hn
  have hM : 2 ^ n ≤ 512 := by
    have : 2 ^ n ≤ 2 ^ 9 := Nat.pow_le_pow_right (by omega) hn
    omega
  have HEnd : Hid (∀ b, GrI g c k n cm (2 ^ n) b → b < 512 ∧ gpV (gpF g k n cm c) = if b = 0 then .tuple #[.int .i64 0, .int .i64 4] else .tuple #[.int .i64 (b : Nat), .int .i64 0]) := Lib.hid (fun b hb => by
    obtain ⟨e1, e2⟩ := group_same hn1 hn hb
    have hlt : b < 512 := by
      rcases hb.ok with h0 | ⟨h0, -⟩ <;> omega
    refine ⟨hlt, ?_⟩
    unfold gpV
    rw [e2, ← e1]
    have := pc_pos b hlt
    by_cases h0 : b = 0
    · rw [if_pos h0, if_pos (by omega)]
    · rw [if_neg h0, if_neg (by omega)])
  clear h hg
  generalize 2 ^ n = M at *
  go_enter Try.func37, Try.ntmps37
  go_wp2_with fail
  rw [hpw]
  clear hpw
  go_loopw [10, 15] (fun x i wr => ∃ t b : Nat, t ≤ M ∧ i = .int .i64 t ∧ x = .int .i64 b ∧ b < 512 ∧ GrI g c k n cm t b ∧ Dn w wr) (fun _ i _ => M - (intOf i).toNat)
  case atStart => exact ⟨0, 0, Nat.zero_le _, rfl, rfl, by omega, GrI.zero g c k n cm, Dn.refl _⟩
  case round =>
    obtain ⟨t, b, ht, rfl, rfl, hb5, hI, hD⟩ := hrel
    have HI := Lib.hid hI
    have HD := Lib.hid hD
    clear hI hD
    by_cases hlt : t < M
    · have HB := Lib.hid (HBk.out t wr (by omega) HD.out)
      have HIt := Lib.hid (HIf.out t)
      cases hB : blkB g c k n cm t with
      | false =>
        rw [hB] at HB
        have HN := Lib.hid (HI.out.no (fun q => by have := HIt.out.2 q.1; rw [hB] at this; cases this))
        clear hB
        go_wp2_with fail
        refine Ro.use HB.out ?_
        intro w3 hd3
        have HD3 := Lib.hid (HD.out.trans hd3)
        clear hd3
        go_wp2
        go_roundw
        case rel => exact ⟨t + 1, b, by omega, by go_num, rfl, hb5, HN.out, HD3.out⟩
        case measure => simp [intOf]; omega
      | true =>
        rw [hB] at HB
        have HBt := Lib.hid (HIt.out.1 hB)
        clear hB
        go_wp2_with fail
        refine Ro.use HB.out ?_
        intro w3 hd3
        have HD3 := Lib.hid (HD.out.trans hd3)
        clear hd3
        have HS1 := Lib.hid (size_any t (by omega) w3)
        have HS2 := Lib.hid (size_any b hb5 w3)
        rcases Nat.lt_or_ge (pcN b) (pcN t) with hp | hp
        · have HN := Lib.hid (HI.out.yes HBt.out hp)
          generalize pcN t = p1 at *
          generalize pcN b = p2 at *
          go_wp2_with (go_at_call 46; first | (refine HS1.out.mono ?_; clear HS1; rintro e w4 ⟨rfl, rfl⟩) | (refine HS2.out.mono ?_; clear HS2; rintro e w4 ⟨rfl, rfl⟩))
          go_roundw
          case rel => exact ⟨t + 1, t, by omega, by go_num, rfl, by omega, HN.out, HD3.out⟩
          case measure => simp [intOf]; omega
        · have HN := Lib.hid (HI.out.no (fun q => by have := q.2; omega))
          generalize pcN t = p1 at *
          generalize pcN b = p2 at *
          have hpn : ¬ (p2 : Int) < (p1 : Int) := by omega
          go_wp2_with (go_at_call 46; first | (refine HS1.out.mono ?_; clear HS1; rintro e w4 ⟨rfl, rfl⟩) | (refine HS2.out.mono ?_; clear HS2; rintro e w4 ⟨rfl, rfl⟩))
          go_roundw
          case rel => exact ⟨t + 1, b, by omega, by go_num, rfl, hb5, HN.out, HD3.out⟩
          case measure => simp [intOf]; omega
    · have htM : t = M := by omega
      rw [htM] at HI
      have HE := Lib.hid (HEnd.out b HI.out).2
      by_cases h0 : b = 0
      · have HV : Hid (gpV (gpF g k n cm c) = .tuple #[.int .i64 0, .int .i64 4]) := Lib.hid (by rw [HE.out, if_pos h0])
        have e2 := beq_t (a := (b : Int)) (b := 0) (by omega)
        go_wp2
        go_ret2
        exact ⟨congrArg Ending.returned HV.out.symm, HD.out⟩
      · have HV : Hid (gpV (gpF g k n cm c) = .tuple #[.int .i64 (b : Nat), .int .i64 0]) := Lib.hid (by rw [HE.out, if_neg h0])
        have e2 := beq_f (a := (b : Int)) (b := 0) (by omega)
        go_wp2
        go_ret2
        exact ⟨congrArg Ending.returned HV.out.symm, HD.out⟩
end Go.Proofs.Ytahoolibnpbofaa
