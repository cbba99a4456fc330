/- The law VoteNames, walked. -/
import Derived.Test.YtnobbklnnkpdfaaNv
import Derived.Test.YtnobbklnnkpdfaaRv
import Derived.Test.YtnobbklnnkpdfaaAk
import Derived.IntWalk
namespace Go.Proofs.Ytnobbklnnkpdfaa
open Go.RowKit

theorem bit_same {s t a b : Nat} (h : bitN t b = bitN s a) : bits .and .i64 ((s : Int) / 2 ^ a) 1 = bits .and .i64 ((t : Int) / 2 ^ b) 1 := by
  have h2 : ∀ s x : Nat, bits .and .i64 ((s : Int) / 2 ^ x) 1 = ((s / 2 ^ x % 2 : Nat) : Int) := fun s x => by
    have e : ((s : Int) / 2 ^ x) = ((s / 2 ^ x : Nat) : Int) := by push_cast; rfl
    rw [e, i64_and1]
    omega
  rw [h2, h2]
  unfold bitN at h
  have := Nat.mod_two_eq_zero_or_one (s / 2 ^ a)
  have := Nat.mod_two_eq_zero_or_one (t / 2 ^ b)
  generalize s / 2 ^ a % 2 = x at *
  generalize t / 2 ^ b % 2 = y at *
  have h3 : y = 1 ↔ x = 1 := by rw [decide_eq_decide] at h; exact h
  omega
theorem by_nat (q : Int) {n : Nat} (h1 : 1 ≤ n) (h2 : n ≤ 9) : ∃ u : Nat, u < n ∧ wrap64 ((IntKind.u64.wrap q).tmod (n : Int)) = (u : Int) := by
  rw [IntKind.wrap_u64]
  have h3 : 0 ≤ q % 18446744073709551616 := Int.emod_nonneg _ (by omega)
  rw [Int.tmod_eq_emod_of_nonneg h3]
  generalize q % 18446744073709551616 = x at *
  have h4 : 0 ≤ x % (n : Int) := Int.emod_nonneg _ (by omega)
  have h5 : x % (n : Int) < n := Int.emod_lt_of_pos _ (by omega)
  refine ⟨(x % (n : Int)).toNat, by omega, ?_⟩
  generalize x % (n : Int) = y at *
  unfold wrap64
  omega

set_option maxHeartbeats 4000000 in
set_option maxRecDepth 1000000 in
theorem voteNames_bad (A : Option Addr) (n c : Nat) (L : Nat → Nat) (v : Nat → Nat → Int) (q : Int) (w : World) (h : ArgR w A n c L v) (hok : okBal n L v = false) :
    Calls Try.prog 9 #[.slice A n c, .int .i64 q] w fun e w' => e = .returned (.bool true) ∧ Below w.heap.size w w' := by
  have H := Lib.hid h
  have HK := Lib.hid hok
  clear h hok
  go_enter Try.func9, Try.ntmps9
  go_wp2_with fail
  refine (FewF A n c L v _ H.out).mono ?_
  rintro e w1 ⟨A1, k1, c1, rfl, hk1, hr1, hc1, hb1⟩
  have HM := Lib.hid (MarginsFbad (cA := c1) hr1 hk1 HK.out)
  have Hb1 := Lib.hid hb1
  clear hk1 hr1 hc1 hb1
  go_wp2_with fail
  refine Lr.use HM.out ?_
  intro w2 hb2
  have Hb2 := Lib.hid (Hb1.out.trans (hb2.mono Hb1.out.size))
  clear hb2 HM
  go_wp2_with fail
  refine Lr.use (awake_any _) ?_
  intro w6 hb6
  have Hb6 := Lib.hid (Hb2.out.trans (hb6.mono Hb2.out.size))
  clear hb6
  go_wp2
  go_ret
  exact ⟨rfl, Hb6.out⟩

set_option maxHeartbeats 4000000 in
set_option maxRecDepth 1000000 in
theorem voteNames_fine (A : Option Addr) (n c : Nat) (L : Nat → Nat) (v : Nat → Nat → Int) (q : Int) (w : World) (h : ArgR w A n c L v) (hok : okBal n L v = true) :
    Calls Try.prog 9 #[.slice A n c, .int .i64 q] w fun e w' => e = .returned (.bool true) ∧ Below w.heap.size w w' := by
  have HK := Lib.hid hok
  obtain ⟨⟨hB1, hB9⟩, ⟨hB2, hB3⟩, hB4⟩ := okBal_iff.1 hok
  have HO := Lib.hid hB4
  obtain ⟨u, hu, hU⟩ := by_nat q hB2 (by omega)
  obtain ⟨b0, o0, A0, c0, rfl, hc0, -⟩ := h.at (show 0 < n by omega)
  have hc0 : w.cell? ⟨b0, o0, none⟩ = some (.slice A0 (L 0) c0) := hc0
  have H := Lib.hid h
  have HV : Hid (∀ w' : World, Below w.heap.size w w' → Ro 14 #[.slice (some ⟨b0, o0, none⟩) n c] w' (.bool true)) := Lib.hid (fun w' hb => by
    have := validR_any (some ⟨b0, o0, none⟩) n c L v w' (H.out.below hb)
    rwa [HK.out] at this)
  obtain ⟨s0, hs0⟩ : ∃ s0, IsBst (mAll v (L 0) n) (L 0) s0 := bst_exists (T := mAll v (L 0) n) hB2 hB3
  obtain ⟨t0, ht0⟩ : ∃ t0, IsBst (mAll (rnV u (L 0) v) (L 0) n) (L 0) t0 := bst_exists hB2 hB3
  obtain ⟨fz, hfz⟩ : ∃ fz : Int, fz = (axF n L v (List.range (L 0))).elim 4 (fun _ => 0) := ⟨_, rfl⟩
  have HFz := Lib.hid hfz
  clear hfz
  have HS0 := Lib.hid hs0
  have HT0 := Lib.hid ht0
  have Hu := Lib.hid hu
  clear h hok hB4 hs0 ht0
  go_enter Try.func9, Try.ntmps9
  go_wp2_with fail
  refine (FewF (some ⟨b0, o0, none⟩) n c L v _ H.out).mono ?_
  rintro e w1 ⟨A1, k1, c1, rfl, hk1, hr1, hc1, hb1⟩
  have HM := Lib.hid (MarginsF (cA := c1) hr1 hk1 hc1 HK.out)
  have Hb1 := Lib.hid hb1
  clear hk1 hr1 hc1 hb1
  go_wp2_with fail
  refine HM.out.mono ?_
  rintro e w2 ⟨A2, c2, rfl, hr2, hb2⟩
  have HMX2 := Lib.hid hr2
  have Hb2 := Lib.hid (Hb1.out.trans (hb2.mono Hb1.out.size))
  clear hb2 hr2 HM
  go_wp2_with fail
  refine Ro.use (HV.out _ Hb2.out) ?_
  intro w3 hd3
  have HMX3 := Lib.hid (HMX2.out.dn hd3)
  have Hb3 := Lib.hid (Hb2.out.trans (hd3.below _))
  clear hd3 HV HMX2
  have hc3 : w3.cell? ⟨b0, o0, none⟩ = some (.slice A0 (L 0) c0) := (Hb3.out.cell (World.block_lt_of_cell? _ _ hc0)).trans hc0
  have hnI : (0 : Int) < (n : Int) := by omega
  have hnN : 0 < n := by omega
  clear hc0
  go_wp2_with fail
  refine (fewSv (some ⟨b0, o0, none⟩) n c L v _ (H.out.below Hb3.out)).mono ?_
  rintro e w4 ⟨A4, k4, c4, vals, rfl, hk4, hS4, hb4⟩
  have hk4' : n = k4 := by omega
  subst hk4'
  have HS4 := Lib.hid hS4
  have HB4 := Lib.hid hb4
  have Hs3 := Lib.hid Hb3.out.size
  have HLk : Hid (∀ k, k < n → min (L k) 11 = L 0) := Lib.hid (fun k hk => by have := (HO.out k hk).1; omega)
  have Hc4 : Hid (∃ A c, Value.slice A4 n c4 = .slice A n c ∧ n ≤ c) := Lib.hid (by
    obtain ⟨A, c, e, -, h⟩ := hS4.own.rowsKc
    exact ⟨A, c, e, h⟩)
  clear hS4 hb4 hk4 hc3
  have hLpos : (0 : Int) < ((L 0 : Nat) : Int) := by omega
  have hLn := bne_f (a := ((L 0 : Nat) : Int)) rfl
  go_wp2
  go_loopw [66] (fun i wr => ∃ k : Nat, k ≤ n ∧ i = .int .i64 k ∧ OwnSv wr w3.heap.size (.slice A4 n c4) n (fun i => min (L i) 11) (fun i => if i < k then rnO u (L 0) (v i) else v i) vals ∧ Below w3.heap.size w3 wr) (fun i _ => n - (intOf i).toNat)
  case atStart => exact ⟨0, Nat.zero_le _, rfl, by simpa using HS4.out, HB4.out⟩
  case round =>
    obtain ⟨k, hk, rfl, hS, hbel⟩ := hrel
    have HSk := Lib.hid hS
    have HBk := Lib.hid hbel
    clear hS hbel
    by_cases hlt : k < n
    · obtain ⟨G, cG, g, cap, eG, hcell, hgb, hRow, -, hput⟩ := HSk.out.turned (p := k) hlt (by show 0 < min (L k) 11; rw [HLk.out k hlt]; omega)
      injection eG with eG1 eG2 eG3
      subst eG1 eG3
      clear eG2
      simp only [HLk.out k hlt, Nat.lt_irrefl, if_false] at hRow
      simp only [HLk.out k hlt] at hcell
      have HPut := Lib.hid hput
      have HRow := Lib.hid hRow
      have Hgb := Lib.hid hgb
      clear hput hRow hgb
      obtain ⟨X, rfl⟩ : ∃ X, X = wr := ⟨wr, rfl⟩
      go_wp2
      clear hcell
      go_loopw [72] (fun i wx => ∃ j : Nat, j ≤ L 0 ∧ i = .int .i64 j ∧ RowC wx g cap (L 0) (fun t => if t < j then rnO u (L 0) (v k) t else v k t) ∧ Exc g X wx) (fun i _ => L 0 - (intOf i).toNat)
      case atStart => exact ⟨0, Nat.zero_le _, rfl, by simpa using HRow.out, Exc.refl _ _⟩
      case round =>
        obtain ⟨j, hj, rfl, hR, hE⟩ := hrel
        have HRj := Lib.hid hR
        have HEj := Lib.hid hE
        clear hR hE
        by_cases hlj : j < L 0
        · have hcj := HRj.out.cell hlj
          simp only [Nat.lt_irrefl, if_false] at hcj
          have hfz := HRj.out.frozen j
          have hr := (HO.out k hlt).2.rng j hlj
          obtain ⟨x, hx⟩ : ∃ x : Nat, v k j = (x : Int) := ⟨(v k j).toNat, by omega⟩
          rw [hx] at hcj hr
          have hmod := rn_mod (u := u) (c := L 0) (x := x) Hu.out (by omega)
          have hy := rnN_lt Hu.out (c := L 0) (x := x) (by omega)
          have HXy : Hid (rnO u (L 0) (v k) j = ((rnN u (L 0) x : Nat) : Int)) := Lib.hid (rnO_at hx)
          have hu5 := Hu.out
          obtain ⟨hr1, hr2⟩ := hr
          clear hx
          generalize rnN u (L 0) x = y at *
          go_wp2
          go_roundw
          case rel => exact ⟨j + 1, by omega, by go_num, (HRj.out.set j (y : Int)).congr (fun t ht => by
            unfold upd
            by_cases e : t = j
            · rw [if_pos e, e, if_pos (by omega), HXy.out]
            · rw [if_neg e]
              show (if t < j then _ else _) = _
              by_cases e2 : t < j
              · rw [if_pos e2, if_pos (by omega)]
              · rw [if_neg e2, if_neg (by omega)]), HEj.out.set j _⟩
          case measure => simp [intOf]; omega
        · have hjc : j = L 0 := by omega
          have HS2 : Hid (OwnSv wr w3.heap.size (.slice (some ⟨G, 0, none⟩) n c4) n (fun i => min (L i) 11) (fun i => if i < k + 1 then rnO u (L 0) (v i) else v i) vals) := Lib.hid (by
            have h1 := HPut.out wr (rnO u (L 0) (v k)) (by
              show RowC wr g cap (min (L k) 11) (rnO u (L 0) (v k))
              rw [HLk.out k hlt]
              exact HRj.out.congr (fun t ht => by rw [if_pos (by omega)])) HEj.out
            refine h1.congr (fun i t _ _ => ?_)
            by_cases e : i = k
            · rw [if_pos e, e, if_pos (by omega)]
            · rw [if_neg e]
              by_cases e2 : i < k
              · rw [if_pos e2, if_pos (by omega)]
              · rw [if_neg e2, if_neg (by omega)])
          have HB2 := Lib.hid (HBk.out.trans (HEj.out.below Hgb.out HBk.out.size))
          rw [hjc]
          clear hjc hlj hj
          go_wp2
          go_roundw
          case rel => exact ⟨k + 1, by omega, by go_num, HS2.out, HB2.out⟩
          case measure => simp [intOf]; omega
    · have hkn : k = n := by omega
      obtain ⟨w5, rfl⟩ : ∃ w5, w5 = wr := ⟨wr, rfl⟩
      rw [hkn] at HSk ⊢
      obtain ⟨A', c', e', hK5, hc5⟩ := HSk.out.own.rowsKc
      injection e' with e1 e2 e3
      subst e1 e3
      have HR5 : Hid (RowsK w5 A4 n L (rnV u (L 0) v)) := Lib.hid (hK5.congrN (fun i hi => by have := (HO.out i hi).1; omega) (fun i t hi ht => by rw [if_pos (by omega)]; rfl))
      have Hc5 := Lib.hid hc5
      have HMX5 := Lib.hid (HMX3.out.keep HBk.out)
      have Hb5 := Lib.hid (Hb3.out.trans (HBk.out.mono Hb3.out.size))
      clear hkn hlt hk hK5 hc5 e2 HSk HBk HB4 HMX3 HS4 Hc4 hLn
      have HM := Lib.hid (MarginsN HK.out Hu.out HR5.out Hc5.out)
      go_wp2_with fail
      refine HM.out.mono ?_
      rintro e w6 ⟨A6, c6, rfl, hr6, hb6⟩
      have HR6 := Lib.hid (HR5.out.keep hb6)
      have HMX6 := Lib.hid (HMX5.out.keep hb6)
      clear HR5 HMX5
      have HMY6 := Lib.hid hr6
      have Hb6 := Lib.hid (Hb5.out.trans (hb6.mono Hb5.out.size))
      clear hb6 hr6 HM
      go_wp2_with fail
      refine (FewF (some ⟨b0, o0, none⟩) n c L v _ (H.out.below Hb6.out)).mono ?_
      rintro e w7 ⟨A7, k7, c7, rfl, hk7, hr7, hc7, hb7⟩
      have HM := Lib.hid (WidthsF (cA := c7) hr7 hk7 hc7 HK.out)
      have HR7 := Lib.hid (HR6.out.keep hb7)
      have HMX7 := Lib.hid (HMX6.out.keep hb7)
      have HMY7 := Lib.hid (HMY6.out.keep hb7)
      clear HR6 HMX6 HMY6
      have Hb7 := Lib.hid (Hb6.out.trans (hb7.mono Hb6.out.size))
      clear hk7 hr7 hc7 hb7
      go_wp2_with fail
      refine HM.out.mono ?_
      rintro e w8 ⟨A8, c8, rfl, hr8, hb8⟩
      have HR8 := Lib.hid (HR7.out.keep hb8)
      have HMX8 := Lib.hid (HMX7.out.keep hb8)
      have HMY8 := Lib.hid (HMY7.out.keep hb8)
      clear HR7 HMX7 HMY7
      have HWX8 := Lib.hid hr8
      have Hb8 := Lib.hid (Hb7.out.trans (hb8.mono Hb7.out.size))
      clear hb8 hr8 HM
      have HM := Lib.hid (WidthsN HK.out Hu.out HR8.out Hc5.out)
      go_wp2_with fail
      refine HM.out.mono ?_
      rintro e w9 ⟨A9, c9, rfl, hr9, hb9⟩
      have HR9 := Lib.hid (HR8.out.keep hb9)
      have HMX9 := Lib.hid (HMX8.out.keep hb9)
      have HMY9 := Lib.hid (HMY8.out.keep hb9)
      have HWX9 := Lib.hid (HWX8.out.keep hb9)
      clear HR8 HMX8 HMY8 HWX8
      have HWY9 := Lib.hid hr9
      have Hb9 := Lib.hid (Hb8.out.trans (hb9.mono Hb8.out.size))
      clear hb9 hr9 HM
      go_wp2_with fail
      refine (FewF (some ⟨b0, o0, none⟩) n c L v _ (H.out.below Hb9.out)).mono ?_
      rintro e w10 ⟨A10, k10, c10, rfl, hk10, hr10, hc10, hb10⟩
      have HM := Lib.hid (BestF (cA := c10) hr10 hk10 hc10 HK.out HS0.out)
      have HR10 := Lib.hid (HR9.out.keep hb10)
      have HMX10 := Lib.hid (HMX9.out.keep hb10)
      have HMY10 := Lib.hid (HMY9.out.keep hb10)
      have HWX10 := Lib.hid (HWX9.out.keep hb10)
      have HWY10 := Lib.hid (HWY9.out.keep hb10)
      clear HR9 HMX9 HMY9 HWX9 HWY9
      have Hb10 := Lib.hid (Hb9.out.trans (hb10.mono Hb9.out.size))
      clear hk10 hr10 hc10 hb10
      go_wp2_with fail
      refine Lr.use HM.out ?_
      intro w11 hb11
      have HR11 := Lib.hid (HR10.out.keep hb11)
      have HMX11 := Lib.hid (HMX10.out.keep hb11)
      have HMY11 := Lib.hid (HMY10.out.keep hb11)
      have HWX11 := Lib.hid (HWX10.out.keep hb11)
      have HWY11 := Lib.hid (HWY10.out.keep hb11)
      clear HR10 HMX10 HMY10 HWX10 HWY10
      have Hb11 := Lib.hid (Hb10.out.trans (hb11.mono Hb10.out.size))
      clear hb11 HM
      have HM := Lib.hid (BestN HK.out Hu.out HR11.out Hc5.out HT0.out)
      go_wp2_with fail
      refine Lr.use HM.out ?_
      intro w12 hb12
      have HR12 := Lib.hid (HR11.out.keep hb12)
      have HMX12 := Lib.hid (HMX11.out.keep hb12)
      have HMY12 := Lib.hid (HMY11.out.keep hb12)
      have HWX12 := Lib.hid (HWX11.out.keep hb12)
      have HWY12 := Lib.hid (HWY11.out.keep hb12)
      clear HR11 HMX11 HMY11 HWX11 HWY11
      have Hb12 := Lib.hid (Hb11.out.trans (hb12.mono Hb11.out.size))
      clear hb12 HM
      go_wp2_with fail
      refine (FewF (some ⟨b0, o0, none⟩) n c L v _ (H.out.below Hb12.out)).mono ?_
      rintro e w13 ⟨A13, k13, c13, rfl, hk13, hr13, hc13, hb13⟩
      have HM := Lib.hid (KemenyF (cA := c13) hr13 hk13 hc13 HK.out)
      have HR13 := Lib.hid (HR12.out.keep hb13)
      have HMX13 := Lib.hid (HMX12.out.keep hb13)
      have HMY13 := Lib.hid (HMY12.out.keep hb13)
      have HWX13 := Lib.hid (HWX12.out.keep hb13)
      have HWY13 := Lib.hid (HWY12.out.keep hb13)
      clear HR12 HMX12 HMY12 HWX12 HWY12
      have Hb13 := Lib.hid (Hb12.out.trans (hb13.mono Hb12.out.size))
      clear hk13 hr13 hc13 hb13
      go_wp2_with fail
      refine HM.out.mono ?_
      rintro e w14 ⟨g14, c14, rfl, -, -, -, hb14⟩
      have HR14 := Lib.hid (HR13.out.keep hb14)
      have HMX14 := Lib.hid (HMX13.out.keep hb14)
      have HMY14 := Lib.hid (HMY13.out.keep hb14)
      have HWX14 := Lib.hid (HWX13.out.keep hb14)
      have HWY14 := Lib.hid (HWY13.out.keep hb14)
      clear HR13 HMX13 HMY13 HWX13 HWY13
      have Hb14 := Lib.hid (Hb13.out.trans (hb14.mono Hb13.out.size))
      clear hb14 HM
      have HM := Lib.hid (KemenyN HK.out Hu.out HR14.out Hc5.out)
      go_wp2_with fail
      refine HM.out.mono ?_
      rintro e w15 ⟨g15, c15, rfl, hb15⟩
      have HR15 := Lib.hid (HR14.out.keep hb15)
      have HMX15 := Lib.hid (HMX14.out.keep hb15)
      have HMY15 := Lib.hid (HMY14.out.keep hb15)
      have HWX15 := Lib.hid (HWX14.out.keep hb15)
      have HWY15 := Lib.hid (HWY14.out.keep hb15)
      clear HR14 HMX14 HMY14 HWX14 HWY14
      have Hb15 := Lib.hid (Hb14.out.trans (hb15.mono Hb14.out.size))
      clear hb15 HM
      go_wp2_with fail
      refine (FewF (some ⟨b0, o0, none⟩) n c L v _ (H.out.below Hb15.out)).mono ?_
      rintro e w16 ⟨A16, k16, c16, rfl, hk16, hr16, hc16, hb16⟩
      have HM := Lib.hid ((AxisF (cA := c16) hr16 hk16 hc16 HK.out).mono (fun e w' hh => (by
        rcases hh with ⟨g, x, hx, rfl, -, -, hb⟩ | ⟨hx, rfl, hb⟩
        · exact ⟨_, by rw [HFz.out, hx]; rfl, hb⟩
        · exact ⟨_, by rw [HFz.out, hx]; rfl, hb⟩ : ∃ X, e = .returned (.tuple #[X, .int .i64 fz]) ∧ Below _ _ w')))
      have HR16 := Lib.hid (HR15.out.keep hb16)
      have HMX16 := Lib.hid (HMX15.out.keep hb16)
      have HMY16 := Lib.hid (HMY15.out.keep hb16)
      have HWX16 := Lib.hid (HWX15.out.keep hb16)
      have HWY16 := Lib.hid (HWY15.out.keep hb16)
      clear HR15 HMX15 HMY15 HWX15 HWY15
      have Hb16 := Lib.hid (Hb15.out.trans (hb16.mono Hb15.out.size))
      clear hk16 hr16 hc16 hb16
      go_wp2_with fail
      refine HM.out.mono ?_
      rintro e w17 ⟨X17, rfl, hb17⟩
      have HR17 := Lib.hid (HR16.out.keep hb17)
      have HMX17 := Lib.hid (HMX16.out.keep hb17)
      have HMY17 := Lib.hid (HMY16.out.keep hb17)
      have HWX17 := Lib.hid (HWX16.out.keep hb17)
      have HWY17 := Lib.hid (HWY16.out.keep hb17)
      clear HR16 HMX16 HMY16 HWX16 HWY16
      have Hb17 := Lib.hid (Hb16.out.trans (hb17.mono Hb16.out.size))
      clear hb17 HM
      have HM := Lib.hid ((AxisN HK.out Hu.out HR17.out Hc5.out).mono (fun e w' hh => (by
        rcases hh with ⟨hx, ⟨g, rfl⟩, hb⟩ | ⟨hx, rfl, hb⟩
        · refine ⟨.slice (some ⟨g, 0, none⟩) (L 0) (L 0), ?_, hb⟩
          cases hz : axF n L v (List.range (L 0)) with
          | none => exact absurd hz hx
          | some x => rw [HFz.out, hz]; rfl
        · exact ⟨_, by rw [HFz.out, hx]; rfl, hb⟩ : ∃ X, e = .returned (.tuple #[X, .int .i64 fz]) ∧ Below _ _ w')))
      go_wp2_with fail
      refine HM.out.mono ?_
      rintro e w18 ⟨X18, rfl, hb18⟩
      have HR18 := Lib.hid (HR17.out.keep hb18)
      have HMX18 := Lib.hid (HMX17.out.keep hb18)
      have HMY18 := Lib.hid (HMY17.out.keep hb18)
      have HWX18 := Lib.hid (HWX17.out.keep hb18)
      have HWY18 := Lib.hid (HWY17.out.keep hb18)
      clear HR17 HMX17 HMY17 HWX17 HWY17
      have Hb18 := Lib.hid (Hb17.out.trans (hb18.mono Hb17.out.size))
      clear hb18 HM
      have hdk0 := True.intro
      generalize disS n (mAll v (L 0) n) (rowF (kemL n (mAll v (L 0) n) (L 0))) (L 0) = dk at *
      have hn1 := bne_f (a := ((L 0 : Nat) : Int)) rfl
      have hn2 := bne_f (a := dk) rfl
      have hn3 := bne_f (a := fz) rfl
      have HMv : Hid (∀ a b, a < L 0 → b < L 0 → mAll (rnV u (L 0) v) (L 0) n (5 * rnN u (L 0) a + rnN u (L 0) b) = mrg v (L 0) a b n) := Lib.hid (fun a b ha hb => (ren_all HK.out Hu.out a b ha hb).trans (mAll_at hB3 ha hb n (fun i hi => (HO.out i hi).2)))
      have HWv : Hid (∀ a b, a < L 0 → b < L 0 → wT (L 0) (mAll (rnV u (L 0) v) (L 0) n) (L 0) (5 * rnN u (L 0) a + rnN u (L 0) b) = wT (L 0) (mAll v (L 0) n) (L 0) (5 * a + b)) := Lib.hid (fun a b ha hb => wid_all HK.out Hu.out ha hb)
      have HBit : Hid (∀ a, a < L 0 → bits .and .i64 ((s0 : Int) / 2 ^ a) 1 = bits .and .i64 ((t0 : Int) / 2 ^ rnN u (L 0) a) 1) := Lib.hid (fun a ha => bit_same (bst_ren hB3 Hu.out (mAll_anti HK.out) (mAll_anti (okB_rn HK.out Hu.out)) (ren_all HK.out Hu.out) HS0.out HT0.out ha))
      have hu5 := Hu.out
      go_wp2
      clear HR18 hn1 hn2 hn3 hdk0 HS0 HT0
      generalize hU1 : wT (L 0) (mAll (rnV u (L 0) v) (L 0) n) (L 0) = U1 at *
      generalize hU0 : wT (L 0) (mAll v (L 0) n) (L 0) = U0 at *
      generalize hT1 : mAll (rnV u (L 0) v) (L 0) n = T1 at *
      clear hU1 hU0 hT1
      go_loopw [194] (fun i wr => ∃ a : Nat, a ≤ L 0 ∧ i = .int .i64 a ∧ Dn w18 wr) (fun i _ => L 0 - (intOf i).toNat)
      case atStart => exact ⟨0, Nat.zero_le _, rfl, Dn.refl _⟩
      case round =>
        obtain ⟨a, ha, rfl, hD⟩ := hrel
        have HDa := Lib.hid hD
        clear hD
        by_cases hla : a < L 0
        · obtain ⟨Y, rfl⟩ : ∃ Y, Y = wr := ⟨wr, rfl⟩
          have hma := rn_mod (u := u) (c := L 0) (x := a) hu5 hla
          have hal := rnN_lt hu5 hla
          have HBa := Lib.hid (HBit.out a hla)
          have HMa := Lib.hid (fun b (hb : b < L 0) => HMv.out a b hla hb)
          have HWa := Lib.hid (fun b (hb : b < L 0) => HWv.out a b hla hb)
          generalize rnN u (L 0) a = a1 at *
          go_wp2
          go_loopw [198] (fun i wx => ∃ b : Nat, b ≤ L 0 ∧ i = .int .i64 b ∧ Dn Y wx) (fun i _ => L 0 - (intOf i).toNat)
          case atStart => exact ⟨0, Nat.zero_le _, rfl, Dn.refl _⟩
          case round =>
            obtain ⟨b, hb, rfl, hD⟩ := hrel
            have HDb := Lib.hid (HDa.out.trans hD)
            have HDy := Lib.hid hD
            clear hD
            by_cases hlb : b < L 0
            · have hmb := rn_mod (u := u) (c := L 0) (x := b) hu5 hlb
              have hbl := rnN_lt hu5 hlb
              have hMv := HMa.out b hlb
              have hWv := HWa.out b hlb
              generalize rnN u (L 0) b = b1 at *
              obtain ⟨xb, xo, X1, x1, eX, hX1, hX2⟩ := (HMX18.out.dn HDb.out).at hla
              obtain ⟨yb, yo, Y1, y1, eY, hY1, hY2⟩ := (HMY18.out.dn HDb.out).at hal
              obtain ⟨zb, zo, Z1, z1, eZ, hZ1, hZ2⟩ := (HWX18.out.dn HDb.out).at hla
              obtain ⟨ub, uo, U1', u1, eU, hU1, hU2⟩ := (HWY18.out.dn HDb.out).at hal
              subst eX eY eZ eU
              obtain ⟨p1, p2, rfl, hp⟩ := hX2.at hlb
              obtain ⟨q1, q2, rfl, hq⟩ := hY2.at hbl
              obtain ⟨r1, r2, rfl, hr⟩ := hZ2.at hlb
              obtain ⟨s1, s2, rfl, hs⟩ := hU2.at hbl
              rw [hMv] at hq
              rw [hWv] at hs
              clear hX2 hY2 hZ2 hU2 hMv hWv
              generalize mrg v (L 0) a b n = M at *
              generalize U0 (5 * a + b) = V at *
              have hbn := bne_f (a := M) rfl
              have hbn2 := bne_f (a := V) rfl
              go_wp2
              go_quiet (fail)
              go_wp2
              go_roundw
              case rel => exact ⟨b + 1, by omega, by go_num, HDy.out.drewN _⟩
              case measure => simp [intOf]; omega
            · have hbc : b = L 0 := by omega
              rw [hbc]
              have hbit := bne_f HBa.out
              clear hbc hlb hb
              go_wp2
              go_quiet (fail)
              go_wp2
              go_roundw
              case rel => exact ⟨a + 1, by omega, by go_num, HDb.out.drewN _⟩
              case measure => simp [intOf]; omega
        · have hac : a = L 0 := by omega
          rw [hac]
          clear hac hla ha
          have Hbl := Lib.hid (Hb18.out.trans (HDa.out.below _))
          go_wp2_with fail
          refine Lr.use (awake_any _) ?_
          intro y1 hy1
          have HB1 := Lib.hid (Hbl.out.trans (hy1.mono Hbl.out.size))
          clear hy1
          go_wp2
          go_ret
          exact ⟨rfl, HB1.out⟩
theorem voteNames_walk (A : Option Addr) (n c : Nat) (L : Nat → Nat) (v : Nat → Nat → Int) (q : Int) (w : World) (h : ArgR w A n c L v) (_hq : (Lit.int .i64 q).wf = true) :
    Calls Try.prog 9 #[.slice A n c, .int .i64 q] w fun e w' => e = .returned (.bool true) ∧ Below w.heap.size w w' := by
  cases hok : okBal n L v with
  | false => exact voteNames_bad A n c L v q w h hok
  | true => exact voteNames_fine A n c L v q w h hok
end Go.Proofs.Ytnobbklnnkpdfaa
