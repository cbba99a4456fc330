import Derived.Test.YtgdlkmgdljcgnaaDoorGav
import Derived.Test.YtgdlkmgdljcgnaaDoorGamesShapley
namespace Go.Proofs.YtgdlkmgdljcgnaaDoor
open Go.RowKit

set_option maxHeartbeats 1600000 in
set_option maxRecDepth 1000000 in
theorem gamesAverage_walk (A : Option Addr) (n c : Nat) (C : Nat → Int) (W : World) (h : ArgI W A n c C) (ht : Tab W) : TrueBelow 9 #[.slice A n c] W := by
  have hnm : n ≤ maxLen := Nat.le_trans h.1 h.2.1
  have H := Lib.hid h
  have Hn := Lib.hid hnm
  have HT := Lib.hid ht
  have HB := Lib.hid (Below.refl W.heap.size W)
  have HMin := Lib.hid (okC_min n C)
  have HTW := HT
  clear h ht hnm
  show Calls _ _ _ _ _
  go_enter Tryd.func9, Tryd.ntmps9
  cases hok : okC n C with
  | false =>
    have HOk := Lib.hid hok
    have HO1 := Lib.hid (show okC (min n 18) C = false by rw [HMin.out]; exact hok)
    have HP : Hid (plN n C = 0) := Lib.hid (by unfold plN; rw [hok]; rfl)
    clear hok
    go_wp2_with fail
    refine (list_any A n c C _ (H.out.below HB.out)).mono ?_
    rintro e wc ⟨v, rfl, hv, hb⟩
    obtain ⟨A1, c1, rfl, hI⟩ := hv.ints
    clear hv
    have HT := Lib.hid (HT.out.keep hb)
    have HB := Lib.hid (HB.out.trans (hb.mono HB.out.size))
    clear hb
    have HI := Lib.hid hI.2.2.2
    have HIa := Lib.hid hI
    clear hI
    go_wp2_with fail
    refine (shapley_bad A1 (min n 18) c1 C _ HI.out (by omega) HT.out HO1.out).mono ?_
    rintro e w' ⟨rfl, rfl⟩
    go_wp2_with fail
    refine (refPlayers_any A n c C _ (H.out.below HB.out).2.2.2 Hn.out).mono ?_
    rintro e w' ⟨rfl, rfl⟩
    rw [HP.out]
    go_wp2_with fail
    refine (awake_any _ HT.out).use fun wc hb => ?_
    have HI := Lib.hid (HI.out.keep hb)
    have HT := Lib.hid (HT.out.keep hb)
    have HB := Lib.hid (HB.out.trans (hb.mono HB.out.size))
    clear hb
    go_wp2
    go_ret
    exact ⟨rfl, HB.out⟩
  | true =>
    have HOk := Lib.hid hok
    obtain ⟨k, hk, hk1, hk4, hL, hL2, hL16⟩ := okC_n hok
    have HP : Hid (plN n C = k) := Lib.hid (by unfold plN; rw [hok, if_pos rfl, hk])
    have Hmn := Lib.hid (show min n 18 = n by omega)
    have Hk := Lib.hid hk
    have hne := beq_f (a := (k : Int)) (b := 0) (by omega)
    have hkk := bne_f (a := (k : Int)) rfl
    have HIs := Lib.hid (ordG_is k hk4)
    have HFac := Lib.hid (ordG_fac k hk4)
    have HFp := Lib.hid (facN_pos k hk4)
    have HSh : Hid (∀ p, p < k → sumO C k (ordG k k []) p = shP k C p n) := Lib.hid (fun p hp => by rw [hL]; exact sh_all C k p hk1 hk4 hp)
    have HBd := Lib.hid (fun l hl i => sumO_bd (C := C) hL hk4 (okC_iff.1 hok).2.2 l hl i)
    have HJb := Lib.hid (fun o (ho : isOr k (oF o) k = true) i => jnX_bd (C := C) hL hk4 ho (okC_iff.1 hok).2.2 k (Nat.le_refl _) i)
    have HOl : Hid (∀ o ∈ ordG k k [], o.length = k) := Lib.hid (by rw [← lvG_all k hk4]; exact lvG_in k hk4 k (Nat.le_refl _))
    have HAll : Hid (∀ o ∈ ordG k k [], smG (jnX C (oF o) k) k = C (n - 1)) := Lib.hid (fun o ho => by
      rw [jnX_sum (HIs.out o ho) k (Nat.le_refl _), jnS_all k hk4 o ho, ← hL, (okC_iff.1 hok).2.1]
      omega)
    have HLv := Lib.hid (lvG_all k hk4)
    have HLl := Lib.hid (lvG_len k hk4)
    have HLi := Lib.hid (lvG_in k hk4)
    have HLs : Hid (∀ j, lvG k (j + 1) = (lvG k j).flatMap (fun l => exG l k)) := Lib.hid (fun _ => rfl)
    have HC := Lib.hid (okC_iff.1 hok).2.2
    clear hok hk hL
    go_wp2_with fail
    refine (list_any A n c C _ (H.out.below HB.out)).mono ?_
    rintro e wc ⟨v, rfl, hv, hb⟩
    obtain ⟨A1, c1, rfl, hI⟩ := hv.ints
    rw [Hmn.out] at hI ⊢
    clear hv
    have HT := Lib.hid (HT.out.keep hb)
    have HB := Lib.hid (HB.out.trans (hb.mono HB.out.size))
    clear hb
    have HI := Lib.hid hI.2.2.2
    have HIa := Lib.hid hI
    clear hI
    go_wp2_with fail
    refine (shapley_ok A1 n c1 k C _ HI.out HT.out HOk.out Hk.out).mono ?_
    rintro e wx ⟨rfl, hF, hb⟩
    obtain ⟨gx, hgx⟩ : ∃ gx, gx = wc.heap.size := ⟨_, rfl⟩
    rw [← hgx] at hF ⊢
    have HF := Lib.hid hF
    have HT := Lib.hid (HT.out.keep hb)
    have HB := Lib.hid (HB.out.trans (hb.mono HB.out.size))
    clear hF hb hgx HI HIa
    go_wp2_with fail
    refine (refPlayers_any A n c C wx (H.out.below HB.out).2.2.2 Hn.out).mono ?_
    rintro e w' ⟨rfl, rfl⟩
    rw [HP.out]
    have hmk := mk_ints k (by omega) wx
    have hM := (RowI.made wx k).alloc (.cells #[.slice none 0 0] 22)
    have hB1 := (Below.refl wx.heap.size wx).alloc (Nat.le_refl _) (.cells (madeCells #[.int .i64 0] k) 3)
    have hB2 := hB1.alloc hB1.size (.cells #[.slice none 0 0] 22)
    have hh := heap_alloc_new (wx.alloc (.cells (madeCells #[.int .i64 0] k) 3)) (.cells #[.slice none 0 0] 22)
    rw [World.size_alloc] at hh
    have hLL : OwnLL ((wx.alloc (.cells (madeCells #[.int .i64 0] k) 3)).alloc (.cells #[.slice none 0 0] 22)) (wx.heap.size + 1) (.slice (some ⟨wx.heap.size + 1, 0, none⟩) 1 1) ((lvG k 0).map intG) := by
      refine ⟨[.slice none 0 0], rfl, ⟨rfl, .inr ⟨wx.heap.size + 1, 1, _, rfl, Nat.le_refl _, hh, Nat.le_refl _, by unfold maxLen; omega, rfl, rfl⟩⟩, fun i y hy => ?_⟩
      rcases i with _ | i
      · simp at hy
        subst hy
        exact OwnL.nil_ _ _
      · simp at hy
    have hsz2 : ((wx.alloc (.cells (madeCells #[.int .i64 0] k) 3)).alloc (.cells #[.slice none 0 0] 22)).heap.size = wx.heap.size + 1 + 1 := by simp
    have HWx := HB
    have HFx := HF
    have HM := Lib.hid hM
    have HLL := Lib.hid hLL
    have HF := Lib.hid (HF.out.keep hB2)
    have HT := Lib.hid (HT.out.keep hB2)
    have HB := Lib.hid (HB.out.trans (hB2.mono HB.out.size))
    have Hsz2 := Lib.hid hsz2
    clear hM hB1 hB2 hh hLL hsz2
    go_wp2_with fail
    clear hmk
    generalize ((wx.alloc (.cells (madeCells #[.int .i64 0] k) 3)).alloc (.cells #[.slice none 0 0] 22)) = W2 at *
    obtain ⟨gs, hgs⟩ : ∃ gs, gs = wx.heap.size := ⟨_, rfl⟩
    have hWgs : W.heap.size ≤ gs := by rw [hgs]; exact HWx.out.size
    have hgxs : gx < gs := by rw [hgs]; exact HFx.out.lt
    rw [← hgs] at HM HLL Hsz2 ⊢
    have hs2 := Hsz2.out
    have hgsl : gs + 1 ≤ W2.heap.size := by omega
    clear hgs hs2
    -- the orders, level by level
    go_loopw [8, 44] (fun s i wr => ∃ j : Nat, j ≤ k ∧ i = .int .i64 j ∧ OwnLL wr (gs + 1) s ((lvG k j).map intG) ∧ Below W2.heap.size W2 wr) (fun _ i _ => k - (intOf i).toNat)
    case atStart => exact ⟨0, Nat.zero_le _, rfl, HLL.out, Below.refl _ _⟩
    case round =>
      obtain ⟨j, hj, rfl, hO, hE⟩ := hrel
      have HO := Lib.hid hO
      have HE := Lib.hid hE
      clear hO hE
      by_cases hlt : j < k
      · have hR24 := HLl.out j hj
        have HRi := Lib.hid (HLi.out j hj)
        have HLs2 := Lib.hid (HLs.out j)
        generalize lvG k j = R at *
        obtain ⟨M, hM⟩ : ∃ M, M = R.length := ⟨_, rfl⟩
        obtain ⟨A8, c8, rfl⟩ := HO.out.form
        rw [List.length_map, ← hM] at HO ⊢
        rw [← hM] at hR24
        have HMl := Lib.hid hM
        clear hM
        obtain ⟨Y, rfl⟩ : ∃ Y, Y = wr := ⟨wr, rfl⟩
        go_wp2_with fail
        go_loopw [9, 48] (fun s i wx => ∃ t : Nat, t ≤ M ∧ i = .int .i64 t ∧ OL2 wx Y.heap.size (gs + 1) s (((R.take t).flatMap (fun l => exG l k)).map intG) ∧ Below Y.heap.size Y wx) (fun _ i _ => M - (intOf i).toNat)
        case atStart => exact ⟨0, Nat.zero_le _, rfl, OL2.nil_ _ _ _, Below.refl _ _⟩
        case round =>
          obtain ⟨t, ht, rfl, hN, hD⟩ := hrel
          have HN := Lib.hid hN
          have HD := Lib.hid hD
          clear hN hD
          by_cases htm : t < M
          · have htR : t < R.length := by rw [← HMl.out]; exact htm
            obtain ⟨G, cG, cp, Ap, eG, hcell, hArg⟩ := HO.out.at (p := t) (by rw [List.length_map]; exact htR)
            injection eG with eG1 eG2 eG3
            subst eG1 eG3
            rw [intG_at htR, intG_len, HRi.out _ (List.getElem_mem htR)] at hcell hArg
            have hAr : ArgI Y Ap j cp (oF R[t]) := hArg
            have hcell := (HD.out.cell (World.block_lt_of_cell? _ _ hcell)).trans hcell
            have HAr := Lib.hid hAr
            have HTk := Lib.hid (takeG (fun l => exG l k) R htR)
            have HTl : Hid (((R.take t).flatMap (fun l => exG l k)).length ≤ 96) := Lib.hid (by
              have h1 := flatG_len (fun l => exG l k) k (R.take t) (fun x _ => exG_len x k)
              have h2 : (R.take t).length ≤ 24 := by rw [List.length_take]; omega
              have h3 : k * (R.take t).length ≤ 4 * 24 := Nat.mul_le_mul hk4 h2
              omega)
            have Hll := Lib.hid (HRi.out _ (List.getElem_mem htR))
            generalize R[t] = l at *
            generalize (R.take t).flatMap (fun l => exG l k) = P at *
            obtain ⟨Z, rfl⟩ : ∃ Z, Z = wr := ⟨wr, rfl⟩
            clear hArg hAr eG2
            have hjk4 : j ≤ 3 := by omega
            go_wp2_with fail
            go_loopw [9, 53] (fun s i wx => ∃ x : Nat, x ≤ k ∧ i = .int .i64 x ∧ OL2 wx Y.heap.size (gs + 1) s ((P ++ exG l x).map intG) ∧ Below Y.heap.size Y wx) (fun _ i _ => k - (intOf i).toNat)
            case atStart => exact ⟨0, Nat.zero_le _, rfl, (by simpa [exG] using HN.out), HD.out⟩
            case round =>
              obtain ⟨x, hx, rfl, hV, hG⟩ := hrel
              have HV := Lib.hid hV
              have HG := Lib.hid hG
              have HAx := Lib.hid (HAr.out.below hG)
              clear hV hG hcell
              by_cases hxk : x < k
              · have HCt := Lib.hid (contains_any Ap j cp (oF l) (x : Int) wr HAx.out.2.2.2 (by omega))
                have hcon := rowG_has l x
                rw [Hll.out] at hcon
                go_wp2_with fail
                refine HCt.out.mono ?_
                rintro e w' ⟨rfl, rfl⟩
                rw [hcon]
                clear hcon
                cases hc : l.contains x with
                | true =>
                  have HZ := Lib.hid (exG_in hc)
                  clear hc
                  go_wp2
                  go_roundw
                  case rel => exact ⟨x + 1, by omega, by go_num, by rw [HZ.out]; exact HV.out, HG.out⟩
                  case measure => simp [intOf]; omega
                | false =>
                  have HZ := Lib.hid (exG_out hc)
                  clear hc
                  have hel := exG_len l x
                  have hgz : gs + 1 ≤ wr.heap.size := Nat.le_trans hgsl (Nat.le_trans HE.out.size HG.out.size)
                  go_wp2_with fail
                  refine (clone_any Ap j cp (oF l) wr HAx.out.2.2.2 (by omega)).mono ?_
                  rintro e w4 ⟨v4, rfl, hv4, -, hb4⟩
                  have hs4 := hb4.size
                  obtain ⟨A4, N4, c4, rfl⟩ := hv4.shape
                  have HV4 := Lib.hid hv4
                  have HB4 := Lib.hid hb4
                  clear hv4 hb4
                  go_wp2_with (at_builtin; go_loud (refine wpList_append_ints rfl (.tmp 62) (.tmp 64) rfl wr.heap.size (.slice A4 N4 c4) (lst j (oF l)) rfl (World.ownsRow.alloc HV4.out _) (some ⟨w4.heap.size, 0, none⟩) 1 1 (fun _ => (x : Int)) rfl (row1 rfl _).ints (by simp [lst_len]; omega) (by simp; omega) ?_))
                  intro v5 w5 hv5 hg5 _
                  have hbw5 : Below wr.heap.size wr w5 := (HB4.out.alloc hs4 _).grown hg5 (by simp; omega) (fun g hg => (World.ownsRow.lt HV4.out g hg).1)
                  obtain ⟨A5, N5, c5, rfl⟩ := hv5.shape
                  have HV5 := Lib.hid hv5
                  have HB5 := Lib.hid hbw5
                  have hs5 := hbw5.size
                  have HO5 := Lib.hid (HV.out.below hbw5)
                  clear hv5 hg5 hbw5
                  go_wp2_with (at_builtin; go_loud (refine wpList_append_l2 rfl (.tmp 60) (.tmp 66) rfl Y.heap.size (gs + 1) u9 (.slice A5 N5 c5) ((P ++ exG l x).map intG) (lst j (oF l) ++ lst 1 (fun _ => (x : Int))) rfl (OL2.alloc4 HO5.out _) ⟨w5.heap.size, 0, none⟩ 1 rfl (news1 _ _ _) (World.ownsRow.alloc (HV5.out.rebase hgz) _) (by rw [List.length_map, List.length_append]; have := HTl.out; omega) (by have := HG.out.size; simp; omega) ?_))
                  intro v6 w6 hv6 hg6
                  have HV6 := Lib.hid hv6
                  have hgy := HG.out.size
                  have hb6 : Below Y.heap.size Y w6 := ((HG.out.trans (HB5.out.mono hgy)).alloc (by omega) _).grown hg6 (by simp; omega) (fun g hg => HO5.out.low g hg)
                  have HB6 := Lib.hid hb6
                  have HE6 : Hid ((P ++ exG l (x + 1)).map intG = (P ++ exG l x).map intG ++ [lst j (oF l) ++ lst 1 (fun _ => (x : Int))]) := Lib.hid (by
                    rw [HZ.out, ← List.append_assoc, List.map_append]
                    have := intG_snoc l x
                    rw [Hll.out] at this
                    simp [this])
                  clear hv6 hg6 hb6
                  go_wp2
                  go_roundw
                  case rel => exact ⟨x + 1, by omega, by go_num, by have h := HV6.out; rw [HE6.out]; simpa [List.map_append, List.append_assoc] using h, HB6.out⟩
                  case measure => simp [intOf]; omega
              · obtain rfl : x = k := by omega
                go_wp2
                go_roundw
                case rel => exact ⟨t + 1, by omega, by go_num, by rw [HTk.out]; exact HV.out, HG.out⟩
                case measure => simp [intOf]; omega
          · obtain rfl : t = M := by omega
            have h1 := HN.out
            rw [List.take_of_length_le (by rw [← HMl.out]; exact Nat.le_refl _), ← HLs2.out] at h1
            have HNf := Lib.hid (h1.ll2 (Nat.le_trans hgsl HE.out.size))
            clear h1
            go_wp2
            go_roundw
            case rel => exact ⟨j + 1, by omega, by go_num, HNf.out, HE.out.trans (HD.out.mono HE.out.size)⟩
            case measure => simp [intOf]; omega
      · obtain rfl : k = j := by omega
        have hO2 := HO.out
        rw [HLv.out] at hO2
        have HF2 := Lib.hid (HF.out.keep HE.out)
        have HM2 := Lib.hid (HM.out.keep HE.out)
        have HB2 := Lib.hid (HB.out.trans (HE.out.mono HB.out.size))
        generalize ordG k k [] = ords at *
        have hlen : (ords.map intG).length = facN k := by rw [List.length_map]; exact HFac.out
        obtain ⟨A8, c8, rfl⟩ := hO2.form
        rw [hlen] at hO2 ⊢
        have HX := Lib.hid hO2
        have Hlen := Lib.hid hlen
        have hfp := HFp.out
        have HSn : Hid (∀ t (ht : t < ords.length) i, sumO C k (ords.take (t + 1)) i = sumO C k (ords.take t) i + jnX C (oF ords[t]) k i) := Lib.hid (fun t ht i => by
          rw [List.take_succ_eq_append_getElem ht, sumO_snoc])
        have HBt := Lib.hid (fun t i => HBd.out (ords.take t) (fun o ho => HIs.out o (List.mem_of_mem_take ho)) i)
        have HTl : Hid (∀ t, t ≤ facN k → (ords.take t).length = t) := Lib.hid (fun t ht => by rw [List.length_take, HFac.out]; omega)
        clear hO2 hlen hj hlt
        obtain ⟨Y, rfl⟩ : ∃ Y, Y = wr := ⟨wr, rfl⟩
        go_wp2_with fail
        go_loopw [7, 74] (fun co i wx => ∃ t : Nat, t ≤ facN k ∧ i = .int .i64 t ∧ co = .int .i64 t ∧ RowI wx gs k (fun i => sumO C k (ords.take t) i) ∧ Exc gs Y wx) (fun _ i _ => facN k - (intOf i).toNat)
        case atStart => exact ⟨0, Nat.zero_le _, rfl, rfl, HM2.out, Exc.refl _ _⟩
        case round =>
          obtain ⟨t, ht, rfl, rfl, hR, hE⟩ := hrel
          have HR := Lib.hid hR
          have HE := Lib.hid hE
          have HD := Lib.hid (HB2.out.trans (hE.below hWgs HB2.out.size))
          have HT := Lib.hid (HTW.out.keep HD.out)
          clear hR
          by_cases hlt : t < facN k
          · have htl : t < ords.length := by rw [HFac.out]; exact hlt
            obtain ⟨G, cG, cp, Ap, eG, hcell, hArg⟩ := (HX.out.exc hE (by omega)).at (p := t) (by rw [Hlen.out]; exact hlt)
            injection eG with eG1 eG2 eG3
            subst eG1 eG3
            rw [intG_at htl, intG_len, HOl.out _ (List.getElem_mem htl)] at hcell hArg
            have hAr : ArgI wr Ap k cp (oF ords[t]) := hArg
            have HAr := Lib.hid hAr
            have HIo := Lib.hid (HIs.out _ (List.getElem_mem htl))
            have HAo := Lib.hid (HAll.out _ (List.getElem_mem htl))
            have HSt := Lib.hid (HSn.out t htl)
            have HBd0 := Lib.hid (HBt.out t)
            have htt := HTl.out t ht
            rw [htt] at HBd0
            have HJb2 := Lib.hid (HJb.out _ HIo.out)
            generalize ords[t] = o at *
            obtain ⟨S0, hS0⟩ : ∃ S0 : Nat → Int, S0 = fun i => sumO C k (ords.take t) i := ⟨_, rfl⟩
            have HS0 := Lib.hid hS0
            rw [← hS0] at HR
            clear hArg hAr hE eG2 htl htt hS0
            obtain ⟨Z, rfl⟩ : ∃ Z, Z = wr := ⟨wr, rfl⟩
            go_wp2_with fail
            refine (list_any A n c C Z (H.out.below HD.out)).mono ?_
            rintro e w4 ⟨v, rfl, hv, hb⟩
            obtain ⟨A4, c4, rfl, hI⟩ := hv.ints
            rw [Hmn.out] at hI ⊢
            have HI4 := Lib.hid hI.2.2.2
            have HAr4 := Lib.hid (HAr.out.below hb)
            have HT4 := Lib.hid (HT.out.keep hb)
            have HR4 := Lib.hid (HR.out.keep hb)
            have HE4 := Lib.hid (HE.out.trans (Exc.of_below (G := gs) hb))
            clear hv hI hb hcell
            go_wp2_with fail
            refine (join_ok A4 Ap n c4 k cp k C (oF o) w4 HI4.out HAr4.out HT4.out HOk.out Hk.out HIo.out).mono ?_
            rintro e w5 ⟨rfl, hJr, hb⟩
            have HJr := Lib.hid hJr
            have HR5 := Lib.hid (HR4.out.keep hb)
            have HE5 := Lib.hid (HE4.out.trans (Exc.of_below (G := gs) hb))
            have hgw : gs < w4.heap.size := HR4.out.lt
            clear hJr hb
            obtain ⟨J, hJd⟩ : ∃ J : Nat → Int, J = jnX C (oF o) k := ⟨_, rfl⟩
            have HJd := Lib.hid hJd
            rw [← hJd] at HJr HJb2 HAo
            clear hJd
            obtain ⟨jb, hjb⟩ : ∃ jb, jb = w4.heap.size := ⟨_, rfl⟩
            rw [← hjb] at HJr hgw ⊢
            clear hjb
            have HSb := Lib.hid (fun a => smG_bd (f := J) (fun i => HJb2.out i) a)
            go_wp2_with fail
            go_loopw [17, 95] (fun al i wi => ∃ a : Nat, a ≤ k ∧ i = .int .i64 a ∧ al = .int .i64 (smG J a) ∧ RowI wi gs k (fun b => if b < a then S0 b + J b else S0 b) ∧ RowI wi jb k J ∧ Exc gs Y wi) (fun _ i _ => k - (intOf i).toNat)
            case atStart => exact ⟨0, Nat.zero_le _, rfl, rfl, HR5.out.congr (fun a _ => by rw [if_neg (by omega)]), HJr.out, HE5.out⟩
            case round =>
              obtain ⟨a, ha, rfl, rfl, hR3, hJ3, hE3⟩ := hrel
              have HR3 := Lib.hid hR3
              have HJ3 := Lib.hid hJ3
              have HE3 := Lib.hid hE3
              clear hR3 hJ3 hE3
              by_cases hal : a < k
              · have c0 := HR3.out.cell hal
                have c1 := HJ3.out.cell hal
                have f0 := HR3.out.frozen a
                rw [if_neg (Nat.lt_irrefl a)] at c0
                have b0 := HBd0.out a
                rw [show sumO C k (ords.take t) a = S0 a by rw [HS0.out]] at b0
                have b1 := HJb2.out a
                have b2 := HSb.out a
                have HC : Hid (∀ b, b < k → upd (fun b => if b < a then S0 b + J b else S0 b) a (S0 a + J a) b = if b < a + 1 then S0 b + J b else S0 b) := Lib.hid (fun b _ => by
                  unfold upd
                  by_cases h1 : b = a
                  · subst h1
                    rw [if_pos rfl, if_pos (by omega)]
                  · rw [if_neg h1]
                    by_cases h2 : b < a
                    · simp only [if_pos h2, if_pos (show b < a + 1 by omega)]
                    · simp only [if_neg h2, if_neg (show ¬ b < a + 1 by omega)])
                have HSm : Hid (smG J (a + 1) = smG J a + J a) := Lib.hid rfl
                have HSet := Lib.hid (HR3.out.set a (S0 a + J a))
                have HJset := Lib.hid (HJ3.out.setOther (a := ⟨gs, a, none⟩) (show jb ≠ gs by omega) (.int .i64 (S0 a + J a)))
                have HEset := Lib.hid (HE3.out.set a (.int .i64 (S0 a + J a)))
                have hb0a : -24000 ≤ S0 a := by omega
                have hb0b : S0 a ≤ 24000 := by omega
                have hb2a : -4000 ≤ smG J a := by omega
                have hb2b : smG J a ≤ 4000 := by omega
                obtain ⟨hb1a, hb1b⟩ := b1
                generalize S0 a = sa at *
                generalize J a = ja at *
                generalize smG J a = sm at *
                clear b0 b2
                go_wp2
                go_roundw
                case rel => exact ⟨a + 1, by omega, by go_num, by rw [HSm.out], HSet.out.congr HC.out, HJset.out, HEset.out⟩
                case measure => simp [intOf]; omega
              · obtain rfl : k = a := by omega
                rw [HAo.out]
                have HRf : Hid (RowI wr gs k (fun i => sumO C k (ords.take (t + 1)) i)) := Lib.hid (HR3.out.congr (fun b hb => by
                  rw [if_pos hb, HSt.out, HS0.out, HJd.out]))
                have HD3 := Lib.hid (HB2.out.trans (HE3.out.below hWgs HB2.out.size))
                obtain ⟨L1, hL1⟩ : ∃ L1, n - 1 = L1 := ⟨_, rfl⟩
                rw [hL1]
                have hl1 : L1 < n := by omega
                have hsub : (n : Int) - 1 = (L1 : Int) := by omega
                obtain ⟨g, o2, e2, hc⟩ := (H.out.below HD3.out).2.2.2.at hl1
                have hq := bne_f (a := C L1) rfl
                generalize C L1 = xx at *
                clear hL1
                subst e2
                go_wp2
                go_roundw
                case rel => exact ⟨t + 1, by omega, by go_num, by go_num, HRf.out, HE3.out⟩
                case measure => simp [intOf]; omega
          · obtain rfl : t = facN k := by omega
            have HRf : Hid (RowI wr gs k (fun p => shP k C p n)) := Lib.hid (HR.out.congr (fun p hp => by
              rw [← HSh.out p hp, List.take_of_length_le (by rw [HFac.out]; omega)]))
            have HFf := Lib.hid (HF2.out.exc HE.out (show gx ≠ gs by omega))
            have HBp : Hid (∀ p, p < k → -24000 ≤ shP k C p n ∧ shP k C p n ≤ 24000) := Lib.hid (fun p hp => by
              have := HBd.out ords HIs.out p
              rw [HFac.out, HSh.out p hp] at this
              omega)
            have HSf : Hid (∀ p, rN (shP k C p n) (facN k : Nat) = shF k n C p 0 ∧ rD (shP k C p n) (facN k : Nat) = shF k n C p 1) := Lib.hid (fun p => ⟨rfl, rfl⟩)
            obtain ⟨fn, hfn⟩ : ∃ fn, fn = facN k := ⟨_, rfl⟩
            rw [← hfn] at hfp HSf ⊢
            clear hE hfn HR
            obtain ⟨Z, rfl⟩ : ∃ Z, Z = wr := ⟨wr, rfl⟩
            go_wp2_with fail
            go_loopw [123] (fun i wi => ∃ p : Nat, p ≤ k ∧ i = .int .i64 p ∧ Below Z.heap.size Z wi) (fun i _ => k - (intOf i).toNat)
            case atStart => exact ⟨0, Nat.zero_le _, rfl, Below.refl _ _⟩
            case round =>
              obtain ⟨p, hp, rfl, hbel⟩ := hrel
              have HBl := Lib.hid hbel
              clear hbel
              by_cases hpl : p < k
              · have hc := (HRf.out.keep HBl.out).cell hpl
                have hx0 := (HFf.out.keep HBl.out).cell0 hpl
                have hx1 := (HFf.out.keep HBl.out).cell1 hpl
                have hb := HBp.out p hpl
                have hsf := HSf.out p
                have HRed := Lib.hid (fun w => ofF_any (shP k C p n) (fn : Int) (by omega) (by omega) (by omega) w)
                rw [hsf.1, hsf.2] at HRed
                have hcmp := fun w => cmpF (shF k n C p 0) (shF k n C p 1) (shF k n C p 0) (shF k n C p 1) w
                have ek : (!(decide (shF k n C p 0 = shF k n C p 0) && decide (shF k n C p 1 = shF k n C p 1))) = false := by simp
                rw [ek] at hcmp
                generalize shF k n C p 0 = x0 at *
                generalize shF k n C p 1 = x1 at *
                generalize shP k C p n = sp at *
                have k0 : ∀ q : Later wr, q.to.cell? ⟨gs, p, none⟩ = some (.int .i64 sp) := fun q => q.cell hc
                have k1 : ∀ q : Later wr, q.to.cell? ⟨gx, p * 2, none⟩ = some (.int .i64 x0) := fun q => q.cell hx0
                have k2 : ∀ q : Later wr, q.to.cell? ⟨gx, p * 2 + 1, none⟩ = some (.int .i64 x1) := fun q => q.cell hx1
                clear hsf hb ek
                go_wp2_with fail
                refine wp_region_later (by kernel_rfl) (by kernel_rfl) ?_
                repeat
                  (with_reducible refine wpQuiet_step ?_
                   intro K hK
                   go_simp
                   first
                     | (refine hK _ ?_; clear hK K)
                     | (apply Exists.intro
                        refine ⟨fun _ => ?_, hK _ ?_⟩
                        (first | (go_at_call 41; exact Lr.later (HRed.out _)))
                        clear hK K))
                with_reducible refine wpQuiet_nil ?_
                intro _ hw'
                obtain ⟨p2, hw''⟩ := hw'
                subst hw''
                have HB3 := Lib.hid (HBl.out.trans (p2.below.mono HBl.out.size))
                clear k0 k1 k2
                go_wp2
                go_roundw
                case rel => exact ⟨p + 1, by omega, by go_num, HB3.out⟩
                case measure => simp [intOf]; omega
              · have HDe := Lib.hid (HD.out.trans (HBl.out.mono HD.out.size))
                have HTe := Lib.hid (HTW.out.keep HDe.out)
                go_wp2_with fail
                refine (awake_any _ HTe.out).use fun w9 hb9 => ?_
                have HB9 := Lib.hid (HDe.out.trans (hb9.mono HDe.out.size))
                clear hb9
                go_wp2
                go_ret
                exact ⟨rfl, HB9.out⟩
end Go.Proofs.YtgdlkmgdljcgnaaDoor
