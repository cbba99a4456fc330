/- The reference: Chances. -/
import Derived.Test.YtocfbafcplhmiaaUtc
namespace Go.Proofs.Ytocfbafcplhmiaa
open Go.RowKit

theorem orders_rowsB {w : World} {bo br n : Nat} {x : Value} (hn1 : 1 ≤ n) (h : OL2 w bo br x ((ordL (List.range n) n []).map intG)) : ∃ A c, x = .slice A (ordL (List.range n) n []).length c ∧ ∀ i, i < (ordL (List.range n) n []).length → ∃ g h c', A = some ⟨g, 0, none⟩ ∧ bo ≤ g ∧ w.cell? ⟨g, i, none⟩ = some (.slice (some ⟨h, 0, none⟩) n c') ∧ br ≤ h ∧ ∀ j, j < n → w.cell? ⟨h, j, none⟩ = some (.int .i64 (rN ((ordL (List.range n) n []).getD i []) j : Int)) := by
  obtain ⟨vals, h1, h2, h3⟩ := h
  rw [List.length_map] at h1 h2
  have hv : ∀ i y, vals[i]? = some y → OwnL w br y (lst n (rowF ((ordL (List.range n) n []).getD i []))) := fun i y hy => by
    have hi : i < (ordL (List.range n) n []).length := by rw [← h1]; exact (List.getElem?_eq_some_iff.1 hy).1
    have := h3 i y hy
    have e : ((ordL (List.range n) n []).map intG).getD i [] = lst n (rowF ((ordL (List.range n) n []).getD i [])) := by
      have hmem : (ordL (List.range n) n [])[i] ∈ ordL (List.range n) n [] := List.getElem_mem hi
      have hl := (pm_of_mem hmem).1
      rw [List.getD_eq_getElem?_getD, List.getElem?_map, List.getElem?_eq_getElem hi, Option.map_some, Option.getD_some, List.getD_eq_getElem?_getD, List.getElem?_eq_getElem hi, Option.getD_some]
      apply List.ext_getElem
      · simp [intG, lst, hl]
      · intro k k1 k2
        simp [intG, lst, rowF, List.getD_eq_getElem?_getD, hl] at k1 ⊢
        rw [List.getElem?_eq_getElem (by omega), Option.getD_some]
    rw [e] at this
    exact this
  have h0 := h2
  rcases h0.2 with ⟨rfl, hn⟩ | ⟨g, cap, cur, rfl, hg, -⟩
  · exact ⟨none, 0, by rw [hn], fun i hi => absurd hi (by omega)⟩
  · refine ⟨some ⟨g, 0, none⟩, cap, rfl, fun i hi => ?_⟩
    have hx : vals[i]? = some vals[i] := List.getElem?_eq_getElem (by omega)
    have hO := hv i _ hx
    have hO' := hO
    unfold OwnL at hO'
    rw [lst_len] at hO'
    have hc := World.ownsRow.cellAt h2 i (by omega)
    rcases hO'.2 with ⟨-, hz⟩ | ⟨h, c', cur', e, hh, -⟩
    · omega
    · rw [hx, e] at hc
      rw [e] at hO'
      refine ⟨g, h, c', rfl, hg, hc, hh, fun j hj => ?_⟩
      rw [World.ownsRow.cellAt hO' j (by omega), List.getElem?_map]
      have hl : j < (lst n (rowF ((ordL (List.range n) n []).getD i []))).length := by rw [lst_len]; exact hj
      rw [List.getElem?_eq_getElem hl, Option.map_some]
      have := lst_getD n (rowF ((ordL (List.range n) n []).getD i [])) j hj
      rw [List.getD_eq_getElem?_getD, List.getElem?_eq_getElem hl, Option.getD_some] at this
      rw [this]
      rfl
set_option maxHeartbeats 4000000 in
set_option maxRecDepth 1000000 in
theorem refChances_any (A : Option Addr) (n c : Nat) (t : Nat → Nat → Nat) (w : World) (hw : Wis w A n t) (hn1 : 1 ≤ n) (hn : n ≤ 5) (ht : ∀ i, i < n → Pm n (t i)) :
    Calls Try.prog 41 #[.slice A n c] w fun e w' => ∃ g cap R, e = .returned (.slice (some ⟨g, 0, none⟩) n cap) ∧ MatR w' g R n (chN t n) ∧ Below w.heap.size w w' := by
  have HW := Lib.hid hw
  have HT := Lib.hid ht
  have hN := ordL_lenU n hn
  have HPm := Lib.hid (fun i => ordL_at (n := n) (i := i))
  have HRw := Lib.hid (fun w bo br x h => orders_rowsB (w := w) (bo := bo) (br := br) (n := n) (x := x) hn1 h)
  have HOr := Lib.hid (fun w => refOrders n hn w)
  have HTb := Lib.hid (table_any n hn1 hn w)
  have HU : Hid (chN t n = cnU (fun x => chF t n (rN x)) (ordL (List.range n) n [])) := Lib.hid rfl
  rw [HU.out]
  have HSn : Hid (∀ k, k < (ordL (List.range n) n []).length → ∀ i j, cnU (fun x => chF t n (rN x)) ((ordL (List.range n) n []).take (k + 1)) i j = cnU (fun x => chF t n (rN x)) ((ordL (List.range n) n []).take k) i j + if (fun x => chF t n (rN x)) ((ordL (List.range n) n []).getD k []) i = j then 1 else 0) := Lib.hid (fun k hk i j => by
    have e : (ordL (List.range n) n []).take (k + 1) = (ordL (List.range n) n []).take k ++ [(ordL (List.range n) n []).getD k []] := by
      rw [List.take_succ_eq_append_getElem hk, List.getD_eq_getElem?_getD, List.getElem?_eq_getElem hk, Option.getD_some]
    rw [e, cnU_snoc])
  have HLe : Hid (∀ k i j, cnU (fun x => chF t n (rN x)) ((ordL (List.range n) n []).take k) i j ≤ 3125) := Lib.hid (fun k i j => Nat.le_trans (cnU_le _ _ _ _) (Nat.le_trans (by rw [List.length_take]; omega) hN))
  have HEnd : Hid (cnU (fun x => chF t n (rN x)) ((ordL (List.range n) n []).take (ordL (List.range n) n []).length) = cnU (fun x => chF t n (rN x)) (ordL (List.range n) n [])) := Lib.hid (by rw [List.take_length])
  have HZ : Hid (∀ i j, cnU (fun x => chF t n (rN x)) ((ordL (List.range n) n []).take 0) i j = 0) := Lib.hid (fun i j => by rw [List.take_zero]; rfl)
  clear hw ht HU
  generalize ordL (List.range n) n [] = ls at *
  obtain ⟨N, hNe⟩ : ∃ N, N = ls.length := ⟨_, rfl⟩
  rw [← hNe] at hN HPm HRw HSn HEnd
  clear hNe
  generalize hcu : (fun k => cnU (fun x => chF t n (rN x)) (ls.take k)) = cu at *
  have HCu : Hid (∀ k, cnU (fun x => chF t n (rN x)) (ls.take k) = cu k) := Lib.hid (fun k => by rw [← hcu])
  simp only [HCu.out] at HSn HLe HEnd HZ
  generalize cnU (fun x => chF t n (rN x)) ls = cN at *
  clear hcu HCu
  go_enter Try.func41, Try.ntmps41
  go_wp2_with fail
  refine HTb.out.mono ?_
  rintro e w1 ⟨g, cap, R, rfl, hM1, hRl, hgl, hb1⟩
  have HM1 := Lib.hid hM1
  have HB1 := Lib.hid hb1
  have HOr1 := Lib.hid (HOr.out w1)
  have HRw0 := Lib.hid hRl
  clear hM1 hb1 HTb HOr hRl hgl
  go_wp2_with fail
  refine HOr1.out.mono ?_
  rintro e w2 ⟨x0, rfl, hx, hb2⟩
  obtain ⟨A1, c1, rfl, hr2⟩ := HRw.out _ _ _ _ hx
  have HR2 := Lib.hid hr2
  have HM2 := Lib.hid (HM1.out.keep hb2)
  have hRs : ∀ i, i < n → R i < w1.heap.size := fun i hi => World.rowIs.lt (HM1.out.row i hi)
  have HRs := Lib.hid hRs
  have HB2 := Lib.hid (HB1.out.trans (hb2.mono HB1.out.size))
  have hs12 := hb2.size
  clear hx hb2 hr2 HOr1 HRw hRs HM1
  go_wp2_with fail
  go_loopw [15] (fun i wr => ∃ k : Nat, k ≤ N ∧ i = .int .i64 k ∧ MatR wr g R n (cu k) ∧ (∀ b, (∀ i, i < n → R i ≠ b) → b < w2.heap.size → wr.heap[b]? = w2.heap[b]?) ∧ w2.heap.size ≤ wr.heap.size ∧ Below w.heap.size w wr) (fun i _ => N - (intOf i).toNat)
  case atStart => exact ⟨0, Nat.zero_le _, rfl, HM2.out.congr (fun i j _ _ => (HZ.out i j).symm), fun _ _ _ => rfl, Nat.le_refl _, HB2.out⟩
  case round =>
    obtain ⟨k, hk, rfl, hm, hkb, hsz, hB⟩ := hrel
    clear HM2 HB2
    have HM := Lib.hid hm
    have HKb := Lib.hid hkb
    have HB := Lib.hid hB
    clear hm hkb hB
    by_cases hlt : k < N
    · obtain ⟨go, h, c', rfl, hgo, hc0, hh, hcs⟩ := HR2.out k hlt
      have hgs : go < w2.heap.size := World.block_lt_of_cell? _ _ hc0
      have hc : wr.cell? ⟨go, k, none⟩ = some (.slice (some ⟨h, 0, none⟩) n c') := cell_of_block (HKb.out _ (fun i hi e => by have h7 : R i = go := e; have := HRs.out i hi; omega) hgs) hc0
      have hir : Ints wr (some ⟨h, 0, none⟩) n (fun q => (rN (ls.getD k []) q : Int)) := fun _ => ⟨h, 0, rfl, fun j hj => by
        rw [Nat.zero_add]
        have e := hcs j hj
        exact cell_of_block (HKb.out _ (fun i hi e2 => by have h7 : R i = h := e2; have := HRs.out i hi; omega) (World.block_lt_of_cell? _ _ e)) e⟩
      have hpm := HPm.out k hlt
      have HFl := Lib.hid (chF_pm hn HT.out hpm).lt
      have HCh := Lib.hid (refChoose_any A n c t (some ⟨h, 0, none⟩) c' (rN (ls.getD k [])) wr (HW.out.keep HB.out) hir hn HT.out hpm)
      obtain ⟨fo, hfo⟩ : ∃ fo, fo = (chF t n (rN (ls.getD k []))) := ⟨_, rfl⟩
      have HSk : Hid (∀ i j, cu (k + 1) i j = cu k i j + if fo i = j then 1 else 0) := Lib.hid (fun i j => by rw [hfo]; exact HSn.out k hlt i j)
      rw [← hfo] at HFl HCh
      clear hfo
      have HLk := Lib.hid (HLe.out k)
      clear hir hpm hcs hc0
      go_wp2_with fail
      refine HCh.out.mono ?_
      rintro e w3 ⟨B3, rfl, hB3, hR3, hb3⟩
      have HR3 := Lib.hid hR3
      have HM3 := Lib.hid (HM.out.keep hb3)
      have HKb3 : Hid (∀ b, (∀ i, i < n → R i ≠ b) → b < w2.heap.size → w3.heap[b]? = w2.heap[b]?) := Lib.hid (fun b h1 h2 => (hb3.block b (by omega)).trans (HKb.out b h1 h2))
      have HB3 := Lib.hid (HB.out.trans (hb3.mono HB.out.size))
      have hs3 := hb3.size
      have hB3l := World.rowIs.lt hR3
      have HRB : Hid (∀ i, i < n → R i ≠ B3) := Lib.hid (fun i hi e => by have := HRs.out i hi; omega)
      clear hR3 hb3 HCh HM HKb HB hc
      go_wp2_with fail
      go_loopw [23] (fun i wx => ∃ q : Nat, q ≤ n ∧ i = .int .i64 q ∧ MatR wx g R n (fun a b => cu k a b + if a < q ∧ fo a = b then 1 else 0) ∧ wx.heap.size = w3.heap.size ∧ (∀ b, (∀ i, i < n → R i ≠ b) → b < w3.heap.size → wx.heap[b]? = w3.heap[b]?) ∧ Below w.heap.size w wx) (fun i _ => n - (intOf i).toNat)
      case atStart => exact ⟨0, Nat.zero_le _, rfl, HM3.out.congr (fun a b _ _ => by simp), rfl, fun _ _ _ => rfl, HB3.out⟩
      case round =>
        obtain ⟨q, hq, rfl, hm, hsx, hbl, hbe⟩ := hrel
        have HM := Lib.hid hm
        have HSx := Lib.hid hsx
        have HBl := Lib.hid hbl
        have HBe := Lib.hid hbe
        clear hm hsx hbl hbe
        by_cases hqn : q < n
        · have hfq := HFl.out q hqn
          have hr := RowI.cell (World.rowIs.of_block HR3.out (HBl.out B3 HRB.out hB3l)) hqn
          have hm1 := HM.out.cell q hqn
          have hm2 := (HM.out.row q hqn).cell hfq
          have hz2 := (HM.out.row q hqn).frozen (fo q)
          rw [if_neg (fun h => Nat.lt_irrefl q h.1), Nat.add_zero] at hm2
          have hcb := HLk.out q (fo q)
          have HSet := Lib.hid (HM.out.set hqn (fo q) (cu k q (fo q) + 1))
          have hE2 : Exc (R q) wr (wr.setCell ⟨R q, fo q, none⟩ (.int .i64 ((cu k q (fo q) + 1 : Nat) : Int))) := (Exc.refl _ _).set _ _
          have HE2 := Lib.hid hE2
          have hwR : w.heap.size ≤ R q := HRw0.out q hqn
          clear hE2
          go_wp2
          go_roundw
          case rel =>
            refine ⟨q + 1, by omega, by go_num, HSet.out.congr (fun a b ha hb => ?_), ?_, fun b h1 h2 => ?_, HBe.out.trans (HE2.out.below hwR HBe.out.size)⟩
            · by_cases e : a = q ∧ b = fo q
              · obtain ⟨rfl, rfl⟩ := e
                rw [if_pos ⟨rfl, rfl⟩, if_pos ⟨by omega, rfl⟩]
              · rw [if_neg e]
                congr 1
                by_cases e2 : a < q ∧ fo a = b
                · rw [if_pos e2, if_pos ⟨by omega, e2.2⟩]
                · rw [if_neg e2, if_neg]
                  rintro ⟨h1, h2⟩
                  by_cases e3 : a = q
                  · exact e ⟨e3, by rw [← h2, e3]⟩
                  · exact e2 ⟨by omega, h2⟩
            · rw [World.size_setCell]; exact HSx.out
            · exact (HE2.out.block b (by rw [HSx.out]; exact h2) (fun e => h1 q hqn (by injection e with e; exact e.symm))).trans (HBl.out b h1 h2)
          case measure => simp [intOf]; omega
        · obtain rfl : q = n := by omega
          have hM5 : MatR wr g R q (cu (k + 1)) := HM.out.congr (fun a b ha _ => by
            rw [HSk.out a b]
            by_cases e : fo a = b
            · rw [if_pos ⟨ha, e⟩, if_pos e]
            · rw [if_neg (fun h => e h.2), if_neg e])
          have HM5 := Lib.hid hM5
          clear hM5
          go_wp2
          go_roundw
          case rel => exact ⟨k + 1, by omega, by go_num, HM5.out, fun b h1 h2 => (HBl.out b h1 (by omega)).trans (HKb3.out b h1 h2), by rw [HSx.out]; omega, HBe.out⟩
          case measure => simp [intOf]; omega
    · obtain rfl : k = N := by omega
      go_wp2
      go_ret
      exact ⟨g, cap, R, rfl, by rw [← HEnd.out]; exact HM.out, HB.out⟩
end Go.Proofs.Ytocfbafcplhmiaa
