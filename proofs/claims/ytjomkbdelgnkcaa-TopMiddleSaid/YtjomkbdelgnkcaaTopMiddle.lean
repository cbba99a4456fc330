/- The law TopMiddle, walked. -/
import Derived.Test.YtjomkbdelgnkcaaTa
import Derived.Test.YtjomkbdelgnkcaaLl
import Derived.Test.YtjomkbdelgnkcaaRv
import Derived.Test.YtjomkbdelgnkcaaHo
import Derived.Test.YtjomkbdelgnkcaaBo
import Derived.Test.YtjomkbdelgnkcaaMd
import Derived.Test.YtjomkbdelgnkcaaShelf
namespace Go.Proofs.Ytjomkbdelgnkcaa
open Go.RowKit

/-- What slices.Sort leaves of a row of the call's own. -/
theorem sort_own {w w' : World} {base g cap k : Nat} {os : Array Obj} {xs ys : List Int} (h : OwnL w base (.slice (some ⟨g, 0, none⟩) xs.length cap) xs) (hy : ys.length = xs.length)
    (hw : w' = Go.Sort.grow (Go.Sort.putRow (Value.int .i64) (Go.Sort.ahead w k) g 0 ys.toArray) os) : OwnL w' base (.slice (some ⟨g, 0, none⟩) ys.length cap) ys ∧ Exc g w w' := by
  have hlt := (World.ownsRow.lt h g rfl).2
  rcases h.2 with ⟨e, _⟩ | ⟨g', cap', cur, e, hb, hh, hn, hc, hs, ht⟩
  · cases e
  injection e with e1 e2 e3
  injection e1 with e1
  injection e1 with e4 e5
  subst e4 e3
  have hheap : w'.heap = (w.heap.modify g (Go.Sort.onCells (Go.Sort.putCells (Value.int .i64) 0 ys.toArray))) ++ os := by
    rw [hw]
    rfl
  have hg : w'.heap[g]? = some (.cells (Go.Sort.putCells (Value.int .i64) 0 ys.toArray cur) 3 (0, 0)) := by
    rw [hheap, Array.getElem?_append_left (by simpa using hlt), Array.getElem?_modify, if_pos rfl, hh]
    rfl
  refine ⟨⟨by simp, .inr ⟨g, cap, _, rfl, hb, hg, by omega, hc, by simp [Go.Sort.putCells, hs], ?_⟩⟩, ⟨by rw [hw]; rfl, by rw [hw]; rfl, by rw [hw]; rfl, by rw [hheap]; simp, fun j hj hne => ?_⟩⟩
  · apply List.ext_getElem?
    intro j
    rcases Nat.lt_or_ge j ys.length with hj | hj
    · have hjc : j < cur.size := by omega
      rw [Nat.mul_one, List.getElem?_take_of_lt hj, Array.getElem?_toList, List.getElem?_map, List.getElem?_eq_getElem hj]
      simp only [Go.Sort.putCells, Array.getElem?_mapIdx, Array.getElem?_eq_getElem hjc, Option.map_some]
      rw [if_pos ⟨by omega, by simpa using hj⟩]
      simp [hj]
    · rw [List.getElem?_eq_none (by simp; omega), List.getElem?_eq_none (by simp; omega)]
  · rw [hheap, Array.getElem?_append_left (by simpa using hj), Array.getElem?_modify, if_neg (fun e => hne (by rw [e]))]


set_option maxHeartbeats 2000000 in
set_option maxRecDepth 1000000 in
theorem topMiddle_bad (A : Option Addr) (n c : Nat) (L : Nat → Nat) (v : Nat → Nat → Int) (w : World) (h : ArgR w A n c L v) (hok : okBal n L v = false) :
    Calls Try.prog 3 #[.slice A n c] w fun e w' => e = .returned (.bool true) ∧ Below w.heap.size w w' := by
  have H := Lib.hid h
  have HK := Lib.hid hok
  clear h hok
  go_enter Try.func3, Try.ntmps3
  go_wp2_with fail
  refine (ballotsF A n c L v _ H.out).mono ?_
  rintro e w1 ⟨A1, k1, c1, rfl, hk1, hr1, hc1, hb1⟩
  have HM := Lib.hid (AxisFbad (cA := c1) hr1 hk1 HK.out)
  have Hb1 := Lib.hid hb1
  clear hk1 hr1 hc1 hb1
  go_wp2_with fail
  refine Lr.use HM.out ?_
  intro w2 hb2
  have Hb2 := Lib.hid (Hb1.out.trans (hb2.mono Hb1.out.size))
  clear hb2 HM
  go_wp2_with fail
  refine Lr.use (counts_any _) ?_
  intro w6 hb6
  have Hb6 := Lib.hid (Hb2.out.trans (hb6.mono Hb2.out.size))
  clear hb6
  go_wp2
  go_ret
  exact ⟨rfl, Hb6.out⟩

set_option maxHeartbeats 2000000 in
set_option maxRecDepth 1000000 in
theorem topMiddle_none (A : Option Addr) (n c : Nat) (L : Nat → Nat) (v : Nat → Nat → Int) (w : World) (h : ArgR w A n c L v) (hok : okBal n L v = true) (hx : axF n L v (List.range (L 0)) = none) :
    Calls Try.prog 3 #[.slice A n c] w fun e w' => e = .returned (.bool true) ∧ Below w.heap.size w w' := by
  have H := Lib.hid h
  have HK := Lib.hid hok
  have HX := Lib.hid hx
  clear hx
  clear h hok
  go_enter Try.func3, Try.ntmps3
  go_wp2_with fail
  refine (ballotsF A n c L v _ H.out).mono ?_
  rintro e w1 ⟨A1, k1, c1, rfl, hk1, hr1, hc1, hb1⟩
  have HM := Lib.hid (AxisF (cA := c1) hr1 hk1 hc1 HK.out)
  have Hb1 := Lib.hid hb1
  clear hk1 hr1 hc1 hb1
  go_wp2_with fail
  refine HM.out.mono ?_
  rintro e w2 (⟨g, x, hx, rfl, hg, hR, hb2⟩ | ⟨hx, rfl, hb2⟩)
  · rw [HX.out] at hx
    cases hx
  have Hb2 := Lib.hid (Hb1.out.trans (hb2.mono Hb1.out.size))
  clear hb2 HM hx
  go_wp2_with fail
  refine Lr.use (counts_any _) ?_
  intro w6 hb6
  have Hb6 := Lib.hid (Hb2.out.trans (hb6.mono Hb2.out.size))
  clear hb6
  go_wp2
  go_ret
  exact ⟨rfl, Hb6.out⟩

set_option maxHeartbeats 2000000 in
set_option maxRecDepth 1000000 in
theorem topMiddle_even (A : Option Addr) (n c : Nat) (L : Nat → Nat) (v : Nat → Nat → Int) (w : World) (h : ArgR w A n c L v) (hok : okBal n L v = true) (hev : n % 2 = 0) :
    Calls Try.prog 3 #[.slice A n c] w fun e w' => e = .returned (.bool true) ∧ Below w.heap.size w w' := by
  have H := Lib.hid h
  have HK := Lib.hid hok
  have hnn : n ≤ 9 := (okBal_iff.1 hok).1.2
  have hev2 : Int.tmod (n : Int) 2 = 0 := by rw [Int.tmod_eq_emod_of_nonneg (by omega)]; omega
  have HV : Hid (∀ w' : World, Below w.heap.size w w' → Ro 8 #[.slice A n c] w' (.bool true)) := Lib.hid (fun w' hb => by
    have := validR_any A n c L v w' (H.out.below hb)
    rwa [HK.out] at this)
  clear hev
  clear h hok
  go_enter Try.func3, Try.ntmps3
  go_wp2_with fail
  refine (ballotsF A n c L v _ H.out).mono ?_
  rintro e w1 ⟨A1, k1, c1, rfl, hk1, hr1, hc1, hb1⟩
  have HM := Lib.hid (AxisF (cA := c1) hr1 hk1 hc1 HK.out)
  have Hb1 := Lib.hid hb1
  clear hk1 hr1 hc1 hb1
  go_wp2_with fail
  refine HM.out.mono ?_
  rintro e w2 (⟨g, x, hx, rfl, hg, hR, hb2⟩ | ⟨hx, rfl, hb2⟩)
  · have Hb2 := Lib.hid (Hb1.out.trans (hb2.mono Hb1.out.size))
    clear hb2 HM hx
    go_wp2_with fail
    refine Ro.use (HV.out _ Hb2.out) ?_
    intro w3 hd3
    have Hb3 := Lib.hid (Hb2.out.trans (hd3.below _))
    clear hd3
    go_wp2_with fail
    refine Lr.use (counts_any _) ?_
    intro w6 hb6
    have Hb6 := Lib.hid (Hb3.out.trans (hb6.mono Hb3.out.size))
    clear hb6
    go_wp2
    go_ret
    exact ⟨rfl, Hb6.out⟩
  · have Hb2 := Lib.hid (Hb1.out.trans (hb2.mono Hb1.out.size))
    clear hb2 HM hx
    go_wp2_with fail
    refine Lr.use (counts_any _) ?_
    intro w6 hb6
    have Hb6 := Lib.hid (Hb2.out.trans (hb6.mono Hb2.out.size))
    clear hb6
    go_wp2
    go_ret
    exact ⟨rfl, Hb6.out⟩

set_option maxHeartbeats 4000000 in
set_option maxRecDepth 1000000 in
theorem topMiddle_main (A : Option Addr) (n c : Nat) (L : Nat → Nat) (v : Nat → Nat → Int) (w : World) (h : ArgR w A n c L v) (hok : okBal n L v = true) (hodd : n % 2 = 1) (x : List Nat) (hx : axF n L v (List.range (L 0)) = some x) :
    Calls Try.prog 3 #[.slice A n c] w fun e w' => e = .returned (.bool true) ∧ Below w.heap.size w w' := by
  have H := Lib.hid h
  have HK := Lib.hid hok
  have HX := Lib.hid hx
  obtain ⟨⟨hB1, hB9⟩, ⟨hB2, hB3⟩, hB4⟩ := okBal_iff.1 hok
  obtain ⟨hOx, hPx⟩ := axF_some hx
  have HOx := Lib.hid hOx
  have HO := Lib.hid hB4
  have hev2 : Int.tmod (n : Int) 2 = 1 := by rw [Int.tmod_eq_emod_of_nonneg (by omega)]; omega
  have hhalf : Int.tdiv (n : Int) 2 = ((n / 2 : Nat) : Int) := by rw [Int.tdiv_eq_ediv_of_nonneg (by omega)]; omega
  have HPk : Hid (∀ i, i < n → ∃ p : Nat, p < L 0 ∧ pkP (rowF x) v (L 0) i = (p : Int)) := Lib.hid (fun i hi => by
    obtain ⟨p, hp, e, -⟩ := pkP_lt hB2 hOx (hB4 i hi).2
    exact ⟨p, hp, e⟩)
  have HMid : Hid (∃ m : Nat, m < L 0 ∧ (sortZ n (pkP (rowF x) v (L 0))).getD (n / 2) 0 = (m : Int) ∧ IsMid n (L 0) v (rowF x) m) := Lib.hid (by
    have hl := sortZ_len n (pkP (rowF x) v (L 0))
    have hlt : n / 2 < (sortZ n (pkP (rowF x) v (L 0))).length := by omega
    have hmem : (sortZ n (pkP (rowF x) v (L 0)))[n / 2] ∈ lst n (pkP (rowF x) v (L 0)) := (sortZ_perm n _).mem_iff.1 (List.getElem_mem hlt)
    obtain ⟨j, hj, ej⟩ := List.getElem_of_mem hmem
    rw [lst_len] at hj
    have e2 := lst_get n (pkP (rowF x) v (L 0)) j hj
    rw [List.getElem?_eq_getElem (by rw [lst_len]; exact hj)] at e2
    injection e2 with e2
    obtain ⟨p, hp, e⟩ := HPk.out j hj
    have hgd : (sortZ n (pkP (rowF x) v (L 0))).getD (n / 2) 0 = (p : Int) := by
      have : (sortZ n (pkP (rowF x) v (L 0))).getD (n / 2) 0 = (sortZ n (pkP (rowF x) v (L 0)))[n / 2] := by simp [List.getD, hlt]
      rw [this, ← ej, e2, e]
    exact ⟨p, hp, hgd, mid_sorted hodd (sortZ_perm n _) (sortZ_up n _) hgd hp⟩)
  obtain ⟨m, hmL, hmg, hmid⟩ := HMid.out
  have r1 := hOx.rng m hmL
  obtain ⟨y, hy, hyL⟩ : ∃ y : Nat, rowF x m = (y : Int) ∧ y < L 0 := ⟨(rowF x m).toNat, by omega, by omega⟩
  have hw := mid_wins hok rfl hOx hPx hmid
  have hf := mid_first hok rfl hOx hPx hmid
  have e0 : (rowF x m).toNat = y := by omega
  rw [e0] at hw hf
  rw [hy] at hf
  have HY := Lib.hid hy
  have HMg := Lib.hid hmg
  have HW1 := Lib.hid hw.2.1
  have HW2 := Lib.hid hw.2.2
  have HBs := Lib.hid hf.1
  have HKf := Lib.hid hf.2
  have HV : Hid (∀ w' : World, Below w.heap.size w w' → Ro 8 #[.slice A n c] w' (.bool true)) := Lib.hid (fun w' hb => by
    have := validR_any A n c L v w' (H.out.below hb)
    rwa [HK.out] at this)
  have HInj : Hid (∀ i, i < n → L i = L 0) := Lib.hid (fun i hi => (hB4 i hi).1)
  have HRg : Hid (∀ i, i < n → 0 ≤ v i 0 ∧ v i 0 < (L 0 : Int)) := Lib.hid (fun i hi => (hB4 i hi).2.rng 0 hB2)
  clear h hok hx hB4 hOx hPx HMid hmg hmid hw hf e0 hy r1
  go_enter Try.func3, Try.ntmps3
  go_wp2_with fail
  refine (ballotsF A n c L v _ H.out).mono ?_
  rintro e w1 ⟨A1, k1, c1, rfl, hk1, hr1, hc1, hb1⟩
  have HM := Lib.hid (AxisF (cA := c1) hr1 hk1 hc1 HK.out)
  have Hb1 := Lib.hid hb1
  clear hk1 hr1 hc1 hb1
  go_wp2_with fail
  refine HM.out.mono ?_
  rintro e w2 (⟨g, x2, hx2, rfl, hg, hR, hb2⟩ | ⟨hx2, rfl, hb2⟩)
  rotate_left
  · rw [HX.out] at hx2
    cases hx2
  rw [HX.out] at hx2
  injection hx2 with hx2
  subst hx2
  have HR2 := Lib.hid hR
  have Hb2 := Lib.hid (Hb1.out.trans (hb2.mono Hb1.out.size))
  clear hb2 HM hg hR
  go_wp2_with fail
  refine Ro.use (HV.out _ Hb2.out) ?_
  intro w3 hd3
  have HR3 := Lib.hid (HR2.out.dn hd3)
  have Hb3 := Lib.hid (Hb2.out.trans (hd3.below _))
  clear hd3 HR2
  go_wp2_with fail
  obtain ⟨q, hq, hqn⟩ : ∃ q : Nat, (n : Int) / 2 = (q : Int) ∧ q = n / 2 := ⟨n / 2, by omega, rfl⟩
  have HQ := Lib.hid hqn
  obtain ⟨t0, ht0⟩ : ∃ t0 : Nat, t0 = 2 ^ y := ⟨_, rfl⟩
  have HBt : Hid (IsBst (mAll v (L 0) n) (L 0) t0) := Lib.hid (by rw [ht0]; exact HBs.out)
  have HPw : Hid (wrap64 (2 ^ y) = (t0 : Int)) := Lib.hid (by rw [ht0]; exact wrap_pw y (by omega))
  clear ht0 HBs
  have hql : q < n := by omega
  clear hqn
  obtain ⟨P, hP⟩ : ∃ P : Nat → Int, P = pkP (rowF x) v (L 0) := ⟨_, rfl⟩
  have HP : Hid (∀ i, idxI (rowF x) (v i 0) (L 0) = P i) := Lib.hid (fun i => by rw [hP]; rfl)
  rw [← hP] at HMg
  clear hP HPk
  go_loopw [5, 53] (fun s i wr => ∃ k : Nat, k ≤ n ∧ i = .int .i64 k ∧ OwnL wr w3.heap.size s (lst k P) ∧ Below w3.heap.size w3 wr) (fun _ i _ => n - (intOf i).toNat)
  case atStart => exact ⟨0, Nat.zero_le _, rfl, OwnL.nil_ _ _, Below.refl _ _⟩
  case round =>
    obtain ⟨k, hk, rfl, hO1, hB⟩ := hrel
    have HO1 := Lib.hid hO1
    have HB := Lib.hid hB
    have HBw := Lib.hid (Hb3.out.trans (hB.mono Hb3.out.size))
    have HR4 := Lib.hid (HR3.out.keep hB)
    have hsb := hB.size
    clear hO1 hB
    by_cases hlt : k < n
    · obtain ⟨b, o, A', c', eA, hcell, hArg⟩ := (H.out.below HBw.out).at hlt
      subst eA
      have hLk := HInj.out k hlt
      rw [hLk] at hcell hArg
      obtain ⟨b2, o2, rfl, hci⟩ := hArg.2.2.2.at (show 0 < L 0 from hB2)
      rw [Nat.add_zero] at hci
      have HIx := Lib.hid (index_any (some ⟨g, 0, none⟩) (L 0) (L 0) (rowF x) (v k 0) wr HR4.out.ints (by omega))
      rw [HP.out k] at HIx
      have HE : Hid (lst (k + 1) P = lst k P ++ lst 1 (fun _ => P k)) := Lib.hid (by rw [lst_succ]; simp [lst])
      clear hArg hLk
      generalize P k = z at *
      go_wp2_with fail
      refine HIx.out.mono ?_
      rintro e wz ⟨rfl, ewz⟩
      subst ewz
      go_wp2_with (at_builtin; go_loud (refine wpList_append_ints rfl (.tmp 57) (.tmp 63) rfl w3.heap.size u5 (lst k P) rfl (World.ownsRow.alloc HO1.out _) (some ⟨wr.heap.size, 0, none⟩) 1 1 (fun _ => z) rfl (row1 rfl _).ints (by simp [lst_len]; omega) (by simp; omega) ?_))
      intro v5 w5 hv5 hg5 _
      have hb5 : Below w3.heap.size w3 w5 := (HB.out.alloc hsb _).grown hg5 (by simp; omega) (fun g hg => (World.ownsRow.lt HO1.out g hg).1)
      have HV5b := Lib.hid hv5
      have HB5 := Lib.hid hb5
      clear hv5 hg5 hb5
      go_wp2
      go_roundw
      case rel => exact ⟨k + 1, by omega, by go_num, by rw [HE.out]; exact HV5b.out, HB5.out⟩
      case measure => simp [intOf]; omega
    · have hkn : k = n := by omega
      rw [hkn] at HO1 ⊢
      clear hkn hlt hk
      have h1 := HO1.out
      obtain ⟨A5, c5, e5, hA5, hI5, hbk, hc5⟩ := h1.form
      have hA : ∃ g5, A5 = some ⟨g5, 0, none⟩ := by
        rcases h1.2 with ⟨e, h0⟩ | ⟨g5, cap, cur, e, _⟩
        · rw [lst_len] at h0; omega
        · rw [e5] at e
          injection e with e1
          exact ⟨g5, e1⟩
      obtain ⟨g5, rfl⟩ := hA
      rw [e5] at h1
      rw [lst_len] at e5
      have hlt5 := (hbk g5 0 rfl).2.1
      have hbase := (hbk g5 0 rfl).1
      have H1 := Lib.hid h1
      have hH : Go.Sort.Holds (Value.int .i64) wr g5 0 (lst n P).toArray := fun j hj => by
        have hj' : j < n := by simpa [lst_len] using hj
        have hlen : (lst n P).length * 1 = n := by rw [lst_len, Nat.mul_one]
        constructor
        · rw [Nat.zero_add, World.ownsRow.cellAt h1 j (by rw [hlen]; exact hj'), List.getElem?_map, lst_get _ _ _ hj']
          simp only [Option.map_some]
          congr 2
          rw [getElem!_pos _ j hj]
          have := lst_get n P j hj'
          rw [List.getElem?_eq_getElem (by rw [lst_len]; exact hj')] at this
          simpa using this.symm
        · rw [Nat.zero_add]
          exact World.ownsRow.frozenAt h1 j
      have hsort := Try.slices_Sort_int g5 0 c5 (lst n P) wr hH hlt5 (by rw [lst_len]; omega)
      rw [lst_len] at hsort
      have HS := Lib.hid hsort
      clear h1 hI5 hbk hH hsort hA5
      subst e5
      go_wp2_with fail
      refine HS.out.mono ?_
      rintro e w4 ⟨rfl, k4, os, hw4⟩
      obtain ⟨h2, hE⟩ := sort_own (ys := sortZ n P) H1.out (by rw [sortZ_len, lst_len]) hw4
      have hcm : w4.cell? ⟨g5, q, none⟩ = some (.int .i64 m) := by
        have hc := World.ownsRow.cellAt h2 q (by rw [sortZ_len]; omega)
        rw [hc, List.getElem?_map, List.getElem?_eq_getElem (by rw [sortZ_len]; exact hql)]
        have hmg := HMg.out
        rw [← HQ.out] at hmg
        have : (sortZ n P)[q]'(by rw [sortZ_len]; exact hql) = (m : Int) := by
          rw [← hmg]
          simp [List.getD, sortZ_len, hql]
        simp [this]
      have HCm := Lib.hid hcm
      have hb4 : Below w3.heap.size wr w4 := hE.below hbase hsb
      have HB4w := Lib.hid (HBw.out.trans (hb4.mono Hb3.out.size))
      have hR5 : RowI w4 g (L 0) (rowF x) := World.rowIs.of_block HR4.out (hE.block g HR4.out.lt (fun e => by
        injection e with e
        have := HR3.out.lt
        omega))
      have HR5 := Lib.hid hR5
      have hcy := hR5.cell hmL
      rw [HY.out] at hcy
      clear h2 hE hw4 hb4 hR5 HS H1 HO1
      go_wp2_with fail
      refine (ballotsF A n c L v _ (H.out.below HB4w.out)).mono ?_
      rintro e w5 ⟨A6, k6, c6, rfl, hk6, hr6, hc6, hb5⟩
      have HM := Lib.hid (WinF (cA := c6) hr6 hk6 hc6 HK.out hyL HW1.out HW2.out)
      have HB5 := Lib.hid (HB4w.out.trans (hb5.mono HB4w.out.size))
      clear hk6 hr6 hc6 hb5 hcm hcy
      go_wp2_with fail
      refine Lr.use HM.out ?_
      intro w6 hb6
      have HB6 := Lib.hid (HB5.out.trans (hb6.mono HB5.out.size))
      clear hb6 HM
      go_wp2_with fail
      refine (ballotsF A n c L v _ (H.out.below HB6.out)).mono ?_
      rintro e w7 ⟨A7, k7, c7, rfl, hk7, hr7, hc7, hb7⟩
      have HM := Lib.hid (WinOF (cA := c7) hr7 hk7 hc7 HK.out)
      rw [HKf.out] at HM
      have HB7 := Lib.hid (HB6.out.trans (hb7.mono HB6.out.size))
      clear hk7 hr7 hc7 hb7
      go_wp2_with fail
      refine Lr.use HM.out ?_
      intro w8 hb8
      have HB8 := Lib.hid (HB7.out.trans (hb8.mono HB7.out.size))
      clear hb8 HM
      go_wp2_with fail
      refine (ballotsF A n c L v _ (H.out.below HB8.out)).mono ?_
      rintro e w9 ⟨A9, k9, c9, rfl, hk9, hr9, hc9, hb9⟩
      have HM := Lib.hid (BestF (cA := c9) hr9 hk9 hc9 HK.out HBt.out)
      have HB9 := Lib.hid (HB8.out.trans (hb9.mono HB8.out.size))
      clear hk9 hr9 hc9 hb9
      go_wp2_with fail
      refine Lr.use HM.out ?_
      intro w10 hb10
      have HB10 := Lib.hid (HB9.out.trans (hb10.mono HB9.out.size))
      clear hb10 HM
      go_wp2_with fail
      refine (ballotsF A n c L v _ (H.out.below HB10.out)).mono ?_
      rintro e w11 ⟨A11, k11, c11, rfl, hk11, hr11, hc11, hb11⟩
      have HM := Lib.hid (KemenyF (cA := c11) hr11 hk11 hc11 HK.out)
      have HB11 := Lib.hid (HB10.out.trans (hb11.mono HB10.out.size))
      clear hk11 hr11 hc11 hb11
      go_wp2_with fail
      refine HM.out.mono ?_
      rintro e w12 ⟨gk, capk, rfl, -, -, hG, hb12⟩
      have hg0 := hG.cell (i := 0) hB2
      rw [HKf.out] at hg0
      have HB12 := Lib.hid (HB11.out.trans (hb12.mono HB11.out.size))
      have hpw := HPw.out
      have hyy := beq_t (rfl : (y : Int) = y)
      clear hb12 HM hG HBt HKf HPw
      generalize disS n (mAll v (L 0) n) (rowF (kemL n (mAll v (L 0) n) (L 0))) (L 0) = dk at *
      have hss := beq_t (rfl : (t0 : Int) = t0)
      go_wp2_with fail
      refine Lr.use (counts_any _) ?_
      intro w13 hb13
      have Hb13 := Lib.hid (HB12.out.trans (hb13.mono HB12.out.size))
      clear hb13
      go_wp2
      go_ret
      exact ⟨rfl, Hb13.out⟩
theorem topMiddle_walk (A : Option Addr) (n c : Nat) (L : Nat → Nat) (v : Nat → Nat → Int) (w : World) (h : ArgR w A n c L v) :
    Calls Try.prog 3 #[.slice A n c] w fun e w' => e = .returned (.bool true) ∧ Below w.heap.size w w' := by
  cases hok : okBal n L v with
  | false => exact topMiddle_bad A n c L v w h hok
  | true =>
    rcases Nat.mod_two_eq_zero_or_one n with hn | hn
    · exact topMiddle_even A n c L v w h hok hn
    · cases hx : axF n L v (List.range (L 0)) with
      | none => exact topMiddle_none A n c L v w h hok hx
      | some x => exact topMiddle_main A n c L v w h hok hn x hx
end Go.Proofs.Ytjomkbdelgnkcaa
