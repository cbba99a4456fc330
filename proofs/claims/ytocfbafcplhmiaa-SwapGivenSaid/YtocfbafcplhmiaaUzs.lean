/- The reference: Better, Order. -/
import Derived.Test.YtocfbafcplhmiaaUzr
namespace Go.Proofs.Ytocfbafcplhmiaa
open Go.RowKit

theorem find_take {p : List Nat → Bool} {ls : List (List Nat)} {k : Nat} (hk : k < ls.length) (h : ∀ i, i < k → p (ls.getD i []) = false) (hp : p (ls.getD k []) = true) : ls.find? p = some (ls.getD k []) := by
  have e : ls = ls.take k ++ ls[k] :: ls.drop (k + 1) := by
    rw [List.getElem_cons_drop, List.take_append_drop]
  have eg : ls.getD k [] = ls[k] := by rw [List.getD_eq_getElem?_getD, List.getElem?_eq_getElem hk, Option.getD_some]
  rw [eg] at hp ⊢
  have hf := find_atU (p := p) (l := ls.take k) (r := ls.drop (k + 1)) (fun y hy => by
    obtain ⟨i, hi, rfl⟩ := List.getElem_of_mem hy
    have hi2 : i < k := by rw [List.length_take] at hi; omega
    have := h i hi2
    rw [List.getD_eq_getElem?_getD, List.getElem?_eq_getElem (by omega), Option.getD_some] at this
    rw [List.getElem_take]
    exact this) hp
  rw [← e] at hf
  exact hf
theorem find_all {p : List Nat → Bool} {ls : List (List Nat)} (h : ∀ i, i < ls.length → p (ls.getD i []) = false) : ls.find? p = none := by
  rw [List.find?_eq_none]
  intro x hx
  obtain ⟨i, hi, rfl⟩ := List.getElem_of_mem hx
  have := h i hi
  rw [List.getD_eq_getElem?_getD, List.getElem?_eq_getElem hi, Option.getD_some] at this
  rw [this]
  decide
theorem ordL_lenU (n : Nat) (hn : n ≤ 5) : (ordL (List.range n) n []).length ≤ 3125 := by
  rw [← ordG_L]
  exact Nat.le_trans (ordG_len n n []) (pow_small hn hn)
theorem ordL_at {n i : Nat} (hi : i < (ordL (List.range n) n []).length) : Pm n (rN ((ordL (List.range n) n []).getD i [])) := by
  rw [List.getD_eq_getElem?_getD, List.getElem?_eq_getElem hi, Option.getD_some]
  exact (pm_of_mem (List.getElem_mem hi)).2
set_option maxHeartbeats 4000000 in
set_option maxRecDepth 1000000 in
theorem refBetter_any (A : Option Addr) (n c : Nat) (t : Nat → Nat → Nat) (G : Option Addr) (cG : Nat) (h : Nat → Nat) (w : World) (hw : Wis w A n t) (hG : Ints w G n (fun k => (h k : Int))) (hn : n ≤ 5) (ht : ∀ i, i < n → Pm n (t i)) (hh : ∀ k, k < n → h k < n) :
    Calls Try.prog 43 #[.slice A n c, .slice G n cG] w fun e w' => (∃ x Aa ca, (ordL (List.range n) n []).find? (btP t n h) = some x ∧ e = .returned (.tuple #[.slice Aa n ca, .int .i64 0]) ∧ Ints w' Aa n (rowF x) ∧ Below w.heap.size w w') ∨
      ((ordL (List.range n) n []).find? (btP t n h) = none ∧ e = .returned (.tuple #[.slice none 0 0, .int .i64 4]) ∧ Below w.heap.size w w') := by
  have HW := Lib.hid hw
  have HG := Lib.hid hG
  have HT := Lib.hid ht
  have HHl := Lib.hid hh
  have HOr := Lib.hid (refOrders n hn w)
  have hN := ordL_lenU n hn
  have HPm := Lib.hid (fun i => ordL_at (n := n) (i := i))
  have HFt := Lib.hid (fun k hk h1 h2 => find_take (p := btP t n h) (ls := ordL (List.range n) n []) (k := k) hk h1 h2)
  have HFa := Lib.hid (fun h1 => find_all (p := btP t n h) (ls := ordL (List.range n) n []) h1)
  have HRw := Lib.hid (fun w bo br x h => orders_rows (w := w) (bo := bo) (br := br) (n := n) (x := x) h)
  clear hw hG ht hh
  generalize ordL (List.range n) n [] = ls at *
  obtain ⟨N, hNe⟩ : ∃ N, N = ls.length := ⟨_, rfl⟩
  rw [← hNe] at hN HPm HFt HFa HRw
  clear hNe
  go_enter Try.func43, Try.ntmps43
  go_wp2_with fail
  refine HOr.out.mono ?_
  rintro e w1 ⟨x0, rfl, hx, hb1⟩
  obtain ⟨A1, c1, rfl, hr1⟩ := HRw.out _ _ _ _ hx
  have HB1 := Lib.hid hb1
  have HR1 := Lib.hid hr1
  clear hx hb1 hr1 HOr HRw
  go_wp2_with fail
  go_loopw [12] (fun i wr => ∃ k : Nat, k ≤ N ∧ i = .int .i64 k ∧ (∀ i, i < k → btP t n h (ls.getD i []) = false) ∧ Below w1.heap.size w1 wr) (fun i _ => N - (intOf i).toNat)
  case atStart => exact ⟨0, Nat.zero_le _, rfl, fun i hi => absurd hi (by omega), Below.refl _ _⟩
  case round =>
    obtain ⟨k, hk, rfl, hno, hD⟩ := hrel
    have HNo := Lib.hid hno
    have HD := Lib.hid hD
    clear hno hD
    by_cases hlt : k < N
    · obtain ⟨b, o, A', c', rfl, hc, hI⟩ := (HR1.out.keep HD.out).at hlt
      have hpm := HPm.out k hlt
      have HBt := Lib.hid (refbetter_any A n c t A' c' (rN (ls.getD k [])) G cG h wr (HW.out.keep (HB1.out.trans (HD.out.mono HB1.out.size))) hI (HG.out.keep (HB1.out.trans (HD.out.mono HB1.out.size))) hn HT.out hpm.lt HHl.out)
      rw [rbB_bt hn] at HBt
      have HIk := Lib.hid hI
      clear hI hpm
      cases hbt : btP t n h (ls.getD k []) with
      | true =>
        rw [hbt] at HBt
        have HFk := Lib.hid (HFt.out k hlt HNo.out hbt)
        clear hbt
        go_wp2_with fail
        refine HBt.out.use fun w3 hb3 => ?_
        have HI3 := Lib.hid (HIk.out.keep hb3)
        have HB3 := Lib.hid (HB1.out.trans ((HD.out.trans (hb3.mono HD.out.size)).mono HB1.out.size))
        clear hb3 hc
        go_wp2
        go_ret2
        exact .inl ⟨_, A', c', HFk.out, rfl, HI3.out, HB3.out⟩
      | false =>
        rw [hbt] at HBt
        have HNo2 : Hid (∀ i, i < k + 1 → btP t n h (ls.getD i []) = false) := Lib.hid (fun i hi => by
          by_cases e : i = k
          · rw [e]; exact hbt
          · exact HNo.out i (by omega))
        clear hbt
        go_wp2_with fail
        refine HBt.out.use fun w3 hb3 => ?_
        have HD3 := Lib.hid (HD.out.trans (hb3.mono HD.out.size))
        clear hb3 hc
        go_wp2
        go_roundw
        case rel => exact ⟨k + 1, by omega, by go_num, HNo2.out, HD3.out⟩
        case measure => simp [intOf]; omega
    · obtain rfl : k = N := by omega
      have HFk := Lib.hid (HFa.out HNo.out)
      have HBe := Lib.hid (HB1.out.trans (HD.out.mono HB1.out.size))
      go_wp2
      go_ret2
      exact .inr ⟨HFk.out, rfl, HBe.out⟩
set_option maxHeartbeats 4000000 in
set_option maxRecDepth 1000000 in
theorem refOrder_any (A : Option Addr) (n c : Nat) (t : Nat → Nat → Nat) (G : Option Addr) (cG : Nat) (h : Nat → Nat) (w : World) (hw : Wis w A n t) (hG : Ints w G n (fun k => (h k : Int))) (hn : n ≤ 5) (ht : ∀ i, i < n → Pm n (t i)) :
    Calls Try.prog 44 #[.slice A n c, .slice G n cG] w fun e w' => (∃ x Aa ca, (ordL (List.range n) n []).find? (odP t n h) = some x ∧ e = .returned (.tuple #[.slice Aa n ca, .int .i64 0]) ∧ Ints w' Aa n (rowF x) ∧ Below w.heap.size w w') ∨
      ((ordL (List.range n) n []).find? (odP t n h) = none ∧ e = .returned (.tuple #[.slice none 0 0, .int .i64 4]) ∧ Below w.heap.size w w') := by
  have HW := Lib.hid hw
  have HG := Lib.hid hG
  have HT := Lib.hid ht
  have HOr := Lib.hid (refOrders n hn w)
  have hN := ordL_lenU n hn
  have HPm := Lib.hid (fun i => ordL_at (n := n) (i := i))
  have HFt := Lib.hid (fun k hk h1 h2 => find_take (p := odP t n h) (ls := ordL (List.range n) n []) (k := k) hk h1 h2)
  have HFa := Lib.hid (fun h1 => find_all (p := odP t n h) (ls := ordL (List.range n) n []) h1)
  have HRw := Lib.hid (fun w bo br x h => orders_rows (w := w) (bo := bo) (br := br) (n := n) (x := x) h)
  have HUo : Hid (∀ x, odP t n h x = allB (fun k => decide (chF t n (rN x) k = h k)) n) := Lib.hid (fun x => by
    rw [Bool.eq_iff_iff, odP_iff, allB_iff]
    constructor
    · intro h1 i hi; simpa using h1 i hi
    · intro h1 i hi; simpa using h1 i hi)
  clear hw hG ht
  generalize ordL (List.range n) n [] = ls at *
  obtain ⟨N, hNe⟩ : ∃ N, N = ls.length := ⟨_, rfl⟩
  rw [← hNe] at hN HPm HFt HFa HRw
  clear hNe
  go_enter Try.func44, Try.ntmps44
  go_wp2_with fail
  refine HOr.out.mono ?_
  rintro e w1 ⟨x0, rfl, hx, hb1⟩
  obtain ⟨A1, c1, rfl, hr1⟩ := HRw.out _ _ _ _ hx
  have HB1 := Lib.hid hb1
  have HR1 := Lib.hid hr1
  clear hx hb1 hr1 HOr HRw
  go_wp2_with fail
  go_loopw [15] (fun i wr => ∃ k : Nat, k ≤ N ∧ i = .int .i64 k ∧ (∀ i, i < k → odP t n h (ls.getD i []) = false) ∧ Below w1.heap.size w1 wr) (fun i _ => N - (intOf i).toNat)
  case atStart => exact ⟨0, Nat.zero_le _, rfl, fun i hi => absurd hi (by omega), Below.refl _ _⟩
  case round =>
    obtain ⟨k, hk, rfl, hno, hD⟩ := hrel
    have HNo := Lib.hid hno
    have HD := Lib.hid hD
    clear hno hD
    by_cases hlt : k < N
    · obtain ⟨b, o, A', c', rfl, hc, hI⟩ := (HR1.out.keep HD.out).at hlt
      have hpm := HPm.out k hlt
      have hbel := HB1.out.trans (HD.out.mono HB1.out.size)
      have HCh := Lib.hid (refChoose_any A n c t A' c' (rN (ls.getD k [])) wr (HW.out.keep hbel) hI hn HT.out hpm)
      have HIk := Lib.hid hI
      have HUk := Lib.hid (HUo.out (ls.getD k []))
      have HAs : Hid (∀ j, allB (fun q => decide (chF t n (rN (ls.getD k [])) q = h q)) (j + 1) = (allB (fun q => decide (chF t n (rN (ls.getD k [])) q = h q)) j && decide (chF t n (rN (ls.getD k [])) j = h j))) := Lib.hid (fun _ => rfl)
      have HAz : Hid (allB (fun q => decide (chF t n (rN (ls.getD k [])) q = h q)) 0 = true) := Lib.hid rfl
      have HBl := Lib.hid hbel
      clear hI hpm hbel
      generalize allB (fun q => decide (chF t n (rN (ls.getD k [])) q = h q)) = am at *
      generalize chF t n (rN (ls.getD k [])) = ch at *
      go_wp2_with fail
      refine HCh.out.mono ?_
      rintro e w3 ⟨B3, rfl, hB3, hR3, hb3⟩
      have HR3 := Lib.hid hR3
      have HI3 := Lib.hid (HIk.out.keep hb3)
      have HG3 := Lib.hid (HG.out.keep (HBl.out.trans (hb3.mono HBl.out.size)))
      have HD3 := Lib.hid (HD.out.trans (hb3.mono HD.out.size))
      clear hR3 hb3 hc HCh HIk
      go_wp2_with fail
      go_loopw [8, 23] (fun sa i wr => ∃ j : Nat, j ≤ n ∧ i = .int .i64 j ∧ sa = .bool (am j) ∧ Dn w3 wr) (fun _ i _ => n - (intOf i).toNat)
      case atStart => exact ⟨0, Nat.zero_le _, rfl, by rw [HAz.out], Dn.refl _⟩
      case round =>
        obtain ⟨j, hj, rfl, rfl, hd⟩ := hrel
        have HDj := Lib.hid hd
        clear hd
        by_cases hjn : j < n
        · have hcj := (HR3.out.dn HDj.out).cell hjn
          obtain ⟨bo, oo, rfl, hco⟩ := (HG3.out.dn HDj.out).at hjn
          have HAj := Lib.hid (HAs.out j)
          cases hmo : am j with
          | false =>
            have HV : Hid (am (j + 1) = false) := Lib.hid (by rw [HAj.out, hmo]; rfl)
            clear hmo
            go_wp2
            go_roundw
            case rel => exact ⟨j + 1, by omega, by go_num, by rw [HV.out], HDj.out⟩
            case measure => simp [intOf]; omega
          | true =>
            have HV : Hid (am (j + 1) = decide (ch j = h j)) := Lib.hid (by rw [HAj.out, hmo]; rfl)
            clear hmo
            by_cases he : ch j = h j
            · have hq := beq_t (a := (h j : Int)) (b := (ch j : Int)) (by omega)
              have HV2 : Hid (am (j + 1) = true) := Lib.hid (by rw [HV.out, decide_eq_true he])
              clear he
              go_wp2
              go_roundw
              case rel => exact ⟨j + 1, by omega, by go_num, by rw [HV2.out], HDj.out⟩
              case measure => simp [intOf]; omega
            · have hq := beq_f (a := (h j : Int)) (b := (ch j : Int)) (by omega)
              have HV2 : Hid (am (j + 1) = false) := Lib.hid (by rw [HV.out, decide_eq_false he])
              clear he
              go_wp2
              go_roundw
              case rel => exact ⟨j + 1, by omega, by go_num, by rw [HV2.out], HDj.out⟩
              case measure => simp [intOf]; omega
        · obtain rfl : j = n := by omega
          have HDq := Lib.hid (HD3.out.trans (HDj.out.below _))
          have HIq := Lib.hid (HI3.out.dn HDj.out)
          cases hmo : am j with
          | true =>
            have HFk := Lib.hid (HFt.out k hlt HNo.out (by rw [HUk.out]; exact hmo))
            have HBe := Lib.hid (HB1.out.trans (HDq.out.mono HB1.out.size))
            clear hmo
            go_wp2
            go_ret2
            exact .inl ⟨_, A', c', HFk.out, rfl, HIq.out, HBe.out⟩
          | false =>
            have HNo2 : Hid (∀ i, i < k + 1 → odP t j h (ls.getD i []) = false) := Lib.hid (fun i hi => by
              by_cases e : i = k
              · rw [e, HUk.out]; exact hmo
              · exact HNo.out i (by omega))
            clear hmo
            go_wp2
            go_roundw
            case rel => exact ⟨k + 1, by omega, by go_num, HNo2.out, HDq.out⟩
            case measure => simp [intOf]; omega
    · obtain rfl : k = N := by omega
      have HFk := Lib.hid (HFa.out HNo.out)
      have HBe := Lib.hid (HB1.out.trans (HD.out.mono HB1.out.size))
      go_wp2
      go_ret2
      exact .inr ⟨HFk.out, rfl, HBe.out⟩
end Go.Proofs.Ytocfbafcplhmiaa
