/- The reference's Serial. -/
import Derived.Test.YtoeimngbpagegaaDoorGrt
import Derived.Deep.RegionHeld3
import Derived.IntWalk
namespace Go.Proofs.YtoeimngbpagegaaDoor
open Go.RowKit

theorem wpOp_ofG {P : Program} {ops : Array Oper} {Q : Exit → Act → World → Prop} {i : Nat} {K : Act → World → Prop} {a : Act} {w : World} {o : Oper} (hi : ops[i]? = some o) (hw : Region.wanted o (yielded ops a.tmps) = true) (h : o.wp P a w K Q) : wpOp P ops Q i K a w := by
  unfold wpOp
  rw [hi]
  simp only [hw, if_true]
  exact .inl h
theorem quo12 (k : Nat) : 0 ≤ (12 : Int) / (k : Int) ∧ (12 : Int) / (k : Int) ≤ 12 := by
  refine ⟨Int.ediv_nonneg (by decide) (by omega), ?_⟩
  exact Int.ediv_le_self _ (by decide)
theorem svN_bd (F : Nat → Int) (n p : Nat) : ∀ N : Nat, 0 ≤ svN F n p N ∧ svN F n p N ≤ 12 * (N : Int) := by
  intro N
  induction N with
  | zero => simp [svN]
  | succ N ih =>
    have h := quo12 (cnB (fun q => decide ((N : Int) < F q)) n)
    unfold svN
    split <;> omega
theorem cn12 {k : Nat} (h1 : 1 ≤ k) (h4 : k ≤ 4) : (12 : Int) / (k : Int) * (k : Int) = 12 := by
  have : k = 1 ∨ k = 2 ∨ k = 3 ∨ k = 4 := by omega
  rcases this with rfl | rfl | rfl | rfl <;> decide
set_option maxHeartbeats 4000000 in
set_option maxRecDepth 1000000 in
theorem refSerial_any (A : Option Addr) (n c : Nat) (F : Nat → Int) (w : World) (h : Ints w A n F) (hok : okL n F = true) :
    Calls Tryd.prog 43 #[.slice A n c] w fun e w' => ∃ Y, e = .returned (.slice (some ⟨w.heap.size, 0, none⟩) n n) ∧ FrI w' w.heap.size n Y ∧ (∀ p, p < n → Twf (Y p 0) (Y p 1) (svN F n p 1000)) ∧ Below w.heap.size w w' := by
  obtain ⟨⟨hn1, hn4⟩, hF⟩ := okL_iff.1 hok
  have HI := Lib.hid h
  have HF := Lib.hid hF
  have HNx := Lib.hid (fun (N : Int) (hN : 0 ≤ N) j hj => nxG_is (n := n) hF hN j hj)
  have HNs : Hid (∀ N j, nxG F N (j + 1) = if N < F j then (if nxG F N j < 0 ∨ F j < nxG F N j then F j else nxG F N j) else nxG F N j) := Lib.hid (fun _ _ => rfl)
  have HCs : Hid (∀ (N : Int) j, cnB (fun q => decide (N < F q)) (j + 1) = if N < F j then cnB (fun q => decide (N < F q)) j + 1 else cnB (fun q => decide (N < F q)) j) := Lib.hid (fun N j => by simp only [cnB, decide_eq_true_iff])
  have HSt := Lib.hid (fun (p N M : Nat) (hp : p < n) h1 h2 => svN_next (F := F) (n := n) (p := p) (N := N) (M := M) hp h1 h2)
  have HTop := Lib.hid (fun (p N : Nat) (h : F p ≤ N) M hM => svN_top (F := F) (n := n) (p := p) (N := N) h M hM)
  have hmk := mk_fracs n hn4 w
  have HM := Lib.hid (FrI.made w n)
  have HB0 := Lib.hid ((Below.refl w.heap.size w).alloc (Nat.le_refl _) (.cells (madeCells #[.int .i64 0, .int .i64 0] (n * 2)) 48))
  clear h hok hF
  go_enter Tryd.func43, Tryd.ntmps43
  go_wp2_with fail
  clear hmk
  generalize w.alloc (.cells (madeCells #[.int .i64 0, .int .i64 0] (n * 2)) 48) = W0 at *
  go_loopw [17] (fun i wr => ∃ (p : Nat) (Y : Nat → Nat → Int), p ≤ n ∧ i = .int .i64 p ∧ FrI wr w.heap.size n Y ∧ (∀ a, a < p → Y a 0 = 0 ∧ Y a 1 = 1) ∧ Below w.heap.size w wr) (fun i _ => n - (intOf i).toNat)
  case atStart => exact ⟨0, _, Nat.zero_le _, rfl, HM.out, fun a h => absurd h (by omega), HB0.out⟩
  case round =>
    obtain ⟨p, Y, hp, rfl, hY, hYe, hD⟩ := hrel
    have HY := Lib.hid hY
    have HYe := Lib.hid hYe
    have HD := Lib.hid hD
    clear hY hYe hD
    by_cases hlt : p < n
    · go_wp2_with fail
      refine (wholeR_any 0 _).use fun w2 hb2 => ?_
      have HF2 := Lib.hid (HY.out.keep hb2)
      have HB2 := Lib.hid (HD.out.trans (hb2.mono HD.out.size))
      have hc0 := HF2.out.cell0 hlt
      have hc1 := HF2.out.cell1 hlt
      have hf0 := HF2.out.frozen (p * 2)
      have hf1 := HF2.out.frozen (p * 2 + 1)
      clear hb2
      go_wp2
      go_roundw
      case rel => exact ⟨p + 1, _, by omega, by go_num, HF2.out.set p 0 1, fun a ha => by
        unfold upF
        by_cases e : a = p
        · subst e
          simp
        · simp only [if_neg e]
          exact HYe.out a (by omega), (HB2.out.setCell (p := ⟨w.heap.size, p * 2, none⟩) (Nat.le_refl _) _).setCell (p := ⟨w.heap.size, p * 2 + 1, none⟩) (Nat.le_refl _) _⟩
      case measure => simp [intOf]; omega
    · obtain rfl : n = p := by omega
      have HT0 : Hid (∀ p, p < n → Twf (Y p 0) (Y p 1) (svN F n p 0)) := Lib.hid (fun p hp => by
        obtain ⟨e0, e1⟩ := HYe.out p hp
        rw [e0, e1]
        exact Twf.zero)
      go_wp2_with fail
      go_loopw [5] (fun x wi => ∃ (V : Int) (N : Nat) (Y : Nat → Nat → Int), x = .int .i64 V ∧ N ≤ 1000 ∧ (V = N ∨ (V = -1 ∧ N = 1000)) ∧ FrI wi w.heap.size n Y ∧ (∀ p, p < n → Twf (Y p 0) (Y p 1) (svN F n p N)) ∧ Below w.heap.size w wi) (fun x _ => if intOf x < 0 then 0 else 1001 - (intOf x).toNat)
      case atStart => exact ⟨0, 0, Y, rfl, by omega, .inl rfl, HY.out, HT0.out, HD.out⟩
      case round =>
        obtain ⟨V, N, Y, rfl, hN, hV, hY, hTw, hD⟩ := hrel
        have HY := Lib.hid hY
        have HTw := Lib.hid hTw
        have HD := Lib.hid hD
        clear hY hTw hD
        rcases hV with rfl | ⟨rfl, rfl⟩
        · obtain ⟨V0, rfl⟩ : ∃ V0, V0 = wr := ⟨wr, rfl⟩
          go_wp2_with fail
          go_loopw [6, 7, 29] (fun nx us i wi => ∃ j : Nat, j ≤ n ∧ i = .int .i64 j ∧ nx = .int .i64 (nxG F N j) ∧ us = .int .i64 ((cnB (fun q => decide ((N : Int) < F q)) j : Nat) : Int) ∧ wi = V0) (fun _ _ i _ => n - (intOf i).toNat)
          case atStart => exact ⟨0, Nat.zero_le _, rfl, rfl, rfl, rfl⟩
          case round =>
            obtain ⟨j, hj, rfl, rfl, rfl, rfl⟩ := hrel
            have hx := HNx.out (N : Int) (by omega) j hj
            by_cases hjl : j < n
            · obtain ⟨b, o, rfl, c0⟩ := (HI.out.keep HD.out).at hjl
              have b0 := HF.out j hjl
              have HNj := Lib.hid (HNs.out (N : Int) j)
              have HCj := Lib.hid (HCs.out (N : Int) j)
              have hcn : cnB (fun q => decide ((N : Int) < F q)) j ≤ 4 := by rcases hx with ⟨-, h2, -⟩ | ⟨-, -, -, h2, -⟩ <;> omega
              have hnb : -1 ≤ nxG F N j ∧ nxG F N j ≤ 1000 := by rcases hx with ⟨h2, -, -⟩ | ⟨h1, h2, -, -, -⟩ <;> omega
              obtain ⟨nxn, hnxn⟩ : ∃ z, z = nxG F N (j + 1) := ⟨_, rfl⟩
              obtain ⟨cnn, hcnn⟩ : ∃ z, z = cnB (fun q => decide ((N : Int) < F q)) (j + 1) := ⟨_, rfl⟩
              rw [← hnxn] at HNj
              rw [← hcnn] at HCj
              have HN1 := Lib.hid hnxn
              have HC1 := Lib.hid hcnn
              clear hx hnxn hcnn
              generalize nxG F N j = nx at *
              generalize cnB (fun q => decide ((N : Int) < F q)) j = cn at *
              generalize F j = x at *
              obtain ⟨b00, b01⟩ := b0
              obtain ⟨hnb1, hnb2⟩ := hnb
              by_cases hlt : (N : Int) < x
              · have HCz : Hid (cnn = cn + 1) := Lib.hid (by rw [HCj.out, if_pos hlt])
                by_cases h6 : nx < 0
                · have HNz : Hid (nxn = x) := Lib.hid (by rw [HNj.out, if_pos hlt, if_pos (.inl h6)])
                  have d6 := decide_eq_true h6
                  go_wp2
                  go_roundw
                  case rel => exact ⟨j + 1, by omega, by go_num, by rw [← HN1.out, HNz.out], by rw [← HC1.out, HCz.out]; go_num, trivial⟩
                  case measure => simp [intOf]; omega
                · have h6' : 0 ≤ nx := by omega
                  by_cases h7 : x < nx
                  · have HNz : Hid (nxn = x) := Lib.hid (by rw [HNj.out, if_pos hlt, if_pos (.inr h7)])
                    go_wp2
                    go_roundw
                    case rel => exact ⟨j + 1, by omega, by go_num, by rw [← HN1.out, HNz.out], by rw [← HC1.out, HCz.out]; go_num, trivial⟩
                    case measure => simp [intOf]; omega
                  · have HNz : Hid (nxn = nx) := Lib.hid (by rw [HNj.out, if_pos hlt, if_neg (by omega)])
                    go_wp2
                    go_roundw
                    case rel => exact ⟨j + 1, by omega, by go_num, by rw [← HN1.out, HNz.out], by rw [← HC1.out, HCz.out]; go_num, trivial⟩
                    case measure => simp [intOf]; omega
              · have HCz : Hid (cnn = cn) := Lib.hid (by rw [HCj.out, if_neg hlt])
                have HNz : Hid (nxn = nx) := Lib.hid (by rw [HNj.out, if_neg hlt])
                go_wp2
                go_roundw
                case rel => exact ⟨j + 1, by omega, by go_num, by rw [← HN1.out, HNz.out], by rw [← HC1.out, HCz.out], trivial⟩
                case measure => simp [intOf]; omega
            · obtain rfl : n = j := by omega
              rcases hx with ⟨h1, h2, h3⟩ | ⟨h1, h2, h3, h3b, h4⟩
              · rw [h1, h2]
                have HNo := Lib.hid h3
                clear h1 h2 h3
                obtain ⟨V1, rfl⟩ : ∃ V1, V1 = wr := ⟨wr, rfl⟩
                go_wp2_with fail
                go_loopw [49] (fun i wi => ∃ j : Nat, j ≤ n ∧ i = .int .i64 j ∧ wi = V1) (fun i _ => n - (intOf i).toNat)
                case atStart => exact ⟨0, Nat.zero_le _, rfl, rfl⟩
                case round =>
                  obtain ⟨j, hj, rfl, rfl⟩ := hrel
                  by_cases hjl : j < n
                  · obtain ⟨b, o, rfl, c0⟩ := (HI.out.keep HD.out).at hjl
                    have hno := HNo.out j hjl
                    generalize F j = x at *
                    go_wp2
                    go_roundw
                    case rel => exact ⟨j + 1, by omega, by go_num, trivial⟩
                    case measure => simp [intOf]; omega
                  · obtain rfl : n = j := by omega
                    have HT1 : Hid (∀ p, p < n → Twf (Y p 0) (Y p 1) (svN F n p 1000)) := Lib.hid (fun p hp => by
                      rw [HTop.out p N (by have := HNo.out p hp; omega) 1000 hN]
                      exact HTw.out p hp)
                    go_wp2
                    go_roundw
                    case rel => exact ⟨-1, 1000, Y, rfl, Nat.le_refl _, .inr ⟨rfl, rfl⟩, HY.out, HT1.out, HD.out⟩
                    case measure =>
                      have hN0 : ¬ ((N : Int) < 0) := by omega
                      simp [intOf, hN0]
                      omega
              · obtain ⟨M, hM⟩ : ∃ M : Nat, nxG F N n = (M : Int) := ⟨(nxG F N n).toNat, by omega⟩
                rw [hM] at h1 h2 h4 ⊢
                obtain ⟨u, hu⟩ : ∃ u, u = cnB (fun q => decide ((N : Int) < F q)) n := ⟨_, rfl⟩
                have HSp := Lib.hid (fun p hp => HSt.out p N M hp (by omega) h4)
                rw [← hu] at h3 h3b HSp ⊢
                have hq := cn12 h3 (by omega)
                have HBs := Lib.hid (fun p N => svN_bd F n p N)
                clear hM hu h4
                obtain ⟨V1, rfl⟩ : ∃ V1, V1 = wr := ⟨wr, rfl⟩
                go_wp2_with fail
                go_loopw [49] (fun i wi => ∃ (j : Nat) (Y' : Nat → Nat → Int), j ≤ n ∧ i = .int .i64 j ∧ FrI wi w.heap.size n Y' ∧ (∀ p, p < n → Twf (Y' p 0) (Y' p 1) (svN F n p (if p < j then M else N))) ∧ Below w.heap.size w wi) (fun i _ => n - (intOf i).toNat)
                case atStart => exact ⟨0, Y, Nat.zero_le _, rfl, HY.out, fun p hp => by rw [if_neg (by omega)]; exact HTw.out p hp, HD.out⟩
                case round =>
                  obtain ⟨j, Y', hj, rfl, hY2, hT2, hD2⟩ := hrel
                  have HY2 := Lib.hid hY2
                  have HT2 := Lib.hid hT2
                  have HD2 := Lib.hid hD2
                  clear hY2 hT2 hD2
                  by_cases hjl : j < n
                  · obtain ⟨b, o, rfl, c0⟩ := (HI.out.keep HD2.out).at hjl
                    have ht := HT2.out j hjl
                    rw [if_neg (Nat.lt_irrefl j)] at ht
                    have hb := HBs.out j N
                    obtain ⟨t1, t2, t3, t4⟩ := ht.bd hb.1 (by omega)
                    have hsp := HSp.out j hjl
                    by_cases hlt : (N : Int) < F j
                    · rw [if_pos hlt] at hsp
                      have hst := ht.step (m := (M : Int) - N) (u := (u : Int)) (by omega) hq
                      rw [← hsp] at hst
                      have HSt2 := Lib.hid hst
                      have HOf := Lib.hid (fun w => ofF_any ((M : Int) - N) (u : Int) (by omega) (by omega) (by omega) w)
                      have o1 := rD_pos (a := (M : Int) - N) (b := (u : Int)) (by omega)
                      have o2 := rD_le (a := (M : Int) - N) (b := (u : Int)) (by omega)
                      have o3 := rN_abs (a := (M : Int) - N) (b := (u : Int)) (by omega)
                      have c1 := HY2.out.cell0 hjl
                      have c2 := HY2.out.cell1 hjl
                      clear hst ht hsp hb
                      generalize rN ((M : Int) - N) (u : Int) = oc at *
                      generalize rD ((M : Int) - N) (u : Int) = od at *
                      generalize Y' j 0 = ya at *
                      generalize Y' j 1 = yb at *
                      have HAd := Lib.hid (fun w => addF_any ya yb oc od t1 o1 (mul_2400 (by omega) (by omega) o1 (by omega)) (mul_2400 (by omega) (by omega) t1 (by omega)) (Nat.le_trans (mul_2400 (by omega) (by omega) o1 (by omega)) (by omega)) w)
                      generalize rN (ya * od + oc * yb) (yb * od) = za at *
                      generalize rD (ya * od + oc * yb) (yb * od) = zb at *
                      generalize F j = x at *
                      have HKp : Hid (∀ w', Below wr.heap.size wr w' → w'.cell? ⟨w.heap.size, j * 2, none⟩ = some (.int .i64 ya) ∧ w'.cell? ⟨w.heap.size, j * 2 + 1, none⟩ = some (.int .i64 yb)) := Lib.hid (fun w' hb => ⟨(hb.cell (World.block_lt_of_cell? _ _ c1)).trans c1, (hb.cell (World.block_lt_of_cell? _ _ c2)).trans c2⟩)
                      have hBc : Below wr.heap.size wr wr.drew := (Dn.refl wr).drew.below _
                      clear o2 o3
                      go_wp2_with fail
                      have hwr : IntKind.i64.wrap ((M : Int) - N) = (M : Int) - N := IntWalk.i64_in _ ⟨by omega, by omega⟩
                      have HT4 : Hid (∀ p, p < n → Twf (upF Y' j za zb p 0) (upF Y' j za zb p 1) (svN F n p (if p < j + 1 then M else N))) := Lib.hid (fun p hp => by
                        by_cases e : p = j
                        · have e1 : upF Y' j za zb p 0 = za := by rw [e]; simp [upF]
                          have e2 : upF Y' j za zb p 1 = zb := by rw [e]; simp [upF]
                          rw [e1, e2, if_pos (by omega), e]
                          exact HSt2.out
                        · have e1 : ∀ k, upF Y' j za zb p k = Y' p k := fun k => by unfold upF; exact if_neg e
                          rw [e1, e1]
                          have h := HT2.out p hp
                          by_cases e2 : p < j
                          · rw [if_pos (by omega)]
                            rw [if_pos e2] at h
                            exact h
                          · rw [if_neg (by omega)]
                            rw [if_neg e2] at h
                            exact h)
                      refine wp_region_held (S := fun _ => True) (by kernel_rfl) ?_
                      change wpAnyH _ _ _ _ _ _ _ _ wr.drew
                      generalize wr.drew = u0 at *
                      refine wpAnyH_take (i := 0) (v := .slice (some ⟨w.heap.size, 0, none⟩) n n) rfl (by kernel_rfl) (by kernel_rfl) (by kernel_rfl) (fun _ _ _ h => h) (Or.inl ⟨by rfl, fun w' hS => by go_simp⟩) trivial ?_
                      try simp only [Act.put, List.getElem_toArray, List.getElem_cons_zero, List.getElem_cons_succ, List.setIfInBounds_toArray, List.set_cons_zero, List.set_cons_succ]
                      refine wpAnyH_take (i := 1) (v := .int .i64 j) rfl (by kernel_rfl) (by kernel_rfl) (by kernel_rfl) (fun _ _ _ h => h) (Or.inl ⟨by rfl, fun w' hS => by go_simp⟩) trivial ?_
                      try simp only [Act.put, List.getElem_toArray, List.getElem_cons_zero, List.getElem_cons_succ, List.setIfInBounds_toArray, List.set_cons_zero, List.set_cons_succ]
                      refine wpAnyH_take (i := 2) (v := .slice (some ⟨w.heap.size, 0, none⟩) n n) rfl (by kernel_rfl) (by kernel_rfl) (by kernel_rfl) (fun _ _ _ h => h) (Or.inl ⟨by rfl, fun w' hS => by go_simp⟩) trivial ?_
                      try simp only [Act.put, List.getElem_toArray, List.getElem_cons_zero, List.getElem_cons_succ, List.setIfInBounds_toArray, List.set_cons_zero, List.set_cons_succ]
                      refine wpAnyH_take (i := 3) (v := .int .i64 j) rfl (by kernel_rfl) (by kernel_rfl) (by kernel_rfl) (fun _ _ _ h => h) (Or.inl ⟨by rfl, fun w' hS => by go_simp⟩) trivial ?_
                      try simp only [Act.put, List.getElem_toArray, List.getElem_cons_zero, List.getElem_cons_succ, List.setIfInBounds_toArray, List.set_cons_zero, List.set_cons_succ]
                      refine wpAnyH_take (i := 4) (v := .pointer (some ⟨w.heap.size, j * 2, none⟩)) rfl (by kernel_rfl) (by kernel_rfl) (by kernel_rfl) (fun _ _ _ h => h) (Or.inl ⟨by rfl, fun w' hS => by go_simp⟩) trivial ?_
                      try simp only [Act.put, List.getElem_toArray, List.getElem_cons_zero, List.getElem_cons_succ, List.setIfInBounds_toArray, List.set_cons_zero, List.set_cons_succ]
                      refine wpAnyH_take (i := 6) (v := .int .i64 M) rfl (by kernel_rfl) (by kernel_rfl) (by kernel_rfl) (fun _ _ _ h => h) (Or.inl ⟨by rfl, fun w' hS => by go_simp⟩) trivial ?_
                      try simp only [Act.put, List.getElem_toArray, List.getElem_cons_zero, List.getElem_cons_succ, List.setIfInBounds_toArray, List.set_cons_zero, List.set_cons_succ]
                      refine wpAnyH_take (i := 7) (v := .int .i64 N) rfl (by kernel_rfl) (by kernel_rfl) (by kernel_rfl) (fun _ _ _ h => h) (Or.inl ⟨by rfl, fun w' hS => by go_simp⟩) trivial ?_
                      try simp only [Act.put, List.getElem_toArray, List.getElem_cons_zero, List.getElem_cons_succ, List.setIfInBounds_toArray, List.set_cons_zero, List.set_cons_succ]
                      refine wpAnyH_take (i := 8) (v := .int .i64 ((M : Int) - N)) rfl (by kernel_rfl) (by kernel_rfl) (by kernel_rfl) (fun _ _ _ h => h) (Or.inl ⟨by rfl, fun w' hS => by go_simp⟩) trivial ?_
                      try simp only [Act.put, List.getElem_toArray, List.getElem_cons_zero, List.getElem_cons_succ, List.setIfInBounds_toArray, List.set_cons_zero, List.set_cons_succ]
                      refine wpAnyH_take (i := 9) (v := .int .i64 u) rfl (by kernel_rfl) (by kernel_rfl) (by kernel_rfl) (fun _ _ _ h => h) (Or.inl ⟨by rfl, fun w' hS => by go_simp⟩) trivial ?_
                      try simp only [Act.put, List.getElem_toArray, List.getElem_cons_zero, List.getElem_cons_succ, List.setIfInBounds_toArray, List.set_cons_zero, List.set_cons_succ]
                      refine wpAnyH_all (rs := [5, 10]) (by kernel_rfl) (by simp) (fun i hi => ?_)
                      rcases (show i = 5 ∨ i = 10 by simpa using hi) with rfl | rfl
                      · refine wpOp_ofG (by rfl) (by rfl) ?_
                        obtain ⟨k0, k1⟩ := HKp.out _ hBc
                        go_simp
                        try refine ⟨trivial, ?_⟩
                        clear k0 k1
                        refine wpAnyH_all (rs := [10]) (by kernel_rfl) (by simp) (fun i hi => ?_)
                        obtain rfl : i = 10 := by simpa using hi
                        refine wpOp_ofG (by rfl) (by rfl) ?_
                        go_simp
                        refine (HOf.out _).mono ?_
                        rintro e w1 ⟨rfl, hb1⟩
                        try refine ⟨trivial, ?_⟩
                        have hB1 := hBc.trans (hb1.mono hBc.size)
                        refine wpAnyH_all (rs := [11]) (by kernel_rfl) (by simp) (fun i hi => ?_)
                        obtain rfl : i = 11 := by simpa using hi
                        refine wpOp_ofG (by rfl) (by rfl) ?_
                        go_simp
                        refine (HAd.out _).mono ?_
                        rintro e w2 ⟨rfl, hb2⟩
                        try refine ⟨trivial, ?_⟩
                        have hB2 := hB1.trans (hb2.mono hB1.size)
                        have hF2 := HY2.out.keep hB2
                        have f0 := hF2.frozen (j * 2)
                        have f1 := hF2.frozen (j * 2 + 1)
                        obtain ⟨k0, k1⟩ := HKp.out _ hB2
                        refine wpAnyH_take (i := 12) (v := .pointer (some ⟨w.heap.size, j * 2, none⟩)) rfl (by kernel_rfl) (by kernel_rfl) (by kernel_rfl) (fun _ _ _ h => h) (Or.inl ⟨by rfl, fun w' hS => by go_simp⟩) trivial ?_
                        try simp only [Act.put, List.getElem_toArray, List.getElem_cons_zero, List.getElem_cons_succ, List.setIfInBounds_toArray, List.set_cons_zero, List.set_cons_succ]
                        refine wpAnyH_all (rs := [13]) (by kernel_rfl) (by simp) (fun i hi => ?_)
                        obtain rfl : i = 13 := by simpa using hi
                        refine wpOp_ofG (by rfl) (by rfl) ?_
                        go_simp
                        try refine ⟨trivial, ?_⟩
                        refine wpAnyH_done (by kernel_rfl) ?_ _
                        have HFs := Lib.hid (hF2.set j za zb)
                        have HBs := Lib.hid (((HD2.out.trans (hB2.mono HD2.out.size)).setCell (p := ⟨w.heap.size, j * 2, none⟩) (Nat.le_refl _) (.int .i64 za)).setCell (p := ⟨w.heap.size, j * 2 + 1, none⟩) (Nat.le_refl _) (.int .i64 zb))
                        clear k0 k1 f0 f1 hF2 hB2 hb2
                        go_wp2
                        go_roundw
                        case rel => exact ⟨j + 1, _, by omega, by go_num, HFs.out, HT4.out, HBs.out⟩
                        case measure => simp [intOf]; omega
                      · refine wpOp_ofG (by rfl) (by rfl) ?_
                        go_simp
                        refine (HOf.out _).mono ?_
                        rintro e w1 ⟨rfl, hb1⟩
                        try refine ⟨trivial, ?_⟩
                        have hB1 := hBc.trans (hb1.mono hBc.size)
                        refine wpAnyH_all (rs := [5]) (by kernel_rfl) (by simp) (fun i hi => ?_)
                        obtain rfl : i = 5 := by simpa using hi
                        refine wpOp_ofG (by rfl) (by rfl) ?_
                        obtain ⟨k0, k1⟩ := HKp.out _ hB1
                        go_simp
                        try refine ⟨trivial, ?_⟩
                        clear k0 k1
                        refine wpAnyH_all (rs := [11]) (by kernel_rfl) (by simp) (fun i hi => ?_)
                        obtain rfl : i = 11 := by simpa using hi
                        refine wpOp_ofG (by rfl) (by rfl) ?_
                        go_simp
                        refine (HAd.out _).mono ?_
                        rintro e w2 ⟨rfl, hb2⟩
                        try refine ⟨trivial, ?_⟩
                        have hB2 := hB1.trans (hb2.mono hB1.size)
                        have hF2 := HY2.out.keep hB2
                        have f0 := hF2.frozen (j * 2)
                        have f1 := hF2.frozen (j * 2 + 1)
                        obtain ⟨k0, k1⟩ := HKp.out _ hB2
                        refine wpAnyH_take (i := 12) (v := .pointer (some ⟨w.heap.size, j * 2, none⟩)) rfl (by kernel_rfl) (by kernel_rfl) (by kernel_rfl) (fun _ _ _ h => h) (Or.inl ⟨by rfl, fun w' hS => by go_simp⟩) trivial ?_
                        try simp only [Act.put, List.getElem_toArray, List.getElem_cons_zero, List.getElem_cons_succ, List.setIfInBounds_toArray, List.set_cons_zero, List.set_cons_succ]
                        refine wpAnyH_all (rs := [13]) (by kernel_rfl) (by simp) (fun i hi => ?_)
                        obtain rfl : i = 13 := by simpa using hi
                        refine wpOp_ofG (by rfl) (by rfl) ?_
                        go_simp
                        try refine ⟨trivial, ?_⟩
                        refine wpAnyH_done (by kernel_rfl) ?_ _
                        have HFs := Lib.hid (hF2.set j za zb)
                        have HBs := Lib.hid (((HD2.out.trans (hB2.mono HD2.out.size)).setCell (p := ⟨w.heap.size, j * 2, none⟩) (Nat.le_refl _) (.int .i64 za)).setCell (p := ⟨w.heap.size, j * 2 + 1, none⟩) (Nat.le_refl _) (.int .i64 zb))
                        clear k0 k1 f0 f1 hF2 hB2 hb2
                        go_wp2
                        go_roundw
                        case rel => exact ⟨j + 1, _, by omega, by go_num, HFs.out, HT4.out, HBs.out⟩
                        case measure => simp [intOf]; omega
                    · rw [if_neg hlt] at hsp
                      have HT3 : Hid (∀ p, p < n → Twf (Y' p 0) (Y' p 1) (svN F n p (if p < j + 1 then M else N))) := Lib.hid (fun p hp => by
                        have h := HT2.out p hp
                        by_cases e : p = j
                        · subst e
                          rw [if_pos (by omega), hsp, Int.add_zero]
                          rw [if_neg (Nat.lt_irrefl p)] at h
                          exact h
                        · by_cases e2 : p < j
                          · rw [if_pos (by omega)]
                            rw [if_pos e2] at h
                            exact h
                          · rw [if_neg (by omega)]
                            rw [if_neg e2] at h
                            exact h)
                      clear hsp ht hb
                      generalize F j = x at *
                      go_wp2
                      go_roundw
                      case rel => exact ⟨j + 1, Y', by omega, by go_num, HY2.out, HT3.out, HD2.out⟩
                      case measure => simp [intOf]; omega
                  · obtain rfl : n = j := by omega
                    have HT3 : Hid (∀ p, p < n → Twf (Y' p 0) (Y' p 1) (svN F n p M)) := Lib.hid (fun p hp => by
                      have h := HT2.out p hp
                      rw [if_pos hp] at h
                      exact h)
                    go_wp2
                    go_roundw
                    case rel => exact ⟨M, M, Y', rfl, by omega, .inl rfl, HY2.out, HT3.out, HD2.out⟩
                    case measure =>
                      have hN0 : ¬ ((N : Int) < 0) := by omega
                      have hM0 : ¬ ((M : Int) < 0) := by omega
                      simp [intOf, hN0, hM0]
                      omega
        · go_wp2
          go_ret
          exact ⟨Y, rfl, HY.out, HTw.out, HD.out⟩
end Go.Proofs.YtoeimngbpagegaaDoor
