/- The reference's Kemeny. -/
import Derived.Test.YtbaedcpbcelmpaaDr
import Derived.Test.YtbaedcpbcelmpaaSm
import Derived.Test.YtbaedcpbcelmpaaKo
namespace Go.Proofs.Ytbaedcpbcelmpaa
open Go.RowKit

theorem dis_bd {n c : Nat} {T : Nat → Int} {o : Nat → Int} (hc : c ≤ 5) (hn : n ≤ 9) (hT : ∀ a b, a < c → b < c → -(n : Int) ≤ T (5 * a + b) ∧ T (5 * a + b) ≤ n) (ho : Ord c o) : 0 ≤ disS n T o c ∧ disS n T o c ≤ 225 := by
  have HBd : ∀ k j, k < c → j < c → 0 ≤ dG n T o k j ∧ dG n T o k j ≤ 9 := fun k j hk hj => dG_bd hn hT ho hk hj
  have HRb : ∀ k j, k < c → k + 1 + j ≤ c → 0 ≤ rowS (dG n T o) k j ∧ rowS (dG n T o) k j ≤ 45 := fun k j hk hj => by
    have h1 := rowS_bd (g := dG n T o) (k := k) (B := 9) (j := j) (fun i hi => HBd k (k + 1 + i) hk (by omega))
    omega
  have HTb : ∀ k, k ≤ c → 0 ≤ triS (dG n T o) c k ∧ triS (dG n T o) c k ≤ 45 * k := by
    intro k
    induction k with
    | zero => intro _; simp [triS]
    | succ k ih =>
      intro hk
      have h1 := ih (by omega)
      have h2 := HRb k (c - (k + 1)) (by omega) (by omega)
      simp only [triS]
      omega
  have := HTb c (Nat.le_refl _)
  unfold disS
  omega
theorem someL_head {c : Nat} (hc : c ≤ 5) : ∃ R, someL (List.range c) c = List.range c :: R := by
  have h := ordL_head c (by omega)
  rw [ordL_some] at h
  cases hr : someL (List.range c) c with
  | nil => rw [hr] at h; cases h
  | cons a R =>
    rw [hr] at h
    injection h with h
    exact ⟨R, by rw [h]⟩

set_option maxHeartbeats 1000000 in
set_option maxRecDepth 1000000 in
theorem kemenyR_any (A : Option Addr) (n cA : Nat) (L : Nat → Nat) (v : Nat → Nat → Int) (w : World) (h : ArgR w A n cA L v) (hok : okBal n L v = true) :
    Calls Try.prog 27 #[.slice A n cA] w fun e w' => ∃ A' c', e = .returned (.tuple #[.slice A' (L 0) c', .int .i64 (disS n (mAll v (L 0) n) (rowF (kemL n (mAll v (L 0) n) (L 0))) (L 0))]) ∧
      Ints w' A' (L 0) (rowF (kemL n (mAll v (L 0) n) (L 0))) ∧ Below w.heap.size w w' := by
  obtain ⟨⟨hn1, hn9⟩, ⟨hc1, hc5⟩, hO4⟩ := okBal_iff.1 hok
  have H := Lib.hid h
  have HK := Lib.hid hok
  obtain ⟨b0, o0, A0, c0, rfl, hc0, hA0⟩ := h.at (show 0 < n by omega)
  have hc0' : w.cell? ⟨b0, o0, none⟩ = some (.slice A0 (L 0) c0) := hc0
  obtain ⟨R, hR⟩ := someL_head hc5
  have HSm := Lib.hid (some_any (L 0) hc5 (L 0) (Nat.le_refl _))
  have hcnt := Nat.le_trans (some_count (L 0) (L 0)) (count_small hc5 hc5)
  have HKm : Hid (kemL n (mAll v (L 0) n) (L 0) = minF (fun x => disS n (mAll v (L 0) n) (rowF x) (L 0)) (List.range (L 0)) (someL (List.range (L 0)) (L 0))) := Lib.hid (by unfold kemL; rw [ordL_some])
  have HOrd : Hid (∀ x ∈ someL (List.range (L 0)) (L 0), x.length = L 0 ∧ Ord (L 0) (rowF x)) := Lib.hid (fun x hx => ord_of_mem (by rw [ordL_some]; exact hx))
  have HBd : Hid (∀ x ∈ someL (List.range (L 0)) (L 0), 0 ≤ disS n (mAll v (L 0) n) (rowF x) (L 0) ∧ disS n (mAll v (L 0) n) (rowF x) (L 0) ≤ 225) := Lib.hid (fun x hx => dis_bd hc5 hn9 (bal_bdR hok) (HOrd.out x hx).2)
  have HHead : Hid (someL (List.range (L 0)) (L 0) = List.range (L 0) :: R) := Lib.hid hR
  clear h hok hc0 hA0 hO4 hR
  have hcd : w.drew.cell? ⟨b0, o0, none⟩ = some (.slice A0 (L 0) c0) := hc0'
  have hbd0 : Below w.heap.size w w.drew := (Dn.refl w).drew.below _
  have hlt0 := World.block_lt_of_cell? _ _ hc0'
  have hnI : (0 : Int) < (n : Int) := by omega
  have hnN : 0 < n := by omega
  generalize hS : someL (List.range (L 0)) (L 0) = S at *
  clear hS
  obtain ⟨M, hM⟩ : ∃ M, M = S.length := ⟨_, rfl⟩
  have HM := Lib.hid hM
  rw [← hM] at hcnt
  clear hM
  obtain ⟨D, hD⟩ : ∃ D : List Nat → Int, D = fun x => disS n (mAll v (L 0) n) (rowF x) (L 0) := ⟨_, rfl⟩
  have HDd : Hid (∀ x, disS n (mAll v (L 0) n) (rowF x) (L 0) = D x) := Lib.hid (fun x => by rw [hD])
  have HKm2 : Hid (kemL n (mAll v (L 0) n) (L 0) = minF D (List.range (L 0)) S) := Lib.hid (by rw [hD]; exact HKm.out)
  have HCall : Hid (∀ (W : World), Below w.heap.size w W → ∀ (x : List Nat) (Ax : Option Addr) (cx : Nat), x ∈ S → ArgI W Ax (L 0) cx (rowF x) → Ro 29 #[.slice (some ⟨b0, o0, none⟩) n cA, .slice Ax (L 0) cx] W (.int .i64 (D x))) := Lib.hid (fun W hW x Ax cx hx hA => by
    rw [← HDd.out]
    exact disR_any (some ⟨b0, o0, none⟩) Ax n cA cx L v (rowF x) W (H.out.below hW) HK.out (HOrd.out x hx).2 hA.2.2.2 hA.1)
  have HBd2 : Hid (∀ x ∈ S, 0 ≤ D x ∧ D x ≤ 225) := Lib.hid (fun x hx => by rw [← HDd.out]; exact HBd.out x hx)
  rw [HDd.out, HKm2.out]
  clear HKm HKm2 HDd hD HBd H HK
  generalize L 0 = c at *
  go_enter Try.func27, Try.ntmps27
  go_wp2_with fail
  go_region_held3 (fun w' => w'.cell? ⟨b0, o0, none⟩ = some (.slice A0 c c0)) (first | exact hcd | exact (hbd0.cell hlt0).trans hc0')
    (first
      | (go_at_call 54; refine (HSm.out _).mono ?_; rintro e w1 ⟨x, rfl, hx, hb1⟩; obtain ⟨A1, c1, rfl⟩ := hx.form; rw [intLL_len, ← HM.out]; have hbd0 := hbd0.trans (hb1.mono hbd0.size); have hX := hx)
      | fail)
  have HX := Lib.hid hX
  have HB1 := Lib.hid hbd0
  clear hX hx hb1 hbd0 hcd hc0' HSm
  have HRow : Hid (∀ (W : World), Below w1.heap.size w1 W → ∀ j (hj : j < S.length), ∃ (G c' cp : Nat) (Ap : Option Addr), A1 = some ⟨G, 0, none⟩ ∧ W.cell? ⟨G, j, none⟩ = some (.slice Ap c cp) ∧ ArgI W Ap c cp (rowF S[j])) := Lib.hid (fun W hW j hj => by
    obtain ⟨G, cG, cp, Ap, eG, hcell, hArg⟩ := (HX.out.below hW).at (p := j) (by rw [intLL_len]; exact hj)
    injection eG with eG1
    rw [intLL_at hj, intL_len, (HOrd.out S[j] (List.getElem_mem hj)).1] at hcell hArg
    simp only [intL_at] at hArg
    exact ⟨G, cG, cp, Ap, eG1, hcell, hArg⟩)
  clear HX
  go_wp2
  go_loopw [4, 5, 19] (fun s d i wr => ∃ j : Nat, j ≤ M ∧ i = .int .i64 j ∧ ((j = 0 ∧ s = .slice none 0 0 ∧ d = .int .i64 1073741824) ∨ (0 < j ∧ ∃ A' c', s = .slice A' c c' ∧ Ints wr A' c (rowF (minF D (List.range c) (S.take j))) ∧ d = .int .i64 (D (minF D (List.range c) (S.take j))))) ∧ Dn w1 wr) (fun _ _ i _ => M - (intOf i).toNat)
  case atStart => exact ⟨0, Nat.zero_le _, rfl, .inl ⟨rfl, rfl, rfl⟩, Dn.refl _⟩
  case round =>
    obtain ⟨j, hj, rfl, hor, hDn⟩ := hrel
    have HDn := Lib.hid hDn
    clear hDn
    by_cases hlt : j < M
    · have hjS : j < S.length := by rw [← HM.out]; exact hlt
      obtain ⟨G, cG, cp, Ap, rfl, hcell, hArg⟩ := HRow.out wr (HDn.out.below _) j hjS
      have HC := Lib.hid (HCall.out wr (HB1.out.trans ((HDn.out.below _).mono HB1.out.size)) S[j] Ap cp (List.getElem_mem hjS) hArg)
      have hb := HBd2.out S[j] (List.getElem_mem hjS)
      have HI := Lib.hid hArg.2.2.2
      have HTk : Hid (S.take (j + 1) = S.take j ++ [S[j]]) := Lib.hid (by rw [List.take_add_one]; simp [hjS])
      have HMn : Hid (minF D (List.range c) (S.take (j + 1)) = if D S[j] < D (minF D (List.range c) (S.take j)) then S[j] else minF D (List.range c) (S.take j)) := Lib.hid (by rw [HTk.out]; exact minF_append D S[j] _ _)
      have HZ : Hid (j = 0 → minF D (List.range c) (S.take (j + 1)) = S[j]) := Lib.hid (fun e => by
        subst e
        rw [HTk.out]
        have e1 : S[0] = List.range c := by simp [HHead.out]
        simp [minF, e1])
      clear hArg HTk
      obtain ⟨hb1, hb2⟩ := hb
      rcases hor with ⟨rfl, rfl, rfl⟩ | ⟨hj0, A', c', rfl, hI, rfl⟩
      · have HE := Lib.hid (HZ.out rfl)
        generalize S[0] = x at *
        generalize hdx : D x = dx at *
        have HDx := Lib.hid hdx
        clear hdx
        go_wp2_with fail
        refine Ro.use HC.out ?_
        intro w3 hd3
        have HI3 := Lib.hid (HI.out.dn hd3)
        have HD3 := Lib.hid (HDn.out.trans hd3)
        clear hd3
        go_wp2
        go_roundw
        case rel => exact ⟨1, by omega, by go_num, .inr ⟨by omega, _, _, rfl, by rw [HE.out]; exact HI3.out, by rw [HE.out, HDx.out]⟩, HD3.out⟩
        case measure => simp [intOf]; omega
      · have HIb := Lib.hid hI
        clear hI HZ
        generalize S[j] = x at *
        generalize minF D (List.range c) (S.take j) = m at *
        generalize hdx : D x = dx at *
        generalize hdm : D m = dm at *
        have HDx := Lib.hid hdx
        have HDm := Lib.hid hdm
        clear hdx hdm
        go_wp2_with fail
        refine Ro.use HC.out ?_
        intro w3 hd3
        have HI3 := Lib.hid (HI.out.dn hd3)
        have HIb3 := Lib.hid (HIb.out.dn hd3)
        have HD3 := Lib.hid (HDn.out.trans hd3)
        clear hd3
        rcases Int.lt_or_le dx dm with hl | hl
        · have HE : Hid (minF D (List.range c) (S.take (j + 1)) = x) := Lib.hid (by rw [HMn.out, if_pos hl])
          go_wp2
          go_roundw
          case rel => exact ⟨j + 1, by omega, by go_num, .inr ⟨by omega, _, _, rfl, by rw [HE.out]; exact HI3.out, by rw [HE.out, HDx.out]⟩, HD3.out⟩
          case measure => simp [intOf]; omega
        · have HE : Hid (minF D (List.range c) (S.take (j + 1)) = m) := Lib.hid (by rw [HMn.out, if_neg (by omega)])
          go_wp2
          go_roundw
          case rel => exact ⟨j + 1, by omega, by go_num, .inr ⟨by omega, _, _, rfl, by rw [HE.out]; exact HIb3.out, by rw [HE.out, HDm.out]⟩, HD3.out⟩
          case measure => simp [intOf]; omega
    · have hM0 : 0 < M := by rw [HM.out, HHead.out]; simp
      rcases hor with ⟨rfl, -, -⟩ | ⟨hj0, A', c', rfl, hI, rfl⟩
      · omega
      · have e : S.take j = S := List.take_of_length_le (by rw [← HM.out]; omega)
        rw [e] at hI ⊢
        have HI := Lib.hid hI
        have HBw := Lib.hid (HB1.out.trans ((HDn.out.below _).mono HB1.out.size))
        clear e hI
        go_wp2
        go_ret2
        exact ⟨_, _, rfl, HI.out, HBw.out⟩
end Go.Proofs.Ytbaedcpbcelmpaa
