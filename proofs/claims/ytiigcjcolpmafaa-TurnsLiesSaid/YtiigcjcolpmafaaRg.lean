import Derived.Test.YtiigcjcolpmafaaRpt
namespace Go.Proofs.Ytiigcjcolpmafaa
open Go.RowKit

set_option maxHeartbeats 400000 in
set_option maxRecDepth 1000000 in
theorem repeat_any (bx cx n : Nat) (x : Int) (w : World) (hx : w.cell? ⟨bx, 0, none⟩ = some (.int .i64 x)) (h1 : 1 ≤ n) (hn : n ≤ 6) :
    Calls Try.prog 110 #[.slice (some ⟨bx, 0, none⟩) 1 cx, .int .i64 n] w fun e w' => e = .returned (.slice (some ⟨w.heap.size, 0, none⟩) n n) ∧ RowI w' w.heap.size n (fun _ => x) ∧ Below w.heap.size w w' := by
  have hmk := mk_ints n (by omega)
  have HM := Lib.hid (mul_any n (by omega) w)
  have hb0 := below_box w (.cells (madeCells #[.int .i64 0] n) 3)
  have hx0 := old_cell hx hb0
  have hV0 : RowV (w.alloc (.cells (madeCells #[.int .i64 0] n) 3)) w.heap.size (rep x 0 n) := by
    obtain ⟨cur, h1, h2, h3⟩ := RowI.made w n
    have e : cur = (rep x 0 n).toArray := by
      apply Array.ext
      · simp [rep, h2]
      · intro i hi1 hi2
        have := h3 i (by omega)
        simp [rep] at hi2 ⊢
        rw [Array.getElem?_eq_getElem hi1] at this
        injection this
    rw [e] at h1
    exact h1
  have hsrc : ∀ j v, (List.replicate 1 (Value.int .i64 x))[j]? = some v → (w.alloc (.cells (madeCells #[.int .i64 0] n) 3)).cell? ((⟨bx, 0, none⟩ : Addr).add j) = some v := fun j v hv => by
    rcases j with _ | j
    · simp at hv
      rw [← hv, Addr.add_lit]
      exact hx0
    · simp at hv
  have hmin : (List.replicate 1 (Value.int .i64 x)).length = Nat.min 1 n := by
    rw [List.length_replicate]
    exact (Nat.min_eq_left h1).symm
  have hfit : 0 + (List.replicate 1 (Value.int .i64 x)).length ≤ (rep x 0 n).length := by
    rw [rep_len x (Nat.zero_le _), List.length_replicate]
    omega
  have hone : ∀ v ∈ List.replicate 1 (Value.int .i64 x), v.oneCell' = true := fun v hv => by
    rw [List.eq_of_mem_replicate hv]
    rfl
  obtain ⟨C1, hC1⟩ : ∃ C1, C1 = List.replicate 1 (Value.int .i64 x) := ⟨_, rfl⟩
  obtain ⟨R0, hR0⟩ : ∃ R0, R0 = rep x 0 n := ⟨_, rfl⟩
  rw [← hC1] at hsrc hmin hfit hone
  rw [← hR0] at hfit hV0
  have HSrc := Lib.hid hsrc
  have HMin := Lib.hid hmin
  have HFit := Lib.hid hfit
  have HOne := Lib.hid hone
  have HC1 := Lib.hid hC1
  have HR0 := Lib.hid hR0
  clear hsrc hmin hfit hone hC1 hR0
  have HV0 := Lib.hid hV0
  have Hb0 := Lib.hid hb0
  have HX0 := Lib.hid hx0
  have hn0 : ¬ (n : Int) < 0 := by omega
  have hnn : ¬ (9223372036854775807 : Int) < (n : Int) := by omega
  clear hV0 hb0 hx
  go_enter Try.func110, Try.ntmps110
  go_wp2_with fail
  refine HM.out.mono ?_
  rintro e w' ⟨rfl, rfl⟩
  clear HM
  go_wp2_with ((refine wpList_copy_splice rfl (.tmp 31) (.tmp 32) 23 23 rfl 3 Try.underlying23 (by kernel_rfl) (some ⟨w.heap.size, 0, none⟩) (some ⟨bx, 0, none⟩) n n 1 cx rfl rfl w.heap.size 0 R0 3 HV0.out C1 HMin.out (fun _ => ⟨rfl, _, rfl, HSrc.out⟩) HFit.out HOne.out w.heap.size w Hb0.out (Nat.le_refl _) ?_))
  intro w1 hg1 hb1
  have hV1 : RowV w1 w.heap.size (rep x 1 n) := by
    have := hg1.out
    rw [HR0.out, HC1.out, rep_splice x (by omega)] at this
    exact this
  have HV1 := Lib.hid hV1
  have Hb1 := Lib.hid hb1
  have hlen1 : C1.length = 1 := by rw [HC1.out]; simp
  rw [hlen1]
  clear hV1 hb1 hg1 hlen1
  obtain ⟨g, hg⟩ : ∃ g, g = w.heap.size := ⟨_, rfl⟩
  have HG := Lib.hid hg
  rw [← hg] at HV1 ⊢
  clear hg HSrc HMin HFit HOne HC1 HR0 HV0 HX0 hx0 hn0 hnn
  go_wp2
  go_loopw [8] (fun y wr => ∃ k : Nat, 1 ≤ k ∧ k ≤ n ∧ y = .int .i64 k ∧ RowV wr g (rep x k n) ∧ Below w.heap.size w wr) (fun y _ => n - (intOf y).toNat)
  case atStart => exact ⟨1, Nat.le_refl _, h1, rfl, HV1.out, Hb1.out⟩
  case round =>
    obtain ⟨k, hk1, hk, rfl, hV, hbel⟩ := hrel
    have HV := Lib.hid hV
    have Hbel := Lib.hid hbel
    clear hV hbel
    by_cases hlt : k < n
    · obtain ⟨c, hc⟩ : ∃ c, c = Nat.min k (n - k) := ⟨_, rfl⟩
      have hck : c ≤ k := by rw [hc]; exact Nat.min_le_left _ _
      have hcn : k + c ≤ n := by have : c ≤ n - k := by { rw [hc]; exact Nat.min_le_right _ _ }; omega
      have hc1 : 1 ≤ c := by rw [hc]; exact Nat.le_min.2 ⟨hk1, by omega⟩
      obtain ⟨CK, hCK⟩ : ∃ CK, CK = List.replicate c (Value.int .i64 x) := ⟨_, rfl⟩
      obtain ⟨RK, hRK⟩ : ∃ RK, RK = rep x k n := ⟨_, rfl⟩
      have hlen : CK.length = c := by rw [hCK]; simp
      have HMinK : Hid (CK.length = Nat.min k (n - k)) := Lib.hid (by rw [hlen, hc])
      have HPosK : Hid (0 < CK.length → (if n = k then some (⟨g, 0, none⟩ : Addr) else some ⟨g, k, none⟩) = some ⟨g, k, none⟩ ∧ ∃ ad, some (⟨g, 0, none⟩ : Addr) = some ad ∧ ∀ j v, CK[j]? = some v → wr.drew.cell? (ad.add j) = some v) := Lib.hid (fun _ => ⟨if_neg (by omega), _, rfl, fun j v hv => by
        have hj : j < c := by
          rcases Nat.lt_or_ge j c with h | h
          · exact h
          · rw [List.getElem?_eq_none (by rw [hlen]; exact h)] at hv
            exact absurd hv (by simp)
        rw [hCK, List.getElem?_replicate, if_pos hj] at hv
        injection hv with hv
        subst hv
        rw [Addr.add_lit, Nat.zero_add]
        exact (show wr.cell? ⟨g, j, none⟩ = _ from HV.out.cell (by omega))⟩)
      have HFitK : Hid (k + CK.length ≤ RK.length) := Lib.hid (by rw [hlen, hRK, rep_len x hk]; exact hcn)
      have HOneK : Hid (∀ v ∈ CK, v.oneCell' = true) := Lib.hid (fun v hv => by
        rw [hCK] at hv
        rw [List.eq_of_mem_replicate hv]
        rfl)
      have HVK : Hid (wr.drew.heap[g]? = some (.cells RK.toArray 3 (0, 0))) := Lib.hid (show wr.heap[g]? = _ by rw [hRK]; exact HV.out)
      have HSp : Hid (splice RK k CK = rep x (k + c) n) := Lib.hid (by rw [hRK, hCK]; exact rep_splice x hcn)
      have HLen := Lib.hid hlen
      have Hbd := Lib.hid (Hbel.out.trans (((Dn.refl wr).drew.below _).mono Hbel.out.size))
      have hGs : w.heap.size ≤ g := by rw [HG.out]; exact Nat.le_refl _
      clear hCK hRK hlen hc
      go_wp2_with fail
      go_region_law (refine step_copy_splice (by rfl) (.tmp 41) (.tmp 44) 23 23 rfl 3 Try.underlying23 (by kernel_rfl) (if n = k then some (⟨g, 0, none⟩ : Addr) else some ⟨g, k, none⟩) (some ⟨g, 0, none⟩) (n - k) (n - k) k n ?hd ?hs g k RK 3 HVK.out CK HMinK.out HPosK.out HFitK.out HOneK.out w.heap.size w Hbd.out hGs ?rest; (case hd => go_simp); (case hs => go_simp); intro w4 hg4 hb4)
      have hV4 : RowV w4 g (rep x (k + c) n) := by
        have := hg4.out
        rw [HSp.out] at this
        exact this
      have HV4 := Lib.hid hV4
      have Hb4 := Lib.hid hb4
      rw [HLen.out]
      clear hV4 hb4 hg4
      have hkc : IntKind.i64.wrap ((k : Int) + (c : Int)) = ((k + c : Nat) : Int) := by rw [IntKind.wrap_i64]; omega
      go_wp2
      go_roundw
      case rel => exact ⟨k + c, by omega, hcn, by go_num, HV4.out, Hb4.out⟩
      case measure => simp [intOf]; omega
    · obtain rfl : k = n := by omega
      go_wp2
      go_ret
      exact ⟨by rw [← HG.out]; rfl, by rw [← HG.out]; exact HV.out.rowI, Hbel.out⟩

/-- 'unmatched' hands back a fresh row of none. -/
theorem unm_any (n : Nat) (h1 : 1 ≤ n) (h6 : n ≤ 6) : UnmOk n := fun w => by
  have hb0 := below_box w (.cells #[.int .i64 (-1)] 3)
  have HR := Lib.hid (repeat_any w.heap.size 1 n (-1) (w.alloc (.cells #[.int .i64 (-1)] 3)) (by simp [World.cell?_alloc_at]) h1 h6)
  have Hb0 := Lib.hid hb0
  clear hb0
  go_enter Try.func83, Try.ntmps83
  go_wp2_with fail
  refine HR.out.mono ?_
  rintro e w1 ⟨rfl, hR, hb1⟩
  have HR1 := Lib.hid hR
  have Hb1 := Lib.hid (Hb0.out.trans (hb1.mono Hb0.out.size))
  have Hsz := Lib.hid Hb0.out.size
  clear hR hb1
  go_wp2
  go_ret
  exact ⟨w.heap.size + 1, rfl, by have := HR1.out; simpa using this, by omega, Hb1.out⟩
end Go.Proofs.Ytiigcjcolpmafaa
