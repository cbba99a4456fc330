/- The reference: rank, IsOrder, Valid, self. -/
import Derived.Test.YtocfbafcplhmiaaUi
namespace Go.Proofs.Ytocfbafcplhmiaa
open Go.RowKit

set_option maxHeartbeats 1000000 in
theorem rankR_any (A : Option Addr) (n c : Nat) (f : Nat → Int) (x : Int) (w : World) (h : Ints w A n f) (hn : n ≤ 9223372036854775807) :
    Calls Try.prog 60 #[.slice A n c, .int .i64 x] w fun e w' => e = .returned (.int .i64 (idxI f x n)) ∧ w = w' := by
  have H := Lib.hid h
  clear h
  go_enter Try.func60, Try.ntmps60
  go_wp2
  go_loop [9] (fun i => ∃ k : Nat, k ≤ n ∧ i = .int .i64 k ∧ ∀ j, j < k → f j ≠ x) (fun i => n - (intOf i).toNat)
  case atStart => exact ⟨0, Nat.zero_le _, rfl, fun j hj => absurd hj (by omega)⟩
  case round =>
    obtain ⟨k, hk, rfl, he⟩ := hrel
    have HE := Lib.hid he
    clear he
    by_cases hlt : k < n
    · obtain ⟨b, o, rfl, hc⟩ := H.out.at hlt
      by_cases hx : f k = x
      · have hB := beq_t hx.symm
        have HR : Hid (idxI f x n = k) := Lib.hid (idxI_some HE.out hx n hlt)
        clear hx
        go_wp2
        go_ret
        exact ⟨ret_int HR.out.symm, rfl⟩
      · have hB := beq_f (fun e => hx (Eq.symm e) : ¬ x = f k)
        have HE2 : Hid (∀ j, j < k + 1 → f j ≠ x) := Lib.hid (fun j hj => by
          rcases Nat.lt_or_ge j k with hl | hl
          · exact HE.out j hl
          · obtain rfl : j = k := by omega
            exact hx)
        clear hx
        go_wp2
        go_round
        case rel => exact ⟨k + 1, by omega, by go_num, HE2.out⟩
        case measure => simp [intOf]; omega
    · obtain rfl : n = k := by omega
      go_wp2
      go_ret
      exact ⟨ret_int (idxI_none HE.out).symm, rfl⟩
theorem idxI_bdV (f : Nat → Int) (x : Int) (n : Nat) : -1 ≤ idxI f x n ∧ idxI f x n < n := by
  rcases idxI_cases f x n with ⟨e, -⟩ | ⟨k, hk, e, -⟩ <;> omega

set_option maxHeartbeats 1000000 in
set_option maxRecDepth 1000000 in
theorem isOrderR_any (A : Option Addr) (n cp c : Nat) (f : Nat → Int) (w : World) (h : ArgI w A n cp f) (hc : c ≤ 9223372036854775807) :
    Ro 28 #[.slice A n cp, .int .i64 c] w (.bool (ordR c n f)) := by
  refine Ro.of ?_
  have HU : Hid (ordR c n f = (allB (fun x => hasB f (x : Int) n) c && decide (n = c))) := Lib.hid rfl
  have H := Lib.hid h
  have hn : n ≤ 9223372036854775807 := by
    have h1 := h.1
    have h2 := h.2.1
    unfold maxLen at h2
    omega
  clear h
  go_enter Try.func28, Try.ntmps28
  go_wp2
  go_loopw [7] (fun i wr => ∃ k : Nat, k ≤ c ∧ i = .int .i64 k ∧ AllLt (fun x => hasB f (x : Int) n) k ∧ Dn w wr) (fun i _ => c - (intOf i).toNat)
  case atStart => exact ⟨0, Nat.zero_le _, rfl, AllLt.zero, Dn.refl _⟩
  case round =>
    obtain ⟨k, hk, rfl, hA, hD⟩ := hrel
    have HA := Lib.hid hA
    clear hA
    by_cases hlt : k < c
    · have HRk := Lib.hid (Ro.same (rankR_any A n cp f (k : Int) wr (by obtain ⟨m, rfl⟩ := hD; exact H.out.2.2.2) hn))
      have HS : Hid (hasB f (k : Int) n = decide (0 ≤ idxI f (k : Int) n)) := Lib.hid rfl
      have hbd := idxI_bdV f (k : Int) n
      generalize idxI f (k : Int) n = r at *
      go_wp2_with fail
      refine Ro.use HRk.out ?_
      intro w3 hd3
      have HD := Lib.hid (hD.trans hd3)
      clear hd3 hD HRk
      rcases Int.lt_or_le r 0 with h0 | h0
      · have HF := Lib.hid (allB_f (p := fun x => hasB f (x : Int) n) hlt (by show hasB f (k : Int) n = false; rw [HS.out]; exact decide_eq_false (by omega)))
        go_wp2
        go_ret
        exact ⟨ret_bool (by rw [HU.out, HF.out]; rfl), HD.out⟩
      · have HN := Lib.hid (HA.out.succ (show hasB f (k : Int) n = true by rw [HS.out]; exact decide_eq_true h0))
        go_wp2
        go_roundw
        case rel => exact ⟨k + 1, by omega, by go_num, HN.out, HD.out⟩
        case measure => simp [intOf]; omega
    · obtain rfl : k = c := by omega
      have HT := Lib.hid (allB_t HA.out)
      by_cases e : n = k
      · have hB := beq_t (a := (n : Int)) (b := (k : Int)) (by omega)
        have HV : Hid (ordR k n f = true) := Lib.hid (by rw [HU.out, HT.out, decide_eq_true e]; rfl)
        clear e
        go_wp2
        go_ret
        exact ⟨ret_bool HV.out.symm, hD⟩
      · have hB := beq_f (a := (n : Int)) (b := (k : Int)) (by omega)
        have HV : Hid (ordR k n f = false) := Lib.hid (by rw [HU.out, decide_eq_false e, Bool.and_false])
        clear e
        go_wp2
        go_ret
        exact ⟨ret_bool HV.out.symm, hD⟩


def okSR (n : Nat) (L : Nat → Nat) (v : Nat → Nat → Int) : Bool := allB (fun i => ordR n (L i) (v i)) n && decide (1 ≤ n ∧ n ≤ 5)
theorem okSR_eq (n : Nat) (L : Nat → Nat) (v : Nat → Nat → Int) : okSR n L v = okS n L v := by
  unfold okSR okS
  rw [Bool.and_comm]
  congr 1
  exact allB_congr (fun i _ => ordR_eq _ _ _)
set_option maxHeartbeats 1000000 in
set_option maxRecDepth 1000000 in
theorem validR_any (A : Option Addr) (n c : Nat) (L : Nat → Nat) (v : Nat → Nat → Int) (w : World) {c0 : Nat} (h : ArgR w A n c0 L v) :
    Ro 19 #[.slice A n c] w (.bool (okS n L v)) := by
  rw [← okSR_eq]
  refine Ro.of ?_
  have hn : n ≤ 17592186044416 := Nat.le_trans h.1 h.2.1
  have H := Lib.hid h
  clear h
  have HU : Hid (okSR n L v = (allB (fun i => ordR n (L i) (v i)) n && decide (1 ≤ n ∧ n ≤ 5))) := Lib.hid rfl
  go_enter Try.func19, Try.ntmps19
  go_wp2
  go_loopw [7] (fun i wr => ∃ k : Nat, k ≤ n ∧ i = .int .i64 k ∧ AllLt (fun i => ordR n (L i) (v i)) k ∧ Dn w wr) (fun i _ => n - (intOf i).toNat)
  case atStart => exact ⟨0, Nat.zero_le _, rfl, AllLt.zero, Dn.refl _⟩
  case round =>
    obtain ⟨k, hk, rfl, hA, hD⟩ := hrel
    have HA := Lib.hid hA
    clear hA
    by_cases hlt : k < n
    · obtain ⟨b', o', A', c', rfl, hc', hAI⟩ := (H.out.below (hD.below _)).at hlt
      have HO := Lib.hid (isOrderR_any A' (L k) c' n (v k) wr hAI (by omega))
      clear hAI
      go_wp2_with fail
      refine Ro.use HO.out ?_
      intro w3 hd3
      have HD := Lib.hid (hD.trans hd3)
      clear hd3 HO
      cases hb : ordR n (L k) (v k) with
      | true =>
        have HA2 := Lib.hid (HA.out.succ hb)
        clear hb
        go_wp2
        go_roundw
        case rel => exact ⟨k + 1, by omega, by go_num, HA2.out, HD.out⟩
        case measure => simp [intOf]; omega
      | false =>
        have HF := Lib.hid (allB_f (p := fun i => ordR n (L i) (v i)) hlt hb)
        clear hb
        go_wp2
        go_ret
        exact ⟨ret_bool (by rw [HU.out, HF.out]; rfl), HD.out⟩
    · obtain rfl : k = n := by omega
      have HT := Lib.hid (allB_t HA.out)
      by_cases h2 : 1 ≤ k
      · by_cases h3 : k ≤ 5
        · have HW : Hid (okSR k L v = true) := Lib.hid (by rw [HU.out, HT.out, decide_eq_true ⟨h2, h3⟩]; rfl)
          go_wp2
          go_ret
          exact ⟨ret_bool (by first | (rw [HW.out]; done) | (rw [HW.out]; rfl) | (rw [HW.out]; simp; omega)), hD⟩
        · have HW : Hid (okSR k L v = false) := Lib.hid (by rw [HU.out, decide_eq_false (fun h => h3 h.2), Bool.and_false])
          have h3' : 5 < k := by omega
          clear h3
          go_wp2
          go_ret
          exact ⟨ret_bool (by first | (rw [HW.out]; done) | (rw [HW.out]; rfl) | (rw [HW.out]; simp; omega)), hD⟩
      · have HW : Hid (okSR k L v = false) := Lib.hid (by rw [HU.out, decide_eq_false (fun h => h2 h.1), Bool.and_false])
        have h2' : k < 1 := by omega
        clear h2
        go_wp2
        go_ret
        exact ⟨ret_bool (by first | (rw [HW.out]; done) | (rw [HW.out]; rfl) | (rw [HW.out]; simp; omega)), hD⟩
theorem ArgR.wis {w : World} {A : Option Addr} {n c : Nat} {L : Nat → Nat} {v : Nat → Nat → Int} (h : ArgR w A n c L v) (hok : okS n L v = true) : Wis w A n (tO v) := by
  obtain ⟨h1, h2, h3, h4⟩ := okS_pm hok
  intro hp
  obtain ⟨b, o, hA, hc⟩ := h.2.2.2 hp
  refine ⟨b, o, hA, fun i hi => ?_⟩
  obtain ⟨A', c', q1, q2⟩ := hc i hi
  rw [h2 i hi] at q1 q2
  exact ⟨A', c', q1, q2.1, q2.2.2.2.congr (fun j hj => h4 i j hi hj)⟩
set_option maxHeartbeats 1000000 in
set_option maxRecDepth 1000000 in
theorem self_any (n : Nat) (hn : n ≤ 9) (w : World) : Calls Try.prog 76 #[.int .i64 n] w fun e w' => ∃ x, e = .returned x ∧ OwnL w' w.heap.size x (lst n (fun k => (k : Int))) ∧ Below w.heap.size w w' := by
  obtain ⟨i0, hi, hz0, hz1, hz2⟩ := info_parts infoInt
  go_enter Try.func76, Try.ntmps76
  go_wp2
  go_loopw [3, 6] (fun s i wr => ∃ k : Nat, k ≤ n ∧ i = .int .i64 k ∧ OwnL wr w.heap.size s (lst k (fun k => (k : Int))) ∧ Below w.heap.size w wr) (fun _ i _ => n - (intOf i).toNat)
  case atStart => exact ⟨0, Nat.zero_le _, rfl, OwnL.nil_ _ _, Below.refl _ _⟩
  case round =>
    obtain ⟨k, hk, rfl, hO, hB⟩ := hrel
    have HO := Lib.hid hO
    have HB := Lib.hid hB
    have hs0 := hB.size
    clear hO hB
    by_cases hlt : k < n
    · have HO1 := Lib.hid (World.ownsRow.alloc HO.out (.cells #[.int .i64 (k : Int)] 3))
      have hlen : (lst k (fun k => (k : Int))).length = k := lst_len _ _
      go_wp2_with (at_builtin; go_loud (refine wpList_append_own _ rfl _ _ 23 rfl w.heap.size 3 i0 (.int .i64 0) 1 8 Try.underlying23 hi hz0 hz1 hz2 rfl (by decide) _ _ _ rfl HO1.out ⟨wr.heap.size, 0, none⟩ 1 1 [.int .i64 (k : Int)] rfl rfl (news1 _ _ _) (one1 rfl) (by unfold maxLen; omega) (by omega) (by simp; omega) ?_))
      intro v' w2 hown2 hgrow2 _
      have HO2 := Lib.hid hown2
      have HG2 := Lib.hid hgrow2
      clear hown2 hgrow2
      go_wp2
      go_roundw
      case rel =>
        refine ⟨k + 1, by omega, by go_num, ?_, (HB.out.alloc hs0 _).grown HG2.out (by simp; omega) (fun g hg => (World.ownsRow.lt HO.out g hg).1)⟩
        unfold OwnL
        rw [lst_succ, List.map_append, List.length_append]
        simpa [lst_len] using HO2.out
      case measure => simp [intOf]; omega
    · obtain rfl : k = n := by omega
      go_wp2
      go_ret
      exact ⟨_, rfl, HO.out, HB.out⟩
end Go.Proofs.Ytocfbafcplhmiaa
