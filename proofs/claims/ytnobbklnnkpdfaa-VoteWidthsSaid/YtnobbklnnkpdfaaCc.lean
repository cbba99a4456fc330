/- slices.Concat. -/
import Derived.Test.YtnobbklnnkpdfaaLl
import Derived.Test.YtnobbklnnkpdfaaVp
namespace Go.Proofs.Ytnobbklnnkpdfaa
open Go.RowKit

/-- The first k rows in a row. -/
def catL (L : Nat → Nat) (v : Nat → Nat → Int) : Nat → List Int
  | 0 => []
  | k + 1 => catL L v k ++ lst (L k) (v k)
def sumL (L : Nat → Nat) : Nat → Nat
  | 0 => 0
  | k + 1 => sumL L k + L k
theorem catL_len (L : Nat → Nat) (v : Nat → Nat → Int) : ∀ k, (catL L v k).length = sumL L k := by
  intro k
  induction k with
  | zero => rfl
  | succ k ih => simp only [catL, sumL, List.length_append, lst_len, ih]
theorem OwnL.cut0 {w : World} {base : Nat} {A : Option Addr} {n c : Nat} {xs : List Int} (h : OwnL w base (.slice A n c) xs) (hA : A ≠ none) : OwnL w base (.slice A 0 c) [] := by
  rcases h.2 with ⟨e, h0⟩ | ⟨g, cap, cur, e, hg, hh, hnc, hcm, hcs, ht⟩
  · injection e with e1
    exact absurd e1 hA
  · injection e with e1 e2 e3
    subst e1 e3
    exact ⟨rfl, .inr ⟨g, c, cur, rfl, hg, hh, Nat.zero_le _, hcm, hcs, by simp⟩⟩

set_option maxHeartbeats 1000000 in
set_option maxRecDepth 1000000 in
theorem grow_any (n : Nat) (h1 : 1 ≤ n) (hn : n ≤ 1000) (w : World) :
    Calls Try.prog 71 #[.slice none 0 0, .int .i64 (n : Int)] w fun e w' => ∃ v, e = .returned v ∧ OwnL w' w.heap.size v [] ∧ Below w.heap.size w w' := by
  have hmk := mk_ints n (by omega)
  have hnI : (0 : Int) < (n : Int) := by omega
  have hby : Try.t3.bytes = 8 := rfl
  have hq1 : ¬ (281474976710656 : Int) < (n : Int) * (Try.t3.bytes : Int) := by rw [hby]; omega
  have hnx : Builtin.nextslicecap n 0 = n := by unfold Builtin.nextslicecap; simp; omega
  have hq2 : ¬ 281474976710656 < Builtin.nextslicecap n 0 * Try.t3.bytes := by rw [hby, hnx]; omega
  clear hby hnx
  go_enter Try.func71, Try.ntmps71
  go_wp2_with fail
  go_ret
  have hge := grownCap_ge w n 0 3
  have hle := grownCap_le_maxLen w n 0 3 (by unfold maxLen; omega)
  refine ⟨_, rfl, ⟨rfl, .inr ⟨w.heap.size, grownCap w n 0 3, _, rfl, Nat.le_refl _, heap_alloc_new _ _, Nat.zero_le _, hle, ?_, by simp⟩⟩, ?_⟩
  · have e : (Question.appendCap n 0 3).cut (w.tape w.drawn (Question.appendCap n 0 3)) = grownCap w n 0 3 := rfl
    rw [e]
    simp [Builtin.zeroCells]
    omega
  · exact ((Below.refl _ w).alloc (Nat.le_refl _) _).trans ((Dn.refl _).drew.below _)
set_option maxHeartbeats 1000000 in
set_option maxRecDepth 1000000 in
theorem concat_any (A : Option Addr) (k c : Nat) (L : Nat → Nat) (v : Nat → Nat → Int) (w : World) (h : RowsK w A k L v) (hk1 : 1 ≤ k) (hk : k ≤ 9) (hL : ∀ i, i < k → L i ≤ 100) (hs : 1 ≤ sumL L k) :
    Calls Try.prog 49 #[.slice A k c] w fun e w' => ∃ x, e = .returned x ∧ OwnL w' w.heap.size x (catL L v k) ∧ Below w.heap.size w w' := by
  have H := Lib.hid h
  have HL := Lib.hid hL
  have HSb : Hid (∀ i, i ≤ k → sumL L i ≤ 100 * i) := Lib.hid (by
    intro i
    induction i with
    | zero => intro _; exact Nat.zero_le _
    | succ i ih => intro hi; have := ih (by omega); have := hL i (by omega); simp only [sumL]; omega)
  clear h hL
  go_enter Try.func49, Try.ntmps49
  go_wp2_with fail
  go_loopw [3, 11] (fun s i wr => ∃ j : Nat, j ≤ k ∧ i = .int .i64 j ∧ s = .int .i64 (sumL L j) ∧ w = wr) (fun _ i _ => k - (intOf i).toNat)
  case atStart => exact ⟨0, Nat.zero_le _, rfl, rfl, rfl⟩
  case round =>
    obtain ⟨j, hj, rfl, rfl, rfl⟩ := hrel
    by_cases hlt : j < k
    · obtain ⟨b, o, A', c', rfl, hc, hLc, hI⟩ := H.out.at hlt
      have hb := HSb.out j hj
      have hl := HL.out j hlt
      have HN : Hid (sumL L (j + 1) = sumL L j + L j) := Lib.hid rfl
      clear hI
      generalize sumL L j = s at *
      generalize L j = l at *
      go_wp2
      go_roundw
      case rel => exact ⟨j + 1, by omega, by go_num, by rw [HN.out]; go_num, trivial⟩
      case measure => simp [intOf]; omega
    · have e : j = k := by omega
      have hb := HSb.out k (Nat.le_refl _)
      rw [e]
      clear e hlt hj
      have HG := Lib.hid (grow_any (sumL L k) hs (by omega) w)
      go_wp2_with fail
      refine HG.out.mono ?_
      rintro e w1 ⟨v1, rfl, hv1, hb1⟩
      have HV1 := Lib.hid hv1
      have HB1 := Lib.hid hb1
      clear hv1 hb1 HG
      go_wp2_with fail
      have HS0 := Lib.hid (show OwnL w1 w.heap.size v1 (catL L v 0) from HV1.out)
      clear HV1
      go_loopw [6, 27] (fun s i wr => ∃ j : Nat, j ≤ k ∧ i = .int .i64 j ∧ OwnL wr w.heap.size s (catL L v j) ∧ Below w.heap.size w wr) (fun _ i _ => k - (intOf i).toNat)
      case atStart => exact ⟨0, Nat.zero_le _, rfl, HS0.out, HB1.out⟩
      case round =>
        obtain ⟨j, hj, rfl, hO, hB⟩ := hrel
        have HOj := Lib.hid hO
        have HBj := Lib.hid hB
        have hsz := hB.size
        obtain ⟨As, Ns, cs, rfl⟩ := hO.shape
        clear hO hB
        by_cases hlt : j < k
        · obtain ⟨b, o, A', c', rfl, hc, hLc, hI⟩ := (H.out.keep HBj.out).at hlt
          have HI := Lib.hid hI
          have hl := HL.out j hlt
          have hb' := HSb.out j hj
          have hlen := catL_len L v j
          have HN : Hid (catL L v (j + 1) = catL L v j ++ lst (L j) (v j)) := Lib.hid rfl
          clear hI
          go_wp2_with (at_builtin; go_loud (refine wpList_append_ints rfl (.tmp 31) (.tmp 32) rfl w.heap.size (.slice As Ns cs) (catL L v j) rfl HOj.out A' (L j) c' (v j) rfl HI.out (by rw [hlen]; omega) hsz ?_))
          intro v2 w2 hv2 hg2 _
          have HV2 : Hid (OwnL w2 w.heap.size v2 (catL L v (j + 1))) := Lib.hid (by rw [HN.out]; exact hv2)
          have HB2 := Lib.hid (HBj.out.grown hg2 hsz (fun g hg => (World.ownsRow.lt HOj.out g hg).1))
          clear hv2 hg2
          go_wp2
          go_roundw
          case rel => exact ⟨j + 1, by omega, by go_num, HV2.out, HB2.out⟩
          case measure => simp [intOf]; omega
        · have e : j = k := by omega
          rw [e] at HOj ⊢
          clear e hlt hj
          go_wp2
          go_ret
          exact ⟨_, rfl, HOj.out, HBj.out⟩
end Go.Proofs.Ytnobbklnnkpdfaa
