/- Ballots that are valid, as the program finds them. -/
import Derived.Test.YtnobbklnnkpdfaaFw
import Derived.Test.YtnobbklnnkpdfaaBs
import Derived.Deep.DeepCutAuto
namespace Go.Proofs.Ytnobbklnnkpdfaa
open Go.RowKit

theorem okAt_f1 {c : Nat} {f : Nat → Int} {k : Nat} (h : f k < 0) : okAt c f k = false := by
  unfold okAt
  rw [decide_eq_false (by omega)]
  rfl
theorem okAt_f2 {c : Nat} {f : Nat → Int} {k : Nat} (h : (c : Int) ≤ f k) : okAt c f k = false := by
  unfold okAt
  rw [decide_eq_false (p := f k < (c : Int)) (by omega), Bool.false_and, Bool.and_false]
theorem okAt_b {c : Nat} {f : Nat → Int} {k : Nat} (h0 : 0 ≤ f k) (h1 : f k < (c : Int)) : okAt c f k = !hasB f (f k) k := by
  unfold okAt
  rw [decide_eq_true h0, decide_eq_true h1, Bool.true_and, Bool.true_and]

set_option maxHeartbeats 1000000 in
set_option maxRecDepth 1000000 in
theorem isOrder_any (A : Option Addr) (n cp c : Nat) (f : Nat → Int) (w : World) (h : Ints w A n f) (hn : n ≤ 1000) (hcp : n ≤ cp) (hc : c ≤ 1000) :
    Ro 73 #[.slice A n cp, .int .i64 c] w (.bool (ordB c n f)) := by
  refine Ro.of ?_
  have H := Lib.hid h
  clear h
  by_cases e : n = c
  · subst e
    have HU : Hid (ordB n n f = allB (okAt n f) n) := Lib.hid (by unfold ordB; rw [decide_eq_true rfl, Bool.true_and])
    have hB := bne_f (a := (n : Int)) rfl
    go_enter Try.func73, Try.ntmps73
    go_wp2
    go_loopw [13] (fun i wr => ∃ k : Nat, k ≤ n ∧ i = .int .i64 k ∧ AllLt (okAt n f) k ∧ Dn w wr) (fun i _ => n - (intOf i).toNat)
    case atStart => exact ⟨0, Nat.zero_le _, rfl, AllLt.zero, Dn.refl _⟩
    case round =>
      obtain ⟨k, hk, rfl, hA, hD⟩ := hrel
      by_cases hlt : k < n
      · obtain ⟨b, o, rfl, hcc⟩ := (H.out.dn hD).at hlt
        rcases Int.lt_or_le (f k) 0 with h0 | h0
        · have HF := Lib.hid (allB_f hlt (okAt_f1 (c := n) h0))
          go_wp2
          go_ret
          exact ⟨ret_bool (by rw [HU.out, HF.out]), hD⟩
        · rcases Int.lt_or_le (f k) (n : Int) with h1 | h1
          · have HO := Lib.hid (okAt_b h0 h1)
            have HC := Lib.hid (contains_any (some ⟨b, o, none⟩) k cp f (f k) wr (fun hp => by
              obtain ⟨b', o', e, hh⟩ := (H.out.dn hD) (by omega)
              exact ⟨b', o', e, fun j hj => hh j (by omega)⟩) (by omega))
            go_wp2_with fail
            refine HC.out.mono ?_
            rintro e w3 ⟨rfl, rfl⟩
            clear HC
            cases hb : hasB f (f k) k with
            | true =>
              have HF := Lib.hid (allB_f (p := okAt n f) hlt (by rw [HO.out, hb]; rfl))
              clear hb
              go_wp2
              go_ret
              exact ⟨ret_bool (by rw [HU.out, HF.out]), hD⟩
            | false =>
              have HA := Lib.hid (hA.succ (by rw [HO.out, hb]; rfl))
              clear hb hA
              go_wp2
              go_roundw
              case rel => exact ⟨k + 1, by omega, by go_num, HA.out, hD⟩
              case measure => simp [intOf]; omega
          · have HF := Lib.hid (allB_f hlt (okAt_f2 (c := n) h1))
            go_wp2
            go_ret
            exact ⟨ret_bool (by rw [HU.out, HF.out]), hD⟩
      · obtain rfl : k = n := by omega
        go_wp2
        go_ret
        exact ⟨ret_bool (by rw [HU.out, allB_t hA]), hD⟩
  · have HU : Hid (ordB c n f = false) := Lib.hid (by unfold ordB; rw [decide_eq_false e, Bool.false_and])
    have hB := bne_t (a := (n : Int)) (b := (c : Int)) (by omega)
    clear e
    go_enter Try.func73, Try.ntmps73
    go_wp2
    go_ret
    exact ⟨ret_bool HU.out.symm, Dn.refl _⟩

/-- n ballots of L i places each. -/
def okBal (n : Nat) (L : Nat → Nat) (v : Nat → Nat → Int) : Bool := decide (1 ≤ n ∧ n ≤ 9) && (decide (1 ≤ L 0 ∧ L 0 ≤ 5) && allB (fun i => ordB (L 0) (L i) (v i)) n)
theorem okBal_iff {n : Nat} {L : Nat → Nat} {v : Nat → Nat → Int} : okBal n L v = true ↔ (1 ≤ n ∧ n ≤ 9) ∧ (1 ≤ L 0 ∧ L 0 ≤ 5) ∧ ∀ i, i < n → L i = L 0 ∧ Ord (L 0) (v i) := by
  unfold okBal
  rw [Bool.and_eq_true, Bool.and_eq_true, decide_eq_true_iff, decide_eq_true_iff, allB_iff]
  constructor
  · rintro ⟨h1, h2, h3⟩
    exact ⟨h1, h2, fun i hi => ordB_iff.1 (h3 i hi)⟩
  · rintro ⟨h1, h2, h3⟩
    exact ⟨h1, h2, fun i hi => ordB_iff.2 (h3 i hi)⟩
/-- Rows that are read, each of no more than its capacity. -/
def RowsK (w : World) (A : Option Addr) (n : Nat) (L : Nat → Nat) (v : Nat → Nat → Int) : Prop :=
  0 < n → ∃ b o, A = some ⟨b, o, none⟩ ∧ ∀ i, i < n → ∃ A' c', w.cell? ⟨b, o + i, none⟩ = some (.slice A' (L i) c') ∧ L i ≤ c' ∧ Ints w A' (L i) (v i)
theorem RowsK.keep {w w' : World} {A : Option Addr} {n : Nat} {L : Nat → Nat} {v : Nat → Nat → Int} (h : RowsK w A n L v) (hb : Below w.heap.size w w') : RowsK w' A n L v := fun hn => by
  obtain ⟨b, o, hA, hc⟩ := h hn
  refine ⟨b, o, hA, fun k hk => ?_⟩
  obtain ⟨A', c', h1, h2, h3⟩ := hc k hk
  exact ⟨A', c', (hb.cell (World.block_lt_of_cell? _ _ h1)).trans h1, h2, h3.keep hb⟩
theorem RowsK.dn {w w' : World} {A : Option Addr} {n : Nat} {L : Nat → Nat} {v : Nat → Nat → Int} (h : RowsK w A n L v) (hd : Dn w w') : RowsK w' A n L v := by
  obtain ⟨m, rfl⟩ := hd
  exact h
theorem RowsK.at {w : World} {A : Option Addr} {n : Nat} {L : Nat → Nat} {v : Nat → Nat → Int} (h : RowsK w A n L v) {i : Nat} (hi : i < n) :
    ∃ b o A' c', A = some ⟨b, o, none⟩ ∧ w.cell? ⟨b, o + i, none⟩ = some (.slice A' (L i) c') ∧ L i ≤ c' ∧ Ints w A' (L i) (v i) := by
  obtain ⟨b, o, hA, hc⟩ := h (by omega)
  obtain ⟨A', c', h1, h2, h3⟩ := hc i hi
  exact ⟨b, o, A', c', hA, h1, h2, h3⟩
theorem RowsK.cell0 {w : World} {b o : Nat} {n : Nat} {L : Nat → Nat} {v : Nat → Nat → Int} (h : RowsK w (some ⟨b, o, none⟩) n L v) (hi : 0 < n) : ∃ A' c', w.cell? ⟨b, o, none⟩ = some (.slice A' (L 0) c') := by
  obtain ⟨b', o', A', c', e, h1, h2, h3⟩ := h.at hi
  injection e with e
  injection e with e1 e2
  subst e1 e2
  exact ⟨A', c', h1⟩
theorem OwnR.rowsK {w : World} {base n : Nat} {x : Value} {L : Nat → Nat} {v : Nat → Nat → Int} (h : OwnR w base x n L v) : ∃ A c, x = .slice A n c ∧ RowsK w A n L v := by
  obtain ⟨vals, hl, ho, hv⟩ := h
  have h0 := ho
  rcases h0.2 with ⟨rfl, hn⟩ | ⟨g, cap, cur, rfl, hg, hh, hnc, hcm, hcs, ht⟩
  · exact ⟨none, 0, by rw [hn], fun h => absurd h (by omega)⟩
  · refine ⟨some ⟨g, 0, none⟩, cap, rfl, fun hp => ⟨g, 0, rfl, fun k hk => ?_⟩⟩
    have hx : vals[k]? = some vals[k] := List.getElem?_eq_getElem (by omega)
    obtain ⟨A', c', e, -, hI, -, hcap⟩ := (hv k _ hx).form
    rw [lst_len] at e hI hcap
    refine ⟨A', c', ?_, hcap, hI.congr fun j hj => lst_getD _ _ _ hj⟩
    rw [Nat.zero_add, World.ownsRow.cellAt ho k (by omega), hx, e]

set_option maxHeartbeats 1000000 in
set_option maxRecDepth 1000000 in
theorem valid_any (A : Option Addr) (n c : Nat) (L : Nat → Nat) (v : Nat → Nat → Int) (w : World) (h : RowsK w A n L v) (hn : n ≤ 1000) (hL : ∀ i, i < n → L i ≤ 1000) :
    Ro 53 #[.slice A n c] w (.bool (okBal n L v)) := by
  refine Ro.of ?_
  have H := Lib.hid h
  have HL := Lib.hid hL
  clear h hL
  have HU : Hid (okBal n L v = (decide (1 ≤ n ∧ n ≤ 9) && (decide (1 ≤ L 0 ∧ L 0 ≤ 5) && allB (fun i => ordB (L 0) (L i) (v i)) n))) := Lib.hid rfl
  by_cases h1 : 1 ≤ n ∧ n ≤ 9
  · obtain ⟨h1a, h1b⟩ := h1
    obtain ⟨b, o, A0, c0, rfl, hc0, -⟩ := H.out.at (show 0 < n by omega)
    have hc0' : w.cell? ⟨b, o, none⟩ = some (.slice A0 (L 0) c0) := hc0
    by_cases h2 : 1 ≤ L 0 ∧ L 0 ≤ 5
    · obtain ⟨h2a, h2b⟩ := h2
      have HV : Hid (okBal n L v = allB (fun i => ordB (L 0) (L i) (v i)) n) := Lib.hid (by rw [HU.out, decide_eq_true ⟨h1a, h1b⟩, decide_eq_true ⟨h2a, h2b⟩, Bool.true_and, Bool.true_and])
      clear HU
      go_enter Try.func53, Try.ntmps53
      go_wp2
      go_loopw [26] (fun i wr => ∃ k : Nat, k ≤ n ∧ i = .int .i64 k ∧ AllLt (fun i => ordB (L 0) (L i) (v i)) k ∧ Dn w wr) (fun i _ => n - (intOf i).toNat)
      case atStart => exact ⟨0, Nat.zero_le _, rfl, AllLt.zero, Dn.refl _⟩
      case round =>
        obtain ⟨k, hk, rfl, hA, hD⟩ := hrel
        by_cases hlt : k < n
        · obtain ⟨b', o', A', c', e, hc', hcap, hI⟩ := (H.out.dn hD).at hlt
          injection e with e
          injection e with e1 e2
          subst e1 e2
          have HO := Lib.hid (isOrder_any A' (L k) c' (L 0) (v k) wr hI (HL.out k hlt) hcap (by omega))
          have HA := Lib.hid hA
          clear hI hA hcap
          go_wp2_with fail
          refine Ro.use HO.out ?_
          intro w3 hd3
          have HD := Lib.hid (hD.trans hd3)
          clear hd3 HO
          cases hb : ordB (L 0) (L k) (v k) with
          | true =>
            have HA2 := Lib.hid (HA.out.succ hb)
            clear hb
            go_wp2
            go_roundw
            case rel => exact ⟨k + 1, by omega, by go_num, HA2.out, HD.out⟩
            case measure => simp [intOf]; omega
          | false =>
            have HF := Lib.hid (allB_f (p := fun i => ordB (L 0) (L i) (v i)) hlt hb)
            clear hb
            go_wp2
            go_ret
            exact ⟨ret_bool (by rw [HV.out, HF.out]), HD.out⟩
        · obtain rfl : k = n := by omega
          go_wp2
          go_ret
          exact ⟨ret_bool (by rw [HV.out, allB_t hA]), hD⟩
    · have HV : Hid (okBal n L v = false) := Lib.hid (by rw [HU.out, decide_eq_false h2, Bool.false_and, Bool.and_false])
      have h3 : L 0 < 1 ∨ 5 < L 0 := by omega
      clear HU h2
      rcases h3 with h3 | h3
      · go_enter Try.func53, Try.ntmps53
        go_wp2
        go_ret
        exact ⟨ret_bool HV.out.symm, Dn.refl _⟩
      · go_enter Try.func53, Try.ntmps53
        go_wp2
        go_ret
        exact ⟨ret_bool HV.out.symm, Dn.refl _⟩
  · have HV : Hid (okBal n L v = false) := Lib.hid (by rw [HU.out, decide_eq_false h1, Bool.false_and])
    have h3 : n < 1 ∨ 9 < n := by omega
    clear HU h1
    rcases h3 with h3 | h3
    · go_enter Try.func53, Try.ntmps53
      go_wp2
      go_ret
      exact ⟨ret_bool HV.out.symm, Dn.refl _⟩
    · go_enter Try.func53, Try.ntmps53
      go_wp2
      go_ret
      exact ⟨ret_bool HV.out.symm, Dn.refl _⟩
end Go.Proofs.Ytnobbklnnkpdfaa
