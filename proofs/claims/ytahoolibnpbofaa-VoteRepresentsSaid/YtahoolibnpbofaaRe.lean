/- slices.Reverse on a row of the call's own. -/
import Derived.Test.YtahoolibnpbofaaFw
import Derived.Test.YtahoolibnpbofaaRowC
import Derived.Test.YtahoolibnpbofaaExc
import Derived.RegionTactic
import Derived.Deep.DeepCutAuto
namespace Go.Proofs.Ytahoolibnpbofaa
open Go.RowKit

/-- The first i places and the last i of m are turned. -/
def revK (D : Nat → Int) (m i : Nat) : Nat → Int := fun k => if k < i ∨ m - i ≤ k then D (m - 1 - k) else D k
theorem revK_zero (D : Nat → Int) (m k : Nat) (hk : k < m) : revK D m 0 k = D k := by
  unfold revK
  rw [if_neg (by omega)]
theorem revK_end {D : Nat → Int} {m i k : Nat} (h : m ≤ 2 * i + 1) (hi : i ≤ m) (hk : k < m) : revK D m i k = D (m - 1 - k) := by
  unfold revK
  by_cases e : k < i ∨ m - i ≤ k
  · rw [if_pos e]
  · rw [if_neg e]
    have : m - 1 - k = k := by omega
    rw [this]
theorem revK_next {D : Nat → Int} {m i : Nat} (h : 2 * i + 1 < m) (k : Nat) (hk : k < m) : upd (upd (revK D m i) i (revK D m i (m - 1 - i))) (m - 1 - i) (revK D m i i) k = revK D m (i + 1) k := by
  unfold upd
  by_cases e1 : k = m - 1 - i
  · rw [if_pos e1]
    unfold revK
    rw [if_neg (by omega), if_pos (by omega)]
    congr 1
    omega
  · rw [if_neg e1]
    by_cases e2 : k = i
    · rw [if_pos e2]
      unfold revK
      rw [if_neg (by omega), if_pos (by omega), e2]
    · rw [if_neg e2]
      unfold revK
      by_cases e3 : k < i ∨ m - i ≤ k
      · rw [if_pos e3, if_pos (by omega)]
      · rw [if_neg e3, if_neg (by omega)]

set_option maxHeartbeats 1000000 in
set_option maxRecDepth 1000000 in
theorem reverse_any (g cap cs m : Nat) (D : Nat → Int) (w : World) (h : RowC w g cap m D) (hm : m ≤ 1000) (hm1 : 1 ≤ m) :
    Calls Try.prog 39 #[.slice (some ⟨g, 0, none⟩) m cs] w fun e w' => (∃ v, e = .returned v) ∧ RowC w' g cap m (fun k => D (m - 1 - k)) ∧ Exc g w w' := by
  have H := Lib.hid (h.congr (D' := revK D m 0) (fun i hi => (revK_zero D m i hi).symm))
  clear h
  go_enter Try.func39, Try.ntmps39
  go_wp2
  go_loopw [2, 3] (fun x y wr => ∃ i : Nat, i ≤ m ∧ 2 * i ≤ m + 1 ∧ x = .int .i64 i ∧ y = .int .i64 ((m : Int) - 1 - i) ∧ RowC wr g cap m (revK D m i) ∧ Exc g w wr) (fun x _ _ => m - (intOf x).toNat)
  case atStart => exact ⟨0, Nat.zero_le _, by omega, rfl, by first | go_num | (congr 1; omega), H.out, Exc.refl _ _⟩
  case round =>
    obtain ⟨i, hi, hi2, rfl, rfl, hR, hE⟩ := hrel
    have HR := Lib.hid hR
    have HE := Lib.hid hE
    clear hR hE H
    by_cases hlt : 2 * i + 1 < m
    · have hlt' : (i : Int) < (m : Int) - 1 - i := by omega
      obtain ⟨j, hj⟩ : ∃ j : Nat, j = m - 1 - i := ⟨_, rfl⟩
      have hji : ((m : Int) - 1 - i) = (j : Int) := by omega
      have hjm : j < m := by omega
      have him : i < m := by omega
      have hc1 := HR.out.cell him
      have hc2 := HR.out.cell hjm
      have hf1 := HR.out.frozen i
      have hf2 := HR.out.frozen j
      have HN : Hid (∀ k, k < m → upd (upd (revK D m i) i (revK D m i j)) j (revK D m i i) k = revK D m (i + 1) k) := Lib.hid (by rw [hj]; exact fun k hk => revK_next hlt k hk)
      generalize revK D m i = D1 at *
      have HS := Lib.hid ((HR.out.set i (D1 j)).set j (D1 i))
      have HX := Lib.hid ((HE.out.set i (.int .i64 (D1 j))).set j (.int .i64 (D1 i)))
      have HJ := Lib.hid hji
      have hij : i ≠ j := by omega
      rw [hji] at hlt' ⊢
      clear hji hj
      generalize D1 i = d1 at *
      generalize D1 j = d2 at *
      go_wp2
      go_region
      clear hc1 hc2 hf1 hf2
      generalize World.setCell (World.setCell _ ⟨g, i, none⟩ (.int .i64 d2)) ⟨g, j, none⟩ (.int .i64 d1) = W2 at *
      go_wp2
      go_roundw
      case rel => exact ⟨i + 1, by omega, by omega, by go_num, val_int (by have := HJ.out; omega), (RowC.congr HS.out HN.out), HX.out.drew⟩
      case measure => simp [intOf]; omega
    · have hlt' : ¬ (i : Int) < (m : Int) - 1 - i := by omega
      have HC := Lib.hid (HR.out.congr (D' := fun k => D (m - 1 - k)) (fun k hk => revK_end (by omega) hi hk))
      go_wp2
      go_end0
      exact ⟨⟨_, rfl⟩, HC.out, HE.out⟩

theorem RowC.ownL {w : World} {g cap m : Nat} {D : Nat → Int} {base : Nat} (h : RowC w g cap m D) (hb : base ≤ g) (hm : cap ≤ maxLen) : OwnL w base (.slice (some ⟨g, 0, none⟩) m cap) (lst m D) := by
  obtain ⟨F, ⟨c, hc, hs, hF⟩, hmc, hD⟩ := h
  unfold OwnL
  rw [lst_len]
  refine ⟨by simp [lst_len], .inr ⟨g, cap, c, rfl, hb, hc, hmc, hm, by omega, ?_⟩⟩
  apply List.ext_getElem?
  intro i
  rw [Nat.mul_one]
  by_cases hi : i < m
  · rw [List.getElem?_take_of_lt hi, Array.getElem?_toList, hF i (by omega), hD i hi, List.getElem?_map, lst_get m D i hi]
    rfl
  · rw [List.getElem?_eq_none (by simp; omega), List.getElem?_eq_none (by simp [lst_len]; omega)]
theorem OwnL.rowCm {w : World} {base : Nat} {v : Value} {n : Nat} {f : Nat → Int} (h : OwnL w base v (lst n f)) (hp : 0 < n) : ∃ g cap, v = .slice (some ⟨g, 0, none⟩) n cap ∧ base ≤ g ∧ cap ≤ maxLen ∧ RowC w g cap n f := by
  obtain ⟨g, cap, e, hb, hr⟩ := h.rowC hp
  rcases h.2 with ⟨e2, -⟩ | ⟨g', cap', cur, e2, -, -, -, hcm, -⟩
  · rw [e2] at e
    cases e
  · rw [e2] at e
    injection e with e3 e4 e5
    exact ⟨g, cap, by rw [e2]; rw [e4, e3, e5], hb, by omega, hr⟩
/-- Row p is turned, all else as it was. -/
theorem OwnS.turned {w w' : World} {base n : Nat} {x : Value} {L : Nat → Nat} {v : Nat → Nat → Int} (h : OwnS w base x n L v) {p : Nat} (hp : p < n) (hL : 0 < L p) :
    ∃ (G c g cap : Nat), x = .slice (some ⟨G, 0, none⟩) n c ∧ w.cell? ⟨G, p, none⟩ = some (.slice (some ⟨g, 0, none⟩) (L p) cap) ∧ base ≤ g ∧ RowC w g cap (L p) (v p) ∧
      ∀ (D : Nat → Int), RowC w' g cap (L p) D → Exc g w w' → OwnS w' base x n L (fun i => if i = p then D else v i) := by
  obtain ⟨vals, hl, hown, hv, hsep⟩ := h
  obtain ⟨r, hr⟩ : ∃ r, vals[p]? = some r := ⟨_, List.getElem?_eq_getElem (by omega)⟩
  have hrow := hv p r hr
  have hown0 := hown
  rcases hown0.2 with ⟨-, h0⟩ | ⟨G, c, cur, rfl, -⟩
  · omega
  obtain ⟨g, cap, rfl, hb, hcm, hR⟩ := hrow.rowCm hL
  have hc := World.ownsRow.cellAt hown p (by omega)
  rw [hr] at hc
  refine ⟨G, c, g, cap, rfl, hc, hb, hR, fun D hD hE => ⟨vals, hl, World.ownsRow.kept (row := some g) hown hE ?_, fun i z hz => ?_, hsep⟩⟩
  · have := own_other hown hrow (by decide)
    simpa [Value.ownBlock] using this
  · by_cases e : i = p
    · subst e
      rw [hr] at hz
      injection hz with hz
      subst hz
      simp only [if_true]
      exact hD.ownL hb hcm
    · simp only [if_neg e]
      refine World.ownsRow.kept (row := some g) (hv i z hz) hE ?_
      cases hz2 : z.ownBlock with
      | none => exact .inl rfl
      | some a =>
        refine .inr (fun e3 => ?_)
        injection e3 with e3
        rcases Nat.lt_or_ge i p with hlt | hge
        · have := hsep i p z _ a g hlt hz hr hz2 rfl
          omega
        · have := hsep p i _ z g a (by omega) hr hz rfl hz2
          omega
set_option maxHeartbeats 1000000 in
set_option maxRecDepth 1000000 in
theorem reverse_none (A : Option Addr) (cs : Nat) (w : World) :
    Calls Try.prog 39 #[.slice A 0 cs] w fun e w' => (∃ v, e = .returned v) ∧ w = w' := by
  go_enter Try.func39, Try.ntmps39
  go_wp2
  go_loopw [2, 3] (fun x y wr => x = .int .i64 0 ∧ y = .int .i64 (-1) ∧ w = wr) (fun _ _ _ => 0)
  case atStart => exact ⟨rfl, by first | rfl | go_num, rfl⟩
  case round =>
    obtain ⟨rfl, rfl, rfl⟩ := hrel
    go_wp2
    go_end0
    exact ⟨⟨_, rfl⟩, rfl⟩
end Go.Proofs.Ytahoolibnpbofaa
