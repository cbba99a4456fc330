import Derived.Test.YtiigcjcolpmafaaSt
namespace Go.Proofs.Ytiigcjcolpmafaa
open Go.RowKit

theorem old_cell {w w' : World} {a : Addr} {v : Value} (h : w.cell? a = some v) (hb : Below w.heap.size w w') : w'.cell? a = some v := (hb.cell (World.block_lt_of_cell? _ _ h)).trans h
theorem below_box (w : World) (o : Obj) : Below w.heap.size w (w.alloc o) := (Below.refl _ _).alloc (Nat.le_refl _) _

set_option maxHeartbeats 1000000 in
set_option maxRecDepth 1000000 in
theorem possible_any (AH AS AP : Option Addr) (cH cS cP : Nat) (p : PlanD) (h : Nat) (s : Int) (w : World) (hH : Rows2 w AH p.nH p.LH p.vH) (hS : Rows2 w AS p.nS p.LS p.vS) (hok : okPlan p = true) (hh : h < p.nH) :
    Lr 89 #[.agg #[.slice AH p.nH cH, .slice AS p.nS cS, .slice AP p.nP cP], .int .i64 h, .int .i64 s] w (.bool (possB p h s)) := by
  obtain ⟨⟨h1, h2, h3, h4, -⟩, -, h7, h8⟩ := okPlan_of hok
  obtain ⟨bH, oH, RH, kH, rfl, hcH, hIH⟩ := hH.at hh
  obtain ⟨bS, oS, RS0, kS0, rfl, -, -⟩ := hS.at (show 0 < p.nS by omega)
  have Hb0 := Lib.hid (below_box w (.cells #[.slice (some ⟨bH, oH, none⟩) p.nH cH, .slice (some ⟨bS, oS, none⟩) p.nS cS, .slice AP p.nP cP] 29))
  have hcH' := old_cell hcH Hb0.out
  have HIH := Lib.hid (hIH.keep Hb0.out)
  have HSs := Lib.hid hS
  have hLH := (h7 h hh).1
  have hp : possB p h s = (hasB (p.vH h) s (p.LH h) && hasB (p.vS s.toNat) (h : Int) (p.LS s.toNat)) := rfl
  show Calls _ _ _ _ _
  cases hx : hasB (p.vH h) s (p.LH h) with
  | false =>
    have HX := Lib.hid hx
    have HP : Hid (possB p h s = false) := Lib.hid (by rw [hp, hx]; rfl)
    clear hp hx h7 h8 hok hH hIH hcH hS
    go_enter Try.func89, Try.ntmps89
    go_wp2_with fail
    refine (contains_any RH (p.LH h) kH (p.vH h) s _ HIH.out (by omega)).mono ?_
    rintro e w' ⟨rfl, rfl⟩
    rw [HX.out]
    go_wp2
    go_ret
    exact ⟨ret_bool HP.out.symm, Hb0.out⟩
  | true =>
    have HX := Lib.hid hx
    obtain ⟨hs0, hs1⟩ := (h7 h hh).rng (of_decide_eq_true hx)
    obtain ⟨t, ht⟩ : ∃ t : Nat, s = t := ⟨s.toNat, by omega⟩
    subst ht
    have htn : t < p.nS := by omega
    rw [Int.toNat_natCast] at hp
    have HP : Hid (possB p h t = hasB (p.vS t) (h : Int) (p.LS t)) := Lib.hid (by rw [hp, hx]; rfl)
    obtain ⟨RS, kS, hcS, hIS⟩ := hS.cell htn
    have hcS' := old_cell hcS Hb0.out
    have HIS := Lib.hid (hIS.keep Hb0.out)
    have hLS := (h8 t htn).1
    clear hp hx h7 h8 hok hH hIH hcH hS hcS hIS
    go_enter Try.func89, Try.ntmps89
    go_wp2_with fail
    refine (contains_any RH (p.LH h) kH (p.vH h) (t : Int) _ HIH.out (by omega)).mono ?_
    rintro e w' ⟨rfl, rfl⟩
    rw [HX.out]
    go_wp2_with fail
    refine (contains_any RS (p.LS t) kS (p.vS t) (h : Int) _ HIS.out (by omega)).mono ?_
    rintro e w' ⟨rfl, rfl⟩
    go_wp2
    go_ret
    exact ⟨ret_bool HP.out.symm, Hb0.out⟩

/-- Rows with their capacities. -/
def RowsC (w : World) (A : Option Addr) (n : Nat) (L : Nat → Nat) (v : Nat → Nat → Int) : Prop :=
  0 < n → ∃ b o, A = some ⟨b, o, none⟩ ∧ ∀ i, i < n → ∃ A' c', w.cell? ⟨b, o + i, none⟩ = some (.slice A' (L i) c') ∧ L i ≤ c' ∧ Ints w A' (L i) (v i)
section
variable {w w' : World} {A : Option Addr} {n : Nat} {L : Nat → Nat} {v : Nat → Nat → Int}
theorem RowsC.rows (h : RowsC w A n L v) : Rows2 w A n L v := fun hn => by
  obtain ⟨b, o, e, hc⟩ := h hn
  exact ⟨b, o, e, fun i hi => by
    obtain ⟨A', c', h1, -, h2⟩ := hc i hi
    exact ⟨A', c', h1, h2⟩⟩
theorem RowsC.at (h : RowsC w A n L v) {i : Nat} (hi : i < n) : ∃ b o A' c', A = some ⟨b, o, none⟩ ∧ w.cell? ⟨b, o + i, none⟩ = some (.slice A' (L i) c') ∧ L i ≤ c' ∧ Ints w A' (L i) (v i) := by
  obtain ⟨b, o, e, hc⟩ := h (by omega)
  obtain ⟨A', c', h1, h2, h3⟩ := hc i hi
  exact ⟨b, o, A', c', e, h1, h2, h3⟩
theorem RowsC.keep (h : RowsC w A n L v) (hb : Below w.heap.size w w') : RowsC w' A n L v := fun hn => by
  obtain ⟨b, o, e, hc⟩ := h hn
  exact ⟨b, o, e, fun i hi => by
    obtain ⟨A', c', h1, h2, h3⟩ := hc i hi
    exact ⟨A', c', old_cell h1 hb, h2, h3.keep hb⟩⟩
end
def ShortL (n : Nat) (L : Nat → Nat) : Prop := ∀ i, i < n → L i ≤ 9

set_option maxHeartbeats 1000000 in
set_option maxRecDepth 1000000 in
theorem validLists_any (A : Option Addr) (n c : Nat) (L : Nat → Nat) (v : Nat → Nat → Int) (k : Nat) (w : World) (h : RowsC w A n L v) (hn : n ≤ 9) (hL : ShortL n L) (_hk : k ≤ 9) :
    Calls Try.prog 82 #[.slice A n c, .int .i64 k] w fun e w' => e = .returned (.bool (decide (ListsOk n L v k))) ∧ w = w' := by
  have H := Lib.hid h
  have HL := Lib.hid hL
  clear h hL
  go_enter Try.func82, Try.ntmps82
  go_wp2
  go_loop [11] (fun x => ∃ i : Nat, i ≤ n ∧ x = .int .i64 i ∧ ListsOk i L v k) (fun x => n - (intOf x).toNat)
  case atStart => exact ⟨0, Nat.zero_le _, rfl, fun j hj => absurd hj (by omega)⟩
  case round =>
    obtain ⟨i, hi, rfl, hok⟩ := hrel
    have HOk := Lib.hid hok
    clear hok
    by_cases hlt : i < n
    · obtain ⟨b, o, R, cR, rfl, hc, hcap, hI⟩ := H.out.at hlt
      have hLi := HL.out i hlt
      have HI := Lib.hid hI
      have HF : Hid (¬ RowOk (v i) (L i) k → Value.bool false = .bool (decide (ListsOk n L v k))) := Lib.hid (fun hno => by
        congr 1
        symm
        exact decide_eq_false (fun hall => hno (hall i hlt)))
      clear hI
      by_cases hlen : L i ≤ k
      · have hlen1 : ¬ (k : Int) < (L i : Int) := by omega
        go_wp2
        go_loop [21] (fun x => ∃ a : Nat, a ≤ L i ∧ x = .int .i64 a ∧ ∀ a', a' < a → 0 ≤ v i a' ∧ v i a' < (k : Int) ∧ idxI (v i) (v i a') a' = -1) (fun x => L i - (intOf x).toNat)
        case atStart => exact ⟨0, Nat.zero_le _, rfl, fun j hj => absurd hj (by omega)⟩
        case round =>
          obtain ⟨a, ha, rfl, hal⟩ := hrel
          have HAl := Lib.hid hal
          clear hal
          by_cases hlt2 : a < L i
          · obtain ⟨b1, o1, rfl, hc1⟩ := HI.out.at hlt2
            by_cases e1 : v i a < 0
            · have HR := Lib.hid (HF.out (fun hr => by have := hr.2 a hlt2; omega))
              clear HF
              go_wp2
              go_ret
              exact ⟨by rw [← HR.out]; rfl, rfl⟩
            · by_cases e2 : v i a < (k : Int)
              · have hIa : Ints w (some ⟨b1, o1, none⟩) a (v i) := fun hp => by
                  obtain ⟨b', o', e', hc'⟩ := HI.out (by omega)
                  exact ⟨b', o', e', fun j hj => hc' j (by omega)⟩
                have HIa := Lib.hid hIa
                have e2' : ¬ (k : Int) ≤ v i a := by omega
                have hac : a ≤ cR := by omega
                clear hIa
                go_wp2_with fail
                refine (contains_any (some ⟨b1, o1, none⟩) a cR (v i) (v i a) _ HIa.out (by omega)).mono ?_
                rintro e w' ⟨rfl, rfl⟩
                cases hx : hasB (v i) (v i a) a with
                | true =>
                  have HR := Lib.hid (HF.out (fun hr => by
                    have h1 := (hr.2 a hlt2).2.2
                    have h2 := of_decide_eq_true hx
                    omega))
                  clear HF hx
                  go_wp2
                  go_ret
                  exact ⟨by rw [← HR.out]; rfl, rfl⟩
                | false =>
                  have HN : Hid (∀ a', a' < a + 1 → 0 ≤ v i a' ∧ v i a' < (k : Int) ∧ idxI (v i) (v i a') a' = -1) := Lib.hid (fun a' ha' => by
                    rcases Nat.lt_or_ge a' a with hl | hl
                    · exact HAl.out a' hl
                    · obtain rfl : a' = a := by omega
                      have h1 := of_decide_eq_false hx
                      have h2 := idxI_bd (v i) (v i a') a'
                      exact ⟨by omega, e2, by omega⟩)
                  clear hx
                  go_wp2
                  go_round
                  case rel => exact ⟨a + 1, by omega, by go_num, HN.out⟩
                  case measure => simp [intOf]; omega
              · have HR := Lib.hid (HF.out (fun hr => by have := hr.2 a hlt2; omega))
                have e2' : (k : Int) ≤ v i a := by omega
                clear HF
                go_wp2
                go_ret
                exact ⟨by rw [← HR.out]; rfl, rfl⟩
          · obtain rfl : a = L i := by omega
            have HN : Hid (ListsOk (i + 1) L v k) := Lib.hid (fun i' hi' => by
              rcases Nat.lt_or_ge i' i with hl | hl
              · exact HOk.out i' hl
              · obtain rfl : i' = i := by omega
                exact ⟨hlen, HAl.out⟩)
            go_wp2
            go_round
            case rel => exact ⟨i + 1, by omega, by go_num, HN.out⟩
            case measure => simp [intOf]; omega
      · have HR := Lib.hid (HF.out (fun hr => hlen hr.1))
        have hlen1 : (k : Int) < (L i : Int) := by omega
        clear HF
        go_wp2
        go_ret
        exact ⟨by rw [← HR.out]; rfl, rfl⟩
    · obtain rfl : i = n := by omega
      have HR : Hid (decide (ListsOk i L v k) = true) := Lib.hid (decide_eq_true HOk.out)
      go_wp2
      go_ret
      exact ⟨ret_bool HR.out.symm, rfl⟩
end Go.Proofs.Ytiigcjcolpmafaa
