/- A part of the proof: Trz. -/
import Derived.Test.YtiigcjcolpmafaaLW
namespace Go.Proofs.Ytiigcjcolpmafaa
open Go.RowKit

theorem BoxP.newR (w : World) (AH AS AP : Option Addr) (nH nS nP cH cS cP : Nat) : BoxP (w.alloc (.cells #[.slice AH nH cH, .slice AS nS cS, .slice AP nP cP] 25)) w.heap.size AH AS AP nH nS nP cH cS cP := by
  refine ⟨?_, ?_, ?_⟩ <;> simp [World.cell?_alloc_at]

set_option maxHeartbeats 1000000 in
set_option maxRecDepth 1000000 in
theorem rRank_any (A : Option Addr) (n c : Nat) (f : Nat → Int) (x : Int) (w : World) (h : Ints w A n f) (hn : n ≤ 9223372036854775807) :
    Calls Try.prog 86 #[.slice A n c, .int .i64 x] w fun e w' => e = .returned (.int .i64 (idxI f x n)) ∧ w = w' := by
  have H := Lib.hid h
  clear h
  go_enter Try.func86, Try.ntmps86
  go_wp2
  go_loop [9] (fun i => ∃ k : Nat, k ≤ n ∧ i = .int .i64 k ∧ ∀ j, j < k → f j ≠ x) (fun i => n - (intOf i).toNat)
  case atStart => exact ⟨0, Nat.zero_le _, rfl, fun j hj => absurd hj (by omega)⟩
  case round =>
    obtain ⟨k, hk, rfl, he⟩ := hrel
    have HE := Lib.hid he
    clear he
    by_cases hlt : k < n
    · obtain ⟨b, o, rfl, hc⟩ := H.out.at hlt
      by_cases hx : f k = x
      · have hB := beq_t hx.symm
        have HR : Hid (idxI f x n = k) := Lib.hid (idxI_some HE.out hx n hlt)
        clear hx
        go_wp2
        go_ret
        exact ⟨ret_int HR.out.symm, rfl⟩
      · have hB := beq_f (fun e => hx (Eq.symm e) : ¬ x = f k)
        have HE2 : Hid (∀ j, j < k + 1 → f j ≠ x) := Lib.hid (fun j hj => by
          rcases Nat.lt_or_ge j k with hl | hl
          · exact HE.out j hl
          · obtain rfl : j = k := by omega
            exact hx)
        clear hx
        go_wp2
        go_round
        case rel => exact ⟨k + 1, by omega, by go_num, HE2.out⟩
        case measure => simp [intOf]; omega
    · obtain rfl : n = k := by omega
      go_wp2
      go_ret
      exact ⟨ret_int (idxI_none HE.out).symm, rfl⟩

theorem nodupN_len : ∀ (n : Nat) (l : List Nat), l.Nodup → (∀ x, x ∈ l → x < n) → l.length ≤ n := by
  intro n
  induction n with
  | zero =>
    intro l _ h
    cases l with
    | nil => simp
    | cons x l => exact absurd (h x (by simp)) (by omega)
  | succ n ih =>
    intro l hl h
    have h1 := ih (l.erase n) (hl.erase n) (fun x hx => by
      have h2 := (hl.mem_erase_iff).1 hx
      have := h x h2.2
      omega)
    have h2 : l.length ≤ (l.erase n).length + 1 := by
      by_cases hm : n ∈ l
      · rw [List.length_erase_of_mem hm]; omega
      · rw [List.erase_of_not_mem hm]; omega
    omega
/-- Different numbers below k: at most k. -/
theorem row_len {f : Nat → Int} {L k : Nat} (h : ∀ a, a < L → 0 ≤ f a ∧ f a < (k : Int) ∧ idxI f (f a) a = -1) : L ≤ k := by
  have hne : ∀ a b, a < b → b < L → f a ≠ f b := fun a b hab hb e => by
    have h1 := (h b hb).2.2
    rcases idxI_cases f (f b) b with ⟨-, h2⟩ | ⟨q, hq, e2, -⟩
    · exact h2 a hab e
    · omega
  have := nodupN_len k ((List.range L).map fun a => (f a).toNat) (by
    rw [List.nodup_iff_pairwise_ne, List.pairwise_map]
    refine List.pairwise_iff_getElem.2 (fun i j hi hj hij => ?_)
    simp only [List.length_range] at hi hj
    simp only [List.getElem_range]
    intro e
    have h1 := h i hi
    have h2 := h j hj
    exact hne i j hij hj (by omega)) (fun x hx => by
    obtain ⟨a, ha, rfl⟩ := List.mem_map.1 hx
    have := h a (List.mem_range.1 ha)
    omega)
  simpa using this
/-- The place of the a-th number is a exactly if it doesn't come earlier. -/
theorem idx_self {f : Nat → Int} {L a : Nat} (ha : a < L) : idxI f (f a) L = (a : Int) ↔ idxI f (f a) a = -1 := by
  constructor
  · intro h
    refine idxI_none (fun j hj e => ?_)
    rcases idxI_cases f (f a) L with ⟨e1, -⟩ | ⟨q, hq, e1, e2, e3⟩
    · omega
    · have : q = a := by omega
      exact e3 j (by omega) e
  · intro h
    refine idxI_some (fun j hj e => ?_) rfl L ha
    rcases idxI_cases f (f a) a with ⟨-, h2⟩ | ⟨q, hq, e1, -⟩
    · exact h2 j hj e
    · omega

set_option maxHeartbeats 1000000 in
set_option maxRecDepth 1000000 in
theorem listed_any (A : Option Addr) (n c : Nat) (L : Nat → Nat) (v : Nat → Nat → Int) (k : Nat) (w : World) (h : ArgR w A n c L v) (hn : n ≤ 6) :
    Calls Try.prog 55 #[.slice A n c, .int .i64 k] w fun e w' => e = .returned (.bool (decide (ListsOk n L v k))) ∧ w = w' := by
  have H := Lib.hid h
  clear h
  go_enter Try.func55, Try.ntmps55
  go_wp2
  go_loop [11] (fun x => ∃ i : Nat, i ≤ n ∧ x = .int .i64 i ∧ ListsOk i L v k) (fun x => n - (intOf x).toNat)
  case atStart => exact ⟨0, Nat.zero_le _, rfl, fun j hj => absurd hj (by omega)⟩
  case round =>
    obtain ⟨i, hi, rfl, hok⟩ := hrel
    have HOk := Lib.hid hok
    clear hok
    by_cases hlt : i < n
    · obtain ⟨b, o, R, cR, rfl, hc, hR⟩ := H.out.at hlt
      have hLi : L i ≤ 9223372036854775807 := by
        have h0 := Nat.le_trans hR.1 hR.2.1
        unfold maxLen at h0
        omega
      have HI := Lib.hid hR.2.2.2
      have HF : Hid (¬ RowOk (v i) (L i) k → Value.bool false = .bool (decide (ListsOk n L v k))) := Lib.hid (fun hno => by
        congr 1
        symm
        exact decide_eq_false (fun hall => hno (hall i hlt)))
      clear hR
      go_wp2
      go_loop [17] (fun x => ∃ a : Nat, a ≤ L i ∧ x = .int .i64 a ∧ ∀ a', a' < a → 0 ≤ v i a' ∧ v i a' < (k : Int) ∧ idxI (v i) (v i a') a' = -1) (fun x => L i - (intOf x).toNat)
      case atStart => exact ⟨0, Nat.zero_le _, rfl, fun j hj => absurd hj (by omega)⟩
      case round =>
        obtain ⟨a, ha, rfl, hal⟩ := hrel
        have HAl := Lib.hid hal
        clear hal
        by_cases hlt2 : a < L i
        · obtain ⟨b1, o1, rfl, hc1⟩ := HI.out.at hlt2
          by_cases e1 : v i a < 0
          · have HR := Lib.hid (HF.out (fun hr => by have := hr.2 a hlt2; omega))
            clear HF
            go_wp2
            go_ret
            exact ⟨by rw [← HR.out]; rfl, rfl⟩
          · by_cases e2 : v i a < (k : Int)
            · have e2' : ¬ (k : Int) ≤ v i a := by omega
              go_wp2_with fail
              refine (rRank_any (some ⟨b1, o1, none⟩) (L i) cR (v i) (v i a) _ HI.out hLi).mono ?_
              rintro e w' ⟨rfl, rfl⟩
              by_cases hx : idxI (v i) (v i a) (L i) = (a : Int)
              · have HN : Hid (∀ a', a' < a + 1 → 0 ≤ v i a' ∧ v i a' < (k : Int) ∧ idxI (v i) (v i a') a' = -1) := Lib.hid (fun a' ha' => by
                  rcases Nat.lt_or_ge a' a with hl | hl
                  · exact HAl.out a' hl
                  · obtain rfl : a' = a := by omega
                    exact ⟨by omega, e2, (idx_self hlt2).1 hx⟩)
                have hB := bne_f hx
                clear hx
                go_wp2
                go_round
                case rel => exact ⟨a + 1, by omega, by go_num, HN.out⟩
                case measure => simp [intOf]; omega
              · have HR := Lib.hid (HF.out (fun hr => hx ((idx_self hlt2).2 (hr.2 a hlt2).2.2)))
                have hB := bne_t hx
                clear HF hx
                go_wp2
                go_ret
                exact ⟨by rw [← HR.out]; rfl, rfl⟩
            · have HR := Lib.hid (HF.out (fun hr => by have := hr.2 a hlt2; omega))
              have e2' : (k : Int) ≤ v i a := by omega
              clear HF
              go_wp2
              go_ret
              exact ⟨by rw [← HR.out]; rfl, rfl⟩
        · obtain rfl : a = L i := by omega
          have HN : Hid (ListsOk (i + 1) L v k) := Lib.hid (fun i' hi' => by
            rcases Nat.lt_or_ge i' i with hl | hl
            · exact HOk.out i' hl
            · obtain rfl : i' = i := by omega
              exact ⟨row_len HAl.out, HAl.out⟩)
          go_wp2
          go_round
          case rel => exact ⟨i + 1, by omega, by go_num, HN.out⟩
          case measure => simp [intOf]; omega
    · obtain rfl : i = n := by omega
      have HR : Hid (decide (ListsOk i L v k) = true) := Lib.hid (decide_eq_true HOk.out)
      go_wp2
      go_ret
      exact ⟨ret_bool HR.out.symm, rfl⟩
end Go.Proofs.Ytiigcjcolpmafaa

