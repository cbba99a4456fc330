import Derived.Test.YtiigcjcolpmafaaPl
import Derived.Test.YtiigcjcolpmafaaRowC
namespace Go.Proofs.Ytiigcjcolpmafaa
open Go.RowKit

set_option maxHeartbeats 1000000 in
theorem rank_any (A : Option Addr) (L c : Nat) (f : Nat → Int) (x : Int) (w : World) (h : Ints w A L f) (hL : L ≤ 10000) :
    Calls Try.prog 91 #[.slice A L c, .int .i64 x] w fun e w' => e = .returned (.int .i64 (rkI f L x)) ∧ w = w' := by
  have H := Lib.hid h
  clear h
  go_enter Try.func91, Try.ntmps91
  go_wp2_with fail
  refine (index_any A L c f x _ H.out hL).mono ?_
  rintro e w' ⟨rfl, rfl⟩
  rcases idxI_cases f x L with ⟨e, -⟩ | ⟨k, hk, e, -, -⟩
  · have HE : Hid (rkI f L x = (L : Int)) := Lib.hid (by unfold rkI; rw [if_pos e])
    rw [e]
    clear e
    go_wp2
    go_ret
    exact ⟨ret_int HE.out.symm, rfl⟩
  · have HE : Hid (rkI f L x = (k : Int)) := Lib.hid (by unfold rkI; rw [if_neg (by omega), e])
    rw [e]
    have hk0 : (0 : Int) ≤ (k : Int) := by omega
    clear e
    go_wp2
    go_ret
    exact ⟨ret_int HE.out.symm, rfl⟩

/-- The hands that have s, of the first n. -/
def hndL (m : Nat → Int) (s : Int) : Nat → List Int
  | 0 => []
  | n + 1 => if m n = s then hndL m s n ++ [(n : Int)] else hndL m s n
theorem hndL_len (m : Nat → Int) (s : Int) (n : Nat) : (hndL m s n).length = cnt m s n := by
  induction n with
  | zero => rfl
  | succ n ih => simp only [hndL, cnt]; split <;> simp [ih]
theorem hndL_mem {m : Nat → Int} {s : Int} {n : Nat} {x : Int} : x ∈ hndL m s n ↔ ∃ h : Nat, h < n ∧ m h = s ∧ x = (h : Int) := by
  induction n with
  | zero => simp [hndL]
  | succ n ih =>
    simp only [hndL]
    by_cases e : m n = s
    · rw [if_pos e, List.mem_append, ih]
      constructor
      · rintro (⟨h, h1, h2, h3⟩ | h)
        · exact ⟨h, by omega, h2, h3⟩
        · simp at h
          exact ⟨n, by omega, e, h⟩
      · rintro ⟨h, h1, h2, h3⟩
        rcases Nat.lt_or_ge h n with hl | hl
        · exact .inl ⟨h, hl, h2, h3⟩
        · obtain rfl : h = n := by omega
          exact .inr (by simp [h3])
    · rw [if_neg e, ih]
      constructor
      · rintro ⟨h, h1, h2, h3⟩
        exact ⟨h, by omega, h2, h3⟩
      · rintro ⟨h, h1, h2, h3⟩
        rcases Nat.lt_or_ge h n with hl | hl
        · exact ⟨h, hl, h2, h3⟩
        · obtain rfl : h = n := by omega
          exact absurd h2 e

set_option maxHeartbeats 1000000 in
set_option maxRecDepth 1000000 in
theorem handsOf_any (A : Option Addr) (n c : Nat) (m : Nat → Int) (s : Int) (w : World) (h : Ints w A n m) (hn : n ≤ 10000) :
    Calls Try.prog 62 #[.slice A n c, .int .i64 s] w fun e w' => ∃ x, e = .returned x ∧ OwnL w' w.heap.size x (hndL m s n) ∧ Below w.heap.size w w' := by
  obtain ⟨i0, hi, hz0, hz1, hz2⟩ := info_parts infoInt
  have H := Lib.hid h
  clear h
  go_enter Try.func62, Try.ntmps62
  go_wp2
  go_loopw [5, 10] (fun x i wr => ∃ k : Nat, k ≤ n ∧ i = .int .i64 k ∧ OwnL wr w.heap.size x (hndL m s k) ∧ Below w.heap.size w wr) (fun _ i _ => n - (intOf i).toNat)
  case atStart => exact ⟨0, Nat.zero_le _, rfl, OwnL.nil_ _ _, Below.refl _ _⟩
  case round =>
    obtain ⟨k, hk, rfl, hown, hbel⟩ := hrel
    have HOwn := Lib.hid hown
    have HBel := Lib.hid hbel
    have hsz := hbel.size
    clear hown hbel
    by_cases hlt : k < n
    · obtain ⟨b, o, rfl, hc⟩ := (H.out.keep HBel.out).at hlt
      by_cases e : m k = s
      · have hB := beq_t e
        have HS : Hid (hndL m s (k + 1) = hndL m s k ++ [(k : Int)]) := Lib.hid (by simp only [hndL]; rw [if_pos e])
        have hlen := hndL_len m s k
        have hcl := cnt_le m s k
        clear e
        go_wp2_with (at_builtin; go_loud (refine wpList_append_own _ rfl _ _ 23 rfl w.heap.size 3 i0 (.int .i64 0) 1 8 Try.underlying23 hi hz0 hz1 hz2 rfl (by decide) _ _ _ rfl (World.ownsRow.alloc HOwn.out _) ⟨wr.heap.size, 0, none⟩ 1 1 [.int .i64 k] rfl rfl (news1 _ _ _) (one1 rfl) (by rw [hlen]; unfold maxLen; omega) (by rw [hlen]; omega) (by simp; omega) ?_))
        intro v2 w2 hown2 hgrow2 _
        have hb2 : Below w.heap.size w w2 := (HBel.out.alloc hsz _).grown hgrow2 (by simp; omega) (fun g hg => (World.ownsRow.lt HOwn.out g hg).1)
        have hO2 : OwnL w2 w.heap.size v2 (hndL m s (k + 1)) := by
          rw [HS.out]
          unfold OwnL
          simpa [hlen] using hown2
        have HO2 := Lib.hid hO2
        have Hb2 := Lib.hid hb2
        clear hown2 hgrow2 hO2 hb2
        go_wp2
        go_roundw
        case rel => exact ⟨k + 1, by omega, by go_num, HO2.out, Hb2.out⟩
        case measure => simp [intOf]; omega
      · have hB := beq_f e
        have HS : Hid (hndL m s (k + 1) = hndL m s k) := Lib.hid (by simp only [hndL]; rw [if_neg e])
        clear e
        go_wp2
        go_roundw
        case rel => exact ⟨k + 1, by omega, by go_num, by rw [HS.out]; exact HOwn.out, HBel.out⟩
        case measure => simp [intOf]; omega
    · obtain rfl : k = n := by omega
      go_wp2
      go_ret
      exact ⟨_, rfl, HOwn.out, HBel.out⟩
end Go.Proofs.Ytiigcjcolpmafaa
