/- The law's Of, pieces and own. -/
import Derived.Test.YtbgekacfimgkeaaQf
namespace Go.Proofs.Ytbgekacfimgkeaa
open Go.RowKit

theorem infoJb : (Try.prog.info? 83).map (fun i => (i.zero, i.size, i.bytes)) = some (some (.agg #[.int .i64 0, .int .i64 0, .int .i64 0, .int .i64 0]), 4, 32) := by kernel_rfl
theorem infoRp : (Try.prog.info? 59).map (fun i => (i.zero, i.size, i.bytes)) = some (some (.agg #[.int .i64 0, .int .i64 0, .int .i64 0]), 3, 24) := by kernel_rfl
theorem news4 (w : World) (x y z u : Value) (T : TypeId) : ∀ j v, [x, y, z, u][j]? = some v → (w.alloc (.cells #[x, y, z, u] T)).cell? ((⟨w.heap.size, 0, none⟩ : Addr).add j) = some v := by
  intro j v hu
  rcases j with _ | _ | _ | _ | j
  · simp at hu; subst hu; rw [Addr.add_lit]; simp [World.cell?_alloc_at]
  · simp at hu; subst hu; rw [Addr.add_lit]; simp [World.cell?_alloc_at]
  · simp at hu; subst hu; rw [Addr.add_lit]; simp [World.cell?_alloc_at]
  · simp at hu; subst hu; rw [Addr.add_lit]; simp [World.cell?_alloc_at]
  · simp at hu

set_option maxHeartbeats 1000000 in
set_option maxRecDepth 1000000 in
theorem of_any (A : Option Addr) (n c : Nat) (J : Nat → Nat → Int) (w : World) (h : Recs 4 w A n J) (hmx : n ≤ maxLen) :
    Calls Try.prog 18 #[.slice A n c] w fun e w' => ∃ x, e = .returned x ∧ OwnK 4 83 w' w.heap.size x (min n 10) J ∧ Below w.heap.size w w' := by
  obtain ⟨i0, hi, hz0, hz1, hz2⟩ := info_parts infoJb
  have hsz : n ≤ 9223372036854775807 := by
    unfold maxLen at hmx
    omega
  have H := Lib.hid h
  clear h hmx
  go_enter Try.func18, Try.ntmps18
  go_wp2
  go_loopw [3, 8] (fun s i wr => ∃ k : Nat, k ≤ n ∧ i = .int .i64 k ∧ OwnK 4 83 wr w.heap.size s (min k 10) J ∧ Below w.heap.size w wr) (fun _ i _ => n - (intOf i).toNat)
  case atStart => exact ⟨0, Nat.zero_le _, rfl, OwnK.nil_ _ _ _ _ _, Below.refl _ _⟩
  case round =>
    obtain ⟨k, hk, rfl, hown, hbel⟩ := hrel
    have HO := Lib.hid hown
    have HB := Lib.hid hbel
    clear hown
    by_cases hlt : k < n
    · obtain ⟨b, o, rfl, c0, c1, c2, c3⟩ := (H.out.keep hbel).four hlt
      have hs0 : w.heap.size ≤ wr.heap.size := hbel.size
      clear hbel
      by_cases h10 : k < 10
      · have e10 : min k 10 = k := by omega
        go_wp2_with (at_builtin; go_loud (refine wpList_append_own _ rfl _ _ 27 rfl w.heap.size 83 i0 (.agg #[.int .i64 0, .int .i64 0, .int .i64 0, .int .i64 0]) 4 32 Try.underlying27 hi hz0 hz1 hz2 rfl (by decide) _ _ _ rfl (World.ownsRow.alloc (World.ownsRow.alloc HO.out _) _) ⟨wr.heap.size + 1, 0, none⟩ 1 1 [.int .i64 (J k 0), .int .i64 (J k 1), .int .i64 (J k 2), .int .i64 (J k 3)] rfl rfl (fun a u hu => by have h := news4 (wr.alloc (.cells #[.int .i64 (J k 0), .int .i64 (J k 1), .int .i64 (J k 2), .int .i64 (J k 3)] 74)) _ _ _ _ 83 a u hu; rw [World.size_alloc] at h; exact h) (by intro u hu; simp at hu; rcases hu with rfl | rfl | rfl | rfl <;> rfl) (by unfold maxLen; omega) (by omega) (by simp; omega) ?_))
        intro v' w5 hown hgrow _
        have HO5 := Lib.hid hown
        have HG5 := Lib.hid hgrow
        clear hown hgrow
        go_wp2
        go_roundw
        case rel =>
          refine ⟨k + 1, by omega, by go_num, ?_, ?_⟩
          · unfold OwnK
            rw [show min (k + 1) 10 = (min k 10) + 1 by omega, recL]
            have h := HO5.out
            rw [e10]
            exact h
          · refine ((HB.out.alloc hs0 _).alloc (by simp; omega) _).grown HG5.out (by simp; omega) ?_
            intro g hg
            exact (World.ownsRow.lt HO.out g hg).1
        case measure => simp [intOf]; omega
      · have E10 := Lib.hid (show min (k + 1) 10 = min k 10 by omega)
        go_wp2
        go_roundw
        case rel => exact ⟨k + 1, by omega, by go_num, by rw [E10.out]; exact OwnK.below HO.out ((Below.refl _ _).alloc (Nat.le_refl _) _), HB.out.alloc hs0 _⟩
        case measure => simp [intOf]; omega
    · have hkn : k = n := by omega
      go_wp2
      go_ret
      exact ⟨_, rfl, by rw [← hkn]; exact HO.out, HB.out⟩

set_option maxHeartbeats 1000000 in
set_option maxRecDepth 1000000 in
theorem pieces_any (A : Option Addr) (n c : Nat) (J : Nat → Nat → Int) (w : World) (h : Recs 3 w A n J) (hmx : n ≤ maxLen) :
    Calls Try.prog 44 #[.slice A n c] w fun e w' => ∃ x, e = .returned x ∧ OwnK 3 84 w' w.heap.size x (min n 200) J ∧ Below w.heap.size w w' := by
  obtain ⟨i0, hi, hz0, hz1, hz2⟩ := info_parts infoPc
  have hsz : n ≤ 9223372036854775807 := by
    unfold maxLen at hmx
    omega
  have H := Lib.hid h
  clear h hmx
  go_enter Try.func44, Try.ntmps44
  go_wp2
  go_loopw [3, 8] (fun s i wr => ∃ k : Nat, k ≤ n ∧ i = .int .i64 k ∧ OwnK 3 84 wr w.heap.size s (min k 200) J ∧ Below w.heap.size w wr) (fun _ i _ => n - (intOf i).toNat)
  case atStart => exact ⟨0, Nat.zero_le _, rfl, OwnK.nil_ _ _ _ _ _, Below.refl _ _⟩
  case round =>
    obtain ⟨k, hk, rfl, hown, hbel⟩ := hrel
    have HO := Lib.hid hown
    have HB := Lib.hid hbel
    clear hown
    by_cases hlt : k < n
    · obtain ⟨b, o, rfl, c0, c1, c2⟩ := (H.out.keep hbel).three hlt
      have hs0 : w.heap.size ≤ wr.heap.size := hbel.size
      clear hbel
      by_cases h10 : k < 200
      · have e10 : min k 200 = k := by omega
        go_wp2_with (at_builtin; go_loud (refine wpList_append_own _ rfl _ _ 49 rfl w.heap.size 84 i0 (.agg #[.int .i64 0, .int .i64 0, .int .i64 0]) 3 24 Try.underlying49 hi hz0 hz1 hz2 rfl (by decide) _ _ _ rfl (World.ownsRow.alloc (World.ownsRow.alloc HO.out _) _) ⟨wr.heap.size + 1, 0, none⟩ 1 1 [.int .i64 (J k 0), .int .i64 (J k 1), .int .i64 (J k 2)] rfl rfl (fun a u hu => by have h := news3 (wr.alloc (.cells #[.int .i64 (J k 0), .int .i64 (J k 1), .int .i64 (J k 2)] 59)) _ _ _ 84 a u hu; rw [World.size_alloc] at h; exact h) (by intro u hu; simp at hu; rcases hu with rfl | rfl | rfl <;> rfl) (by unfold maxLen; omega) (by omega) (by simp; omega) ?_))
        intro v' w5 hown hgrow _
        have HO5 := Lib.hid hown
        have HG5 := Lib.hid hgrow
        clear hown hgrow
        go_wp2
        go_roundw
        case rel =>
          refine ⟨k + 1, by omega, by go_num, ?_, ?_⟩
          · unfold OwnK
            rw [show min (k + 1) 200 = (min k 200) + 1 by omega, recL]
            have h := HO5.out
            rw [e10]
            exact h
          · refine ((HB.out.alloc hs0 _).alloc (by simp; omega) _).grown HG5.out (by simp; omega) ?_
            intro g hg
            exact (World.ownsRow.lt HO.out g hg).1
        case measure => simp [intOf]; omega
      · have E10 := Lib.hid (show min (k + 1) 200 = min k 200 by omega)
        go_wp2
        go_roundw
        case rel => exact ⟨k + 1, by omega, by go_num, by rw [E10.out]; exact OwnK.below HO.out ((Below.refl _ _).alloc (Nat.le_refl _) _), HB.out.alloc hs0 _⟩
        case measure => simp [intOf]; omega
    · have hkn : k = n := by omega
      go_wp2
      go_ret
      exact ⟨_, rfl, by rw [← hkn]; exact HO.out, HB.out⟩

set_option maxHeartbeats 1000000 in
set_option maxRecDepth 1000000 in
theorem own_any (A : Option Addr) (n c : Nat) (J : Nat → Nat → Int) (w : World) (h : Recs 3 w A n J) (hmx : n ≤ 10000) :
    Calls Try.prog 38 #[.slice A n c] w fun e w' => ∃ x, e = .returned x ∧ OwnK 3 59 w' w.heap.size x (n) J ∧ Below w.heap.size w w' := by
  obtain ⟨i0, hi, hz0, hz1, hz2⟩ := info_parts infoRp
  have hsz : n ≤ 9223372036854775807 := by
    omega
  have H := Lib.hid h
  clear h
  go_enter Try.func38, Try.ntmps38
  go_wp2
  go_loopw [3, 8] (fun s i wr => ∃ k : Nat, k ≤ n ∧ i = .int .i64 k ∧ OwnK 3 59 wr w.heap.size s (k) J ∧ Below w.heap.size w wr) (fun _ i _ => n - (intOf i).toNat)
  case atStart => exact ⟨0, Nat.zero_le _, rfl, OwnK.nil_ _ _ _ _ _, Below.refl _ _⟩
  case round =>
    obtain ⟨k, hk, rfl, hown, hbel⟩ := hrel
    have HO := Lib.hid hown
    have HB := Lib.hid hbel
    clear hown
    by_cases hlt : k < n
    · obtain ⟨b, o, rfl, c0, c1, c2⟩ := (H.out.keep hbel).three hlt
      have hs0 : w.heap.size ≤ wr.heap.size := hbel.size
      clear hbel
      go_wp2_with (at_builtin; go_loud (refine wpList_append_own _ rfl _ _ 57 rfl w.heap.size 59 i0 (.agg #[.int .i64 0, .int .i64 0, .int .i64 0]) 3 24 Try.underlying57 hi hz0 hz1 hz2 rfl (by decide) _ _ _ rfl (World.ownsRow.alloc (World.ownsRow.alloc HO.out _) _) ⟨wr.heap.size + 1, 0, none⟩ 1 1 [.int .i64 (J k 0), .int .i64 (J k 1), .int .i64 (J k 2)] rfl rfl (fun a u hu => by have h := news3 (wr.alloc (.cells #[.int .i64 (J k 0), .int .i64 (J k 1), .int .i64 (J k 2)] 84)) _ _ _ 59 a u hu; rw [World.size_alloc] at h; exact h) (by intro u hu; simp at hu; rcases hu with rfl | rfl | rfl <;> rfl) (by unfold maxLen; omega) (by omega) (by simp; omega) ?_))
      intro v' w5 hown hgrow _
      have HO5 := Lib.hid hown
      have HG5 := Lib.hid hgrow
      clear hown hgrow
      go_wp2
      go_roundw
      case rel =>
        refine ⟨k + 1, by omega, by go_num, ?_, ?_⟩
        · unfold OwnK
          rw [show k + 1 = (k) + 1 by omega, recL]
          have h := HO5.out
          exact h
        · refine ((HB.out.alloc hs0 _).alloc (by simp; omega) _).grown HG5.out (by simp; omega) ?_
          intro g hg
          exact (World.ownsRow.lt HO.out g hg).1
      case measure => simp [intOf]; omega
    · have hkn : k = n := by omega
      go_wp2
      go_ret
      exact ⟨_, rfl, by rw [← hkn]; exact HO.out, HB.out⟩
end Go.Proofs.Ytbgekacfimgkeaa
