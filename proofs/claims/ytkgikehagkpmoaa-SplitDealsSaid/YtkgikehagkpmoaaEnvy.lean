import Derived.Test.YtkgikehagkpmoaaT4
import Derived.Test.YtkgikehagkpmoaaOwn
import Derived.Test.YtkgikehagkpmoaaT6
import Derived.Test.YtkgikehagkpmoaaNash
namespace Go.Proofs.Ytkgikehagkpmoaa
open Go.RowKit

theorem infoPair : (Try.prog.info? 45).map (fun i => (i.zero, i.size, i.bytes)) = some (some (.agg #[.int .i64 0, .int .i64 0]), 2, 16) := by kernel_rfl

/-- A slice of pairs of the call's own. -/
def cellsP (xs : List (Int × Int)) : List Value := xs.flatMap fun p => [.int .i64 p.1, .int .i64 p.2]
theorem cellsP_len (xs : List (Int × Int)) : (cellsP xs).length = xs.length * 2 := by
  induction xs with
  | nil => rfl
  | cons x xs ih => simp [cellsP] at ih ⊢; omega
theorem cellsP_snoc (xs : List (Int × Int)) (a b : Int) : cellsP (xs ++ [(a, b)]) = cellsP xs ++ [.int .i64 a, .int .i64 b] := by simp [cellsP]
def OwnP (w : World) (base : Nat) (v : Value) (xs : List (Int × Int)) : Prop := w.ownsRow base 45 2 v xs.length (cellsP xs)

/-- All pairs (i, j), j < k, of which i envies j; and those of the first i rows. -/
def envRow (m : Nat) (v : Nat → Nat → Int) (d : Nat → Int) (i : Nat) : Nat → List (Int × Int)
  | 0 => []
  | k + 1 => if envB m v d i k then envRow m v d i k ++ [((i : Int), (k : Int))] else envRow m v d i k
def envAll (n m : Nat) (v : Nat → Nat → Int) (d : Nat → Int) : Nat → List (Int × Int)
  | 0 => []
  | i + 1 => envAll n m v d i ++ envRow m v d i n
theorem envRow_len (m : Nat) (v : Nat → Nat → Int) (d : Nat → Int) (i k : Nat) : (envRow m v d i k).length ≤ k := by
  induction k with
  | zero => simp [envRow]
  | succ k ih =>
    simp only [envRow]
    split
    · simp; omega
    · omega
theorem envAll_len (n m : Nat) (v : Nat → Nat → Int) (d : Nat → Int) (i : Nat) : (envAll n m v d i).length ≤ i * n := by
  induction i with
  | zero => simp [envAll]
  | succ i ih =>
    have := envRow_len m v d i n
    simp only [envAll, List.length_append, Nat.add_mul]
    omega

theorem newsP (w : World) (a b : Int) (T : TypeId) : ∀ j u, ([.int .i64 a, .int .i64 b] : List Value)[j]? = some u → (w.alloc (.cells #[.int .i64 a, .int .i64 b] T)).cell? ((⟨w.heap.size, 0, none⟩ : Addr).add j) = some u := by
  intro j u hu
  rcases j with _ | _ | j
  · simp at hu
    subst hu
    rw [Addr.add_lit]
    simp [World.cell?_alloc_at]
  · simp at hu
    subst hu
    rw [Addr.add_lit]
    simp [World.cell?_alloc_at]
  · simp at hu
theorem oneP2 (a b : Int) : ∀ u ∈ ([.int .i64 a, .int .i64 b] : List Value), u.oneCell' = true := by
  intro u hu
  simp at hu
  rcases hu with rfl | rfl <;> rfl

theorem Envy_bad (A D : Option Addr) (n c md c' : Nat) (L : Nat → Nat) (v : Nat → Nat → Int) (d : Nat → Int) (w : World) (h : Rows2 w A n L v) (hd : Ints w D md d) (hn : n ≤ 9) (hL : Short n L) (hmd : md ≤ 9) (hbad : okDiv n L v md d = false) :
    Ro 33 #[.slice A n c, .slice D md c'] w (.tuple #[.slice none 0 0, .int .i64 2]) := by
  refine Ro.same ?_
  have HO := Lib.hid hbad
  clear hbad
  go_enter Try.func33, Try.ntmps33
  go_wp2_with fail
  refine (validDivision_any _ _ _ _ _ _ _ _ _ _ h hd hn hL hmd).mono ?_
  rintro e w' ⟨rfl, rfl⟩
  rw [HO.out]
  go_wp2
  go_ret2
  exact ⟨rfl, rfl⟩

set_option maxHeartbeats 2000000 in
set_option maxRecDepth 1000000 in
theorem Envy_ok (A D : Option Addr) (n c md c' : Nat) (L : Nat → Nat) (v : Nat → Nat → Int) (d : Nat → Int) (w : World) (h : Rows2 w A n L v) (hd : Ints w D md d) (hn : n ≤ 9) (hL : Short n L) (hmd : md ≤ 9) (hok : okDiv n L v md d = true) :
    Calls Try.prog 33 #[.slice A n c, .slice D md c'] w fun e w' => ∃ x, e = .returned (.tuple #[x, .int .i64 0]) ∧ OwnP w' w.heap.size x (envAll n md v d n) ∧ Below w.heap.size w w' := by
  obtain ⟨i0, hi, hz0, hz1, hz2⟩ := info_parts infoPair
  have hv : okVals n L v = true ∧ md = L 0 := by
    simp only [okDiv, Bool.and_eq_true, decide_eq_true_eq] at hok
    exact ⟨hok.1, hok.2.1⟩
  obtain ⟨h1, h2, h3, h4, h5, h6⟩ := okVals_of hv.1
  have HM := okVals_mat h hv.1
  rw [← hv.2] at HM h6
  have HO := Lib.hid hok
  have H6 := Lib.hid (h6.le (show (100 : Int) ≤ 100000 by omega))
  clear hok h3 h4 h5 h6 hv
  go_enter Try.func33, Try.ntmps33
  go_wp2_with fail
  refine (validDivision_any _ _ _ _ _ _ _ _ _ _ h hd hn hL hmd).mono ?_
  rintro e w' ⟨rfl, rfl⟩
  rw [HO.out]
  go_wp2
  go_loopw [6, 15] (fun s x wr => ∃ k : Nat, k ≤ n ∧ x = .int .i64 k ∧ OwnP wr w.heap.size s (envAll n md v d k) ∧ Below w.heap.size w wr) (fun _ x _ => n - (intOf x).toNat)
  case atStart => exact ⟨0, Nat.zero_le _, rfl, World.ownsRow_nil _ _ _ _, Below.refl _ _⟩
  case round =>
    obtain ⟨i, hk, rfl, hown, hbel⟩ := hrel
    by_cases hlt : i < n
    · have HOwn := Lib.hid hown
      clear hown
      go_wp2
      obtain ⟨wo, hwo⟩ : ∃ wo : World, wo = wr := ⟨_, rfl⟩
      have HWo := Lib.hid hwo
      clear hwo
      go_loopw [6, 20] (fun s x wi => ∃ k : Nat, k ≤ n ∧ x = .int .i64 k ∧ OwnP wi w.heap.size s (envAll n md v d i ++ envRow md v d i k) ∧ Below w.heap.size w wi) (fun _ x _ => n - (intOf x).toNat)
      case atStart => exact ⟨0, Nat.zero_le _, rfl, by simpa [envRow] using HOwn.out, hbel⟩
      case round =>
        obtain ⟨k, hk2, rfl, hown2, hbel2⟩ := hrel
        by_cases hlt2 : k < n
        · have HOwn2 := Lib.hid hown2
          clear hown2
          go_wp2_with fail
          refine Ro.use (envies_any _ _ n md _ _ v d i k _ (HM.keep hbel2) (hd.keep hbel2) H6.out hmd hlt hn) ?_
          intro w2 hD2
          have HOwn3 := Lib.hid (show OwnP w2 w.heap.size _ _ from (World.ownsRow.kept (row := none) HOwn2.out ⟨(hD2.below 0).os, (hD2.below 0).tape, (hD2.below 0).output, (hD2.below 0).size, fun k hk _ => (hD2.below (k+1)).block k (by omega)⟩ (by cases (Value.ownBlock _) <;> simp)))
          have hsz := hbel2.size
          have hsz2 := (hD2.below 0).size
          cases he : envB md v d i k with
          | false =>
            have HE := Lib.hid he
            clear he
            go_wp2
            go_roundw
            case rel => exact ⟨k + 1, by omega, by go_num, by simpa [envRow, HE.out] using HOwn3.out, hbel2.trans (hD2.below _)⟩
            case measure => simp [intOf]; omega
          | true =>
            have HE := Lib.hid he
            clear he
            have hlen : (envAll n md v d i ++ envRow md v d i k).length + 1 ≤ 1000 := by
              have e1 := envAll_len n md v d i
              have e2 := envRow_len md v d i k
              have e3 : i * n ≤ 9 * 9 := Nat.mul_le_mul (by omega) (by omega)
              simp only [List.length_append]
              omega
            have HLen := Lib.hid hlen
            clear hlen
            go_wp2_with (at_builtin; go_loud (refine wpList_append_own _ rfl _ _ 48 rfl w.heap.size 45 i0 (.agg #[.int .i64 0, .int .i64 0]) 2 16 Try.underlying48 hi hz0 hz1 hz2 rfl (by decide) _ _ _ rfl (World.ownsRow.alloc HOwn3.out _) ⟨w2.heap.size, 0, none⟩ 1 1 [.int .i64 i, .int .i64 k] rfl rfl (newsP _ _ _ _) (oneP2 _ _) (by have := HLen.out; unfold maxLen; omega) (by have := HLen.out; omega) (by simp; omega) ?_))
            intro v' w3 hown3 hgrow3 _
            have HO3 := Lib.hid hown3
            have HG3 := Lib.hid hgrow3
            clear hown3 hgrow3
            go_wp2
            go_roundw
            case rel =>
              refine ⟨k + 1, by omega, by go_num, ?_, ?_⟩
              · unfold OwnP
                simp only [envRow, HE.out, if_true]
                rw [← List.append_assoc, cellsP_snoc]
                simpa [Nat.add_assoc] using HO3.out
              · refine ((hbel2.trans (hD2.below _)).alloc (by omega) _).grown HG3.out (by simp; omega) ?_
                intro g hg
                exact (World.ownsRow.lt HOwn3.out g hg).1
            case measure => simp [intOf]; omega
        · obtain rfl : k = n := by omega
          go_wp2
          go_roundw
          case rel => exact ⟨i + 1, by omega, by go_num, by simpa [envAll] using hown2, hbel2⟩
          case measure => simp [intOf]; omega
    · obtain rfl : i = n := by omega
      go_wp2
      go_ret2
      exact ⟨_, rfl, hown, hbel⟩
end Go.Proofs.Ytkgikehagkpmoaa
