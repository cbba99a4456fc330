/- Disagreement. -/
import Derived.Test.YtnobbklnnkpdfaaMg
import Derived.Test.YtnobbklnnkpdfaaTn
import Derived.BigQuiet
namespace Go.Proofs.Ytnobbklnnkpdfaa
open Go.RowKit

set_option maxHeartbeats 1000000 in
set_option maxRecDepth 1000000 in
theorem disagreement_any (A D : Option Addr) (n cA c cap : Nat) (T o : Nat → Int) (hc : c ≤ 5) (hn : n ≤ 9) (hT : ∀ a b, a < c → b < c → -(n : Int) ≤ T (5 * a + b) ∧ T (5 * a + b) ≤ n) (ho : Ord c o) (w : World) (hD : Ints w D c o) (hcap : c ≤ cap) :
    Lr 62 #[.agg (pollL A n cA c T).toArray, .slice D c cap] w (.int .i64 (disS n T o c)) := by
  have HP0 := Lib.hid (PollI.box w A n cA c T)
  have hb0 := (Below.refl w.heap.size w).alloc (Nat.le_refl _) (.cells (pollL A n cA c T).toArray 56)
  have HI0 := Lib.hid (hD.keep hb0)
  have Hb0 := Lib.hid hb0
  have HOr := Lib.hid ho
  have HT := Lib.hid hT
  have HDs : Hid (disS n T o c = triS (dG n T o) c c) := Lib.hid rfl
  have HBd : Hid (∀ k j, k < c → j < c → 0 ≤ dG n T o k j ∧ dG n T o k j ≤ 9) := Lib.hid (fun k j hk hj => dG_bd hn hT ho hk hj)
  have HRb : Hid (∀ k j, k < c → k + 1 + j ≤ c → 0 ≤ rowS (dG n T o) k j ∧ rowS (dG n T o) k j ≤ 45) := Lib.hid (fun k j hk hj => by
    have h1 := rowS_bd (g := dG n T o) (k := k) (B := 9) (j := j) (fun i hi => HBd.out k (k + 1 + i) hk (by omega))
    omega)
  have HTb : Hid (∀ k, k ≤ c → 0 ≤ triS (dG n T o) c k ∧ triS (dG n T o) c k ≤ 45 * k) := Lib.hid (by
    intro k
    induction k with
    | zero => intro _; simp [triS]
    | succ k ih =>
      intro hk
      have h1 := ih (by omega)
      have h2 := HRb.out k (c - (k + 1)) (by omega) (by omega)
      simp only [triS]
      omega)
  clear hD hb0 ho hT
  show Calls _ _ _ _ _
  go_enter Try.func62, Try.ntmps62
  go_wp2
  generalize w.alloc (.cells (pollL A n cA c T).toArray 56) = X at *
  go_loopw [5, 12] (fun s i wr => ∃ k : Nat, k ≤ c ∧ i = .int .i64 k ∧ s = .int .i64 (triS (dG n T o) c k) ∧ Dn X wr) (fun _ i _ => c - (intOf i).toNat)
  case atStart => exact ⟨0, Nat.zero_le _, rfl, rfl, Dn.refl _⟩
  case round =>
    obtain ⟨k, hk, rfl, rfl, hD⟩ := hrel
    have HD := Lib.hid hD
    clear hD
    by_cases hlt : k < c
    · obtain ⟨bA, oA, rfl, hcA⟩ := (HI0.out.dn HD.out).at hlt
      obtain ⟨x, hx, hx5⟩ : ∃ x : Nat, o k = (x : Int) ∧ x < c := by
        have := HOr.out.rng k hlt
        exact ⟨(o k).toNat, by omega, by omega⟩
      have HX := Lib.hid hx
      rw [hx] at hcA
      clear hx
      have HN : Hid (triS (dG n T o) c (k + 1) = triS (dG n T o) c k + rowS (dG n T o) k (c - (k + 1))) := Lib.hid rfl
      have hS := HTb.out k hk
      generalize triS (dG n T o) c k = S at *
      obtain ⟨hS1, hS2⟩ := hS
      by_cases hcut : k + 1 = cap
      · have hend : c - (k + 1) = 0 := by omega
        have HN2 : Hid (triS (dG n T o) c (k + 1) = S) := Lib.hid (by rw [HN.out, hend]; simp [rowS])
        obtain ⟨Y, rfl⟩ : ∃ Y, Y = wr := ⟨wr, rfl⟩
        go_wp2
        go_loopw [5, 22] (fun s i wx => i = .int .i64 0 ∧ s = .int .i64 S ∧ Y = wx) (fun _ _ _ => 0)
        case atStart => exact ⟨rfl, rfl, rfl⟩
        case round =>
          obtain ⟨rfl, rfl, rfl⟩ := hrel
          go_wp2
          go_roundw
          case rel => exact ⟨k + 1, by omega, by go_num, by rw [HN2.out], HD.out⟩
          case measure => simp [intOf]; omega
      · obtain ⟨Y, rfl⟩ : ∃ Y, Y = wr := ⟨wr, rfl⟩
        go_wp2
        go_loopw [5, 22] (fun s i wx => ∃ q : Nat, q ≤ c - (k + 1) ∧ i = .int .i64 q ∧ s = .int .i64 (S + rowS (dG n T o) k q) ∧ Dn Y wx) (fun _ i _ => c - (intOf i).toNat)
        case atStart => exact ⟨0, Nat.zero_le _, rfl, by simp [rowS], Dn.refl _⟩
        case round =>
          obtain ⟨q, hq, rfl, rfl, hD⟩ := hrel
          have HDq := Lib.hid (HD.out.trans hD)
          have HDy := Lib.hid hD
          clear hD
          by_cases hlq : q < c - (k + 1)
          · have hcB := (HI0.out.dn HDq.out).cell (show k + 1 + q < c by omega)
            obtain ⟨y, hy, hy5⟩ : ∃ y : Nat, o (k + 1 + q) = (y : Int) ∧ y < c := by
              have := HOr.out.rng (k + 1 + q) (by omega)
              exact ⟨(o (k + 1 + q)).toNat, by omega, by omega⟩
            rw [hy, ← Nat.add_assoc oA (k + 1) q] at hcB
            have HP := Lib.hid (HP0.out.dn HDq.out)
            have hx5' : x < 5 := by omega
            have hy5' : y < 5 := by omega
            have hcC := HP.out.at2 hx5' hy5'
            have hc0 := HP.out.c0
            have hTb := HT.out x y hx5 hy5
            have hg1 := HBd.out k (k + 1 + q) hlt (by omega)
            have hr1 := HRb.out k q hlt (by omega)
            have HG : Hid (dG n T o k (k + 1 + q) = Int.tdiv ((n : Int) - T (5 * x + y)) 2) := Lib.hid (by unfold dG; rw [HX.out, hy]; rfl)
            have HNr : Hid (rowS (dG n T o) k (q + 1) = rowS (dG n T o) k q + dG n T o k (k + 1 + q)) := Lib.hid rfl
            have hg1' : 0 ≤ Int.tdiv ((n : Int) - T (5 * x + y)) 2 ∧ Int.tdiv ((n : Int) - T (5 * x + y)) 2 ≤ 9 := by rw [← HG.out]; exact hg1
            clear hy hg1
            generalize T (5 * x + y) = M at *
            generalize rowS (dG n T o) k q = R at *
            obtain ⟨hTb1, hTb2⟩ := hTb
            obtain ⟨hg1, hg2⟩ := hg1'
            obtain ⟨hr1, hr2⟩ := hr1
            go_wp2
            go_quiet (fail)
            go_wp2
            go_roundw
            case rel => exact ⟨q + 1, by omega, by go_num, (by rw [HNr.out, HG.out]; exact val_int (by omega)), HDy.out.drewN _⟩
            case measure => simp [intOf]; omega
          · have hqc : q = c - (k + 1) := by omega
            rw [hqc]
            clear hqc hlq hq
            go_wp2
            go_roundw
            case rel => exact ⟨k + 1, by omega, by go_num, by rw [HN.out], HDq.out⟩
            case measure => simp [intOf]; omega
    · have hkc : k = c := by omega
      rw [hkc]
      clear hkc hlt hk
      go_wp2
      go_ret
      exact ⟨ret_int (by rw [HDs.out]), Hb0.out.trans (HD.out.below _)⟩
end Go.Proofs.Ytnobbklnnkpdfaa
