/- slices.Sort of few numbers. -/
import Derived.Test.YtoeimngbpagegaaDoorGf
import Derived.Test.YtoeimngbpagegaaDoorSo
import Derived.Test.YtoeimngbpagegaaDoorRowC
import Derived.IntWalk
import Derived.Deep.RegionWith
namespace Go.Proofs.YtoeimngbpagegaaDoor
open Go.RowKit

theorem isNaNG_any (x : Int) (w : World) : Ro 118 #[.int .i64 x] w (.bool false) := by
  refine Ro.of ?_
  have hB := bne_f (a := x) rfl
  go_enter Tryd.func118, Tryd.ntmps118
  go_wp2
  go_ret
  exact ⟨rfl, Dn.refl _⟩
theorem lessG_any (x y : Int) (w : World) : Ro 106 #[.int .i64 x, .int .i64 y] w (.bool (decide (x < y))) := by
  refine Ro.of ?_
  have HN := Lib.hid (fun w => isNaNG_any x w)
  go_enter Tryd.func106, Tryd.ntmps106
  go_wp2_with fail
  refine Ro.use (HN.out _) ?_
  intro w1 hd1
  have HD := Lib.hid hd1
  clear hd1
  by_cases h : x < y
  · have d := decide_eq_true h
    go_wp2
    go_ret
    exact ⟨ret_bool d.symm, HD.out⟩
  · have d := decide_eq_false h
    go_wp2
    go_ret
    exact ⟨ret_bool d.symm, HD.out⟩
set_option maxHeartbeats 2000000 in
set_option maxRecDepth 1000000 in
theorem insG (g cap n : Nat) (F : Nat → Int) (w : World) (hR : RowC w g cap n F) (hn0 : 0 < n) (hn : n ≤ 12) :
    Calls Tryd.prog 100 #[.slice (some ⟨g, 0, none⟩) n cap, .int .i64 0, .int .i64 n] w fun e w' =>
      e = .returned (.tuple #[]) ∧ ∃ F', RowC w' g cap n F' ∧ (lst n F').Perm (lst n F) ∧ Srt (fun x => x) F' n ∧ Exc g w w' := by
  have HR := Lib.hid hR
  obtain ⟨r, hr⟩ : ∃ r : Int → Int, r = fun x => x := ⟨_, rfl⟩
  have HV : Hid (∀ x, r x = x) := Lib.hid (by rw [hr]; exact fun _ => rfl)
  rw [← hr]
  clear hR hr
  go_enter Tryd.func100, Tryd.ntmps100
  go_wp2
  go_loopw [6] (fun x wr => ∃ (k : Nat) (G : Nat → Int), 1 ≤ k ∧ k ≤ n ∧ x = .int .i64 k ∧ RowC wr g cap n G ∧ (lst n G).Perm (lst n F) ∧ Srt r G k ∧ Exc g w wr) (fun x _ => n - (intOf x).toNat)
  case atStart => exact ⟨1, F, Nat.le_refl _, by omega, rfl, HR.out, List.Perm.refl _, Srt.one _ _, Exc.refl _ _⟩
  case round =>
    obtain ⟨k, G, hk1, hk, rfl, hRG, hP, hS, hE⟩ := hrel
    have HRG := Lib.hid hRG
    have HP := Lib.hid hP
    have HS := Lib.hid hS
    have HE := Lib.hid hE
    clear hRG hP hS hE
    by_cases hlt : k < n
    · go_wp2
      go_loopw [7] (fun x wi => ∃ (j : Nat) (G : Nat → Int), j ≤ k ∧ x = .int .i64 j ∧ RowC wi g cap n G ∧ (lst n G).Perm (lst n F) ∧ SrtX r G (k + 1) j ∧ Exc g w wi) (fun x _ => (intOf x).toNat)
      case atStart => exact ⟨k, G, Nat.le_refl _, rfl, HRG.out, HP.out, HS.out.open_, HE.out⟩
      case round =>
        obtain ⟨j, G, hj, rfl, hRG, hP, hS, hE⟩ := hrel
        have HRG := Lib.hid hRG
        have HP := Lib.hid hP
        have HS := Lib.hid hS
        have HE := Lib.hid hE
        clear hRG hP hS hE
        rcases j with _ | j
        · have HD := Lib.hid HS.out.done0
          have hd0 : decide ((0 : Int) < ((0 : Nat) : Int)) = false := by simp
          go_wp2_with fail
          go_quiet (fail)
          go_wp2
          go_roundw
          case rel => exact ⟨k + 1, G, by omega, by omega, by go_num, HRG.out.dn ((Dn.refl _).drewN _), HP.out, HD.out, HE.out.trans (Exc.of_below (((Dn.refl _).drewN _).below _))⟩
          case measure => simp [intOf]; omega
        · obtain ⟨K, hJ⟩ : ∃ K, K = j + 1 := ⟨_, rfl⟩
          have HJ := Lib.hid hJ
          have hJn : K < n := by omega
          have hcJ := HRG.out.cell hJn
          have hcj := HRG.out.cell (show j < n by omega)
          have hfJ := HRG.out.frozen K
          have hfj := HRG.out.frozen j
          have hJ0 : 0 < K := by omega
          have hJ1 : (K : Int) < n := by omega
          have u0 : (0 : Int) ≤ K := by omega
          have u1 : IntKind.i64.wrap ((K : Int) - 1) = (K : Int) - 1 := IntWalk.i64_in _ ⟨by omega, by omega⟩
          have u2 : ((K : Int) - 1).toNat = j := by omega
          have u3 : (0 : Int) ≤ (K : Int) - 1 := by omega
          have u4 : (K : Int) - 1 < n := by omega
          have HCm : ∀ q, Hid (Ro 106 #[.int .i64 (G K), .int .i64 (G j)] (wr.drewN q) (.bool (decide (G K < G j)))) := fun q => Lib.hid (lessG_any _ _ _)
          have hvK := HV.out (G K)
          have hvj := HV.out (G j)
          rw [← hJ]
          by_cases hlt2 : r (G K) < r (G j)
          · have HSt := Lib.hid (HS.out.step (by omega) (by rw [← hJ]; exact hlt2))
            have HPm := Lib.hid ((swp_perm G j n (by omega)).trans HP.out)
            have hcm : decide (G K < G j) = true := decide_eq_true (by omega)
            clear hJ hvK hvj hlt2
            go_wp2_with fail
            go_quiet ((go_at_call 106; exact Ro.quiet (HCm _).out))
            go_wp2_with fail
            go_region
            go_wp2
            go_roundw
            case rel =>
              refine ⟨j, swp G j, by omega, val_int (by omega), (((HRG.out.dn ((Dn.refl _).drewN _)).set K (G j)).set j (G K)).congr (fun i _ => ?_), HPm.out, HSt.out, ((HE.out.trans (Exc.of_below (((Dn.refl _).drewN _).below _))).set K _).set j _⟩
              unfold swp
              rw [HJ.out]
            case measure => simp [intOf]; omega
          · have HD := Lib.hid (HS.out.done (by omega) (by rw [← hJ]; omega))
            have hcm : decide (G K < G j) = false := decide_eq_false (by omega)
            clear hJ hvK hvj hlt2
            go_wp2_with fail
            go_quiet ((go_at_call 106; exact Ro.quiet (HCm _).out))
            go_wp2
            go_roundw
            case rel => exact ⟨k + 1, G, by omega, by omega, by go_num, HRG.out.dn ((Dn.refl _).drewN _), HP.out, HD.out, HE.out.trans (Exc.of_below (((Dn.refl _).drewN _).below _))⟩
            case measure => simp [intOf]; omega
    · obtain rfl : k = n := by omega
      go_wp2
      go_returns
      exact ⟨rfl, G, HRG.out, HP.out, HS.out, HE.out⟩

set_option maxHeartbeats 4000000 in
set_option maxRecDepth 1000000 in
theorem len64G_any (s : Nat) (hs : s < 16) (w : World) : Calls Tryd.prog 110 #[.int .u64 s] w fun e w' => ∃ z, e = .returned (.int .i64 z) ∧ w = w' := by
  have : s = 0 ∨ s = 1 ∨ s = 2 ∨ s = 3 ∨ s = 4 ∨ s = 5 ∨ s = 6 ∨ s = 7 ∨ s = 8 ∨ s = 9 ∨ s = 10 ∨ s = 11 ∨ s = 12 ∨ s = 13 ∨ s = 14 ∨ s = 15 := by omega
  rcases this with rfl | rfl | rfl | rfl | rfl | rfl | rfl | rfl | rfl | rfl | rfl | rfl | rfl | rfl | rfl | rfl
  all_goals
    go_enter Tryd.func110, Tryd.ntmps110
    go_wp2
    go_ret
    exact ⟨_, rfl, rfl⟩
theorem lenG_any (s : Nat) (hs : s < 16) (w : World) : Calls Tryd.prog 90 #[.int .u64 s] w fun e w' => ∃ z, e = .returned (.int .i64 z) ∧ w = w' := by
  have H := Lib.hid (len64G_any s hs w)
  go_enter Tryd.func90, Tryd.ntmps90
  go_wp2_with fail
  refine H.out.mono ?_
  rintro e w' ⟨z, rfl, rfl⟩
  go_wp2
  go_ret
  exact ⟨_, rfl, rfl⟩
set_option maxHeartbeats 2000000 in
set_option maxRecDepth 1000000 in
theorem pdqG (g cap n : Nat) (z : Int) (F : Nat → Int) (w : World) (hR : RowC w g cap n F) (hn0 : 0 < n) (hn : n ≤ 12) :
    Calls Tryd.prog 89 #[.slice (some ⟨g, 0, none⟩) n cap, .int .i64 0, .int .i64 n, .int .i64 z] w fun e w' =>
      e = .returned (.tuple #[]) ∧ ∃ F', RowC w' g cap n F' ∧ (lst n F').Perm (lst n F) ∧ Srt (fun x => x) F' n ∧ Exc g w w' := by
  have H := Lib.hid (insG g cap n F w hR hn0 hn)
  have hn12 : (n : Int) ≤ 12 := by omega
  clear hR
  go_enter Tryd.func89, Tryd.ntmps89
  go_wp2
  refine wp_loop_rounds 1 ?_
  rw [rounds_succ]
  go_wp2_with fail
  refine H.out.mono ?_
  rintro e w' ⟨rfl, hp⟩
  have HP := Lib.hid hp
  clear hp
  go_wp2
  go_returns
  exact ⟨rfl, HP.out⟩
set_option maxHeartbeats 2000000 in
set_option maxRecDepth 1000000 in
theorem sortG (g cap n : Nat) (F : Nat → Int) (w : World) (hR : RowC w g cap n F) (hn0 : 0 < n) (hn : n ≤ 12) :
    Calls Tryd.prog 75 #[.slice (some ⟨g, 0, none⟩) n cap] w fun e w' =>
      e = .returned (.tuple #[]) ∧ ∃ F', RowC w' g cap n F' ∧ (lst n F').Perm (lst n F) ∧ Srt (fun x => x) F' n ∧ Exc g w w' := by
  have H := Lib.hid (fun z => pdqG g cap n z F w hR hn0 hn)
  have HL := Lib.hid (lenG_any n (by omega) w)
  clear hR
  go_enter Tryd.func75, Tryd.ntmps75
  go_wp2_with fail
  refine HL.out.mono ?_
  rintro e w' ⟨z, rfl, rfl⟩
  go_wp2_with fail
  refine (H.out z).mono ?_
  rintro e w' ⟨rfl, hp⟩
  have HP := Lib.hid hp
  clear hp
  go_wp2
  go_returns
  exact ⟨rfl, HP.out⟩
end Go.Proofs.YtoeimngbpagegaaDoor
