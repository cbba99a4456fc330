/- slices.SortStableFunc with the closure of a law. -/
import Derived.Test.YtbgekacfimgkeaaJb
namespace Go.Proofs.Ytbgekacfimgkeaa
open Go.RowKit

def vR (J : Nat → Nat → Int) (x y : Int) : Int := J x.toNat 2 - J y.toNat 2
theorem vR_neg (J : Nat → Nat → Int) (x y : Int) : vR J x y < 0 ↔ J x.toNat 2 < J y.toNat 2 := by
  unfold vR
  omega
set_option maxHeartbeats 1000000 in
set_option maxRecDepth 1000000 in
theorem cmpDR (bx : Nat) (A : Option Addr) (N c : Nat) (J : Nat → Nat → Int) (x y : Int) (w : World) (hb : w.cell? ⟨bx, 0, none⟩ = some (.slice A N c)) (hI : Recs 4 w A N J) (_ : N ≤ 12) (hJ : ∀ k, k < N → 0 ≤ J k 2 ∧ J k 2 ≤ 200) (hx : 0 ≤ x ∧ x < N) (hy : 0 ≤ y ∧ y < N) :
    Ro 50 #[.int .i64 x, .int .i64 y, .pointer (some ⟨bx, 0, none⟩)] w (.int .i64 (vR J x y)) := by
  refine Ro.of ?_
  obtain ⟨X, rfl⟩ : ∃ X : Nat, x = X := ⟨x.toNat, by omega⟩
  obtain ⟨Y, rfl⟩ : ∃ Y : Nat, y = Y := ⟨y.toNat, by omega⟩
  obtain ⟨b, o, rfl, c0, c1, c2, c3⟩ := hI.four (k := X) (by omega)
  obtain ⟨b', o', e, d0, d1, d2, d3⟩ := hI.four (k := Y) (by omega)
  injection e with e
  injection e with e1 e2
  subst e1 e2
  have E := Lib.hid (show vR J X Y = J X 2 - J Y 2 from rfl)
  rw [E.out]
  have hX0 : (0 : Int) ≤ X := by omega
  have hY0 : (0 : Int) ≤ Y := by omega
  have hXN : (X : Int) < N := by omega
  have hYN : (Y : Int) < N := by omega
  obtain ⟨j1, j2⟩ := hJ X (by omega)
  obtain ⟨j3, j4⟩ := hJ Y (by omega)
  clear hI hJ E c0 c1 c3 d0 d1 d3
  go_enter Try.func50, Try.ntmps50
  go_wp2_with fail
  go_quiet (fail)
  go_wp2
  go_ret
  exact ⟨rfl, (Dn.refl _).drewN _⟩

set_option maxHeartbeats 2000000 in
set_option maxRecDepth 1000000 in
theorem insSR (g cap n bx N c : Nat) (F : Nat → Int) (A : Option Addr) (J : Nat → Nat → Int) (w : World) (hR : RowC w g cap n F) (hn0 : 0 < n) (hn : n ≤ 12) (hF : ∀ k, k < n → 0 ≤ F k ∧ F k < N)
    (hb : w.cell? ⟨bx, 0, none⟩ = some (.slice A N c)) (hI : Recs 4 w A N J) (hN : N ≤ 12) (hJ : ∀ k, k < N → 0 ≤ J k 2 ∧ J k 2 ≤ 200) (hne : bx ≠ g) (hneA : 0 < N → ∀ b o, A = some ⟨b, o, none⟩ → b ≠ g) :
    Calls Try.prog 87 #[.slice (some ⟨g, 0, none⟩) n cap, .int .i64 0, .int .i64 n, .func (.func 50) #[] #[.pointer (some ⟨bx, 0, none⟩)]] w fun e w' =>
      e = .returned (.tuple #[]) ∧ ∃ F', RowC w' g cap n F' ∧ (lst n F').Perm (lst n F) ∧ Srt (fun x => J x.toNat 2) F' n ∧ Exc g w w' := by
  have HR := Lib.hid hR
  obtain ⟨V, hV1, hV2⟩ : ∃ V : Int → Int → Int, (∀ x y : Int, 0 ≤ x ∧ x < N → 0 ≤ y ∧ y < N → (V x y < 0 ↔ J x.toNat 2 < J y.toNat 2)) ∧ ∀ (x y : Int) (w' : World), Exc g w w' → 0 ≤ x ∧ x < N → 0 ≤ y ∧ y < N → Ro 50 #[.int .i64 x, .int .i64 y, .pointer (some ⟨bx, 0, none⟩)] w' (.int .i64 (V x y)) :=
    ⟨vR J, fun x y _ _ => vR_neg J x y, fun x y w' he hx hy => cmpDR bx A N c J x y w' (he.cell hb hne) (hI.exc he hneA) hN hJ hx hy⟩
  have HC := Lib.hid hV2
  have HF := Lib.hid hF
  obtain ⟨r, hr⟩ : ∃ r : Int → Int, r = fun x => J x.toNat 2 := ⟨_, rfl⟩
  have HV : Hid (∀ x y : Int, 0 ≤ x ∧ x < N → 0 ≤ y ∧ y < N → (V x y < 0 ↔ r x < r y)) := Lib.hid (by rw [hr]; exact hV1)
  rw [← hr]
  clear hR hV1 hV2 hb hI hneA hr hF hJ
  go_enter Try.func87, Try.ntmps87
  go_wp2
  go_loopw [8] (fun x wr => ∃ (k : Nat) (G : Nat → Int), 1 ≤ k ∧ k ≤ n ∧ x = .int .i64 k ∧ RowC wr g cap n G ∧ (lst n G).Perm (lst n F) ∧ Srt r G k ∧ Exc g w wr) (fun x _ => n - (intOf x).toNat)
  case atStart => exact ⟨1, F, Nat.le_refl _, by omega, rfl, HR.out, List.Perm.refl _, Srt.one _ _, Exc.refl _ _⟩
  case round =>
    obtain ⟨k, G, hk1, hk, rfl, hRG, hP, hS, hE⟩ := hrel
    have HRG := Lib.hid hRG
    have HP := Lib.hid hP
    have HS := Lib.hid hS
    have HE := Lib.hid hE
    clear hRG hP hS hE
    by_cases hlt : k < n
    · go_wp2
      go_loopw [9] (fun x wi => ∃ (j : Nat) (G : Nat → Int), j ≤ k ∧ x = .int .i64 j ∧ RowC wi g cap n G ∧ (lst n G).Perm (lst n F) ∧ SrtX r G (k + 1) j ∧ Exc g w wi) (fun x _ => (intOf x).toNat)
      case atStart => exact ⟨k, G, Nat.le_refl _, rfl, HRG.out, HP.out, HS.out.open_, HE.out⟩
      case round =>
        obtain ⟨j, G, hj, rfl, hRG, hP, hS, hE⟩ := hrel
        have HRG := Lib.hid hRG
        have HP := Lib.hid hP
        have HS := Lib.hid hS
        have HE := Lib.hid hE
        clear hRG hP hS hE
        rcases j with _ | j
        · have HD := Lib.hid HS.out.done0
          have hd0 : decide ((0 : Int) < ((0 : Nat) : Int)) = false := by simp
          go_wp2_with fail
          go_quiet (fail)
          go_wp2
          go_roundw
          case rel => exact ⟨k + 1, G, by omega, by omega, by go_num, HRG.out.dn ((Dn.refl _).drewN _), HP.out, HD.out, HE.out.trans (Exc.of_below (((Dn.refl _).drewN _).below _))⟩
          case measure => simp [intOf]; omega
        · obtain ⟨K, hJ⟩ : ∃ K, K = j + 1 := ⟨_, rfl⟩
          have HJ := Lib.hid hJ
          have hJn : K < n := by omega
          have hcJ := HRG.out.cell hJn
          have hcj := HRG.out.cell (show j < n by omega)
          have hfJ := HRG.out.frozen K
          have hfj := HRG.out.frozen j
          have hJ0 : 0 < K := by omega
          have hJ1 : (K : Int) < n := by omega
          have u0 : (0 : Int) ≤ K := by omega
          have u1 : IntKind.i64.wrap ((K : Int) - 1) = (K : Int) - 1 := IntWalk.i64_in _ ⟨by omega, by omega⟩
          have u2 : ((K : Int) - 1).toNat = j := by omega
          have u3 : (0 : Int) ≤ (K : Int) - 1 := by omega
          have u4 : (K : Int) - 1 < n := by omega
          have hx := perm_all (P := fun x => 0 ≤ x ∧ x < (N : Int)) HP.out HF.out K hJn
          have hy := perm_all (P := fun x => 0 ≤ x ∧ x < (N : Int)) HP.out HF.out j (by omega)
          have HCm : ∀ q, Hid (Ro 50 #[.int .i64 (G K), .int .i64 (G j), .pointer (some ⟨bx, 0, none⟩)] (wr.drewN q) (.int .i64 (V (G K) (G j)))) := fun q => Lib.hid (HC.out _ _ _ (HE.out.trans (Exc.of_below (((Dn.refl _).drewN q).below _))) hx hy)
          have hvv := HV.out _ _ hx hy
          rw [← hJ]
          generalize V (G K) (G j) = cm at *
          by_cases hlt2 : r (G K) < r (G j)
          · have HSt := Lib.hid (HS.out.step (by omega) (by rw [← hJ]; exact hlt2))
            have HPm := Lib.hid ((swp_perm G j n (by omega)).trans HP.out)
            have hcm : cm < 0 := hvv.2 hlt2
            clear hJ hvv hlt2 hx hy
            go_wp2_with fail
            go_quiet ((go_at_call 50; exact Ro.quiet (HCm _).out))
            go_wp2_with fail
            go_region
            go_wp2
            go_roundw
            case rel =>
              refine ⟨j, swp G j, by omega, val_int (by omega), (((HRG.out.dn ((Dn.refl _).drewN _)).set K (G j)).set j (G K)).congr (fun i _ => ?_), HPm.out, HSt.out, ((HE.out.trans (Exc.of_below (((Dn.refl _).drewN _).below _))).set K _).set j _⟩
              unfold swp
              rw [HJ.out]
            case measure => simp [intOf]; omega
          · have HD := Lib.hid (HS.out.done (by omega) (by rw [← hJ]; omega))
            have hcm : decide (cm < 0) = false := decide_eq_false (fun h => hlt2 (hvv.1 h))
            clear hJ hvv hlt2 hx hy
            go_wp2_with fail
            go_quiet ((go_at_call 50; exact Ro.quiet (HCm _).out))
            go_wp2
            go_roundw
            case rel => exact ⟨k + 1, G, by omega, by omega, by go_num, HRG.out.dn ((Dn.refl _).drewN _), HP.out, HD.out, HE.out.trans (Exc.of_below (((Dn.refl _).drewN _).below _))⟩
            case measure => simp [intOf]; omega
    · obtain rfl : k = n := by omega
      go_wp2
      go_returns
      exact ⟨rfl, G, HRG.out, HP.out, HS.out, HE.out⟩

set_option maxHeartbeats 2000000 in
set_option maxRecDepth 1000000 in
theorem insZR (A : Option Addr) (cap bx : Nat) (w : World) :
    Calls Try.prog 87 #[.slice A 0 cap, .int .i64 0, .int .i64 0, .func (.func 50) #[] #[.pointer (some ⟨bx, 0, none⟩)]] w fun e w' => e = .returned (.tuple #[]) ∧ w = w' := by
  go_enter Try.func87, Try.ntmps87
  go_wp2
  refine wp_loop_rounds 1 ?_
  rw [rounds_succ]
  go_wp2
  go_returns
  exact ⟨rfl, rfl⟩

set_option maxHeartbeats 2000000 in
set_option maxRecDepth 1000000 in
theorem stabR (g cap n bx N c : Nat) (F : Nat → Int) (A : Option Addr) (J : Nat → Nat → Int) (w : World) (hR : RowC w g cap n F) (hn0 : 0 < n) (hn : n ≤ 12) (hF : ∀ k, k < n → 0 ≤ F k ∧ F k < N)
    (hb : w.cell? ⟨bx, 0, none⟩ = some (.slice A N c)) (hI : Recs 4 w A N J) (hN : N ≤ 12) (hJ : ∀ k, k < N → 0 ≤ J k 2 ∧ J k 2 ≤ 200) (hne : bx ≠ g) (hneA : 0 < N → ∀ b o, A = some ⟨b, o, none⟩ → b ≠ g) :
    Calls Try.prog 75 #[.slice (some ⟨g, 0, none⟩) n cap, .int .i64 n, .func (.func 50) #[] #[.pointer (some ⟨bx, 0, none⟩)]] w fun e w' =>
      e = .returned (.tuple #[]) ∧ ∃ F', RowC w' g cap n F' ∧ (lst n F').Perm (lst n F) ∧ Srt (fun x => J x.toNat 2) F' n ∧ Exc g w w' := by
  have HC := Lib.hid (insSR g cap n bx N c F A J w hR hn0 hn hF hb hI hN hJ hne hneA)
  have hn12 : (n : Int) ≤ 12 := by omega
  clear hR hb hI hneA hF hJ
  go_enter Try.func75, Try.ntmps75
  go_wp2
  refine wp_loop_rounds 1 ?_
  rw [rounds_succ]
  go_wp2_with fail
  refine HC.out.mono ?_
  rintro e w' ⟨rfl, hp⟩
  have HP := Lib.hid hp
  clear hp
  go_wp2
  refine wp_loop_rounds 1 ?_
  rw [rounds_succ]
  go_wp2
  go_returns
  exact ⟨rfl, HP.out⟩

set_option maxHeartbeats 2000000 in
set_option maxRecDepth 1000000 in
theorem sortR (g cap n bx N c : Nat) (F : Nat → Int) (A : Option Addr) (J : Nat → Nat → Int) (w : World) (hR : RowC w g cap n F) (hn0 : 0 < n) (hn : n ≤ 12) (hF : ∀ k, k < n → 0 ≤ F k ∧ F k < N)
    (hb : w.cell? ⟨bx, 0, none⟩ = some (.slice A N c)) (hI : Recs 4 w A N J) (hN : N ≤ 12) (hJ : ∀ k, k < N → 0 ≤ J k 2 ∧ J k 2 ≤ 200) (hne : bx ≠ g) (hneA : 0 < N → ∀ b o, A = some ⟨b, o, none⟩ → b ≠ g) :
    Calls Try.prog 46 #[.slice (some ⟨g, 0, none⟩) n cap, .func (.func 50) #[] #[.pointer (some ⟨bx, 0, none⟩)]] w fun e w' =>
      e = .returned (.tuple #[]) ∧ ∃ F', RowC w' g cap n F' ∧ (lst n F').Perm (lst n F) ∧ Srt (fun x => J x.toNat 2) F' n ∧ Exc g w w' := by
  have HC := Lib.hid (stabR g cap n bx N c F A J w hR hn0 hn hF hb hI hN hJ hne hneA)
  have hn12 : (n : Int) ≤ 12 := by omega
  clear hR hb hI hneA hF hJ
  go_enter Try.func46, Try.ntmps46
  go_wp2_with fail
  refine HC.out.mono ?_
  rintro e w' ⟨rfl, hp⟩
  have HP := Lib.hid hp
  clear hp
  go_wp2
  go_returns
  exact ⟨rfl, HP.out⟩

set_option maxHeartbeats 2000000 in
set_option maxRecDepth 1000000 in
theorem stabZR (A : Option Addr) (cap bx : Nat) (w : World) :
    Calls Try.prog 75 #[.slice A 0 cap, .int .i64 0, .func (.func 50) #[] #[.pointer (some ⟨bx, 0, none⟩)]] w fun e w' => e = .returned (.tuple #[]) ∧ w = w' := by
  go_enter Try.func75, Try.ntmps75
  go_wp2
  refine wp_loop_rounds 1 ?_
  rw [rounds_succ]
  go_wp2_with fail
  refine (insZR A cap bx w).mono ?_
  rintro e w' ⟨rfl, rfl⟩
  go_wp2
  refine wp_loop_rounds 1 ?_
  rw [rounds_succ]
  go_wp2
  go_returns
  exact ⟨rfl, rfl⟩
set_option maxHeartbeats 2000000 in
set_option maxRecDepth 1000000 in
theorem sortZR (A : Option Addr) (cap bx : Nat) (w : World) :
    Calls Try.prog 46 #[.slice A 0 cap, .func (.func 50) #[] #[.pointer (some ⟨bx, 0, none⟩)]] w fun e w' => e = .returned (.tuple #[]) ∧ w = w' := by
  go_enter Try.func46, Try.ntmps46
  go_wp2_with fail
  refine (stabZR A cap bx w).mono ?_
  rintro e w' ⟨rfl, rfl⟩
  go_wp2
  go_returns
  exact ⟨rfl, rfl⟩

set_option maxHeartbeats 1000000 in
theorem sortOwnR (base bx N c : Nat) (v : Value) (L1 : List Int) (A : Option Addr) (J : Nat → Nat → Int) (w : World) (hown : OwnL w base v L1) (hnil : L1 = [] → v = .slice none 0 0) (hn : L1.length ≤ 12) (hF : ∀ x ∈ L1, 0 ≤ x ∧ x < (N : Int))
    (hb : w.cell? ⟨bx, 0, none⟩ = some (.slice A N c)) (hbx : bx < base) (hI : Recs 4 w A N J) (hIA : 0 < N → ∀ b o, A = some ⟨b, o, none⟩ → b < base) (hN : N ≤ 12) (hJ : ∀ k, k < N → 0 ≤ J k 2 ∧ J k 2 ≤ 200) :
    Calls Try.prog 46 #[v, .func (.func 50) #[] #[.pointer (some ⟨bx, 0, none⟩)]] w fun e w' =>
      e = .returned (.tuple #[]) ∧ ∃ F', OwnL w' base v (lst L1.length F') ∧ (lst L1.length F').Perm L1 ∧ Srt (fun x => J x.toNat 2) F' L1.length ∧ w.grownBy w' v.ownBlock := by
  by_cases he : L1 = []
  · obtain rfl := hnil he
    subst he
    refine (sortZR none 0 bx w).mono ?_
    rintro e w' ⟨rfl, rfl⟩
    exact ⟨rfl, fun _ => 0, OwnL.nil_ _ _, List.Perm.refl _, fun x y h1 h2 => absurd h2 (by simp), World.grownBy.refl _ _⟩
  · have hp : 0 < L1.length := List.length_pos_iff.2 he
    have hcap : ∀ g cap, v = .slice (some ⟨g, 0, none⟩) L1.length cap → cap ≤ maxLen := fun g cap hv => by
      rcases hown.2 with ⟨e, -⟩ | ⟨g', cap', cur, e, hbg, hg, hnc, hcm, -⟩
      · rw [hv] at e
        injection e with e1
        cases e1
      · rw [hv] at e
        injection e with e1 e2 e3
        omega
    have hown2 : OwnL w base v (lst L1.length (fun k => L1.getD k 0)) := by rw [lst_of]; exact hown
    obtain ⟨g, cap, rfl, hg, hR⟩ := hown2.rowC hp
    have hcm := hcap g cap rfl
    refine (sortR g cap L1.length bx N c (fun k => L1.getD k 0) A J w hR hp hn (fun k hk => hF _ (by
      have : L1[k]? = some (L1.getD k 0) := by simp [List.getD, List.getElem?_eq_getElem hk]
      exact List.mem_of_getElem? this)) hb hI hN hJ (by omega) (fun h0 b o e => by have := hIA h0 b o e; omega)).mono ?_
    rintro e w' ⟨rfl, F', hR', hP, hS, hE⟩
    refine ⟨rfl, F', hR'.ownL hg hcm, ?_, hS, hE⟩
    rw [lst_of] at hP
    exact hP
end Go.Proofs.Ytbgekacfimgkeaa
