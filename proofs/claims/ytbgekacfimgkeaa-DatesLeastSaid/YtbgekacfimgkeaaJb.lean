/- slices.SortStableFunc of few numbers of jobs, by Due. -/
import Derived.Test.YtbgekacfimgkeaaJa
import Derived.IntWalk
import Derived.Deep.RegionWith
namespace Go.Proofs.Ytbgekacfimgkeaa
open Go.RowKit

theorem Recs.exc {s : Nat} {w w' : World} {A : Option Addr} {n g : Nat} {F : Nat → Nat → Int} (h : Recs s w A n F) (he : Exc g w w') (hne : 0 < n → ∀ b o, A = some ⟨b, o, none⟩ → b ≠ g) : Recs s w' A n F := fun hn => by
  obtain ⟨b, o, hA, hc⟩ := h hn
  exact ⟨b, o, hA, fun k hk i hi => he.cell (hc k hk i hi) (hne hn b o hA)⟩
theorem perm_all {n : Nat} {f F : Nat → Int} {P : Int → Prop} (h : (lst n f).Perm (lst n F)) (hF : ∀ k, k < n → P (F k)) : ∀ k, k < n → P (f k) := fun a ha => by
  have h1 : f a ∈ lst n f := List.mem_of_getElem? (lst_get n f a ha)
  have h2 := h.mem_iff.1 h1
  unfold lst at h2
  obtain ⟨k, hk, e⟩ := List.mem_map.1 h2
  rw [← e]
  exact hF k (List.mem_range.1 hk)

/-- What cmp.Compare says. -/
def cmpI (x y : Int) : Int := if x < y then -1 else if y < x then 1 else 0
theorem isNaN_any (x : Int) (w : World) : Ro 92 #[.int .i64 x] w (.bool false) := by
  refine Ro.of ?_
  have hB := bne_f (a := x) rfl
  go_enter Try.func92, Try.ntmps92
  go_wp2
  go_ret
  exact ⟨rfl, Dn.refl _⟩
set_option maxHeartbeats 1000000 in
theorem compare_any (x y : Int) (w : World) : Ro 90 #[.int .i64 x, .int .i64 y] w (.int .i64 (cmpI x y)) := by
  refine Ro.of ?_
  have HX : ∀ w, Hid (Ro 92 #[.int .i64 x] w (.bool false)) := fun w => Lib.hid (isNaN_any x w)
  have HY : ∀ w, Hid (Ro 92 #[.int .i64 y] w (.bool false)) := fun w => Lib.hid (isNaN_any y w)
  by_cases h1 : x < y
  · have E := Lib.hid (show cmpI x y = -1 by simp [cmpI, h1])
    go_enter Try.func90, Try.ntmps90
    go_wp2_with fail
    refine Ro.use (HX _).out fun w1 d1 => ?_
    go_wp2_with fail
    refine Ro.use (HY _).out fun w2 d2 => ?_
    go_wp2
    go_ret
    exact ⟨by rw [E.out]; rfl, d1.trans d2⟩
  · by_cases h2 : y < x
    · have E := Lib.hid (show cmpI x y = 1 by simp [cmpI, h1, h2])
      go_enter Try.func90, Try.ntmps90
      go_wp2_with fail
      refine Ro.use (HX _).out fun w1 d1 => ?_
      go_wp2_with fail
      refine Ro.use (HY _).out fun w2 d2 => ?_
      go_wp2
      go_ret
      exact ⟨by rw [E.out]; rfl, d1.trans d2⟩
    · have E := Lib.hid (show cmpI x y = 0 by simp [cmpI, h1, h2])
      go_enter Try.func90, Try.ntmps90
      go_wp2_with fail
      refine Ro.use (HX _).out fun w1 d1 => ?_
      go_wp2_with fail
      refine Ro.use (HY _).out fun w2 d2 => ?_
      go_wp2
      go_ret
      exact ⟨by rw [E.out]; rfl, d1.trans d2⟩

def vP (J : Nat → Nat → Int) (x y : Int) : Int := cmpI (J x.toNat 2) (J y.toNat 2)
theorem vP_neg (J : Nat → Nat → Int) (x y : Int) : vP J x y < 0 ↔ J x.toNat 2 < J y.toNat 2 := by
  unfold vP cmpI
  split
  · omega
  · split <;> omega
set_option maxHeartbeats 1000000 in
set_option maxRecDepth 1000000 in
theorem cmpDP (bx : Nat) (A : Option Addr) (N c : Nat) (J : Nat → Nat → Int) (x y : Int) (w : World) (hb : w.cell? ⟨bx, 0, none⟩ = some (.slice A N c)) (hI : Recs 4 w A N J) (_ : N ≤ 12) (_ : ∀ k, k < N → 0 ≤ J k 2 ∧ J k 2 ≤ 200) (hx : 0 ≤ x ∧ x < N) (hy : 0 ≤ y ∧ y < N) :
    Ro 89 #[.int .i64 x, .int .i64 y, .pointer (some ⟨bx, 0, none⟩)] w (.int .i64 (vP J x y)) := by
  refine Ro.of ?_
  obtain ⟨X, rfl⟩ : ∃ X : Nat, x = X := ⟨x.toNat, by omega⟩
  obtain ⟨Y, rfl⟩ : ∃ Y : Nat, y = Y := ⟨y.toNat, by omega⟩
  obtain ⟨b, o, rfl, c0, c1, c2, c3⟩ := hI.four (k := X) (by omega)
  obtain ⟨b', o', e, d0, d1, d2, d3⟩ := hI.four (k := Y) (by omega)
  injection e with e
  injection e with e1 e2
  subst e1 e2
  have E := Lib.hid (show vP J X Y = cmpI (J X 2) (J Y 2) from rfl)
  rw [E.out]
  have HCmp : ∀ q, Hid (Ro 90 #[.int .i64 (J X 2), .int .i64 (J Y 2)] (w.drewN q) (.int .i64 (cmpI (J X 2) (J Y 2)))) := fun q => Lib.hid (compare_any _ _ _)
  have hX0 : (0 : Int) ≤ X := by omega
  have hY0 : (0 : Int) ≤ Y := by omega
  have hXN : (X : Int) < N := by omega
  have hYN : (Y : Int) < N := by omega
  generalize cmpI (J X 2) (J Y 2) = cm at *
  clear hI E c0 c1 c3 d0 d1 d3
  go_enter Try.func89, Try.ntmps89
  go_wp2_with fail
  go_quiet ((go_at_call 90; exact Ro.quiet (HCmp _).out))
  go_wp2
  go_ret
  exact ⟨rfl, (Dn.refl _).drewN _⟩

set_option maxHeartbeats 2000000 in
set_option maxRecDepth 1000000 in
theorem insSP (g cap n bx N c : Nat) (F : Nat → Int) (A : Option Addr) (J : Nat → Nat → Int) (w : World) (hR : RowC w g cap n F) (hn0 : 0 < n) (hn : n ≤ 12) (hF : ∀ k, k < n → 0 ≤ F k ∧ F k < N)
    (hb : w.cell? ⟨bx, 0, none⟩ = some (.slice A N c)) (hI : Recs 4 w A N J) (hN : N ≤ 12) (hJ : ∀ k, k < N → 0 ≤ J k 2 ∧ J k 2 ≤ 200) (hne : bx ≠ g) (hneA : 0 < N → ∀ b o, A = some ⟨b, o, none⟩ → b ≠ g) :
    Calls Try.prog 87 #[.slice (some ⟨g, 0, none⟩) n cap, .int .i64 0, .int .i64 n, .func (.func 89) #[] #[.pointer (some ⟨bx, 0, none⟩)]] w fun e w' =>
      e = .returned (.tuple #[]) ∧ ∃ F', RowC w' g cap n F' ∧ (lst n F').Perm (lst n F) ∧ Srt (fun x => J x.toNat 2) F' n ∧ Exc g w w' := by
  have HR := Lib.hid hR
  obtain ⟨V, hV1, hV2⟩ : ∃ V : Int → Int → Int, (∀ x y : Int, 0 ≤ x ∧ x < N → 0 ≤ y ∧ y < N → (V x y < 0 ↔ J x.toNat 2 < J y.toNat 2)) ∧ ∀ (x y : Int) (w' : World), Exc g w w' → 0 ≤ x ∧ x < N → 0 ≤ y ∧ y < N → Ro 89 #[.int .i64 x, .int .i64 y, .pointer (some ⟨bx, 0, none⟩)] w' (.int .i64 (V x y)) :=
    ⟨vP J, fun x y _ _ => vP_neg J x y, fun x y w' he hx hy => cmpDP bx A N c J x y w' (he.cell hb hne) (hI.exc he hneA) hN hJ hx hy⟩
  have HC := Lib.hid hV2
  have HF := Lib.hid hF
  obtain ⟨r, hr⟩ : ∃ r : Int → Int, r = fun x => J x.toNat 2 := ⟨_, rfl⟩
  have HV : Hid (∀ x y : Int, 0 ≤ x ∧ x < N → 0 ≤ y ∧ y < N → (V x y < 0 ↔ r x < r y)) := Lib.hid (by rw [hr]; exact hV1)
  rw [← hr]
  clear hR hV1 hV2 hb hI hneA hr hF hJ
  go_enter Try.func87, Try.ntmps87
  go_wp2
  go_loopw [8] (fun x wr => ∃ (k : Nat) (G : Nat → Int), 1 ≤ k ∧ k ≤ n ∧ x = .int .i64 k ∧ RowC wr g cap n G ∧ (lst n G).Perm (lst n F) ∧ Srt r G k ∧ Exc g w wr) (fun x _ => n - (intOf x).toNat)
  case atStart => exact ⟨1, F, Nat.le_refl _, by omega, rfl, HR.out, List.Perm.refl _, Srt.one _ _, Exc.refl _ _⟩
  case round =>
    obtain ⟨k, G, hk1, hk, rfl, hRG, hP, hS, hE⟩ := hrel
    have HRG := Lib.hid hRG
    have HP := Lib.hid hP
    have HS := Lib.hid hS
    have HE := Lib.hid hE
    clear hRG hP hS hE
    by_cases hlt : k < n
    · go_wp2
      go_loopw [9] (fun x wi => ∃ (j : Nat) (G : Nat → Int), j ≤ k ∧ x = .int .i64 j ∧ RowC wi g cap n G ∧ (lst n G).Perm (lst n F) ∧ SrtX r G (k + 1) j ∧ Exc g w wi) (fun x _ => (intOf x).toNat)
      case atStart => exact ⟨k, G, Nat.le_refl _, rfl, HRG.out, HP.out, HS.out.open_, HE.out⟩
      case round =>
        obtain ⟨j, G, hj, rfl, hRG, hP, hS, hE⟩ := hrel
        have HRG := Lib.hid hRG
        have HP := Lib.hid hP
        have HS := Lib.hid hS
        have HE := Lib.hid hE
        clear hRG hP hS hE
        rcases j with _ | j
        · have HD := Lib.hid HS.out.done0
          have hd0 : decide ((0 : Int) < ((0 : Nat) : Int)) = false := by simp
          go_wp2_with fail
          go_quiet (fail)
          go_wp2
          go_roundw
          case rel => exact ⟨k + 1, G, by omega, by omega, by go_num, HRG.out.dn ((Dn.refl _).drewN _), HP.out, HD.out, HE.out.trans (Exc.of_below (((Dn.refl _).drewN _).below _))⟩
          case measure => simp [intOf]; omega
        · obtain ⟨K, hJ⟩ : ∃ K, K = j + 1 := ⟨_, rfl⟩
          have HJ := Lib.hid hJ
          have hJn : K < n := by omega
          have hcJ := HRG.out.cell hJn
          have hcj := HRG.out.cell (show j < n by omega)
          have hfJ := HRG.out.frozen K
          have hfj := HRG.out.frozen j
          have hJ0 : 0 < K := by omega
          have hJ1 : (K : Int) < n := by omega
          have u0 : (0 : Int) ≤ K := by omega
          have u1 : IntKind.i64.wrap ((K : Int) - 1) = (K : Int) - 1 := IntWalk.i64_in _ ⟨by omega, by omega⟩
          have u2 : ((K : Int) - 1).toNat = j := by omega
          have u3 : (0 : Int) ≤ (K : Int) - 1 := by omega
          have u4 : (K : Int) - 1 < n := by omega
          have hx := perm_all (P := fun x => 0 ≤ x ∧ x < (N : Int)) HP.out HF.out K hJn
          have hy := perm_all (P := fun x => 0 ≤ x ∧ x < (N : Int)) HP.out HF.out j (by omega)
          have HCm : ∀ q, Hid (Ro 89 #[.int .i64 (G K), .int .i64 (G j), .pointer (some ⟨bx, 0, none⟩)] (wr.drewN q) (.int .i64 (V (G K) (G j)))) := fun q => Lib.hid (HC.out _ _ _ (HE.out.trans (Exc.of_below (((Dn.refl _).drewN q).below _))) hx hy)
          have hvv := HV.out _ _ hx hy
          rw [← hJ]
          generalize V (G K) (G j) = cm at *
          by_cases hlt2 : r (G K) < r (G j)
          · have HSt := Lib.hid (HS.out.step (by omega) (by rw [← hJ]; exact hlt2))
            have HPm := Lib.hid ((swp_perm G j n (by omega)).trans HP.out)
            have hcm : cm < 0 := hvv.2 hlt2
            clear hJ hvv hlt2 hx hy
            go_wp2_with fail
            go_quiet ((go_at_call 89; exact Ro.quiet (HCm _).out))
            go_wp2_with fail
            go_region
            go_wp2
            go_roundw
            case rel =>
              refine ⟨j, swp G j, by omega, val_int (by omega), (((HRG.out.dn ((Dn.refl _).drewN _)).set K (G j)).set j (G K)).congr (fun i _ => ?_), HPm.out, HSt.out, ((HE.out.trans (Exc.of_below (((Dn.refl _).drewN _).below _))).set K _).set j _⟩
              unfold swp
              rw [HJ.out]
            case measure => simp [intOf]; omega
          · have HD := Lib.hid (HS.out.done (by omega) (by rw [← hJ]; omega))
            have hcm : decide (cm < 0) = false := decide_eq_false (fun h => hlt2 (hvv.1 h))
            clear hJ hvv hlt2 hx hy
            go_wp2_with fail
            go_quiet ((go_at_call 89; exact Ro.quiet (HCm _).out))
            go_wp2
            go_roundw
            case rel => exact ⟨k + 1, G, by omega, by omega, by go_num, HRG.out.dn ((Dn.refl _).drewN _), HP.out, HD.out, HE.out.trans (Exc.of_below (((Dn.refl _).drewN _).below _))⟩
            case measure => simp [intOf]; omega
    · obtain rfl : k = n := by omega
      go_wp2
      go_returns
      exact ⟨rfl, G, HRG.out, HP.out, HS.out, HE.out⟩

set_option maxHeartbeats 2000000 in
set_option maxRecDepth 1000000 in
theorem insZP (A : Option Addr) (cap bx : Nat) (w : World) :
    Calls Try.prog 87 #[.slice A 0 cap, .int .i64 0, .int .i64 0, .func (.func 89) #[] #[.pointer (some ⟨bx, 0, none⟩)]] w fun e w' => e = .returned (.tuple #[]) ∧ w = w' := by
  go_enter Try.func87, Try.ntmps87
  go_wp2
  refine wp_loop_rounds 1 ?_
  rw [rounds_succ]
  go_wp2
  go_returns
  exact ⟨rfl, rfl⟩

set_option maxHeartbeats 2000000 in
set_option maxRecDepth 1000000 in
theorem stabP (g cap n bx N c : Nat) (F : Nat → Int) (A : Option Addr) (J : Nat → Nat → Int) (w : World) (hR : RowC w g cap n F) (hn0 : 0 < n) (hn : n ≤ 12) (hF : ∀ k, k < n → 0 ≤ F k ∧ F k < N)
    (hb : w.cell? ⟨bx, 0, none⟩ = some (.slice A N c)) (hI : Recs 4 w A N J) (hN : N ≤ 12) (hJ : ∀ k, k < N → 0 ≤ J k 2 ∧ J k 2 ≤ 200) (hne : bx ≠ g) (hneA : 0 < N → ∀ b o, A = some ⟨b, o, none⟩ → b ≠ g) :
    Calls Try.prog 75 #[.slice (some ⟨g, 0, none⟩) n cap, .int .i64 n, .func (.func 89) #[] #[.pointer (some ⟨bx, 0, none⟩)]] w fun e w' =>
      e = .returned (.tuple #[]) ∧ ∃ F', RowC w' g cap n F' ∧ (lst n F').Perm (lst n F) ∧ Srt (fun x => J x.toNat 2) F' n ∧ Exc g w w' := by
  have HC := Lib.hid (insSP g cap n bx N c F A J w hR hn0 hn hF hb hI hN hJ hne hneA)
  have hn12 : (n : Int) ≤ 12 := by omega
  clear hR hb hI hneA hF hJ
  go_enter Try.func75, Try.ntmps75
  go_wp2
  refine wp_loop_rounds 1 ?_
  rw [rounds_succ]
  go_wp2_with fail
  refine HC.out.mono ?_
  rintro e w' ⟨rfl, hp⟩
  have HP := Lib.hid hp
  clear hp
  go_wp2
  refine wp_loop_rounds 1 ?_
  rw [rounds_succ]
  go_wp2
  go_returns
  exact ⟨rfl, HP.out⟩

set_option maxHeartbeats 2000000 in
set_option maxRecDepth 1000000 in
theorem sortP (g cap n bx N c : Nat) (F : Nat → Int) (A : Option Addr) (J : Nat → Nat → Int) (w : World) (hR : RowC w g cap n F) (hn0 : 0 < n) (hn : n ≤ 12) (hF : ∀ k, k < n → 0 ≤ F k ∧ F k < N)
    (hb : w.cell? ⟨bx, 0, none⟩ = some (.slice A N c)) (hI : Recs 4 w A N J) (hN : N ≤ 12) (hJ : ∀ k, k < N → 0 ≤ J k 2 ∧ J k 2 ≤ 200) (hne : bx ≠ g) (hneA : 0 < N → ∀ b o, A = some ⟨b, o, none⟩ → b ≠ g) :
    Calls Try.prog 46 #[.slice (some ⟨g, 0, none⟩) n cap, .func (.func 89) #[] #[.pointer (some ⟨bx, 0, none⟩)]] w fun e w' =>
      e = .returned (.tuple #[]) ∧ ∃ F', RowC w' g cap n F' ∧ (lst n F').Perm (lst n F) ∧ Srt (fun x => J x.toNat 2) F' n ∧ Exc g w w' := by
  have HC := Lib.hid (stabP g cap n bx N c F A J w hR hn0 hn hF hb hI hN hJ hne hneA)
  have hn12 : (n : Int) ≤ 12 := by omega
  clear hR hb hI hneA hF hJ
  go_enter Try.func46, Try.ntmps46
  go_wp2_with fail
  refine HC.out.mono ?_
  rintro e w' ⟨rfl, hp⟩
  have HP := Lib.hid hp
  clear hp
  go_wp2
  go_returns
  exact ⟨rfl, HP.out⟩
end Go.Proofs.Ytbgekacfimgkeaa
