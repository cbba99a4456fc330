import Derived.Test.YtiigcjcolpmafaaRk
import Derived.Test.YtiigcjcolpmafaaSo
import Derived.IntWalk
import Derived.Deep.RegionWith
namespace Go.Proofs.Ytiigcjcolpmafaa
open Go.RowKit

set_option maxHeartbeats 1000000 in
set_option maxRecDepth 1000000 in
theorem cmpRank_any (bx : Nat) (A : Option Addr) (L c : Nat) (f : Nat → Int) (x y : Int) (w : World) (hb : w.cell? ⟨bx, 0, none⟩ = some (.slice A L c)) (h : Ints w A L f) (hL : L ≤ 10000) :
    Ro 121 #[.int .i64 x, .int .i64 y, .pointer (some ⟨bx, 0, none⟩)] w (.int .i64 (rkI f L x - rkI f L y)) := by
  refine Ro.of ?_
  have H := Lib.hid h
  have h1 := rkI_bd f L x
  have h2 := rkI_bd f L y
  clear h
  generalize hr1 : rkI f L x = r1 at *
  generalize hr2 : rkI f L y = r2 at *
  have hcx : Ro 91 #[.slice A L c, .int .i64 x] w (.int .i64 r1) := by rw [← hr1]; exact Ro.same (rank_any A L c f x w H.out hL)
  have hcy : Ro 91 #[.slice A L c, .int .i64 y] w (.int .i64 r2) := by rw [← hr2]; exact Ro.same (rank_any A L c f y w H.out hL)
  have H1 : ∀ n, Hid (Ro 91 #[.slice A L c, .int .i64 x] (w.drewN n) (.int .i64 r1)) := fun n => Lib.hid (by rw [← hr1]; exact Ro.same (rank_any A L c f x _ (H.out.dn ⟨n, rfl⟩) hL))
  have H2 : ∀ n, Hid (Ro 91 #[.slice A L c, .int .i64 y] (w.drewN n) (.int .i64 r2)) := fun n => Lib.hid (by rw [← hr2]; exact Ro.same (rank_any A L c f y _ (H.out.dn ⟨n, rfl⟩) hL))
  clear hcx hcy hr1 hr2
  go_enter Try.func121, Try.ntmps121
  go_wp2_with fail
  go_quiet (first | (go_at_call_of 91 x; exact Ro.quiet (H1 _).out) | (go_at_call_of 91 y; exact Ro.quiet (H2 _).out))
  go_wp2
  go_ret
  exact ⟨rfl, (Dn.refl _).drewN _⟩

set_option maxHeartbeats 2000000 in
set_option maxRecDepth 1000000 in
theorem insSort_any (g cap n bx : Nat) (F : Nat → Int) (A : Option Addr) (L c : Nat) (f : Nat → Int) (w : World) (hR : RowC w g cap n F) (hn0 : 0 < n) (hn : n ≤ 12)
    (hb : w.cell? ⟨bx, 0, none⟩ = some (.slice A L c)) (hI : Ints w A L f) (hL : L ≤ 10000) (hne : bx ≠ g) (hneA : 0 < L → ∀ b o, A = some ⟨b, o, none⟩ → b ≠ g) :
    Calls Try.prog 126 #[.slice (some ⟨g, 0, none⟩) n cap, .int .i64 0, .int .i64 n, .func (.func 121) #[] #[.pointer (some ⟨bx, 0, none⟩)]] w fun e w' =>
      e = .returned (.tuple #[]) ∧ ∃ F', RowC w' g cap n F' ∧ (lst n F').Perm (lst n F) ∧ Srt (rkI f L) F' n ∧ Exc g w w' := by
  have HR := Lib.hid hR
  have hcmp : ∀ (x y : Int) (w' : World), Exc g w w' → Ro 121 #[.int .i64 x, .int .i64 y, .pointer (some ⟨bx, 0, none⟩)] w' (.int .i64 (rkI f L x - rkI f L y)) := fun x y w' he =>
    cmpRank_any bx A L c f x y w' (he.cell hb hne) (fun hp => by
      obtain ⟨b, o, e, hc⟩ := hI hp
      exact ⟨b, o, e, fun k hk => he.cell (hc k hk) (hneA hp b o e)⟩) hL
  have HC := Lib.hid hcmp
  have hrk := rkI_bd f L
  obtain ⟨r, hr⟩ : ∃ r, r = rkI f L := ⟨_, rfl⟩
  rw [← hr] at HC hrk ⊢
  clear hR hcmp hb hI hneA hr
  go_enter Try.func126, Try.ntmps126
  go_wp2
  go_loopw [8] (fun x wr => ∃ (k : Nat) (G : Nat → Int), 1 ≤ k ∧ k ≤ n ∧ x = .int .i64 k ∧ RowC wr g cap n G ∧ (lst n G).Perm (lst n F) ∧ Srt r G k ∧ Exc g w wr) (fun x _ => n - (intOf x).toNat)
  case atStart => exact ⟨1, F, Nat.le_refl _, by omega, rfl, HR.out, List.Perm.refl _, Srt.one _ _, Exc.refl _ _⟩
  case round =>
    obtain ⟨k, G, hk1, hk, rfl, hRG, hP, hS, hE⟩ := hrel
    have HRG := Lib.hid hRG
    have HP := Lib.hid hP
    have HS := Lib.hid hS
    have HE := Lib.hid hE
    clear hRG hP hS hE
    by_cases hlt : k < n
    · go_wp2
      obtain ⟨wo, hwo⟩ : ∃ wo : World, wo = wr := ⟨_, rfl⟩
      have HWo := Lib.hid hwo
      clear hwo
      go_loopw [9] (fun x wi => ∃ (j : Nat) (G : Nat → Int), j ≤ k ∧ x = .int .i64 j ∧ RowC wi g cap n G ∧ (lst n G).Perm (lst n F) ∧ SrtX r G (k + 1) j ∧ Exc g w wi) (fun x _ => (intOf x).toNat)
      case atStart => exact ⟨k, G, Nat.le_refl _, rfl, HRG.out, HP.out, HS.out.open_, HE.out⟩
      case round =>
        obtain ⟨j, G, hj, rfl, hRG, hP, hS, hE⟩ := hrel
        have HRG := Lib.hid hRG
        have HP := Lib.hid hP
        have HS := Lib.hid hS
        have HE := Lib.hid hE
        clear hRG hP hS hE
        rcases j with _ | j
        · have HD := Lib.hid HS.out.done0
          have hd0 : decide ((0 : Int) < ((0 : Nat) : Int)) = false := by simp
          go_wp2_with fail
          go_quiet (fail)
          go_wp2
          go_roundw
          case rel => exact ⟨k + 1, G, by omega, by omega, by go_num, HRG.out.dn ((Dn.refl _).drewN _), HP.out, HD.out, HE.out.trans (Exc.of_below (((Dn.refl _).drewN _).below _))⟩
          case measure => simp [intOf]; omega
        · obtain ⟨J, hJ⟩ : ∃ J, J = j + 1 := ⟨_, rfl⟩
          have HJ := Lib.hid hJ
          have hJn : J < n := by omega
          have hcJ := HRG.out.cell hJn
          have hcj := HRG.out.cell (show j < n by omega)
          have hfJ := HRG.out.frozen J
          have hfj := HRG.out.frozen j
          have hJ0 : 0 < J := by omega
          have hJ1 : (J : Int) < n := by omega
          have u0 : (0 : Int) ≤ J := by omega
          have u1 : IntKind.i64.wrap ((J : Int) - 1) = (J : Int) - 1 := IntWalk.i64_in _ ⟨by omega, by omega⟩
          have u2 : ((J : Int) - 1).toNat = j := by omega
          have u3 : (0 : Int) ≤ (J : Int) - 1 := by omega
          have u4 : (J : Int) - 1 < n := by omega
          have HCm : ∀ q, Hid (Ro 121 #[.int .i64 (G J), .int .i64 (G j), .pointer (some ⟨bx, 0, none⟩)] (wr.drewN q) (.int .i64 (r (G J) - r (G j)))) := fun q => Lib.hid (HC.out _ _ _ (HE.out.trans (Exc.of_below (((Dn.refl _).drewN q).below _))))
          have hb1 := hrk (G J)
          have hb2 := hrk (G j)
          rw [← hJ]
          by_cases hlt2 : r (G J) < r (G j)
          · have HSt := Lib.hid (HS.out.step (by omega) (by rw [← hJ]; exact hlt2))
            have HPm := Lib.hid ((swp_perm G j n (by omega)).trans HP.out)
            have hcm : r (G J) - r (G j) < 0 := by omega
            generalize r (G J) = ra at *
            generalize r (G j) = rb at *
            clear hJ
            go_wp2_with fail
            go_quiet ((go_at_call 121; exact Ro.quiet (HCm _).out))
            go_wp2_with fail
            go_region
            go_wp2
            go_roundw
            case rel =>
              refine ⟨j, swp G j, by omega, val_int (by omega), (((HRG.out.dn ((Dn.refl _).drewN _)).set J (G j)).set j (G J)).congr (fun i _ => ?_), HPm.out, HSt.out, ((HE.out.trans (Exc.of_below (((Dn.refl _).drewN _).below _))).set J _).set j _⟩
              unfold swp
              rw [HJ.out]
            case measure => simp [intOf]; omega
          · have HD := Lib.hid (HS.out.done (by omega) (by rw [← hJ]; omega))
            have hcm : decide (r (G J) - r (G j) < 0) = false := decide_eq_false (by omega)
            generalize r (G J) = ra at *
            generalize r (G j) = rb at *
            clear hJ
            go_wp2_with fail
            go_quiet ((go_at_call 121; exact Ro.quiet (HCm _).out))
            go_wp2
            go_roundw
            case rel => exact ⟨k + 1, G, by omega, by omega, by go_num, HRG.out.dn ((Dn.refl _).drewN _), HP.out, HD.out, HE.out.trans (Exc.of_below (((Dn.refl _).drewN _).below _))⟩
            case measure => simp [intOf]; omega
    · obtain rfl : k = n := by omega
      go_wp2
      go_returns
      exact ⟨rfl, G, HRG.out, HP.out, HS.out, HE.out⟩

set_option maxHeartbeats 1000000 in
set_option maxRecDepth 1000000 in
theorem bitsLen64_any (n : Nat) (hn : n ≤ 12) (w : World) : Calls Try.prog 105 #[.int .u64 n] w fun e w' => (∃ l : Int, e = .returned (.int .i64 l)) ∧ w = w' := by
  have h : n = 0 ∨ n = 1 ∨ n = 2 ∨ n = 3 ∨ n = 4 ∨ n = 5 ∨ n = 6 ∨ n = 7 ∨ n = 8 ∨ n = 9 ∨ n = 10 ∨ n = 11 ∨ n = 12 := by omega
  clear hn
  rcases h with rfl | rfl | rfl | rfl | rfl | rfl | rfl | rfl | rfl | rfl | rfl | rfl | rfl
  all_goals
    go_enter Try.func105, Try.ntmps105
    go_wp2
    go_ret
    exact ⟨⟨_, rfl⟩, rfl⟩
theorem bitsLen_any (n : Nat) (hn : n ≤ 12) (w : World) : Calls Try.prog 65 #[.int .u64 n] w fun e w' => (∃ l : Int, e = .returned (.int .i64 l)) ∧ w = w' := by
  have HC := Lib.hid (bitsLen64_any n hn w)
  go_enter Try.func65, Try.ntmps65
  go_wp2_with fail
  refine HC.out.mono ?_
  rintro e w' ⟨⟨l, rfl⟩, rfl⟩
  go_wp2
  go_ret
  exact ⟨⟨_, rfl⟩, rfl⟩

set_option maxHeartbeats 2000000 in
set_option maxRecDepth 1000000 in
theorem pdq_any (g cap n bx : Nat) (F : Nat → Int) (A : Option Addr) (L c : Nat) (f : Nat → Int) (lim : Int) (w : World) (hR : RowC w g cap n F) (hn0 : 0 < n) (hn : n ≤ 12)
    (hb : w.cell? ⟨bx, 0, none⟩ = some (.slice A L c)) (hI : Ints w A L f) (hL : L ≤ 10000) (hne : bx ≠ g) (hneA : 0 < L → ∀ b o, A = some ⟨b, o, none⟩ → b ≠ g) :
    Calls Try.prog 125 #[.slice (some ⟨g, 0, none⟩) n cap, .int .i64 0, .int .i64 n, .int .i64 lim, .func (.func 121) #[] #[.pointer (some ⟨bx, 0, none⟩)]] w fun e w' =>
      e = .returned (.tuple #[]) ∧ ∃ F', RowC w' g cap n F' ∧ (lst n F').Perm (lst n F) ∧ Srt (rkI f L) F' n ∧ Exc g w w' := by
  have HC := Lib.hid (insSort_any g cap n bx F A L c f w hR hn0 hn hb hI hL hne hneA)
  have hn12 : (n : Int) ≤ 12 := by omega
  clear hR hb hI hneA
  go_enter Try.func125, Try.ntmps125
  go_wp2
  refine wp_loop_rounds 1 ?_
  rw [rounds_succ]
  go_wp2_with fail
  refine HC.out.mono ?_
  rintro e w' ⟨rfl, hp⟩
  have HP := Lib.hid hp
  clear hp
  go_wp2
  go_returns
  exact ⟨rfl, HP.out⟩

set_option maxHeartbeats 2000000 in
set_option maxRecDepth 1000000 in
theorem sortFunc_any (g cap n bx : Nat) (F : Nat → Int) (A : Option Addr) (L c : Nat) (f : Nat → Int) (w : World) (hR : RowC w g cap n F) (hn0 : 0 < n) (hn : n ≤ 12)
    (hb : w.cell? ⟨bx, 0, none⟩ = some (.slice A L c)) (hI : Ints w A L f) (hL : L ≤ 10000) (hne : bx ≠ g) (hneA : 0 < L → ∀ b o, A = some ⟨b, o, none⟩ → b ≠ g) :
    Calls Try.prog 120 #[.slice (some ⟨g, 0, none⟩) n cap, .func (.func 121) #[] #[.pointer (some ⟨bx, 0, none⟩)]] w fun e w' =>
      e = .returned (.tuple #[]) ∧ ∃ F', RowC w' g cap n F' ∧ (lst n F').Perm (lst n F) ∧ Srt (rkI f L) F' n ∧ Exc g w w' := by
  have HC := Lib.hid (fun lim => pdq_any g cap n bx F A L c f lim w hR hn0 hn hb hI hL hne hneA)
  clear hR hb hI hneA
  go_enter Try.func120, Try.ntmps120
  go_wp2_with fail
  refine (bitsLen_any n hn _).mono ?_
  rintro e w' ⟨⟨l, rfl⟩, rfl⟩
  go_wp2_with fail
  refine (HC.out _).mono ?_
  rintro e w' ⟨rfl, hp⟩
  have HP := Lib.hid hp
  clear hp
  go_wp2
  go_returns
  exact ⟨rfl, HP.out⟩

set_option maxHeartbeats 2000000 in
set_option maxRecDepth 1000000 in
theorem byRank_any (A B : Option Addr) (L c n cB : Nat) (f o : Nat → Int) (w : World) (hI : Ints w A L f) (hO : Ints w B n o) (hL : L ≤ 10000) (hn0 : 0 < n) (hn : n ≤ 12) :
    Calls Try.prog 111 #[.slice A L c, .slice B n cB] w fun e w' => ∃ g cap F, e = .returned (.slice (some ⟨g, 0, none⟩) n cap) ∧ RowC w' g cap n F ∧ (lst n F).Perm (lst n o) ∧ Srt (rkI f L) F n ∧ Below w.heap.size w w' := by
  have HI := Lib.hid hI
  have HO := Lib.hid hO
  have hb0 : Below w.heap.size w (w.alloc (.cells #[.slice A L c] 23)) := (Below.refl _ _).alloc (Nat.le_refl _) _
  have Hb0 := Lib.hid hb0
  have hbox : (w.alloc (.cells #[.slice A L c] 23)).cell? ⟨w.heap.size, 0, none⟩ = some (.slice A L c) := by simp [World.cell?_alloc_at]
  have HBox := Lib.hid hbox
  clear hI hO hb0 hbox
  go_enter Try.func111, Try.ntmps111
  go_wp2_with fail
  refine (clone_any B n cB o _ (HO.out.keep Hb0.out) (by omega)).mono ?_
  rintro e w1 ⟨v, rfl, hv, -, hb1⟩
  obtain ⟨g, cap, rfl, hg, hrow⟩ := hv.rowC hn0
  have hbx := hb1.cell (show (⟨w.heap.size, 0, none⟩ : Addr).block < _ by simp)
  rw [HBox.out] at hbx
  have hgw : w.heap.size + 1 ≤ g := by simpa using hg
  have HSo := Lib.hid (sortFunc_any g cap n w.heap.size o A L c f w1 hrow hn0 hn hbx ((HI.out.keep Hb0.out).keep hb1) hL (by omega) (fun h0 b p e => by
    obtain ⟨b', o', e', hc⟩ := HI.out h0
    rw [e] at e'
    injection e' with e'
    injection e' with e1
    have := World.block_lt_of_cell? _ _ (hc 0 h0)
    simp only at this
    omega))
  have Hb1 := Lib.hid (Hb0.out.trans (hb1.mono Hb0.out.size))
  clear hv hb1 hrow hbx hg
  go_wp2_with fail
  refine HSo.out.mono ?_
  rintro e w2 ⟨rfl, F, hR, hP, hS, hE⟩
  have HR := Lib.hid hR
  have HP := Lib.hid hP
  have HS := Lib.hid hS
  have Hb2 := Lib.hid (Hb1.out.trans (hE.below (by omega) Hb1.out.size))
  clear hR hP hS hE
  go_wp2
  go_ret
  exact ⟨g, cap, F, rfl, HR.out, HP.out, HS.out, Hb2.out⟩

theorem lst_getF (n : Nat) (F : Nat → Int) (k : Nat) (h : k < n) : F k ∈ lst n F := by
  have := lst_get n F k h
  exact List.mem_of_getElem? this
set_option maxHeartbeats 1000000 in
set_option maxRecDepth 1000000 in
theorem choice_any (A B : Option Addr) (L c n cB k : Nat) (f o : Nat → Int) (x0 : Int) (w : World) (hI : Ints w A L f) (hO : Ints w B n o) (hL : L ≤ 10000) (hn : n ≤ 12) (hk : k < n)
    (hx : ∀ F : Nat → Int, (lst n F).Perm (lst n o) → Srt (rkI f L) F n → F k = x0) :
    Lr 90 #[.slice A L c, .int .i64 ((k + 1 : Nat) : Int), .slice B n cB] w (.int .i64 x0) := by
  have HC := Lib.hid (byRank_any A B L c n cB f o w hI hO hL (by omega) hn)
  have HX := Lib.hid hx
  obtain ⟨K, hK⟩ : ∃ K, K = k + 1 := ⟨_, rfl⟩
  have u1 : IntKind.i64.wrap ((K : Int) - 1) = (K : Int) - 1 := IntWalk.i64_in _ ⟨by omega, by omega⟩
  have u2 : ((K : Int) - 1).toNat = k := by omega
  have u3 : (0 : Int) ≤ (K : Int) - 1 := by omega
  have u4 : (K : Int) - 1 < n := by omega
  rw [← hK]
  clear hI hO hx hK
  show Calls _ _ _ _ _
  go_enter Try.func90, Try.ntmps90
  go_wp2_with fail
  refine HC.out.mono ?_
  rintro e w1 ⟨g, cap, F, rfl, hR, hP, hS, hb⟩
  have hc := hR.cell hk
  rw [HX.out F hP hS] at hc
  have Hb := Lib.hid hb
  clear hR hP hS hb
  go_wp2
  go_ret
  exact ⟨rfl, Hb.out⟩
end Go.Proofs.Ytiigcjcolpmafaa
