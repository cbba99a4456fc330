/- inOrderOfDue; onTime. -/
import Derived.Test.YtbgekacfimgkeaaJb
import Derived.Test.YtbgekacfimgkeaaShift
namespace Go.Proofs.Ytbgekacfimgkeaa
open Go.RowKit

set_option maxHeartbeats 1000000 in
set_option maxRecDepth 1000000 in
theorem hasD_any (s x : Nat) (hx : x < 64) (w : World) : Calls Try.prog 79 #[.int .i64 s, .int .i64 x] w fun e w' => e = .returned (.bool (btN s x)) ∧ w = w' := by
  have h2 : bits .and .i64 ((s : Int) / 2 ^ x) 1 = ((s / 2 ^ x % 2 : Nat) : Int) := by
    have e : ((s : Int) / 2 ^ x) = ((s / 2 ^ x : Nat) : Int) := by push_cast; rfl
    rw [e, i64_and1]
    omega
  have HU : Hid (btN s x = decide (s / 2 ^ x % 2 = 1)) := Lib.hid rfl
  generalize s / 2 ^ x = y at *
  rcases Nat.mod_two_eq_zero_or_one y with h | h
  · have hq : (((y % 2 : Nat) : Int) == 1) = false := by rw [h]; rfl
    have HV : Hid (btN s x = false) := Lib.hid (by rw [HU.out, h]; rfl)
    clear h
    go_enter Try.func79, Try.ntmps79
    go_wp2
    go_ret
    exact ⟨ret_bool (by rw [HV.out]; first | rfl | exact hq | (rw [h2]; exact hq)), rfl⟩
  · have hq : (((y % 2 : Nat) : Int) == 1) = true := by rw [h]; rfl
    have HV : Hid (btN s x = true) := Lib.hid (by rw [HU.out, h]; rfl)
    clear h
    go_enter Try.func79, Try.ntmps79
    go_wp2
    go_ret
    exact ⟨ret_bool (by rw [HV.out]; first | rfl | exact hq | (rw [h2]; exact hq)), rfl⟩

set_option maxHeartbeats 1000000 in
set_option maxRecDepth 1000000 in
theorem inOrder_any (A : Option Addr) (n c : Nat) (J : Nat → Nat → Int) (w : World) (h : Recs 4 w A n J) (hok : okJ n J = true) :
    Calls Try.prog 78 #[.slice A n c] w fun e w' => ∃ g cap f, e = .returned (.slice (some ⟨g, 0, none⟩) n cap) ∧ RowC w' g cap n f ∧ (lst n f).Perm (lst n (fun k => (k : Int))) ∧ Srt (fun x => J x.toNat 2) f n ∧ Below w.heap.size w w' := by
  have H := Lib.hid h
  obtain ⟨⟨h1, h8⟩, hJ⟩ := okJ_iff.1 hok
  have HJ : Hid (∀ k, k < n → 0 ≤ J k 2 ∧ J k 2 ≤ 200) := Lib.hid (fun k hk => (hJ k hk).2.2.1)
  have hb0 := (Below.refl w.heap.size w).alloc (Nat.le_refl _) (.cells #[.slice A n c] 27)
  have hbox : (w.alloc (.cells #[.slice A n c] 27)).cell? ⟨w.heap.size, 0, none⟩ = some (.slice A n c) := by simp [World.cell?_alloc_at]
  have hmk := mk_ints n (by omega) (w.alloc (.cells #[.slice A n c] 27))
  clear h hok hJ
  go_enter Try.func78, Try.ntmps78
  go_wp2
  have hM := RowI.made (w.alloc (.cells #[.slice A n c] 27)) n
  have hb1 := hb0.alloc hb0.size (.cells (madeCells #[.int .i64 0] n) 3)
  have hbox1 : ((w.alloc (.cells #[.slice A n c] 27)).alloc (.cells (madeCells #[.int .i64 0] n) 3)).cell? ⟨w.heap.size, 0, none⟩ = some (.slice A n c) := by
    exact (((Below.refl _ _).alloc (Nat.le_refl _) _).cell (World.block_lt_of_cell? _ _ hbox)).trans hbox
  have hgs : (w.alloc (.cells #[.slice A n c] 27)).heap.size = w.heap.size + 1 := by simp
  rw [hgs] at hM
  have HB1 := Lib.hid hb1
  have HBox1 := Lib.hid hbox1
  have HM := Lib.hid hM
  clear hmk hb0 hbox hb1 hbox1 hM hgs
  generalize ((w.alloc (.cells #[.slice A n c] 27)).alloc (.cells (madeCells #[.int .i64 0] n) 3)) = W0 at *
  go_loopw [10] (fun i wr => ∃ (k : Nat) (f : Nat → Int), k ≤ n ∧ i = .int .i64 k ∧ RowI wr (w.heap.size + 1) n f ∧ (∀ a, a < k → f a = a) ∧ Exc (w.heap.size + 1) W0 wr) (fun i _ => n - (intOf i).toNat)
  case atStart => exact ⟨0, _, Nat.zero_le _, rfl, HM.out, fun a h => absurd h (by omega), Exc.refl _ _⟩
  case round =>
    obtain ⟨k, f, hk, rfl, hR, hf, hE⟩ := hrel
    have HR := Lib.hid hR
    have Hf := Lib.hid hf
    have HE := Lib.hid hE
    clear hR hf hE
    by_cases hlt : k < n
    · have hcell := HR.out.cell hlt
      have hfr := HR.out.frozen k
      go_wp2
      go_roundw
      case rel => exact ⟨k + 1, _, by omega, by go_num, HR.out.set k k, fun a ha => by
          unfold upd
          by_cases e : a = k
          · rw [if_pos e, e]
          · rw [if_neg e]
            exact Hf.out a (by omega), HE.out.set k _⟩
      case measure => simp [intOf]; omega
    · have hkn : n = k := by omega
      subst hkn
      have HR2 := Lib.hid ((HR.out.congr (f' := fun k => (k : Int)) (fun a ha => Hf.out a (by omega))).rowC)
      go_wp2_with fail
      refine (sortP (w.heap.size + 1) n n w.heap.size n c (fun k => (k : Int)) A J wr HR2.out (by omega) (by omega) (fun k hk => by omega) (HE.out.cell HBox1.out (by show w.heap.size ≠ w.heap.size + 1; omega)) ((H.out.keep HB1.out).exc HE.out (fun hn b o e => by
        obtain ⟨b', o', e', hc⟩ := H.out hn
        rw [e] at e'
        injection e' with e'
        injection e' with e1
        have := World.block_lt_of_cell? _ _ (hc 0 hn 0 (by omega))
        simp only at this
        omega)) (by omega) HJ.out (by omega) (fun hn b o e => by
        obtain ⟨b', o', e', hc⟩ := H.out hn
        rw [e] at e'
        injection e' with e'
        injection e' with e1
        have := World.block_lt_of_cell? _ _ (hc 0 hn 0 (by omega))
        simp only at this
        omega)).mono ?_
      rintro e w2 ⟨rfl, f2, hR2, hP2, hS2, hE2⟩
      have HR3 := Lib.hid hR2
      have HP3 := Lib.hid hP2
      have HS3 := Lib.hid hS2
      have HB3 := Lib.hid (HB1.out.trans ((HE.out.trans hE2).below (by omega) HB1.out.size))
      clear hR2 hP2 hS2 hE2
      go_wp2
      go_ret
      exact ⟨_, _, f2, rfl, HR3.out, HP3.out, HS3.out, HB3.out⟩

set_option maxHeartbeats 1000000 in
set_option maxRecDepth 1000000 in
theorem onTime_any (A : Option Addr) (n c g cap s : Nat) (J : Nat → Nat → Int) (f : Nat → Int) (w : World) (h : Recs 4 w A n J) (hok : okJ n J = true) (hR : RowC w g cap n f) (hf : ∀ k, k < n → 0 ≤ f k ∧ f k < n) :
    Calls Try.prog 80 #[.slice A n c, .int .i64 s, .slice (some ⟨g, 0, none⟩) n cap] w fun e w' => e = .returned (.bool (allB (otP J s f) n)) ∧ w = w' := by
  have H := Lib.hid h
  have HR := Lib.hid hR
  have Hf := Lib.hid hf
  obtain ⟨⟨h1, h8⟩, hJ⟩ := okJ_iff.1 hok
  have HJ := Lib.hid hJ
  have hrng : ∀ k, k ≤ n → 0 ≤ smT (nwF J s f) k ∧ smT (nwF J s f) k ≤ 20 * k := by
    intro k
    induction k with
    | zero => intro _; exact ⟨Int.le_refl _, by show (0 : Int) ≤ _; omega⟩
    | succ k ih =>
      intro hk
      have h3 := ih (by omega)
      have h4 := hf k (by omega)
      have h5 := (hJ (f k).toNat (by omega)).1
      rw [smT]
      unfold nwF at h3 ⊢
      split <;> omega
  have HG := Lib.hid hrng
  have HFalse : Hid (∀ k, k < n → otP J s f k = false → allB (otP J s f) n = false) := Lib.hid (fun k hk h => allB_f hk h)
  have HTrue : Hid (AllLt (otP J s f) n → allB (otP J s f) n = true) := Lib.hid (fun h => allB_t h)
  clear h hR hf hJ hok hrng
  go_enter Try.func80, Try.ntmps80
  go_wp2
  go_loopw [7, 12] (fun nw i wr => ∃ k : Nat, k ≤ n ∧ i = .int .i64 k ∧ nw = .int .i64 (smT (nwF J s f) k) ∧ AllLt (otP J s f) k ∧ w = wr) (fun _ i _ => n - (intOf i).toNat)
  case atStart => exact ⟨0, Nat.zero_le _, rfl, rfl, AllLt.zero, rfl⟩
  case round =>
    obtain ⟨k, hk, rfl, rfl, hA, rfl⟩ := hrel
    have HA := Lib.hid hA
    clear hA
    have hrk := HG.out k hk
    by_cases hlt : k < n
    · have hfk := Hf.out k hlt
      obtain ⟨X, hX⟩ : ∃ X : Nat, f k = X := ⟨(f k).toNat, by omega⟩
      have hcell := HR.out.cell hlt
      rw [hX] at hcell hfk
      have hXn : X < n := by omega
      have HS : Hid (smT (nwF J s f) (k + 1) = smT (nwF J s f) k + if btN s X = true then J X 0 else 0) := Lib.hid (by rw [smT]; unfold nwF; rw [hX]; rfl)
      have HO : Hid (otP J s f k = (!btN s X || decide (smT (nwF J s f) (k + 1) ≤ J X 2))) := Lib.hid (by unfold otP; rw [hX]; rfl)
      obtain ⟨b, o, rfl, c0, c1, c2, c3⟩ := H.out.four hXn
      have hJX := HJ.out X hXn
      obtain ⟨⟨j1, j2⟩, -, ⟨j3, j4⟩, -⟩ := hJX
      obtain ⟨r1, r2⟩ := hrk
      have hk8 : (k : Int) < 8 := by omega
      have hX0 : (0 : Int) ≤ X := by omega
      have hXI : (X : Int) < n := by omega
      generalize smT (nwF J s f) k = nw at *
      clear hfk hX
      go_wp2_with fail
      refine (hasD_any s X (by omega) _).mono ?_
      rintro e w1 ⟨rfl, rfl⟩
      cases hb : btN s X with
      | false =>
        have HS2 := Lib.hid (show smT (nwF J s f) (k + 1) = nw by rw [HS.out, hb]; simp)
        have HO2 := Lib.hid (show otP J s f k = true by rw [HO.out, hb]; rfl)
        go_wp2
        go_roundw
        case rel => exact ⟨k + 1, by omega, by go_num, by rw [HS2.out], HA.out.succ HO2.out, by first | rfl | trivial⟩
        case measure => simp [intOf]; omega
      | true =>
        have HS2 := Lib.hid (show smT (nwF J s f) (k + 1) = nw + J X 0 by rw [HS.out, hb]; simp)
        by_cases hl : J X 2 < nw + J X 0
        · have HO2 := Lib.hid (HFalse.out k hlt (by rw [HO.out, hb, HS2.out]; simp; omega))
          go_wp2
          go_ret
          exact ⟨ret_bool HO2.out.symm, rfl⟩
        · have HO2 := Lib.hid (show otP J s f k = true by rw [HO.out, hb, HS2.out]; simp; omega)
          go_wp2
          go_roundw
          case rel => exact ⟨k + 1, by omega, by go_num, by rw [HS2.out], HA.out.succ HO2.out, by first | rfl | trivial⟩
          case measure => simp [intOf]; omega
    · obtain rfl : k = n := by omega
      have HT := Lib.hid (HTrue.out HA.out)
      go_wp2
      go_ret
      exact ⟨ret_bool HT.out.symm, rfl⟩
end Go.Proofs.Ytbgekacfimgkeaa
