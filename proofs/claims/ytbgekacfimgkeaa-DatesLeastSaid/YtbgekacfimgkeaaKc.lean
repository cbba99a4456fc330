/- The closures of DatesOrders: the greatest delay of a row, keeping the befores. -/
import Derived.Test.YtbgekacfimgkeaaKa
import Derived.Test.YtbgekacfimgkeaaKb
import Derived.Test.YtbgekacfimgkeaaIdx
namespace Go.Proofs.Ytbgekacfimgkeaa
open Go.RowKit

set_option maxHeartbeats 2000000 in
set_option maxRecDepth 1000000 in
theorem worstO_bad (A B : Option Addr) (n c m c2 bx : Nat) (J : Nat → Nat → Int) (f : Nat → Int) (w : World) (h : Recs 4 w A n J) (hn : n ≤ 10) (hf : Ints w B m f) (hmc : m ≤ c2) (hm : m ≤ maxLen) (hb : w.cell? ⟨bx, 0, none⟩ = some (.slice A n c)) (hbad : okJ n J = false ∨ ordB m f n = false) :
    Lr 49 #[.slice B m c2, .pointer (some ⟨bx, 0, none⟩)] w (.tuple #[.int .i64 (-1073741824), .bool false]) := by
  unfold Lr
  have H := Lib.hid h
  have HF := Lib.hid hf
  have HB := Lib.hid hbad
  have Hn := Lib.hid (show n ≤ maxLen by unfold maxLen; omega)
  have HM := Lib.hid hm
  have hm10 : min n 10 = n := by omega
  clear h hf hbad hm
  go_enter Try.func49, Try.ntmps49
  go_wp2_with fail
  refine (of_any A n c J w H.out Hn.out).mono ?_
  rintro e w1 ⟨x, rfl, hx, hb1⟩
  rw [hm10] at hx
  obtain ⟨Ax, cx, rfl, -, hRx, -⟩ := hx.form
  have HX := Lib.hid hRx
  have HB1 := Lib.hid hb1
  clear hx hRx hb1
  go_wp2_with fail
  refine (ends_bad Ax B n cx m c2 J f w1 HX.out (HF.out.keep HB1.out) hmc Hn.out HM.out HB.out).use fun w2 hb2 => ?_
  have HB2 := Lib.hid (HB1.out.trans (hb2.mono HB1.out.size))
  clear hb2
  go_wp2
  refine wp_loop_rounds 1 ?_
  rw [rounds_succ]
  go_wp2
  go_returns
  exact ⟨rfl, HB2.out⟩

set_option maxHeartbeats 2000000 in
set_option maxRecDepth 1000000 in
theorem worstO_ok (A B : Option Addr) (n c c2 bx : Nat) (J : Nat → Nat → Int) (f : Nat → Int) (w : World) (h : Recs 4 w A n J) (hok : okJ n J = true) (hf : Ints w B n f) (hmc : n ≤ c2) (ho : ordB n f n = true) (hb : w.cell? ⟨bx, 0, none⟩ = some (.slice A n c)) :
    Calls Try.prog 49 #[.slice B n c2, .pointer (some ⟨bx, 0, none⟩)] w fun r w' => ∃ x, r = .returned (.tuple #[.int .i64 x, .bool true]) ∧ IsDl n J (eoF J f n) x ∧ Below w.heap.size w w' := by
  have H := Lib.hid h
  have HF := Lib.hid hf
  have HO := Lib.hid hok
  have HOr := Lib.hid ho
  have HBx := Lib.hid hb
  obtain ⟨⟨hn1, hn8⟩, hJ⟩ := okJ_iff.1 hok
  have HJ := Lib.hid hJ
  have Hn := Lib.hid (show n ≤ maxLen by unfold maxLen; omega)
  have hm10 : min n 10 = n := by omega
  have HN : Hid (∀ k, k < n → 0 ≤ eoF J f n k ∧ eoF J f n k ≤ 160) := Lib.hid (fun k hk => by
    obtain ⟨a, ha, ea⟩ := ord_surj ho hk
    have h2 := eoF_ord (J := J) ho ha
    have hr := ord_rng ho
    rw [ea, Int.toNat_natCast] at h2
    rw [h2]
    refine ⟨smT_nonneg (fun b hb => by
      have := hr b (by omega)
      have := (hJ (f b).toNat (by omega)).1
      omega), ?_⟩
    have h3 : ∀ q, q ≤ n → smT (fun b => J (f b).toNat 0) q ≤ 20 * q := by
      intro q
      induction q with
      | zero => intro _; exact Int.le_refl _
      | succ q ih =>
        intro hq
        have := ih (by omega)
        have := hr q (by omega)
        have := (hJ (f q).toNat (by omega)).1
        rw [smT]
        push_cast
        omega
    have := h3 (a + 1) (by omega)
    push_cast at this
    omega)
  clear h hf hok ho hJ
  go_enter Try.func49, Try.ntmps49
  go_wp2_with fail
  refine (of_any A n c J w H.out Hn.out).mono ?_
  rintro e w1 ⟨x, rfl, hx, hb1⟩
  rw [hm10] at hx
  obtain ⟨Ax, cx, rfl, -, hRx, -⟩ := hx.form
  have HX := Lib.hid hRx
  have HB1 := Lib.hid hb1
  clear hx hRx hb1 hb
  go_wp2_with fail
  refine (ends_ok Ax B n cx n c2 J f w1 HX.out (HF.out.keep HB1.out) hmc HO.out HOr.out).mono ?_
  rintro e w2 ⟨g, rfl, -, hR, hb2⟩
  have HE := Lib.hid hR
  have HB2 := Lib.hid (HB1.out.trans (hb2.mono HB1.out.size))
  clear hR hb2
  generalize heq : eoF J f n = en at *
  have HQ := Lib.hid heq
  clear heq
  go_wp2
  go_loopw [7, 19] (fun s i wr => ∃ (k : Nat) (x : Int), k ≤ n ∧ i = .int .i64 k ∧ s = .int .i64 x ∧ (k = 0 → x = -1073741824) ∧ (0 < k → IsDl k J en x) ∧ -1073741824 ≤ x ∧ Dn w2 wr) (fun _ i _ => n - (intOf i).toNat)
  case atStart => exact ⟨0, _, Nat.zero_le _, rfl, rfl, fun _ => rfl, fun h => absurd h (by omega), Int.le_refl _, Dn.refl _⟩
  case round =>
    obtain ⟨k, x, hk, rfl, rfl, hx0, hxk, hxl, hD⟩ := hrel
    have HX0 := Lib.hid hx0
    have HXk := Lib.hid hxk
    clear hx0 hxk
    by_cases hlt : k < n
    · have hc := (HE.out.dn hD).cell hlt
      have hbw := HB2.out.trans (hD.below _)
      have hbx : wr.cell? ⟨bx, 0, none⟩ = some (.slice A n c) := (hbw.cell (World.block_lt_of_cell? _ _ HBx.out)).trans HBx.out
      obtain ⟨b, o, rfl, c0, c1, c2', c3⟩ := (H.out.keep hbw).four hlt
      obtain ⟨hek1, hek2⟩ := HN.out k hlt
      obtain ⟨-, -, ⟨hJ1, hJ2⟩, -⟩ := HJ.out k hlt
      clear hbw
      rcases Int.lt_or_le x (en k - J k 2) with hx | hx
      · have HI : Hid (IsDl (k + 1) J en (en k - J k 2)) := Lib.hid ⟨fun a ha => by
          rcases Nat.lt_or_ge a k with h3 | h3
          · have := (HXk.out (by omega)).1 a h3
            omega
          · obtain rfl : a = k := by omega
            exact Int.le_refl _, k, by omega, rfl⟩
        go_wp2
        go_roundw
        case rel => exact ⟨k + 1, en k - J k 2, by omega, by go_num, val_int (by omega), fun h => absurd h (by omega), fun _ => HI.out, by omega, hD⟩
        case measure => simp [intOf]; omega
      · have HI : Hid (IsDl (k + 1) J en x) := Lib.hid (by
          have hk0 : 0 < k := by
            rcases Nat.eq_zero_or_pos k with h | h
            · have := HX0.out h
              omega
            · exact h
          obtain ⟨h1, a, h2, h3⟩ := HXk.out hk0
          refine ⟨fun a ha => ?_, a, by omega, h3⟩
          rcases Nat.lt_or_ge a k with h4 | h4
          · exact h1 a h4
          · obtain rfl : a = k := by omega
            exact hx)
        go_wp2
        go_roundw
        case rel => exact ⟨k + 1, x, by omega, by go_num, val_int (by omega), fun h => absurd h (by omega), fun _ => HI.out, hxl, hD⟩
        case measure => simp [intOf]; omega
    · obtain rfl : k = n := by omega
      go_wp2
      go_returns
      exact ⟨x, rfl, by rw [HQ.out]; exact HXk.out (by omega), HB2.out.trans (hD.below _)⟩

/-- All befores are kept. -/
def kpP (q : Nat) (f : Nat → Int) (F : Nat → Nat → Int) (k : Nat) : Bool := !decide (idxI f (F k 1) q ≤ idxI f (F k 0) q)
theorem kp_keeps {n m : Nat} {F : Nat → Nat → Int} {f : Nat → Int} (hbf : bfB n m F = true) (ho : ordB n f n = true) : allB (kpP n f F) m = true ↔ KeepsP m F n f := by
  have hat : ∀ a, a < n → idxI f (f a) n = a := fun a ha => idxI_some (fun j hj e => ordB_inj ho ha hj e) rfl n ha
  rw [allB_iff]
  constructor
  · intro h k hk a b ha hb ea eb
    have h1 := h k hk
    unfold kpP at h1
    rw [← ea, ← eb, hat a ha, hat b hb] at h1
    simp at h1
    omega
  · intro h k hk
    obtain ⟨h0, h1⟩ := (bf_rng hbf).2 k hk
    obtain ⟨a, ha, ea⟩ := ord_surj ho (x := (F k 0).toNat) (by omega)
    obtain ⟨b, hb, eb⟩ := ord_surj ho (x := (F k 1).toNat) (by omega)
    have h2 := h k hk a b ha hb (by omega) (by omega)
    unfold kpP
    rw [show F k 0 = f a by omega, show F k 1 = f b by omega, hat a ha, hat b hb]
    simp
    omega
set_option maxHeartbeats 2000000 in
set_option maxRecDepth 1000000 in
theorem keepsO_any (A B : Option Addr) (m c q c2 bx : Nat) (F : Nat → Nat → Int) (f : Nat → Int) (w : World) (h : Recs 2 w A m F) (hm : m ≤ maxLen) (hf : Ints w B q f) (hq : q ≤ 10000) (hb : w.cell? ⟨bx, 0, none⟩ = some (.slice A m c)) :
    Lr 51 #[.slice B q c2, .pointer (some ⟨bx, 0, none⟩)] w (.bool (allB (kpP q f F) m)) := by
  unfold Lr
  have H := Lib.hid h
  have HF := Lib.hid hf
  have HBx := Lib.hid hb
  have hm2 : m ≤ 9223372036854775807 := by unfold maxLen at hm; omega
  have HFa : Hid (∀ k, k < m → kpP q f F k = false → allB (kpP q f F) m = false) := Lib.hid (fun k hk h => allB_f hk h)
  clear h hm hf
  go_enter Try.func51, Try.ntmps51
  go_wp2
  go_loopw [8] (fun i wr => ∃ k : Nat, k ≤ m ∧ i = .int .i64 k ∧ AllLt (kpP q f F) k ∧ Below w.heap.size w wr) (fun i _ => m - (intOf i).toNat)
  case atStart => exact ⟨0, Nat.zero_le _, rfl, AllLt.zero, Below.refl _ _⟩
  case round =>
    obtain ⟨k, hk, rfl, hA, hD⟩ := hrel
    have HA := Lib.hid hA
    clear hA
    by_cases hlt : k < m
    · obtain ⟨b, o, rfl, c0, c1⟩ := (H.out.keep hD).two hlt
      have HD1 := Lib.hid (hD.alloc hD.size (.cells #[.int .i64 (F k 0), .int .i64 (F k 1)] 52))
      have HP : Hid (kpP q f F k = !decide (idxI f (F k 1) q ≤ idxI f (F k 0) q)) := Lib.hid rfl
      have HI : Hid (∀ x z, Ro 52 #[.slice B q c2, .int .i64 x] ((wr.alloc (.cells #[.int .i64 (F k 0), .int .i64 (F k 1)] 52)).drewN z) (.int .i64 (idxI f x q))) := Lib.hid (fun x z => Ro.same (index_any B q c2 f x _ ((HF.out.keep HD1.out).dn ⟨z, rfl⟩) hq))
      clear hD
      generalize hi0 : idxI f (F k 0) q = i0 at *
      generalize hi1 : idxI f (F k 1) q = i1 at *
      have HI0 : ∀ z, Hid (Ro 52 #[.slice B q c2, .int .i64 (F k 0)] ((wr.alloc (.cells #[.int .i64 (F k 0), .int .i64 (F k 1)] 52)).drewN z) (.int .i64 i0)) := fun z => Lib.hid (by rw [← hi0]; exact HI.out _ z)
      have HI1 : ∀ z, Hid (Ro 52 #[.slice B q c2, .int .i64 (F k 1)] ((wr.alloc (.cells #[.int .i64 (F k 0), .int .i64 (F k 1)] 52)).drewN z) (.int .i64 i1)) := fun z => Lib.hid (by rw [← hi1]; exact HI.out _ z)
      clear hi0 hi1 HI
      by_cases hle : i1 ≤ i0
      · have hd : decide (i1 ≤ i0) = true := decide_eq_true hle
        have HE := Lib.hid (HFa.out k hlt (by rw [HP.out, hd]; rfl))
        clear hle
        go_wp2_with fail
        go_quiet (first | (go_at_call_of 52 (F k 0); exact Ro.quiet (HI0 _).out) | (go_at_call_of 52 (F k 1); exact Ro.quiet (HI1 _).out))
        go_wp2
        go_ret
        exact ⟨ret_bool HE.out.symm, HD1.out.trans (((Dn.refl _).drewN _).below _)⟩
      · have hd : decide (i1 ≤ i0) = false := decide_eq_false hle
        have HN := Lib.hid (show kpP q f F k = true by rw [HP.out, hd]; rfl)
        clear hle
        go_wp2_with fail
        go_quiet (first | (go_at_call_of 52 (F k 0); exact Ro.quiet (HI0 _).out) | (go_at_call_of 52 (F k 1); exact Ro.quiet (HI1 _).out))
        go_wp2
        go_roundw
        case rel => exact ⟨k + 1, by omega, by go_num, HA.out.succ HN.out, HD1.out.trans (((Dn.refl _).drewN _).below _)⟩
        case measure => simp [intOf]; omega
    · obtain rfl : k = m := by omega
      have HT := Lib.hid (allB_t HA.out)
      go_wp2
      go_ret
      exact ⟨ret_bool HT.out.symm, hD⟩
end Go.Proofs.Ytbgekacfimgkeaa
