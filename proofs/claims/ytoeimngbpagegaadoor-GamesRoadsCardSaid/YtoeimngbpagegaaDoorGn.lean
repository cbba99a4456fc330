/- The reference's Payments and Pays. -/
import Derived.Test.YtoeimngbpagegaaDoorGm
namespace Go.Proofs.YtoeimngbpagegaaDoor
open Go.RowKit

/-- A fraction in a block of its own. -/
def BxF (w : World) (g : Nat) (a b : Int) : Prop := w.rowIs g 48 2 (fun i => .int .i64 (if i = 0 then a else b))
section
variable {w w' : World} {g : Nat} {a b : Int}
theorem BxF.c0 (h : BxF w g a b) : w.cell? ⟨g, 0, none⟩ = some (.int .i64 a) := World.rowIs.cell h (i := 0) (by omega)
theorem BxF.c1 (h : BxF w g a b) : w.cell? ⟨g, 1, none⟩ = some (.int .i64 b) := World.rowIs.cell h (i := 1) (by omega)
theorem BxF.frozen (h : BxF w g a b) (i : Nat) : w.frozen? ⟨g, i, none⟩ = false := World.rowIs.frozen h i
theorem BxF.lt (h : BxF w g a b) : g < w.heap.size := World.rowIs.lt h
theorem BxF.keep (h : BxF w g a b) (hb : Below w.heap.size w w') : BxF w' g a b := World.rowIs.of_block h (hb.block g h.lt)
theorem BxF.alloc (h : BxF w g a b) (o : Obj) : BxF (w.alloc o) g a b := World.rowIs.alloc h o
theorem BxF.setOther (h : BxF w g a b) {p : Addr} (hp : g ≠ p.block) (v : Value) : BxF (w.setCell p v) g a b := World.rowIs.setOther h hp v
theorem BxF.set (h : BxF w g a b) (x y : Int) : BxF ((w.setCell ⟨g, 0, none⟩ (.int .i64 x)).setCell ⟨g, 1, none⟩ (.int .i64 y)) g x y :=
  World.rowIs.congr (World.rowIs.set (World.rowIs.set h 0 (.int .i64 x)) 1 (.int .i64 y)) (fun i hi => by
    have : i = 0 ∨ i = 1 := by omega
    rcases this with rfl | rfl <;> simp)
theorem BxF.new (w : World) (a b : Int) : BxF (w.alloc (.cells #[.int .i64 a, .int .i64 b] 48)) w.heap.size a b :=
  World.rowIs_alloc w #[.int .i64 a, .int .i64 b] _ _ (fun i hi => by
    have hi : i < 2 := hi
    have : i = 0 ∨ i = 1 := by omega
    rcases this with rfl | rfl <;> rfl)
theorem BxF.dn (h : BxF w g a b) (hd : Dn w w') : BxF w' g a b := by
  obtain ⟨m, rfl⟩ := hd
  exact h
end

theorem lw_py {n d : Int} : pyOne n d = true → lwB n d = true ∧ d ≤ 24 ∧ -100000 ≤ n ∧ n ≤ 100000 := fun h => by
  obtain ⟨h1, h2, h3, h4⟩ := pyOne_iff.1 h
  exact ⟨lwB_iff.2 ⟨h1, by omega⟩, h2, h3, h4⟩
theorem py_lw {n d : Int} (h1 : lwB n d = true) (h2 : d ≤ 24) (h3 : -100000 ≤ n) (h4 : n ≤ 100000) : pyOne n d = true := pyOne_iff.2 ⟨(lwB_iff.1 h1).1, h2, h3, h4⟩
set_option maxHeartbeats 1000000 in
set_option maxRecDepth 1000000 in
theorem refPayments_any (B : Option Addr) (n c' k : Nat) (F : Nat → Nat → Int) (w : World) (hf : ArgK 2 w B n c' F) :
    Lr 45 #[.int .i64 k, .slice B n c'] w (.bool (pyAll F n && decide (n = k))) := by
  unfold Lr
  have hm : n ≤ 9223372036854775807 := by have := Nat.le_trans hf.1 hf.2.1; unfold maxLen at this; omega
  have HF := Lib.hid hf.2.2.2
  have HNo : Hid (∀ i, i < n → pyOne (F i 0) (F i 1) = false → (pyAll F n && decide (n = k)) = false) := Lib.hid (fun i hi h => by unfold pyAll; rw [allB_f (p := fun k => pyOne (F k 0) (F k 1)) hi h, Bool.false_and])
  have HYes : Hid (AllLt (fun k => pyOne (F k 0) (F k 1)) n → (pyAll F n && decide (n = k)) = decide (n = k)) := Lib.hid (fun h => by unfold pyAll; rw [allB_t h, Bool.true_and])
  clear hf
  go_enter Tryd.func45, Tryd.ntmps45
  go_wp2
  go_loopw [9] (fun i wr => ∃ j : Nat, j ≤ n ∧ i = .int .i64 j ∧ AllLt (fun k => pyOne (F k 0) (F k 1)) j ∧ Below w.heap.size w wr) (fun i _ => n - (intOf i).toNat)
  case atStart => exact ⟨0, Nat.zero_le _, rfl, AllLt.zero, Below.refl _ _⟩
  case round =>
    obtain ⟨j, hj, rfl, hA, hD⟩ := hrel
    have HA := Lib.hid hA
    have HD := Lib.hid hD
    clear hA
    by_cases hlt : j < n
    · obtain ⟨b, o, rfl, c0, c1⟩ := (HF.out.keep hD).two hlt
      have HDa := Lib.hid (hD.alloc hD.size (.cells #[.int .i64 (F j 0), .int .i64 (F j 1)] 48))
      have HX := Lib.hid (BxF.new wr (F j 0) (F j 1))
      have HL := Lib.hid (fun w => lowest_any (F j 0) (F j 1) w)
      have HN := Lib.hid (HNo.out j hlt)
      have HS := Lib.hid (fun h => HA.out.succ (p := fun k => pyOne (F k 0) (F k 1)) h)
      generalize F j 0 = x at *
      generalize F j 1 = y at *
      clear hD
      go_wp2_with fail
      refine (HL.out _).use fun w2 hb2 => ?_
      have HX2 := Lib.hid (HX.out.keep hb2)
      have HD2 := Lib.hid (HDa.out.trans (hb2.mono HDa.out.size))
      have x0 := HX2.out.c0
      have x1 := HX2.out.c1
      clear hb2 c0 c1
      cases hl : lwB x y with
      | false =>
        have HZ := Lib.hid (HN.out (by
          cases h2 : pyOne x y with
          | false => rfl
          | true => rw [(lw_py h2).1] at hl; cases hl))
        clear hl
        go_wp2
        go_ret
        exact ⟨ret_bool HZ.out.symm, HD2.out⟩
      | true =>
        by_cases h24 : 24 < y
        · have HZ := Lib.hid (HN.out (by
            cases h2 : pyOne x y with
            | false => rfl
            | true => have := (lw_py h2).2.1; omega))
          have hd := decide_eq_true h24
          clear hl
          go_wp2
          go_ret
          exact ⟨ret_bool HZ.out.symm, HD2.out⟩
        · have hd24 : y ≤ 24 := by omega
          have hdd : decide (24 < y) = false := decide_eq_false h24
          by_cases hn : x < -100000
          · have HZ := Lib.hid (HN.out (by
              cases h2 : pyOne x y with
              | false => rfl
              | true => have := (lw_py h2).2.2.1; omega))
            have hd := decide_eq_true hn
            clear hl
            go_wp2
            go_ret
            exact ⟨ret_bool HZ.out.symm, HD2.out⟩
          · have hn1 : -100000 ≤ x := by omega
            by_cases hp : 100000 < x
            · have HZ := Lib.hid (HN.out (by
                cases h2 : pyOne x y with
                | false => rfl
                | true => have := (lw_py h2).2.2.2; omega))
              have hd := decide_eq_true hp
              clear hl
              go_wp2
              go_ret
              exact ⟨ret_bool HZ.out.symm, HD2.out⟩
            · have hp1 : x ≤ 100000 := by omega
              have HZ := Lib.hid (HS.out (py_lw hl hd24 hn1 hp1))
              clear hl
              go_wp2
              go_roundw
              case rel => exact ⟨j + 1, by omega, by go_num, HZ.out, HD2.out⟩
              case measure => simp [intOf]; omega
    · obtain rfl : j = n := by omega
      have HY := Lib.hid (HYes.out HA.out)
      by_cases e : j = k
      · have hq := beq_t (a := (j : Int)) (b := (k : Int)) (by omega)
        have HZ : Hid ((pyAll F j && decide (j = k)) = true) := Lib.hid (by rw [HY.out, decide_eq_true e])
        clear e
        go_wp2
        go_ret
        exact ⟨ret_bool HZ.out.symm, HD.out⟩
      · have hq := beq_f (a := (j : Int)) (b := (k : Int)) (by omega)
        have HZ : Hid ((pyAll F j && decide (j = k)) = false) := Lib.hid (by rw [HY.out, decide_eq_false e])
        clear e
        go_wp2
        go_ret
        exact ⟨ret_bool HZ.out.symm, HD.out⟩

/-- The sum so far, in lowest terms. -/
structure PyI (F : Nat → Nat → Int) (s k : Nat) (a b : Int) : Prop where
  low : Low a b
  dvd : b ∣ wholeI
  cnt : cntF wholeI a b = pyS F s k
  b_le : b ≤ ((24 ^ k : Nat) : Int)
  a_le : a.natAbs ≤ 100000 * (k * 24 ^ k)
theorem dvd_whole {d : Int} (h1 : 1 ≤ d) (h2 : d ≤ 24) : d ∣ wholeI := by
  have : d = 1 ∨ d = 2 ∨ d = 3 ∨ d = 4 ∨ d = 5 ∨ d = 6 ∨ d = 7 ∨ d = 8 ∨ d = 9 ∨ d = 10 ∨ d = 11 ∨ d = 12 ∨ d = 13 ∨ d = 14 ∨ d = 15 ∨ d = 16 ∨ d = 17 ∨ d = 18 ∨ d = 19 ∨ d = 20 ∨ d = 21 ∨ d = 22 ∨ d = 23 ∨ d = 24 := by omega
  unfold wholeI
  rcases this with rfl | rfl | rfl | rfl | rfl | rfl | rfl | rfl | rfl | rfl | rfl | rfl | rfl | rfl | rfl | rfl | rfl | rfl | rfl | rfl | rfl | rfl | rfl | rfl <;> decide
theorem PyI.zero (F : Nat → Nat → Int) (s : Nat) : PyI F s 0 0 1 := ⟨by unfold Low; decide, dvd_whole (by omega) (by omega), rfl, by decide, by decide⟩
theorem PyI.skip {F : Nat → Nat → Int} {s k : Nat} {a b : Int} (h : PyI F s k a b) (hb : inS s k = false) : PyI F s (k + 1) a b := by
  refine ⟨h.low, h.dvd, ?_, ?_, ?_⟩
  · rw [h.cnt, pyS, hb]; simp
  · have := h.b_le
    rw [Nat.pow_succ]; omega
  · have := h.a_le
    rw [Nat.pow_succ]
    have e : (k + 1) * (24 ^ k * 24) = k * 24 ^ k * 24 + 24 ^ k * 24 := by rw [Nat.add_mul, ← Nat.mul_assoc, Nat.one_mul]
    rw [e]
    omega
/-- What the sum asks of Add. -/
theorem PyI.fits {F : Nat → Nat → Int} {s k : Nat} {a b c d : Int} (h : PyI F s k a b) (hk : k ≤ 3) (hp : pyOne c d = true) :
    0 < b ∧ 0 < d ∧ (a * d).natAbs ≤ 2000000000000000000 ∧ (c * b).natAbs ≤ 2000000000000000000 ∧ (b * d).natAbs ≤ 4000000000000000000 := by
  obtain ⟨⟨p1, -⟩, p2, p3, p4⟩ := pyOne_iff.1 hp
  have hP : 24 ^ k ≤ 13824 := by
    have := Nat.pow_le_pow_right (n := 24) (by omega) hk
    omega
  have h1 := h.low.1
  have h2 := h.b_le
  have h3 := h.a_le
  have h4 : k * 24 ^ k ≤ 3 * 13824 := Nat.mul_le_mul hk hP
  refine ⟨h1, p1, ?_, ?_, ?_⟩
  · rw [Int.natAbs_mul]
    have : a.natAbs * d.natAbs ≤ 4147200000 * 24 := Nat.mul_le_mul (by omega) (by omega)
    omega
  · rw [Int.natAbs_mul]
    have : c.natAbs * b.natAbs ≤ 100000 * 13824 := Nat.mul_le_mul (by omega) (by omega)
    omega
  · rw [Int.natAbs_mul]
    have : b.natAbs * d.natAbs ≤ 13824 * 24 := Nat.mul_le_mul (by omega) (by omega)
    omega
theorem PyI.add {F : Nat → Nat → Int} {s k : Nat} {a b : Int} (h : PyI F s k a b) (hb : inS s k = true) (hp : pyOne (F k 0) (F k 1) = true) :
    PyI F s (k + 1) (rN (a * F k 1 + F k 0 * b) (b * F k 1)) (rD (a * F k 1 + F k 0 * b) (b * F k 1)) := by
  obtain ⟨⟨p1, -⟩, p2, p3, p4⟩ := pyOne_iff.1 hp
  have hcn : pyS F s (k + 1) = pyS F s k + cntF wholeI (F k 0) (F k 1) := by rw [pyS, hb]; simp
  generalize F k 0 = c at *
  generalize F k 1 = d at *
  have h1 := h.low.1
  have h2 := h.b_le
  have h3 := h.a_le
  have hne : b * d ≠ 0 := Int.mul_ne_zero (by omega) (by omega)
  obtain ⟨q1, q2⟩ := cnt_add (W := wholeI) (a := a) (b := b) (c := c) (d := d) h1 p1 h.dvd (dvd_whole (by omega) p2)
  refine ⟨r_low hne, q1, by rw [q2, h.cnt, hcn], ?_, ?_⟩
  · have := rD_le (a := a * d + c * b) hne
    rw [Int.natAbs_mul] at this
    have e : b.natAbs * d.natAbs ≤ 24 ^ k * 24 := Nat.mul_le_mul (by omega) (by omega)
    rw [Nat.pow_succ]
    omega
  · have := rN_abs (a := a * d + c * b) hne
    have e1 : (a * d + c * b).natAbs ≤ a.natAbs * d.natAbs + c.natAbs * b.natAbs := by
      have := Int.natAbs_add_le (a * d) (c * b)
      rw [Int.natAbs_mul, Int.natAbs_mul] at this
      exact this
    have e2 : a.natAbs * d.natAbs ≤ 100000 * (k * 24 ^ k) * 24 := Nat.mul_le_mul h3 (by omega)
    have e3 : c.natAbs * b.natAbs ≤ 100000 * 24 ^ k := Nat.mul_le_mul (by omega) (by omega)
    rw [Nat.pow_succ]
    have e : (k + 1) * (24 ^ k * 24) = k * 24 ^ k * 24 + 24 ^ k * 24 := by rw [Nat.add_mul, ← Nat.mul_assoc, Nat.one_mul]
    rw [e]
    omega
theorem PyI.four {F : Nat → Nat → Int} {s k : Nat} {a b : Int} (h : PyI F s k a b) (hk : k ≤ 4) : b ≤ 331776 ∧ a.natAbs ≤ 132710400000 := by
  have hP : 24 ^ k ≤ 331776 := by
    have := Nat.pow_le_pow_right (n := 24) (by omega) hk
    omega
  have h4 : k * 24 ^ k ≤ 4 * 331776 := Nat.mul_le_mul hk hP
  have := h.b_le
  have := h.a_le
  omega
set_option maxHeartbeats 2000000 in
set_option maxRecDepth 1000000 in
theorem pays_any (B : Option Addr) (n c' s : Nat) (F : Nat → Nat → Int) (w : World) (hf : Recs 2 w B n F) (hn : n ≤ 4) (hp : pyAll F n = true) :
    Calls Tryd.prog 46 #[.slice B n c', .int .i64 s] w fun e w' => ∃ a b, e = .returned (.agg #[.int .i64 a, .int .i64 b]) ∧ PyI F s n a b ∧ Below w.heap.size w w' := by
  have HF := Lib.hid hf
  have HP := Lib.hid (allB_iff.1 hp)
  have HB0 := Lib.hid ((Below.refl w.heap.size w).alloc (Nat.le_refl _) (.cells #[.int .i64 0, .int .i64 0] 48))
  have HX0 := Lib.hid (BxF.new w 0 0)
  have h2 : ∀ x : Nat, bits .and .i64 ((s : Int) / 2 ^ x) 1 = ((s / 2 ^ x % 2 : Nat) : Int) := fun x => by
    have e : ((s : Int) / 2 ^ x) = ((s / 2 ^ x : Nat) : Int) := by push_cast; rfl
    rw [e, i64_and1]
    omega
  have HH := Lib.hid h2
  clear hf hp h2
  go_enter Tryd.func46, Tryd.ntmps46
  go_wp2_with fail
  refine (wholeR_any 0 _).use fun w1 hb1 => ?_
  generalize (w.alloc (.cells #[.int .i64 0, .int .i64 0] 48)) = W0 at *
  have HX1 := Lib.hid ((HX0.out.keep hb1).alloc (.cells #[.int .i64 0, .int .i64 1] 48))
  have HY1 := Lib.hid (BxF.new w1 0 1)
  have HB1 := Lib.hid (HB0.out.trans (hb1.mono HB0.out.size))
  have HB2 := Lib.hid (HB1.out.alloc HB1.out.size (.cells #[.int .i64 0, .int .i64 1] 48))
  have hG : w.heap.size < w1.heap.size := (HX0.out.keep hb1).lt
  clear hb1
  go_wp2
  obtain ⟨G, hGe⟩ : ∃ G, G = w1.heap.size := ⟨_, rfl⟩
  rw [← hGe] at HY1 hG ⊢
  clear hGe
  generalize w1.alloc (.cells #[.int .i64 0, .int .i64 1] 48) = W1 at *
  go_loopw [11] (fun i wr => ∃ (k : Nat) (a b : Int), k ≤ n ∧ i = .int .i64 k ∧ PyI F s k a b ∧ BxF wr w.heap.size 0 0 ∧ BxF wr G a b ∧ Below w.heap.size w wr) (fun i _ => n - (intOf i).toNat)
  case atStart => exact ⟨0, 0, 1, Nat.zero_le _, rfl, PyI.zero F s, HX1.out, HY1.out, HB2.out⟩
  case round =>
    obtain ⟨k, a, b, hk, rfl, hI, hX, hY, hD⟩ := hrel
    have HI := Lib.hid hI
    have HX := Lib.hid hX
    have HY := Lib.hid hY
    have HD := Lib.hid hD
    clear hI hX hY
    by_cases hlt : k < n
    · obtain ⟨p, o, rfl, c0, c1⟩ := (HF.out.keep hD).two hlt
      have HXa := Lib.hid (HX.out.alloc (.cells #[.int .i64 (F k 0), .int .i64 (F k 1)] 48))
      have HYa := Lib.hid (HY.out.alloc (.cells #[.int .i64 (F k 0), .int .i64 (F k 1)] 48))
      have HDa := Lib.hid (hD.alloc hD.size (.cells #[.int .i64 (F k 0), .int .i64 (F k 1)] 48))
      have hh := HH.out k
      have HU : Hid (inS s k = decide (s / 2 ^ k % 2 = 1)) := Lib.hid rfl
      obtain ⟨fb, fd, f1, f2, f3⟩ := HI.out.fits (by omega) (HP.out k hlt)
      have HAdd := Lib.hid (fun w => addF_any a b (F k 0) (F k 1) fb fd f1 f2 f3 w)
      have HIs := Lib.hid (fun h => HI.out.skip (k := k) h)
      have HIa := Lib.hid (fun h => HI.out.add (k := k) h (HP.out k hlt))
      clear fb fd f1 f2 f3 hD
      generalize rN (a * F k 1 + F k 0 * b) (b * F k 1) = N at *
      generalize rD (a * F k 1 + F k 0 * b) (b * F k 1) = D at *
      generalize F k 0 = x at *
      generalize F k 1 = y at *
      have y0 := HYa.out.c0
      have y1 := HYa.out.c1
      have hk64 : (k : Int) < 64 := by omega
      have hm : s / 2 ^ k % 2 = 0 ∨ s / 2 ^ k % 2 = 1 := by omega
      rcases hm with hm | hm
      · have hq : (((s / 2 ^ k % 2 : Nat) : Int) == 1) = false := by rw [hm]; rfl
        have HZ := Lib.hid (HIs.out (by rw [HU.out, hm]; rfl))
        clear hm
        generalize s / 2 ^ k % 2 = z at *
        go_wp2
        go_roundw
        case rel => exact ⟨k + 1, a, b, by omega, by go_num, HZ.out, HXa.out, HYa.out, HDa.out⟩
        case measure => simp [intOf]; omega
      · have hq : (((s / 2 ^ k % 2 : Nat) : Int) == 1) = true := by rw [hm]; rfl
        have HZ := Lib.hid (HIa.out (by rw [HU.out, hm]; rfl))
        clear hm
        generalize s / 2 ^ k % 2 = z at *
        go_wp2_with fail
        refine (HAdd.out _).use fun w5 hb5 => ?_
        have HX5 := Lib.hid (HXa.out.keep hb5)
        have HY5 := Lib.hid (HYa.out.keep hb5)
        have HD5 := Lib.hid (HDa.out.trans (hb5.mono HDa.out.size))
        have z0 := HY5.out.c0
        have z1 := HY5.out.c1
        have f0 := HY5.out.frozen 0
        have f1 := HY5.out.frozen 1
        clear hb5 c0 c1 y0 y1
        go_wp2
        go_roundw
        case rel => exact ⟨k + 1, N, D, by omega, by go_num, HZ.out, (HX5.out.setOther (by simp; omega) _).setOther (by simp; omega) _, HY5.out.set N D, (HD5.out.setCell (p := ⟨G, 0, none⟩) (by simp; omega) _).setCell (p := ⟨G, 1, none⟩) (by simp; omega) _⟩
        case measure => simp [intOf]; omega
    · obtain rfl : k = n := by omega
      have x0 := HX.out.c0
      have x1 := HX.out.c1
      have y0 := HY.out.c0
      have y1 := HY.out.c1
      have f0 := HX.out.frozen 0
      have f1 := HX.out.frozen 1
      obtain ⟨hs0, hs1⟩ := two_set x0 x1 (.int .i64 a) (.int .i64 b)
      go_wp2
      refine bodyPost_ret (v := .agg #[.int .i64 a, .int .i64 b]) (by simp [results, Tryd.results46, go_sem, hs0, hs1]) rfl ?_
      exact ⟨a, b, rfl, HI.out, (HD.out.setCell (p := ⟨w.heap.size, 0, none⟩) (Nat.le_refl _) _).setCell (p := ⟨w.heap.size, 1, none⟩) (Nat.le_refl _) _⟩
end Go.Proofs.YtoeimngbpagegaaDoor
