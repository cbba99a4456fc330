import Derived.Test.YtkgikehagkpmoaaParts
import Derived.Test.YtkgikehagkpmoaaAwake
import Derived.Test.YtkgikehagkpmoaaFew
namespace Go.Proofs.Ytkgikehagkpmoaa
open Go.RowKit

theorem Share_few2 {A : Option Addr} {m c k mm : Nat} {f : Nat → Int} {n : Int} {w : World} (h : Ints w A mm f) (hmm : mm = m) (hok : okParts m f n = true) (hk : n = ((k + 1 : Nat) : Int)) :
    Calls Try.prog 20 #[.slice A mm c, .int .i64 n] w fun e w' => e = .returned (.tuple #[.int .i64 (shareN m f k), .int .i64 0]) ∧ Below w.heap.size w w' := by
  subst hmm
  exact Share_ok A mm c f k n w h hok hk
theorem Split_few {A : Option Addr} {m c k mm : Nat} {f : Nat → Int} {n : Int} {w : World} (h : Ints w A mm f) (hmm : mm = m) (hok : okParts m f n = true) (hk : n = ((k + 1 : Nat) : Int)) :
    Calls Try.prog 22 #[.slice A mm c, .int .i64 n] w fun e w' => ∃ Ax cx D, e = .returned (.tuple #[.slice Ax m cx, .int .i64 0]) ∧ Below w.heap.size w w' ∧ Ints w' Ax m D ∧ Own (k + 1) m D ∧ lowT (wOf f D m) k = shareN m f k := by
  subst hmm
  exact Split_ok A mm c f k n w h hok hk

/-- An array of two numbers. -/
def Arr2 (w : World) (g : Nat) (f : Nat → Int) : Prop := w.rowIs g 45 2 (fun i => .int .i64 (f i))
theorem Arr2.new (w : World) : Arr2 (w.alloc (.cells #[.int .i64 0, .int .i64 0] 45)) w.heap.size (fun _ => 0) := World.rowIs_alloc _ _ _ _ (fun i hi => by
  have : i = 0 ∨ i = 1 := by simp at hi; omega
  rcases this with rfl | rfl <;> simp)
theorem Arr2.cell {w : World} {g : Nat} {f : Nat → Int} (h : Arr2 w g f) {i : Nat} (hi : i < 2) : w.cell? ⟨g, i, none⟩ = some (.int .i64 (f i)) := World.rowIs.cell h hi
theorem Arr2.frozen {w : World} {g : Nat} {f : Nat → Int} (h : Arr2 w g f) (i : Nat) : w.frozen? ⟨g, i, none⟩ = false := World.rowIs.frozen h i
theorem Arr2.lt {w : World} {g : Nat} {f : Nat → Int} (h : Arr2 w g f) : g < w.heap.size := World.rowIs.lt h
theorem Arr2.other {w : World} {g : Nat} {f : Nat → Int} (h : Arr2 w g f) {a : Addr} (ha : g ≠ a.block) (v : Value) : Arr2 (w.setCell a v) g f := World.rowIs.setOther h ha v
theorem Arr2.set {w : World} {g : Nat} {f : Nat → Int} (h : Arr2 w g f) (i : Nat) (x : Int) : Arr2 (w.setCell ⟨g, i, none⟩ (.int .i64 x)) g (upd f i x) :=
  World.rowIs.congr (World.rowIs.set h i (.int .i64 x)) (fun j _ => by by_cases e : j = i <;> simp [upd, e])
theorem Arr2.congr {w : World} {g : Nat} {f f' : Nat → Int} (h : Arr2 w g f) (e : ∀ i, i < 2 → f i = f' i) : Arr2 w g f' := World.rowIs.congr h (fun i hi => by rw [e i hi])
theorem Arr2.drew {w : World} {g : Nat} {f : Nat → Int} (h : Arr2 w g f) : Arr2 w.drew g f := h
theorem Arr2.alloc {w : World} {g : Nat} {f : Nat → Int} (h : Arr2 w g f) (o : Obj) : Arr2 (w.alloc o) g f := World.rowIs.alloc h o
theorem wOf_step {f d : Nat → Int} {k j : Nat} (hj : d k = j) (q : Nat) : upd (wOf f d k) j (wOf f d k j + f k) q = wOf f d (k + 1) q := by
  rw [wOf_put (D := d) (fun _ _ => rfl) hj]
  simp only [upd, addAt]
  by_cases e : q = j
  · rw [if_pos e, if_pos e, e]
  · rw [if_neg e, if_neg e]

set_option maxHeartbeats 800000 in
set_option maxRecDepth 1000000 in
theorem splitCuts_walk (A : Option Addr) (m c : Nat) (f : Nat → Int) (B : Option Addr) (m' c' : Nat) (g : Nat → Int) (W : World) (hv : ArgI W A m c f) (hv' : ArgI W B m' c' g) :
    Calls Try.prog 7 #[.slice A m c, .slice B m' c'] W fun e W' => e = .returned (.bool true) ∧ Below W.heap.size W W' := by
  have HV := Lib.hid hv
  have HV' := Lib.hid hv'
  have hm63 : m ≤ maxLen := Nat.le_trans hv.1 hv.2.1
  have hm63' : m' ≤ maxLen := Nat.le_trans hv'.1 hv'.2.1
  unfold maxLen at hm63 hm63'
  have HK1 : Hid ((2 : Int) = ((1 + 1 : Nat) : Int)) := Lib.hid rfl
  clear hv hv'
  cases hok : okParts m f 2 with
  | false =>
    have HF : Hid (okParts (min m 9) f 2 = false) := Lib.hid (okParts_few.trans hok)
    clear hok
    go_enter Try.func7, Try.ntmps7
    go_wp2_with fail
    refine (list_any A m c f _ HV.out).mono ?_
    rintro e w1 ⟨x, rfl, hx, hb1⟩
    obtain ⟨A1, c1, rfl, hI1⟩ := hx.sl0
    have Hb1 := Lib.hid hb1
    have HI1 := Lib.hid hI1
    clear hb1 hx hI1
    go_wp2_with fail
    refine (Split_bad _ _ _ f 2 _ HI1.out (by omega) HF.out).mono ?_
    rintro e w2 ⟨rfl, rfl⟩
    go_wp2_with fail
    refine (list_any A m c f _ (HV.out.below Hb1.out)).mono ?_
    rintro e w2 ⟨x, rfl, hx, hb2⟩
    obtain ⟨A2, c2, rfl, hI2⟩ := hx.sl0
    have Hb2 := Lib.hid (Hb1.out.trans (hb2.mono Hb1.out.size))
    have HI2 := Lib.hid hI2
    clear hb2 hx hI2
    go_wp2_with fail
    refine (Share_bad _ _ _ f 2 _ HI2.out (by omega) HF.out).mono ?_
    rintro e w3 ⟨rfl, rfl⟩
    go_wp2_with fail
    refine (list_any B m' c' g _ (HV'.out.below Hb2.out)).mono ?_
    rintro e w3 ⟨x, rfl, hx, hb3⟩
    obtain ⟨A3, c3, rfl, hI3⟩ := hx.sl0
    have Hb3 := Lib.hid (Hb2.out.trans (hb3.mono Hb2.out.size))
    have HI3 := Lib.hid hI3
    clear hb3 hx hI3
    cases hok' : okParts m' g 2 with
    | false =>
      have HF' : Hid (okParts (min m' 9) g 2 = false) := Lib.hid (okParts_few.trans hok')
      clear hok'
      go_wp2_with fail
      refine (Share_bad _ _ _ g 2 _ HI3.out (by omega) HF'.out).mono ?_
      rintro e w4 ⟨rfl, rfl⟩
      go_wp2_with fail
      refine (awake_any _).mono ?_
      rintro e w4 ⟨rfl, hb4⟩
      have Hb4 := Lib.hid (Hb3.out.trans (hb4.mono Hb3.out.size))
      clear hb4
      go_wp2
      go_ret
      exact ⟨rfl, Hb4.out⟩
    | true =>
      obtain ⟨k', hk', -, -, hm7', -⟩ := okParts_of hok'
      have HOk' := Lib.hid hok'
      clear hok' hk'
      go_wp2_with fail
      refine (Share_few2 HI3.out (show min m' 9 = m' by omega) HOk'.out HK1.out).mono ?_
      rintro e w4 ⟨rfl, hb4⟩
      have Hb4 := Lib.hid (Hb3.out.trans (hb4.mono Hb3.out.size))
      clear hb4
      go_wp2_with fail
      refine (awake_any _).mono ?_
      rintro e w5 ⟨rfl, hb5⟩
      have Hb5 := Lib.hid (Hb4.out.trans (hb5.mono Hb4.out.size))
      clear hb5
      go_wp2
      go_ret
      exact ⟨rfl, Hb5.out⟩
  | true =>
    obtain ⟨k0, hk0, -, hm0, hm7, hb⟩ := okParts_of hok
    have HOk := Lib.hid hok
    have HB := Lib.hid hb
    clear hok hb hk0
    go_enter Try.func7, Try.ntmps7
    go_wp2_with fail
    refine (list_any A m c f _ HV.out).mono ?_
    rintro e w1 ⟨x, rfl, hx, hb1⟩
    obtain ⟨A1, c1, rfl, hI1⟩ := hx.sl0
    have Hb1 := Lib.hid hb1
    have HI1 := Lib.hid hI1
    clear hb1 hx hI1
    go_wp2_with fail
    refine (Split_few HI1.out (show min m 9 = m by omega) HOk.out HK1.out).mono ?_
    rintro e w2 ⟨Ad, cd, D, rfl, hb2, hID, hOwn, hlow⟩
    have Hb2 := Lib.hid (Hb1.out.trans (hb2.mono Hb1.out.size))
    have HID2 := Lib.hid hID
    have HOwn := Lib.hid hOwn
    have HLow := Lib.hid hlow
    clear hb2 hID hOwn hlow
    go_wp2_with fail
    refine (list_any A m c f _ (HV.out.below Hb2.out)).mono ?_
    rintro e w3 ⟨x, rfl, hx, hb3⟩
    obtain ⟨A3, c3, rfl, hI3⟩ := hx.sl0
    have Hb3 := Lib.hid (Hb2.out.trans (hb3.mono Hb2.out.size))
    have HID3 := Lib.hid (HID2.out.keep hb3)
    have HI3 := Lib.hid hI3
    clear hb3 hx hI3
    go_wp2_with fail
    refine (Share_few2 HI3.out (show min m 9 = m by omega) HOk.out HK1.out).mono ?_
    rintro e w4 ⟨rfl, hb4⟩
    have Hb4 := Lib.hid (Hb3.out.trans (hb4.mono Hb3.out.size))
    have HID4 := Lib.hid (HID3.out.keep hb4)
    clear hb4
    generalize hs : shareN m f 1 = s at *
    clear hs
    go_wp2_with fail
    refine (list_any B m' c' g _ (HV'.out.below Hb4.out)).mono ?_
    rintro e w5 ⟨x, rfl, hx, hb5⟩
    obtain ⟨A5, c5, rfl, hI5⟩ := hx.sl0
    have Hb5 := Lib.hid (Hb4.out.trans (hb5.mono Hb4.out.size))
    have HID5 := Lib.hid (HID4.out.keep hb5)
    have HI5 := Lib.hid hI5
    clear hb5 hx hI5
    cases hok' : okParts m' g 2 with
    | false =>
      have HF' : Hid (okParts (min m' 9) g 2 = false) := Lib.hid (okParts_few.trans hok')
      clear hok'
      go_wp2_with fail
      refine (Share_bad _ _ _ g 2 _ HI5.out (by omega) HF'.out).mono ?_
      rintro e w6 ⟨rfl, rfl⟩
      go_wp2_with fail
      refine (awake_any _).mono ?_
      rintro e w6 ⟨rfl, hb6⟩
      have Hb6 := Lib.hid (Hb5.out.trans (hb6.mono Hb5.out.size))
      clear hb6
      go_wp2
      go_ret
      exact ⟨rfl, Hb6.out⟩
    | true =>
      obtain ⟨k', hk', -, hm0', hm7', hb'⟩ := okParts_of hok'
      have HOk' := Lib.hid hok'
      have HB' := Lib.hid hb'
      clear hok' hb' hk'
      go_wp2_with fail
      refine (Share_few2 HI5.out (show min m' 9 = m' by omega) HOk'.out HK1.out).mono ?_
      rintro e w6 ⟨rfl, hb6⟩
      have Hb6 := Lib.hid (Hb5.out.trans (hb6.mono Hb5.out.size))
      have HID6 := Lib.hid (HID5.out.keep hb6)
      have HSum := Lib.hid (shareN_sum (k := 1) HB'.out)
      clear hb6
      generalize ht : shareN m' g 1 = t at *
      clear ht
      by_cases hmm : m = m'
      · subst hmm
        go_wp2_with fail
        obtain ⟨wI, hwI⟩ : ∃ wI : World, wI = (w6.alloc (.cells #[.int .i64 0, .int .i64 0] 45)).alloc (.cells #[.int .i64 0, .int .i64 0] 45) := ⟨_, rfl⟩
        have hx0 : Arr2 wI w6.heap.size (wOf f D 0) := by rw [hwI]; exact (Arr2.new _).alloc _
        have hy0 : Arr2 wI (w6.heap.size + 1) (wOf g D 0) := by
          have := Arr2.new (w6.alloc (.cells #[.int .i64 0, .int .i64 0] 45))
          rw [World.size_alloc] at this
          rw [hwI]; exact this
        have hbI : Below w6.heap.size w6 wI := by rw [hwI]; exact ((Below.refl _ _).alloc (Nat.le_refl _) _).alloc (by simp) _
        rw [← hwI]
        have HX0 := Lib.hid hx0
        have HY0 := Lib.hid hy0
        have HBI := Lib.hid hbI
        clear hx0 hy0 hbI hwI
        go_loopw [72] (fun i wr => ∃ k : Nat, k ≤ m ∧ i = .int .i64 k ∧ Arr2 wr w6.heap.size (wOf f D k) ∧ Arr2 wr (w6.heap.size + 1) (wOf g D k) ∧ Below w6.heap.size w6 wr) (fun i _ => m - (intOf i).toNat)
        case atStart => exact ⟨0, Nat.zero_le _, rfl, HX0.out, HY0.out, HBI.out⟩
        case round =>
          obtain ⟨k, hk, rfl, hX, hY, hbel⟩ := hrel
          by_cases hlt : k < m
          · obtain ⟨bd, od, rfl, hc⟩ := (HID6.out.keep hbel).at hlt
            obtain ⟨j, hj⟩ : ∃ j : Nat, D k = j := ⟨(D k).toNat, by have := (HOwn.out k hlt).1; omega⟩
            have hj2 : j < 2 := by have := (HOwn.out k hlt).2; omega
            have hj1 : (j : Int) ≤ 1 := by omega
            have hj0 : (0 : Int) ≤ j := by omega
            have hk0 : (0 : Int) ≤ k := by omega
            have hkm : (k : Int) < m := by omega
            rw [hj] at hc
            have HJ := Lib.hid hj
            have HX := Lib.hid hX
            have HY := Lib.hid hY
            have Hbel := Lib.hid hbel
            have cx := hX.cell hj2
            have cxf := hX.frozen j
            obtain ⟨ba, oa, rfl, hfa⟩ := (HV.out.below (Hb6.out.trans (hbel.mono Hb6.out.size))).2.2.2.at hlt
            obtain ⟨s1, s2⟩ := wOf_bd (D := D) HB.out (Nat.le_of_lt hlt) hm7 j
            obtain ⟨s3, s4⟩ := HB.out k hlt
            have hws : IntKind.i64.wrap (wOf f D k j + f k) = wOf f D k j + f k := IntWalk.i64_in _ ⟨by omega, by omega⟩
            clear hj hX hY hbel
            go_wp2_with fail
            go_region
            have hX1 := (HX.out.set j (wOf f D k j + f k)).drew
            have hY1 := (HY.out.other (a := ⟨w6.heap.size, j, none⟩) (by show w6.heap.size + 1 ≠ w6.heap.size; omega) (.int .i64 (wOf f D k j + f k))).drew
            have hb1 := (Hbel.out.setCell (p := ⟨w6.heap.size, j, none⟩) (Nat.le_refl _) (.int .i64 (wOf f D k j + f k))).drew
            generalize (wr.setCell ⟨w6.heap.size, j, none⟩ (.int .i64 (wOf f D k j + f k))).drew = w8 at *
            have HX1 := Lib.hid (hX1.congr fun q _ => wOf_step HJ.out q)
            have HY1 := Lib.hid hY1
            have Hb1' := Lib.hid hb1
            have cy := hY1.cell hj2
            have cyf := hY1.frozen j
            obtain ⟨bb, ob, rfl, hfb⟩ := (HV'.out.below (Hb6.out.trans (hb1.mono Hb6.out.size))).2.2.2.at hlt
            obtain ⟨t1, t2⟩ := wOf_bd (D := D) HB'.out (Nat.le_of_lt hlt) hm7 j
            obtain ⟨t3, t4⟩ := HB'.out k hlt
            have hws' : IntKind.i64.wrap (wOf g D k j + g k) = wOf g D k j + g k := IntWalk.i64_in _ ⟨by omega, by omega⟩
            clear hX1 hY1 hb1 cx cxf hws hfa hc
            go_wp2_with fail
            go_region
            have hX2 := (HX1.out.other (a := ⟨w6.heap.size + 1, j, none⟩) (by show w6.heap.size ≠ w6.heap.size + 1; omega) (.int .i64 (wOf g D k j + g k))).drew
            have hY2 := ((HY1.out.set j (wOf g D k j + g k)).congr fun q _ => wOf_step HJ.out q).drew
            have hb2 := (Hb1'.out.setCell (p := ⟨w6.heap.size + 1, j, none⟩) (by show w6.heap.size ≤ w6.heap.size + 1; omega) (.int .i64 (wOf g D k j + g k))).drew
            generalize (w8.setCell ⟨w6.heap.size + 1, j, none⟩ (.int .i64 (wOf g D k j + g k))).drew = w9 at *
            have HX2 := Lib.hid hX2
            have HY2 := Lib.hid hY2
            have Hb2' := Lib.hid hb2
            clear hX2 hY2 hb2 cy cyf hws' hfb
            go_wp2
            go_roundw
            case rel => exact ⟨k + 1, by omega, by go_num, HX2.out, HY2.out, Hb2'.out⟩
            case measure => simp [intOf]; omega
          · obtain rfl : k = m := by omega
            have hsumY : wOf g D k 0 + wOf g D k 1 = sumTo g k := by
              have := sum_parts (f := g) HOwn.out k (Nat.le_refl _)
              simp only [sumTo] at this
              show wTo g D ((0 : Nat) : Int) k + wTo g D ((1 : Nat) : Int) k = _
              omega
            have hlowX : s ≤ wOf f D k 0 ∧ s ≤ wOf f D k 1 := by
              rw [← HLow.out]
              exact ⟨lowT_le _ 1 0 (by omega), lowT_le _ 1 1 (by omega)⟩
            have ht2 := HSum.out
            have x0 := hX.cell (show 0 < 2 by omega)
            have x1 := hX.cell (show 1 < 2 by omega)
            have y0 := hY.cell (show 0 < 2 by omega)
            have y1 := hY.cell (show 1 < 2 by omega)
            have Hbel := Lib.hid (Hb6.out.trans (hbel.mono Hb6.out.size))
            clear hX hY hbel
            generalize wOf g D k 0 = yy0 at *
            generalize wOf g D k 1 = yy1 at *
            generalize wOf f D k 0 = xx0 at *
            generalize wOf f D k 1 = xx1 at *
            obtain ⟨hl0, hl1⟩ := hlowX
            rw [← HK1.out] at ht2
            by_cases hy : yy0 < yy1
            · have ht3 : t ≤ yy1 := by omega
              clear ht2 hsumY
              go_wp2_with fail
              refine (awake_any _).mono ?_
              rintro e w10 ⟨rfl, hb10⟩
              have Hb10 := Lib.hid (Hbel.out.trans (hb10.mono Hbel.out.size))
              clear hb10
              go_wp2
              go_ret
              exact ⟨rfl, Hb10.out⟩
            · have ht3 : t ≤ yy0 := by omega
              clear ht2 hsumY
              go_wp2_with fail
              refine (awake_any _).mono ?_
              rintro e w10 ⟨rfl, hb10⟩
              have Hb10 := Lib.hid (Hbel.out.trans (hb10.mono Hbel.out.size))
              clear hb10
              go_wp2
              go_ret
              exact ⟨rfl, Hb10.out⟩
      · have hne := bne_t (a := (m : Int)) (b := (m' : Int)) (by omega)
        go_wp2_with fail
        refine (awake_any _).mono ?_
        rintro e w7 ⟨rfl, hb7⟩
        have Hb7 := Lib.hid (Hb6.out.trans (hb7.mono Hb6.out.size))
        clear hb7
        go_wp2
        go_ret
        exact ⟨rfl, Hb7.out⟩
end Go.Proofs.Ytkgikehagkpmoaa
