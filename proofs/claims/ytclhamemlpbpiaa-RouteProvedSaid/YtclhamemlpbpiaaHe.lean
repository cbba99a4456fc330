/- steps: the least cost of a road between each two stops. -/
import Derived.Test.YtclhamemlpbpiaaHd
namespace Go.Proofs.Ytclhamemlpbpiaa
open Go.RowKit

set_option maxHeartbeats 2000000 in
set_option maxRecDepth 1000000 in
theorem steps_any (A : Option Addr) (m c n : Nat) (F : Nat → Nat → Int) (w : World) (h : Recs 3 w A m F) (hm : m ≤ 16) (hn : n ≤ 8) (hr : ∀ k, k < m → (0 ≤ F k 0 ∧ F k 0 < n) ∧ (0 ≤ F k 1 ∧ F k 1 < n) ∧ F k 0 ≠ F k 1) :
    Calls Try.prog 31 #[.agg #[.int .i64 n, .slice A m c]] w fun e w' => e = .returned (.agg (tabL (stT n m F)).toArray) ∧ Below w.heap.size w w' := by
  have H := Lib.hid h
  have HRn := Lib.hid hr
  clear h hr
  have HB1 := MapB.new w n (.slice A m c)
  have Hb1 := (Below.refl w.heap.size w).alloc (Nat.le_refl _) (.cells #[.int .i64 n, .slice A m c] 31)
  have hz1 : (w.alloc (.cells #[.int .i64 n, .slice A m c] 31)).heap.size = w.heap.size + 1 := by simp
  obtain ⟨W1, hW1⟩ : ∃ W1, W1 = w.alloc (.cells #[.int .i64 n, .slice A m c] 31) := ⟨_, rfl⟩
  rw [← hW1] at HB1 Hb1 hz1
  have HZ2 := TabI.zero W1
  have HB2 := HB1.keep (tab_below W1)
  have Hb2 := Hb1.trans ((tab_below W1).mono Hb1.size)
  have hz2 : (W1.alloc (.cells #[.int .i64 0, .int .i64 0, .int .i64 0, .int .i64 0, .int .i64 0, .int .i64 0, .int .i64 0, .int .i64 0, .int .i64 0, .int .i64 0, .int .i64 0, .int .i64 0, .int .i64 0, .int .i64 0, .int .i64 0, .int .i64 0, .int .i64 0, .int .i64 0, .int .i64 0, .int .i64 0, .int .i64 0, .int .i64 0, .int .i64 0, .int .i64 0, .int .i64 0, .int .i64 0, .int .i64 0, .int .i64 0, .int .i64 0, .int .i64 0, .int .i64 0, .int .i64 0, .int .i64 0, .int .i64 0, .int .i64 0, .int .i64 0, .int .i64 0, .int .i64 0, .int .i64 0, .int .i64 0, .int .i64 0, .int .i64 0, .int .i64 0, .int .i64 0, .int .i64 0, .int .i64 0, .int .i64 0, .int .i64 0, .int .i64 0, .int .i64 0, .int .i64 0, .int .i64 0, .int .i64 0, .int .i64 0, .int .i64 0, .int .i64 0, .int .i64 0, .int .i64 0, .int .i64 0, .int .i64 0, .int .i64 0, .int .i64 0, .int .i64 0, .int .i64 0] 62)).heap.size = W1.heap.size + 1 := by simp
  obtain ⟨W2, hW2⟩ : ∃ W2, W2 = W1.alloc (.cells #[.int .i64 0, .int .i64 0, .int .i64 0, .int .i64 0, .int .i64 0, .int .i64 0, .int .i64 0, .int .i64 0, .int .i64 0, .int .i64 0, .int .i64 0, .int .i64 0, .int .i64 0, .int .i64 0, .int .i64 0, .int .i64 0, .int .i64 0, .int .i64 0, .int .i64 0, .int .i64 0, .int .i64 0, .int .i64 0, .int .i64 0, .int .i64 0, .int .i64 0, .int .i64 0, .int .i64 0, .int .i64 0, .int .i64 0, .int .i64 0, .int .i64 0, .int .i64 0, .int .i64 0, .int .i64 0, .int .i64 0, .int .i64 0, .int .i64 0, .int .i64 0, .int .i64 0, .int .i64 0, .int .i64 0, .int .i64 0, .int .i64 0, .int .i64 0, .int .i64 0, .int .i64 0, .int .i64 0, .int .i64 0, .int .i64 0, .int .i64 0, .int .i64 0, .int .i64 0, .int .i64 0, .int .i64 0, .int .i64 0, .int .i64 0, .int .i64 0, .int .i64 0, .int .i64 0, .int .i64 0, .int .i64 0, .int .i64 0, .int .i64 0, .int .i64 0] 62) := ⟨_, rfl⟩
  rw [← hW2] at HZ2 HB2 Hb2 hz2
  have HY3 := TabI.zero W2
  have HZ3 := HZ2.keep (tab_below W2)
  have HB3 := HB2.keep (tab_below W2)
  have Hb3 := Hb2.trans ((tab_below W2).mono Hb2.size)
  obtain ⟨W3, hW3⟩ : ∃ W3, W3 = W2.alloc (.cells #[.int .i64 0, .int .i64 0, .int .i64 0, .int .i64 0, .int .i64 0, .int .i64 0, .int .i64 0, .int .i64 0, .int .i64 0, .int .i64 0, .int .i64 0, .int .i64 0, .int .i64 0, .int .i64 0, .int .i64 0, .int .i64 0, .int .i64 0, .int .i64 0, .int .i64 0, .int .i64 0, .int .i64 0, .int .i64 0, .int .i64 0, .int .i64 0, .int .i64 0, .int .i64 0, .int .i64 0, .int .i64 0, .int .i64 0, .int .i64 0, .int .i64 0, .int .i64 0, .int .i64 0, .int .i64 0, .int .i64 0, .int .i64 0, .int .i64 0, .int .i64 0, .int .i64 0, .int .i64 0, .int .i64 0, .int .i64 0, .int .i64 0, .int .i64 0, .int .i64 0, .int .i64 0, .int .i64 0, .int .i64 0, .int .i64 0, .int .i64 0, .int .i64 0, .int .i64 0, .int .i64 0, .int .i64 0, .int .i64 0, .int .i64 0, .int .i64 0, .int .i64 0, .int .i64 0, .int .i64 0, .int .i64 0, .int .i64 0, .int .i64 0, .int .i64 0] 62) := ⟨_, rfl⟩
  rw [← hW3] at HY3 HZ3 HB3 Hb3
  rw [hz1] at HZ3 hz2
  rw [hz2] at HY3
  have HY3 := Lib.hid HY3
  have HZ3 := Lib.hid HZ3
  have HB3 := Lib.hid HB3
  have Hb3 := Lib.hid Hb3
  have HWW : Hid ((((w.alloc (.cells #[.int .i64 n, .slice A m c] 31)).alloc (.cells #[.int .i64 0, .int .i64 0, .int .i64 0, .int .i64 0, .int .i64 0, .int .i64 0, .int .i64 0, .int .i64 0, .int .i64 0, .int .i64 0, .int .i64 0, .int .i64 0, .int .i64 0, .int .i64 0, .int .i64 0, .int .i64 0, .int .i64 0, .int .i64 0, .int .i64 0, .int .i64 0, .int .i64 0, .int .i64 0, .int .i64 0, .int .i64 0, .int .i64 0, .int .i64 0, .int .i64 0, .int .i64 0, .int .i64 0, .int .i64 0, .int .i64 0, .int .i64 0, .int .i64 0, .int .i64 0, .int .i64 0, .int .i64 0, .int .i64 0, .int .i64 0, .int .i64 0, .int .i64 0, .int .i64 0, .int .i64 0, .int .i64 0, .int .i64 0, .int .i64 0, .int .i64 0, .int .i64 0, .int .i64 0, .int .i64 0, .int .i64 0, .int .i64 0, .int .i64 0, .int .i64 0, .int .i64 0, .int .i64 0, .int .i64 0, .int .i64 0, .int .i64 0, .int .i64 0, .int .i64 0, .int .i64 0, .int .i64 0, .int .i64 0, .int .i64 0] 62)).alloc (.cells #[.int .i64 0, .int .i64 0, .int .i64 0, .int .i64 0, .int .i64 0, .int .i64 0, .int .i64 0, .int .i64 0, .int .i64 0, .int .i64 0, .int .i64 0, .int .i64 0, .int .i64 0, .int .i64 0, .int .i64 0, .int .i64 0, .int .i64 0, .int .i64 0, .int .i64 0, .int .i64 0, .int .i64 0, .int .i64 0, .int .i64 0, .int .i64 0, .int .i64 0, .int .i64 0, .int .i64 0, .int .i64 0, .int .i64 0, .int .i64 0, .int .i64 0, .int .i64 0, .int .i64 0, .int .i64 0, .int .i64 0, .int .i64 0, .int .i64 0, .int .i64 0, .int .i64 0, .int .i64 0, .int .i64 0, .int .i64 0, .int .i64 0, .int .i64 0, .int .i64 0, .int .i64 0, .int .i64 0, .int .i64 0, .int .i64 0, .int .i64 0, .int .i64 0, .int .i64 0, .int .i64 0, .int .i64 0, .int .i64 0, .int .i64 0, .int .i64 0, .int .i64 0, .int .i64 0, .int .i64 0, .int .i64 0, .int .i64 0, .int .i64 0, .int .i64 0] 62)) = W3) := Lib.hid (by rw [hW3, hW2, hW1])
  clear HB1 Hb1 hz1 HZ2 HB2 Hb2 hz2 hW1 hW2 hW3
  go_enter Try.func31, Try.ntmps31
  go_wp2
  rw [HWW.out]
  clear HWW
  obtain ⟨B, hB⟩ : ∃ B, B = w.heap.size := ⟨_, rfl⟩
  obtain ⟨Z, hZ⟩ : ∃ Z, Z = w.heap.size + 1 := ⟨_, rfl⟩
  obtain ⟨Y, hY⟩ : ∃ Y, Y = w.heap.size + 1 + 1 := ⟨_, rfl⟩
  have HBZ : Hid (w.heap.size ≤ B ∧ w.heap.size ≤ Z ∧ w.heap.size ≤ Y ∧ B ≠ Y ∧ Z ≠ Y) := Lib.hid (by omega)
  rw [← hY] at HY3 ⊢
  rw [← hZ] at HZ3 ⊢
  have HB4 : Hid (MapB W3 B n (.slice A m c)) := Lib.hid (by rw [hB]; exact HB3.out)
  clear HB3
  rw [← hB]
  clear hY hZ hB
  go_loopw [11] (fun i wr => ∃ a : Nat, a ≤ n ∧ i = .int .i64 a ∧ TabI wr Y (iA n (fun _ => 0) a) ∧ TabI wr Z (fun _ => 0) ∧ MapB wr B n (.slice A m c) ∧ Below w.heap.size w wr) (fun i _ => n - (intOf i).toNat)
  case atStart => exact ⟨0, Nat.zero_le _, rfl, HY3.out, HZ3.out, HB4.out, Hb3.out⟩
  case round =>
    obtain ⟨a, ha, rfl, hY, hZ, hP, hB⟩ := hrel
    have HY := Lib.hid hY
    have HZ := Lib.hid hZ
    have HP := Lib.hid hP
    have HB := Lib.hid hB
    clear hY hZ hP hB HY3 HZ3 HB4 Hb3
    by_cases hla : a < n
    · have hc1 := HP.out.c0
      have HE : Hid (iA n (fun _ => 0) (a + 1) = iB a (iA n (fun _ => 0) a) n) := Lib.hid rfl
      generalize iA n (fun _ => 0) a = Ta at *
      go_wp2
      clear hc1
      go_loopw [16] (fun i wy => ∃ b : Nat, b ≤ n ∧ i = .int .i64 b ∧ TabI wy Y (iB a Ta b) ∧ TabI wy Z (fun _ => 0) ∧ MapB wy B n (.slice A m c) ∧ Below w.heap.size w wy) (fun i _ => n - (intOf i).toNat)
      case atStart => exact ⟨0, Nat.zero_le _, rfl, HY.out, HZ.out, HP.out, HB.out⟩
      case round =>
        obtain ⟨b, hb, rfl, hY, hZ, hP, hB⟩ := hrel
        have HYc := Lib.hid hY
        have HZc := Lib.hid hZ
        have HPc := Lib.hid hP
        have HBc := Lib.hid hB
        clear hY hZ hP hB
        by_cases hlb : b < n
        · by_cases hab : a = b
          · have hbn := bne_f (a := (a : Int)) (b := (b : Int)) (by omega)
            have HEb : Hid (iB a Ta (b + 1) = iB a Ta b) := Lib.hid (by rw [iB, if_pos hab])
            clear hab
            go_wp2
            go_roundw
            case rel => exact ⟨b + 1, by omega, by go_num, by rw [HEb.out]; exact HYc.out, HZc.out, HPc.out, HBc.out⟩
            case measure => simp [intOf]; omega
          · have hbn := bne_t (a := (a : Int)) (b := (b : Int)) (by omega)
            have HEb : Hid (iB a Ta (b + 1) = upd (iB a Ta b) (8 * a + b) 400) := Lib.hid (by rw [iB, if_neg hab])
            clear hab
            have ha8 : a < 8 := by omega
            have hb8 : b < 8 := by omega
            have hx1 := HYc.out.cell ha8 hb8
            have hf1 := HYc.out.frozen (a * 8 + b)
            have HY2 := Lib.hid (HYc.out.set a b 400)
            have HZ2 := Lib.hid (World.rowIs.setOther HZc.out (a := ⟨Y, a * 8 + b, none⟩) HBZ.out.2.2.2.2 (.int .i64 400))
            have HP2 := Lib.hid (HPc.out.other (a := ⟨Y, a * 8 + b, none⟩) HBZ.out.2.2.2.1 (.int .i64 400))
            have HB2 := Lib.hid (HBc.out.setCell (p := ⟨Y, a * 8 + b, none⟩) HBZ.out.2.2.1 (.int .i64 400))
            go_wp2
            go_roundw
            case rel => exact ⟨b + 1, by omega, by go_num, by rw [HEb.out]; exact HY2.out, HZ2.out, HP2.out, HB2.out⟩
            case measure => simp [intOf]; omega
        · obtain rfl : b = n := by omega
          go_wp2
          go_roundw
          case rel => exact ⟨a + 1, by omega, by go_num, by rw [HE.out]; exact HYc.out, HZc.out, HPc.out, HBc.out⟩
          case measure => simp [intOf]; omega
    · obtain rfl : a = n := by omega
      have hc1 := HP.out.c1
      have HT0 : Hid (stT a m F = rS F (iA a (fun _ => 0) a) m) := Lib.hid rfl
      generalize iA a (fun _ => 0) a = T0 at *
      go_wp2
      clear hc1
      go_loopw [31] (fun i wx => ∃ k : Nat, k ≤ m ∧ i = .int .i64 k ∧ TabI wx Y (rS F T0 k) ∧ TabI wx Z (fun _ => 0) ∧ Below w.heap.size w wx) (fun i _ => m - (intOf i).toNat)
      case atStart => exact ⟨0, Nat.zero_le _, rfl, HY.out, HZ.out, HB.out⟩
      case round =>
        obtain ⟨k, hk, rfl, hY, hZ, hB⟩ := hrel
        have HYc := Lib.hid hY
        have HZc := Lib.hid hZ
        have HBc := Lib.hid hB
        clear hY hZ
        by_cases hlt : k < m
        · obtain ⟨q, o, rfl, c0, c1, c2⟩ := (H.out.keep hB).three hlt
          obtain ⟨hr0, hr1, hr2⟩ := HRn.out k hlt
          have HE : Hid (rS F T0 (k + 1) = upd (upd (rS F T0 k) (8 * (F k 0).toNat + (F k 1).toNat) (min (rS F T0 k (8 * (F k 0).toNat + (F k 1).toNat)) (F k 2))) (8 * (F k 1).toNat + (F k 0).toNat) (min (rS F T0 k (8 * (F k 0).toNat + (F k 1).toNat)) (F k 2))) := Lib.hid rfl
          obtain ⟨x, hx⟩ : ∃ x : Nat, F k 0 = x := ⟨(F k 0).toNat, by omega⟩
          obtain ⟨y, hy⟩ : ∃ y : Nat, F k 1 = y := ⟨(F k 1).toNat, by omega⟩
          rw [hx, hy, Int.toNat_natCast, Int.toNat_natCast] at HE
          rw [hx] at c0 hr0 hr2
          rw [hy] at c1 hr1 hr2
          clear hx hy
          have hx8 : x < 8 := by omega
          have hy8 : y < 8 := by omega
          have hxy : x ≠ y := by omega
          have Hxy := Lib.hid hxy
          have HA := Lib.hid (hB.alloc hB.size (.cells #[.int .i64 x, .int .i64 y, .int .i64 (F k 2)] 66))
          have HYd := Lib.hid (World.rowIs.alloc HYc.out (.cells #[.int .i64 x, .int .i64 y, .int .i64 (F k 2)] 66))
          have HZd := Lib.hid (World.rowIs.alloc HZc.out (.cells #[.int .i64 x, .int .i64 y, .int .i64 (F k 2)] 66))
          generalize rS F T0 k = Tk at *
          generalize F k 2 = z at *
          have g0 : (wr.alloc (.cells #[.int .i64 x, .int .i64 y, .int .i64 z] 66)).cell? ⟨wr.heap.size, 0, none⟩ = some (.int .i64 x) := by simp [World.cell?_alloc_at]
          have g1 : (wr.alloc (.cells #[.int .i64 x, .int .i64 y, .int .i64 z] 66)).cell? ⟨wr.heap.size, 1, none⟩ = some (.int .i64 y) := by simp [World.cell?_alloc_at]
          have g2 : (wr.alloc (.cells #[.int .i64 x, .int .i64 y, .int .i64 z] 66)).cell? ⟨wr.heap.size, 2, none⟩ = some (.int .i64 z) := by simp [World.cell?_alloc_at]
          have hx1 := TabI.cell HYd.out hx8 hy8
          clear hr0 hr1 hr2 hxy hB
          go_wp2
          go_region
          rw [show (if z < Tk (8 * x + y) then z else Tk (8 * x + y)) = min (Tk (8 * x + y)) z by split <;> omega]
          generalize min (Tk (8 * x + y)) z = mn at *
          have hx2 := TabI.cell HYd.out hy8 hx8
          have hf1 := HYd.out.frozen (x * 8 + y)
          have hf2 := HYd.out.frozen (y * 8 + x)
          have hYr : Y < wr.heap.size := HYc.out.lt
          have hne : x * 8 + y ≠ y * 8 + x := by have := Hxy.out; omega
          have hs1 : ((wr.alloc (.cells #[.int .i64 x, .int .i64 y, .int .i64 z] 66)).setCell ⟨Y, x * 8 + y, none⟩ (.int .i64 mn)).cell? ⟨Y, y * 8 + x, none⟩ = some (.int .i64 (Tk (8 * y + x))) := by
            rw [World.cell?_setCell_other _ _ _ _ (fun e => by have e := congrArg Addr.off e; simp only at e; omega)]
            exact hx2
          have hs2 : ((wr.alloc (.cells #[.int .i64 x, .int .i64 y, .int .i64 z] 66)).setCell ⟨Y, y * 8 + x, none⟩ (.int .i64 mn)).cell? ⟨Y, x * 8 + y, none⟩ = some (.int .i64 (Tk (8 * x + y))) := by
            rw [World.cell?_setCell_other _ _ _ _ (fun e => by have e := congrArg Addr.off e; simp only at e; omega)]
            exact hx1
          have l10 : ((wr.alloc (.cells #[.int .i64 x, .int .i64 y, .int .i64 z] 66)).setCell ⟨Y, x * 8 + y, none⟩ (.int .i64 mn)).cell? ⟨wr.heap.size, 0, none⟩ = some (.int .i64 x) := by
            rw [World.cell?_setCell_other _ _ _ _ (fun e => by have e := congrArg Addr.block e; simp only at e; omega)]
            exact g0
          have l11 : ((wr.alloc (.cells #[.int .i64 x, .int .i64 y, .int .i64 z] 66)).setCell ⟨Y, x * 8 + y, none⟩ (.int .i64 mn)).cell? ⟨wr.heap.size, 1, none⟩ = some (.int .i64 y) := by
            rw [World.cell?_setCell_other _ _ _ _ (fun e => by have e := congrArg Addr.block e; simp only at e; omega)]
            exact g1
          have l20 : ((wr.alloc (.cells #[.int .i64 x, .int .i64 y, .int .i64 z] 66)).setCell ⟨Y, y * 8 + x, none⟩ (.int .i64 mn)).cell? ⟨wr.heap.size, 0, none⟩ = some (.int .i64 x) := by
            rw [World.cell?_setCell_other _ _ _ _ (fun e => by have e := congrArg Addr.block e; simp only at e; omega)]
            exact g0
          have l21 : ((wr.alloc (.cells #[.int .i64 x, .int .i64 y, .int .i64 z] 66)).setCell ⟨Y, y * 8 + x, none⟩ (.int .i64 mn)).cell? ⟨wr.heap.size, 1, none⟩ = some (.int .i64 y) := by
            rw [World.cell?_setCell_other _ _ _ _ (fun e => by have e := congrArg Addr.block e; simp only at e; omega)]
            exact g1
          clear hYr hne
          clear g2
          go_wp2
          go_region
          have HY2 := Lib.hid (TabI.set (TabI.set HYd.out x y mn) y x mn)
          have HZ2 := Lib.hid (World.rowIs.setOther (World.rowIs.setOther HZd.out (a := ⟨Y, x * 8 + y, none⟩) HBZ.out.2.2.2.2 (.int .i64 mn)) (a := ⟨Y, y * 8 + x, none⟩) HBZ.out.2.2.2.2 (.int .i64 mn))
          have HB2 := Lib.hid ((HA.out.setCell (p := ⟨Y, x * 8 + y, none⟩) HBZ.out.2.2.1 (.int .i64 mn)).setCell (p := ⟨Y, y * 8 + x, none⟩) HBZ.out.2.2.1 (.int .i64 mn))
          clear hx1 hx2 hf1 hf2 hs1 hs2 l10 l11 l20 l21 g0 g1
          generalize World.setCell _ ⟨Y, y * 8 + x, none⟩ (.int .i64 mn) = W2 at *
          go_wp2
          go_roundw
          case rel => exact ⟨k + 1, by omega, by go_num, by rw [HE.out]; exact HY2.out, HZ2.out, HB2.out.trans ((Dn.refl _).drew.drew.below _)⟩
          case measure => simp [intOf]; omega
        · obtain rfl : k = m := by omega
          go_wp2_with (first
            | (refine wpList_load_mid rfl 62 _ rfl Y 0 rfl (tabL (rS F T0 k)) _ HYc.out.range Try.underlying62 rfl (by rw [tabL_len]; exact infoTab) ?_)
            | fail)
          rw [run_storeTab _ _ _ (rS F T0 k) HZc.out]
          simp only [Result.andThen_ok]
          rw [Oper.upon_skip]
          have HR := Lib.hid (TabI.stored (T := rS F T0 k) HZc.out)
          have HB2 := Lib.hid (below_setCells (tabL (rS F T0 k)) 0 HBZ.out.2.1 HBc.out)
          rw [← HT0.out] at HR HB2 ⊢
          clear HYc HZc HBc hB
          generalize World.setCells _ Z 0 (tabL (stT a k F)) = W2 at *
          go_wp2_with fail
          have hld := run_loadTab HR.out
          refine bodyPost_ret (v := .agg (tabL (stT a k F)).toArray) (steps_results _ _ Z _ rfl hld) rfl ?_
          exact ⟨rfl, HB2.out⟩
end Go.Proofs.Ytclhamemlpbpiaa
