/- swap: within, isOrder, has, read, everyone, upTo, best. -/
import Derived.Test.YtocfbafcplhmiaaUa
import Derived.Test.YtocfbafcplhmiaaVp
import Derived.Test.YtocfbafcplhmiaaShift
import Derived.Test.YtocfbafcplhmiaaRowC
import Derived.BigRegion
namespace Go.Proofs.Ytocfbafcplhmiaa
open Go.RowKit

/-- Two cells, or four, of a block that are read. -/
def Bx1 (w : World) (g : Nat) (x : Value) : Prop := w.cell? ⟨g, 0, none⟩ = some x
def Bx2 (w : World) (g : Nat) (x y : Value) : Prop := w.cell? ⟨g, 0, none⟩ = some x ∧ w.cell? ⟨g, 1, none⟩ = some y
def Bx4 (w : World) (g : Nat) (x y z u : Value) : Prop := w.cell? ⟨g, 0, none⟩ = some x ∧ w.cell? ⟨g, 1, none⟩ = some y ∧ w.cell? ⟨g, 2, none⟩ = some z ∧ w.cell? ⟨g, 3, none⟩ = some u
theorem cell_on {w w' : World} {a : Addr} {v : Value} (h : w.cell? a = some v) (hb : Below w.heap.size w w') : w'.cell? a = some v := (hb.cell (World.block_lt_of_cell? _ _ h)).trans h
theorem Bx2.keep {w w' : World} {g : Nat} {x y : Value} (h : Bx2 w g x y) (hb : Below w.heap.size w w') : Bx2 w' g x y := ⟨cell_on h.1 hb, cell_on h.2 hb⟩
theorem Bx4.keep {w w' : World} {g : Nat} {x y z u : Value} (h : Bx4 w g x y z u) (hb : Below w.heap.size w w') : Bx4 w' g x y z u := ⟨cell_on h.1 hb, cell_on h.2.1 hb, cell_on h.2.2.1 hb, cell_on h.2.2.2 hb⟩
theorem box1_at (w : World) (x : Value) (T : TypeId) : (w.alloc (.cells #[x] T)).cell? ⟨w.heap.size, 0, none⟩ = some x := by simp [World.cell?_alloc_at]
theorem box2_at (w : World) (x y : Value) (T : TypeId) : Bx2 (w.alloc (.cells #[x, y] T)) w.heap.size x y := by constructor <;> simp [World.cell?_alloc_at]
theorem box4_at (w : World) (x y z u : Value) (T : TypeId) : Bx4 (w.alloc (.cells #[x, y, z, u] T)) w.heap.size x y z u := by refine ⟨?_, ?_, ?_, ?_⟩ <;> simp [World.cell?_alloc_at]
theorem box_bel (w : World) (o : Obj) : Below w.heap.size w (w.alloc o) := (Below.refl _ _).alloc (Nat.le_refl _) _

theorem two_setS {W : World} {B : Nat} {u0 u1 : Value} (c0 : W.cell? ⟨B, 0, none⟩ = some u0) (c1 : W.cell? ⟨B, 1, none⟩ = some u1) (v0 v1 : Value) :
    ((W.setCell ⟨B, 0, none⟩ v0).setCell ⟨B, 1, none⟩ v1).cell? ⟨B, 0, none⟩ = some v0 ∧ ((W.setCell ⟨B, 0, none⟩ v0).setCell ⟨B, 1, none⟩ v1).cell? ⟨B, 1, none⟩ = some v1 := by
  refine ⟨?_, World.cell?_setCell_same _ _ _ (u := u1) ?_⟩
  · rw [World.cell?_setCell_other _ _ _ _ (by simp)]
    exact World.cell?_setCell_same _ _ _ c0
  · rw [World.cell?_setCell_other _ _ _ _ (by simp)]
    exact c1
def wtB (x a b : Int) : Bool := decide (a ≤ x) && decide (x ≤ b)
theorem wtB_iff {x a b : Int} : wtB x a b = true ↔ a ≤ x ∧ x ≤ b := by simp [wtB]
theorem within_any (x a b : Int) (w : World) : Calls Try.prog 55 #[.int .i64 x, .int .i64 a, .int .i64 b] w fun e w' => e = .returned (.bool (wtB x a b)) ∧ w = w' := by
  have e : wtB x a b = (decide (a ≤ x) && decide (x ≤ b)) := rfl
  by_cases h1 : a ≤ x
  · by_cases h2 : x ≤ b
    · have E := Lib.hid (show wtB x a b = true by rw [e, decide_eq_true h1, decide_eq_true h2]; rfl)
      clear e
      go_enter Try.func55, Try.ntmps55
      go_wp2
      go_ret
      exact ⟨ret_bool E.out.symm, rfl⟩
    · have E := Lib.hid (show wtB x a b = false by rw [e, decide_eq_true h1, decide_eq_false h2]; rfl)
      clear e
      go_enter Try.func55, Try.ntmps55
      go_wp2
      go_ret
      exact ⟨ret_bool E.out.symm, rfl⟩
  · have E := Lib.hid (show wtB x a b = false by rw [e, decide_eq_false h1]; rfl)
    clear e
    go_enter Try.func55, Try.ntmps55
    go_wp2
    go_ret
    exact ⟨ret_bool E.out.symm, rfl⟩

/-- x is in set s. -/
def inS (s i : Nat) : Bool := decide (s / 2 ^ i % 2 = 1)
theorem has_any (s x : Nat) (hx : x < 64) (w : World) : Calls Try.prog 77 #[.int .i64 s, .int .i64 x] w fun e w' => e = .returned (.bool (inS s x)) ∧ w = w' := by
  have h2 : bits .and .i64 ((s : Int) / 2 ^ x) 1 = ((s / 2 ^ x % 2 : Nat) : Int) := by
    have e : ((s : Int) / 2 ^ x) = ((s / 2 ^ x : Nat) : Int) := by push_cast; rfl
    rw [e, i64_and1]
    omega
  have HU : Hid (inS s x = decide (s / 2 ^ x % 2 = 1)) := Lib.hid rfl
  generalize s / 2 ^ x = y at *
  rcases Nat.mod_two_eq_zero_or_one y with h | h
  · have hq : (((y % 2 : Nat) : Int) == 1) = false := by rw [h]; rfl
    have HV : Hid (inS s x = false) := Lib.hid (by rw [HU.out, h]; rfl)
    clear h
    go_enter Try.func77, Try.ntmps77
    go_wp2
    go_ret
    exact ⟨ret_bool (by rw [HV.out]; first | rfl | exact hq | (rw [h2]; exact hq)), rfl⟩
  · have hq : (((y % 2 : Nat) : Int) == 1) = true := by rw [h]; rfl
    have HV : Hid (inS s x = true) := Lib.hid (by rw [HU.out, h]; rfl)
    clear h
    go_enter Try.func77, Try.ntmps77
    go_wp2
    go_ret
    exact ⟨ret_bool (by rw [HV.out]; first | rfl | exact hq | (rw [h2]; exact hq)), rfl⟩

theorem okAt_w (c : Nat) (f : Nat → Int) (k : Nat) : okAt c f k = (wtB (f k) 0 ((c : Int) - 1) && !hasB f (f k) k) := by
  unfold okAt wtB
  have e : decide (f k < (c : Int)) = decide (f k ≤ (c : Int) - 1) := by rw [decide_eq_decide]; omega
  rw [e, Bool.and_assoc]
theorem within_at (x a b : Int) (v : Bool) (h : wtB x a b = v) (w : World) : Calls Try.prog 55 #[.int .i64 x, .int .i64 a, .int .i64 b] w fun e w' => e = .returned (.bool v) ∧ w = w' := by
  rw [← h]
  exact within_any x a b w
set_option maxHeartbeats 1000000 in
set_option maxRecDepth 1000000 in
theorem isOrder_any (A : Option Addr) (m c n : Nat) (O : Nat → Int) (w : World) (h : Ints w A m O) (hm : m ≤ 1000) (hmc : m ≤ c) (hn : 1 ≤ n ∧ n ≤ 5) :
    Calls Try.prog 52 #[.slice A m c, .int .i64 n] w fun e w' => e = .returned (.bool (ordB n m O)) ∧ w = w' := by
  obtain ⟨hn1, hn4⟩ := hn
  by_cases e : m = n
  · subst e
    have H := Lib.hid h
    have HE : Hid (ordB m m O = allB (okAt m O) m) := Lib.hid (by unfold ordB; simp)
    have HNo : Hid (∀ j, j < m → okAt m O j = false → ordB m m O = false) := Lib.hid (fun j hj h => by rw [HE.out, allB_f hj h])
    have HYes : Hid (AllLt (okAt m O) m → ordB m m O = true) := Lib.hid (fun h => by rw [HE.out, allB_t h])
    have HP : Hid (∀ j, okAt m O j = (wtB (O j) 0 ((m : Int) - 1) && !(hasB O (O j) j))) := Lib.hid (fun j => okAt_w m O j)
    have hq := bne_f (a := (m : Int)) rfl
    clear h
    go_enter Try.func52, Try.ntmps52
    go_wp2
    go_loop [13] (fun i => ∃ j : Nat, j ≤ m ∧ i = .int .i64 j ∧ AllLt (okAt m O) j) (fun i => m - (intOf i).toNat)
    case atStart => exact ⟨0, Nat.zero_le _, rfl, AllLt.zero⟩
    case round =>
      obtain ⟨j, hj, rfl, hA⟩ := hrel
      have HA := Lib.hid hA
      clear hA
      by_cases hlt : j < m
      · obtain ⟨b, o, rfl, hc⟩ := H.out.at hlt
        have HCt := Lib.hid (fun w2 (hI : Ints w2 (some ⟨b, o, none⟩) j O) => contains_any (some ⟨b, o, none⟩) j c O (O j) w2 hI (by omega))
        have HIj := Lib.hid (fun _ : 0 < j => (⟨b, o, rfl, fun k hk => H.out.cell (show k < m by omega)⟩ : ∃ b' o', some (⟨b, o, none⟩ : Addr) = some ⟨b', o', none⟩ ∧ ∀ k, k < j → w.cell? ⟨b', o' + k, none⟩ = some (.int .i64 (O k))))
        have HPj := Lib.hid (HP.out j)
        have HN := Lib.hid (HNo.out j hlt)
        have HS := Lib.hid (fun h => HA.out.succ (p := okAt m O) h)
        cases hw : wtB (O j) 0 ((m : Int) - 1) with
        | false =>
          have HW := Lib.hid (fun w => within_at (O j) 0 ((m : Int) - 1) false hw w)
          have HZ := Lib.hid (HN.out (by rw [HPj.out, hw]; rfl))
          clear hw
          generalize O j = x at *
          go_wp2_with fail
          refine (HW.out w).mono ?_
          rintro e w' ⟨rfl, rfl⟩
          go_wp2
          go_ret
          exact ⟨ret_bool HZ.out.symm, rfl⟩
        | true =>
          have HW := Lib.hid (fun w => within_at (O j) 0 ((m : Int) - 1) true hw w)
          cases hh : hasB O (O j) j with
          | true =>
            have HZ := Lib.hid (HN.out (by rw [HPj.out, hh]; simp))
            have HC2 := Lib.hid (HCt.out w HIj.out)
            rw [hh] at HC2
            clear hw hh
            generalize O j = x at *
            go_wp2_with fail
            refine (HW.out w).mono ?_
            rintro e w' ⟨rfl, rfl⟩
            go_wp2_with fail
            refine HC2.out.mono ?_
            rintro e w' ⟨rfl, rfl⟩
            go_wp2
            go_ret
            exact ⟨ret_bool HZ.out.symm, rfl⟩
          | false =>
            have HZ := Lib.hid (HS.out (by rw [HPj.out, hw, hh]; rfl))
            have HC2 := Lib.hid (HCt.out w HIj.out)
            rw [hh] at HC2
            clear hw hh
            generalize O j = x at *
            go_wp2_with fail
            refine (HW.out w).mono ?_
            rintro e w' ⟨rfl, rfl⟩
            go_wp2_with fail
            refine HC2.out.mono ?_
            rintro e w' ⟨rfl, rfl⟩
            go_wp2
            go_round
            case rel => exact ⟨j + 1, by omega, by go_num, HZ.out⟩
            case measure => simp [intOf]; omega
      · obtain rfl : j = m := by omega
        have HZ := Lib.hid (HYes.out HA.out)
        go_wp2
        go_ret
        exact ⟨ret_bool HZ.out.symm, rfl⟩
  · have hq := bne_t (a := (m : Int)) (b := (n : Int)) (by omega)
    have HZ : Hid (ordB n m O = false) := Lib.hid (by unfold ordB; rw [decide_eq_false e]; rfl)
    clear e h
    go_enter Try.func52, Try.ntmps52
    go_wp2
    go_ret
    exact ⟨ret_bool HZ.out.symm, rfl⟩

/-- Wishes of n people. -/
def okS (n : Nat) (L : Nat → Nat) (v : Nat → Nat → Int) : Bool := decide (1 ≤ n ∧ n ≤ 5) && allB (fun i => ordB n (L i) (v i)) n
theorem okS_iff {n : Nat} {L : Nat → Nat} {v : Nat → Nat → Int} : okS n L v = true ↔ (1 ≤ n ∧ n ≤ 5) ∧ ∀ i, i < n → L i = n ∧ Ord n (v i) := by
  unfold okS
  rw [Bool.and_eq_true, decide_eq_true_iff, allB_iff]
  constructor
  · rintro ⟨h1, h3⟩
    exact ⟨h1, fun i hi => ordB_iff.1 (h3 i hi)⟩
  · rintro ⟨h1, h3⟩
    exact ⟨h1, fun i hi => ordB_iff.2 (h3 i hi)⟩
/-- What read returns. -/
def rdV (ok : Bool) (A : Option Addr) (n c : Nat) : Value := if ok then .tuple #[.agg #[.int .i64 n, .slice A n c], .bool true] else .tuple #[.agg #[.int .i64 0, .slice none 0 0], .bool false]

set_option maxHeartbeats 2000000 in
set_option maxRecDepth 1000000 in
theorem read_any (A : Option Addr) (n c : Nat) (L : Nat → Nat) (v : Nat → Nat → Int) (w : World) (h : RowsK w A n L v) (hn : n ≤ 1000) (hL : ∀ i, i < n → L i ≤ 1000) :
    Lr 48 #[.slice A n c] w (rdV (okS n L v) A n c) := by
  unfold Lr
  have H := Lib.hid h
  have HL := Lib.hid hL
  clear h hL
  have HU : Hid (okS n L v = (decide (1 ≤ n ∧ n ≤ 5) && allB (fun i => ordB n (L i) (v i)) n)) := Lib.hid rfl
  obtain ⟨W1, hW1⟩ : ∃ W1, W1 = w.alloc (.cells #[.int .i64 0, .slice none 0 0] 50) := ⟨_, rfl⟩
  have hx := box2_at w (.int .i64 0) (.slice none 0 0) 50
  have hz : ∀ o, W1.frozen? ⟨w.heap.size, o, none⟩ = false := fun o => by rw [hW1]; simp [World.frozen?_alloc_at]
  have hb0 := box_bel w (.cells #[.int .i64 0, .slice none 0 0] 50)
  rw [← hW1] at hx hb0
  have HX := Lib.hid hx
  have HB0 := Lib.hid hb0
  have HZ := Lib.hid hz
  have hs1 : W1.heap.size = w.heap.size + 1 := by rw [hW1]; simp
  have HW1 := Lib.hid hW1
  have HI1 := Lib.hid (H.out.keep hb0)
  clear hx hb0 hz hW1
  by_cases h1 : 1 ≤ n ∧ n ≤ 5
  · have HV : Hid (okS n L v = allB (fun i => ordB n (L i) (v i)) n) := Lib.hid (by rw [HU.out, decide_eq_true h1, Bool.true_and])
    have HWt := Lib.hid (fun w => within_at (n : Int) 1 5 true (by rw [wtB_iff]; omega) w)
    obtain ⟨h1a, h1b⟩ := h1
    clear HU
    go_enter Try.func48, Try.ntmps48
    go_wp2_with fail
    rw [← HW1.out]
    refine (HWt.out W1).mono ?_
    rintro e w' ⟨rfl, rfl⟩
    go_wp2
    go_loop [15] (fun i => ∃ k : Nat, k ≤ n ∧ i = .int .i64 k ∧ AllLt (fun i => ordB n (L i) (v i)) k) (fun i => n - (intOf i).toNat)
    case atStart => exact ⟨0, Nat.zero_le _, rfl, AllLt.zero⟩
    case round =>
      obtain ⟨k, hk, rfl, hA⟩ := hrel
      by_cases hlt : k < n
      · obtain ⟨b', o', A', c', rfl, hc', hcap, hI⟩ := HI1.out.at hlt
        have HO := Lib.hid (isOrder_any A' (L k) c' n (v k) W1 hI (HL.out k hlt) hcap ⟨h1a, h1b⟩)
        have HA := Lib.hid hA
        clear hI hA hcap
        go_wp2_with fail
        refine HO.out.mono ?_
        rintro e w' ⟨rfl, rfl⟩
        clear HO
        cases hb : ordB n (L k) (v k) with
        | true =>
          have HA2 := Lib.hid (HA.out.succ hb)
          clear hb
          go_wp2
          go_round
          case rel => exact ⟨k + 1, by omega, by go_num, HA2.out⟩
          case measure => simp [intOf]; omega
        | false =>
          have HF := Lib.hid (allB_f (p := fun i => ordB n (L i) (v i)) hlt hb)
          have hx0 := HX.out.1
          have hx1 := HX.out.2
          have hz0 := HZ.out 0
          have hz1 := HZ.out 1
          have HQ := Lib.hid (two_setS hx0 hx1 (.int .i64 0) (.slice none 0 0))
          clear hb
          go_wp2
          obtain ⟨hs0, hs1'⟩ := HQ.out
          refine bodyPost_ret (v := .tuple #[.agg #[.int .i64 0, .slice none 0 0], .bool false]) (by simp [results, Try.results48, go_sem, hs0, hs1']) rfl ?_
          refine ⟨by rw [HV.out, HF.out]; rfl, ?_⟩
          exact (HB0.out.setCell (p := ⟨w.heap.size, 0, none⟩) (Nat.le_refl _) _).setCell (p := ⟨w.heap.size, 1, none⟩) (Nat.le_refl _) _
      · obtain rfl : k = n := by omega
        have hx0 := HX.out.1
        have hx1 := HX.out.2
        have hz0 := HZ.out 0
        have hz1 := HZ.out 1
        have HQ := Lib.hid (two_setS hx0 hx1 (.int .i64 (k : Int)) (.slice A k c))
        have HA := Lib.hid hA
        clear hA
        go_wp2
        obtain ⟨hs0, hs1'⟩ := HQ.out
        refine bodyPost_ret (v := .tuple #[.agg #[.int .i64 k, .slice A k c], .bool true]) (by simp [results, Try.results48, go_sem, hs0, hs1']) rfl ?_
        refine ⟨by rw [HV.out, allB_t HA.out]; rfl, ?_⟩
        exact (HB0.out.setCell (p := ⟨w.heap.size, 0, none⟩) (Nat.le_refl _) _).setCell (p := ⟨w.heap.size, 1, none⟩) (Nat.le_refl _) _
  · have HV : Hid (okS n L v = false) := Lib.hid (by rw [HU.out, decide_eq_false h1, Bool.false_and])
    have HWt := Lib.hid (fun w => within_at (n : Int) 1 5 false (by
      rw [← Bool.not_eq_true, wtB_iff]
      omega) w)
    have hx0 := HX.out.1
    have hx1 := HX.out.2
    have hz0 := HZ.out 0
    have hz1 := HZ.out 1
    have HQ := Lib.hid (two_setS hx0 hx1 (.int .i64 0) (.slice none 0 0))
    clear HU h1
    go_enter Try.func48, Try.ntmps48
    go_wp2_with fail
    rw [← HW1.out]
    refine (HWt.out W1).mono ?_
    rintro e w' ⟨rfl, rfl⟩
    go_wp2
    obtain ⟨hs0, hs1'⟩ := HQ.out
    refine bodyPost_ret (v := .tuple #[.agg #[.int .i64 0, .slice none 0 0], .bool false]) (by simp [results, Try.results48, go_sem, hs0, hs1']) rfl ?_
    refine ⟨by rw [HV.out]; rfl, ?_⟩
    exact (HB0.out.setCell (p := ⟨w.heap.size, 0, none⟩) (Nat.le_refl _) _).setCell (p := ⟨w.heap.size, 1, none⟩) (Nat.le_refl _) _
end Go.Proofs.Ytocfbafcplhmiaa
