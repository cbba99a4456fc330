/- Overload: the program's search and the reference's. -/
import Derived.Test.YtbgekacfimgkeaaQq
namespace Go.Proofs.Ytbgekacfimgkeaa
open Go.RowKit

/-- The box of a result of two integers. -/
def Z2 (w : World) (g : Nat) : Prop := w.heap[g]? = some (.cells #[.int .i64 0, .int .i64 0] 52 (0, 0))
theorem Z2.frozen {w : World} {g : Nat} (h : Z2 w g) (i : Nat) : w.frozen? ⟨g, i, none⟩ = false := by
  have h : w.heap[g]? = _ := h
  simp [World.frozen?, h]
theorem Z2.cell0 {w : World} {g : Nat} (h : Z2 w g) : w.cell? ⟨g, 0, none⟩ = some (.int .i64 0) := by
  have h : w.heap[g]? = _ := h
  simp [World.cell?, h]
theorem Z2.cell1 {w : World} {g : Nat} (h : Z2 w g) : w.cell? ⟨g, 1, none⟩ = some (.int .i64 0) := by
  have h : w.heap[g]? = _ := h
  simp [World.cell?, h]
theorem Z2.lt {w : World} {g : Nat} (h : Z2 w g) : g < w.heap.size := (Array.getElem?_eq_some_iff.1 h).1
theorem Z2.keep {w w' : World} {g : Nat} (h : Z2 w g) (hb : Below w.heap.size w w') : Z2 w' g := (hb.block g h.lt).trans h
theorem Z2.made (w : World) : Z2 (w.alloc (.cells #[.int .i64 0, .int .i64 0] 52)) w.heap.size := heap_alloc_new w _
/-- The world when two integers are stored there. -/
def z2W (w : World) (g : Nat) (a b : Int) : World := (w.setCell ⟨g, 0, none⟩ (.int .i64 a)).setCell ⟨g, 1, none⟩ (.int .i64 b)
theorem z2W_cells {w : World} {g : Nat} (h : Z2 w g) (a b : Int) : (z2W w g a b).cell? ⟨g, 0, none⟩ = some (.int .i64 a) ∧ (z2W w g a b).cell? ⟨g, 1, none⟩ = some (.int .i64 b) := by
  have o : ∀ (w : World) (i j : Nat) (v : Value), i ≠ j → (w.setCell ⟨g, i, none⟩ v).cell? ⟨g, j, none⟩ = w.cell? ⟨g, j, none⟩ := fun w i j v hij => World.cell?_setCell_other w _ _ v (fun e => hij (by injection e))
  unfold z2W
  refine ⟨?_, ?_⟩
  · rw [o _ 1 0 _ (by omega)]
    exact World.cell?_setCell_same _ _ _ h.cell0
  · exact World.cell?_setCell_same _ _ _ (by rw [o _ 0 1 _ (by omega)]; exact h.cell1)
theorem z2W_below {w0 w : World} {g B : Nat} (h : Below B w0 w) (hg : B ≤ g) (a b : Int) : Below B w0 (z2W w g a b) :=
  (h.setCell (p := ⟨g, 0, none⟩) hg _).setCell (p := ⟨g, 1, none⟩) hg _

set_option maxHeartbeats 1000000 in
set_option maxRecDepth 1000000 in
theorem overload_bad (A : Option Addr) (n c : Nat) (J : Nat → Nat → Int) (w : World) (h : Recs 4 w A n J) (hn : n ≤ maxLen) (hok : okJ n J = false) :
    Lr 34 #[.slice A n c] w (.tuple #[.agg #[.int .i64 0, .int .i64 0], .int .i64 2]) := by
  unfold Lr
  have H := Lib.hid (h.keep ((Below.refl w.heap.size w).alloc (Nat.le_refl _) (.cells #[.int .i64 0, .int .i64 0] 52)))
  have hb0 := (Below.refl w.heap.size w).alloc (Nat.le_refl _) (.cells #[.int .i64 0, .int .i64 0] 52)
  have hZ0 := Z2.made w
  have HO := Lib.hid hok
  have hmm := Lib.hid hn
  clear h hok hn
  go_enter Try.func34, Try.ntmps34
  go_wp2_with fail
  refine (valid_any A n c J _ H.out hmm.out).use fun w1 hb1 => ?_
  rw [HO.out]
  have HB := Lib.hid (hb0.trans (hb1.mono hb0.size))
  have hZ := hZ0.keep hb1
  have k0 := hZ.cell0
  have k1 := hZ.cell1
  have f0 := hZ.frozen 0
  have f1 := hZ.frozen 1
  have HZ := Lib.hid hZ
  clear hb1 hb0 hZ hZ0
  go_wp2
  obtain ⟨z0, z1⟩ := z2W_cells HZ.out 0 0
  have hb := z2W_below HB.out (Nat.le_refl _) 0 0
  unfold z2W at z0 z1 hb
  refine bodyPost_ret (v := .tuple #[.agg #[.int .i64 0, .int .i64 0], .int .i64 2]) (by simp [results, Try.results34, go_sem, z0, z1]) rfl ?_
  exact ⟨rfl, hb⟩

set_option maxHeartbeats 2000000 in
set_option maxRecDepth 1000000 in
theorem overload_ok (A : Option Addr) (n c : Nat) (J : Nat → Nat → Int) (w : World) (h : Recs 4 w A n J) (hok : okJ n J = true) :
    Calls Try.prog 34 #[.slice A n c] w fun e w' => ((e = .returned (.tuple #[.agg #[.int .i64 0, .int .i64 0], .int .i64 4]) ∧ NoOv n J 101 200) ∨ ∃ a b : Nat, e = .returned (.tuple #[.agg #[.int .i64 a, .int .i64 b], .int .i64 0]) ∧ IsOv n J 200 a b) ∧ Below w.heap.size w w' := by
  have H := Lib.hid h
  have hb0 := (Below.refl w.heap.size w).alloc (Nat.le_refl _) (.cells #[.int .i64 0, .int .i64 0] 52)
  have H0 := Lib.hid (h.keep hb0)
  have HDA : Hid (∀ W : World, Below w.heap.size w W → Below w.heap.size w W) := Lib.hid (fun _ h => h)
  have hZ0 := Z2.made w
  have HO := Lib.hid hok
  have hn := (okJ_iff.1 hok).1.2
  clear h hok
  go_enter Try.func34, Try.ntmps34
  go_wp2_with fail
  refine (valid_any A n c J _ H0.out (by unfold maxLen; omega)).use fun w1 hb1 => ?_
  rw [HO.out]
  have HB := Lib.hid (hb0.trans (hb1.mono hb0.size))
  have HZ := Lib.hid (hZ0.keep hb1)
  clear hb1 hb0 hZ0
  go_wp2
  go_loopw [10] (fun i wr => ∃ a : Nat, a ≤ 101 ∧ i = .int .i64 a ∧ NoOv n J a 200 ∧ Z2 wr w.heap.size ∧ Below w.heap.size w wr) (fun i _ => 101 - (intOf i).toNat)
  case atStart => exact ⟨0, Nat.zero_le _, rfl, fun a ha => absurd ha (by omega), HZ.out, HB.out⟩
  case round =>
    obtain ⟨a, ha, rfl, hno, hZ, hD⟩ := hrel
    have HNo := Lib.hid hno
    have HZ := Lib.hid hZ
    have HD := Lib.hid hD
    clear hno hZ hD
    by_cases hlt : a < 101
    · obtain ⟨W0, rfl⟩ : ∃ W0, W0 = wr := ⟨wr, rfl⟩
      have ha0 : (a : Int) < 101 := by omega
      have ha1 : (a : Int) ≤ 100 := by omega
      go_wp2
      go_loopw [5] (fun i wr => ∃ b : Nat, a ≤ b ∧ b ≤ 200 + 1 ∧ i = .int .i64 b ∧ (∀ b', a ≤ b' → b' < b → ¬ OvB n J a (b' : Nat)) ∧ Z2 wr w.heap.size ∧ Below w.heap.size w wr) (fun i _ => 200 + 1 - (intOf i).toNat)
      case atStart => exact ⟨a, Nat.le_refl _, by omega, rfl, fun b' h1 h2 => absurd h2 (by omega), HZ.out, HD.out⟩
      case round =>
        obtain ⟨b, hab, hb, rfl, hnb, hZ2, hD2⟩ := hrel
        have HNb := Lib.hid hnb
        have HZ2 := Lib.hid hZ2
        have HD2 := Lib.hid hD2
        clear hnb hZ2 hD2
        by_cases hbl : b < 200 + 1
        · have hbI : (b : Int) ≤ 200 := by omega
          have hr := ldF_rng HO.out (a : Int) (b : Int) n (Nat.le_refl _)
          have HDef : Hid (OvB n J (a : Nat) (b : Nat) ↔ (b : Int) - a < ldF J a b n) := Lib.hid Iff.rfl
          by_cases hov : (b : Int) - a < ldF J a b n
          · have HIs : Hid (IsOv n J 200 a b) := Lib.hid ⟨hab, by omega, HDef.out.2 hov, fun a' h1 b' h2 h3 => HNo.out a' h1 b' h2 h3, fun b' h1 h2 => HNb.out b' h1 h2⟩
            go_wp2_with fail
            refine (load_any A n c J (a : Int) (b : Int) wr (H.out.keep (HDA.out wr HD2.out)) HO.out).use fun w3 hb3 => ?_
            have HZ3 := Lib.hid (HZ2.out.keep hb3)
            have HD3 := Lib.hid (HD2.out.trans (hb3.mono HD2.out.size))
            have k0 := HZ3.out.cell0
            have k1 := HZ3.out.cell1
            have f0 := HZ3.out.frozen 0
            have f1 := HZ3.out.frozen 1
            clear hb3
            skip
            go_wp2
            obtain ⟨z0, z1⟩ := z2W_cells HZ3.out (a : Int) (b : Int)
            have hbz := z2W_below HD3.out (Nat.le_refl _) (a : Int) (b : Int)
            unfold z2W at z0 z1 hbz
            refine bodyPost_ret (v := .tuple #[.agg #[.int .i64 a, .int .i64 b], .int .i64 0]) (by simp [results, Try.results34, go_sem, z0, z1]) rfl ?_
            exact ⟨.inr ⟨a, b, rfl, HIs.out⟩, hbz⟩
          · have HN2 : Hid (∀ b', a ≤ b' → b' < b + 1 → ¬ OvB n J a (b' : Nat)) := Lib.hid (fun b' h1 h2 => by
              rcases Nat.lt_or_ge b' b with h3 | h3
              · exact HNb.out b' h1 h3
              · obtain rfl : b' = b := by omega
                exact fun h => hov (HDef.out.1 h))
            go_wp2_with fail
            refine (load_any A n c J (a : Int) (b : Int) wr (H.out.keep (HDA.out wr HD2.out)) HO.out).use fun w3 hb3 => ?_
            have HZ3 := Lib.hid (HZ2.out.keep hb3)
            have HD3 := Lib.hid (HD2.out.trans (hb3.mono HD2.out.size))
            clear hb3
            skip
            go_wp2
            go_roundw
            case rel => exact ⟨b + 1, by omega, by omega, by go_num, HN2.out, HZ3.out, HD3.out⟩
            case measure => simp [intOf]; omega
        · have HN1 : Hid (NoOv n J (a + 1) 200) := Lib.hid (fun a' h1 b' h2 h3 => by
            rcases Nat.lt_or_ge a' a with h4 | h4
            · exact HNo.out a' h4 b' h2 h3
            · obtain rfl : a' = a := by omega
              exact HNb.out b' h2 (by omega))
          go_wp2
          go_roundw
          case rel => exact ⟨a + 1, by omega, by go_num, HN1.out, HZ2.out, HD2.out⟩
          case measure => simp [intOf]; omega
    · have haE : a = 101 := by omega
      subst haE
      have k0 := HZ.out.cell0
      have k1 := HZ.out.cell1
      have f0 := HZ.out.frozen 0
      have f1 := HZ.out.frozen 1
      go_wp2
      obtain ⟨z0, z1⟩ := z2W_cells HZ.out 0 0
      have hbz := z2W_below HD.out (Nat.le_refl _) 0 0
      unfold z2W at z0 z1 hbz
      refine bodyPost_ret (v := .tuple #[.agg #[.int .i64 0, .int .i64 0], .int .i64 4]) (by simp [results, Try.results34, go_sem, z0, z1]) rfl ?_
      exact ⟨.inl ⟨rfl, HNo.out⟩, hbz⟩

set_option maxHeartbeats 2000000 in
set_option maxRecDepth 1000000 in
theorem refOverload_any (A : Option Addr) (n c : Nat) (J : Nat → Nat → Int) (w : World) (h : Recs 4 w A n J) (hok : okJ n J = true) :
    Calls Try.prog 36 #[.slice A n c] w fun e w' => ((e = .returned (.tuple #[.agg #[.int .i64 0, .int .i64 0], .int .i64 4]) ∧ ((∀ k, k < n → eS (plS 0 n J) k ≤ J k 2) ∨ NoOv n J 401 400)) ∨ ∃ a b : Nat, e = .returned (.tuple #[.agg #[.int .i64 a, .int .i64 b], .int .i64 0]) ∧ IsOv n J 400 a b) ∧ Below w.heap.size w w' := by
  have H := Lib.hid h
  have hb0 := (Below.refl w.heap.size w).alloc (Nat.le_refl _) (.cells #[.int .i64 0, .int .i64 0] 52)
  have H0 := Lib.hid (h.keep hb0)
  have HDA : Hid (∀ W : World, Below w.heap.size w W → Below w.heap.size w W) := Lib.hid (fun _ h => h)
  have hZ0 := Z2.made w
  have HO := Lib.hid hok
  have hn := (okJ_iff.1 hok).1.2
  clear h hok
  go_enter Try.func36, Try.ntmps36
  go_wp2_with fail
  refine (refDelay_any A n c J _ H0.out HO.out).mono ?_
  rintro e w1 ⟨x, rfl, hx, hb1⟩
  have HB := Lib.hid (hb0.trans (hb1.mono hb0.size))
  have HZ := Lib.hid (hZ0.keep hb1)
  have HX := Lib.hid hx
  clear hb1 hb0 hZ0 hx
  by_cases hx0 : x ≤ 0
  · have k0 := HZ.out.cell0
    have k1 := HZ.out.cell1
    have f0 := HZ.out.frozen 0
    have f1 := HZ.out.frozen 1
    go_wp2
    obtain ⟨z0, z1⟩ := z2W_cells HZ.out 0 0
    have hbz := z2W_below HB.out (Nat.le_refl _) 0 0
    unfold z2W at z0 z1 hbz
    refine bodyPost_ret (v := .tuple #[.agg #[.int .i64 0, .int .i64 0], .int .i64 4]) (by simp [results, Try.results36, go_sem, z0, z1]) rfl ?_
    exact ⟨.inl ⟨rfl, .inl (fun k hk => by
      have := HX.out.1 k hk
      show enF _ _ k ≤ _
      omega)⟩, hbz⟩
  have hxp : 0 < x := by omega
  go_wp2
  go_loopw [4] (fun i wr => ∃ a : Nat, a ≤ 401 ∧ i = .int .i64 a ∧ NoOv n J a 400 ∧ Z2 wr w.heap.size ∧ Below w.heap.size w wr) (fun i _ => 401 - (intOf i).toNat)
  case atStart => exact ⟨0, Nat.zero_le _, rfl, fun a ha => absurd ha (by omega), HZ.out, HB.out⟩
  case round =>
    obtain ⟨a, ha, rfl, hno, hZ, hD⟩ := hrel
    have HNo := Lib.hid hno
    have HZ := Lib.hid hZ
    have HD := Lib.hid hD
    clear hno hZ hD
    by_cases hlt : a < 401
    · obtain ⟨W0, rfl⟩ : ∃ W0, W0 = wr := ⟨wr, rfl⟩
      have ha0 : (a : Int) < 401 := by omega
      have ha1 : (a : Int) ≤ 400 := by omega
      go_wp2
      go_loopw [5] (fun i wr => ∃ b : Nat, a ≤ b ∧ b ≤ 400 + 1 ∧ i = .int .i64 b ∧ (∀ b', a ≤ b' → b' < b → ¬ OvB n J a (b' : Nat)) ∧ Z2 wr w.heap.size ∧ Below w.heap.size w wr) (fun i _ => 400 + 1 - (intOf i).toNat)
      case atStart => exact ⟨a, Nat.le_refl _, by omega, rfl, fun b' h1 h2 => absurd h2 (by omega), HZ.out, HD.out⟩
      case round =>
        obtain ⟨b, hab, hb, rfl, hnb, hZ2, hD2⟩ := hrel
        have HNb := Lib.hid hnb
        have HZ2 := Lib.hid hZ2
        have HD2 := Lib.hid hD2
        clear hnb hZ2 hD2
        by_cases hbl : b < 400 + 1
        · have hbI : (b : Int) ≤ 400 := by omega
          have hr := ldF_rng HO.out (a : Int) (b : Int) n (Nat.le_refl _)
          have HDef : Hid (OvB n J (a : Nat) (b : Nat) ↔ (b : Int) - a < ldF J a b n) := Lib.hid Iff.rfl
          by_cases hov : (b : Int) - a < ldF J a b n
          · have HIs : Hid (IsOv n J 400 a b) := Lib.hid ⟨hab, by omega, HDef.out.2 hov, fun a' h1 b' h2 h3 => HNo.out a' h1 b' h2 h3, fun b' h1 h2 => HNb.out b' h1 h2⟩
            go_wp2_with fail
            refine (refLoaded_any A n c J (a : Int) (b : Int) wr (H.out.keep (HDA.out wr HD2.out)) HO.out (by omega) (by omega) (by omega)).use fun w3 hb3 => ?_
            have HZ3 := Lib.hid (HZ2.out.keep hb3)
            have HD3 := Lib.hid (HD2.out.trans (hb3.mono HD2.out.size))
            have k0 := HZ3.out.cell0
            have k1 := HZ3.out.cell1
            have f0 := HZ3.out.frozen 0
            have f1 := HZ3.out.frozen 1
            clear hb3
            rw [decide_eq_true hov]
            go_wp2
            obtain ⟨z0, z1⟩ := z2W_cells HZ3.out (a : Int) (b : Int)
            have hbz := z2W_below HD3.out (Nat.le_refl _) (a : Int) (b : Int)
            unfold z2W at z0 z1 hbz
            refine bodyPost_ret (v := .tuple #[.agg #[.int .i64 a, .int .i64 b], .int .i64 0]) (by simp [results, Try.results36, go_sem, z0, z1]) rfl ?_
            exact ⟨.inr ⟨a, b, rfl, HIs.out⟩, hbz⟩
          · have HN2 : Hid (∀ b', a ≤ b' → b' < b + 1 → ¬ OvB n J a (b' : Nat)) := Lib.hid (fun b' h1 h2 => by
              rcases Nat.lt_or_ge b' b with h3 | h3
              · exact HNb.out b' h1 h3
              · obtain rfl : b' = b := by omega
                exact fun h => hov (HDef.out.1 h))
            go_wp2_with fail
            refine (refLoaded_any A n c J (a : Int) (b : Int) wr (H.out.keep (HDA.out wr HD2.out)) HO.out (by omega) (by omega) (by omega)).use fun w3 hb3 => ?_
            have HZ3 := Lib.hid (HZ2.out.keep hb3)
            have HD3 := Lib.hid (HD2.out.trans (hb3.mono HD2.out.size))
            clear hb3
            rw [decide_eq_false (Int.not_lt.2 hov)]
            go_wp2
            go_roundw
            case rel => exact ⟨b + 1, by omega, by omega, by go_num, HN2.out, HZ3.out, HD3.out⟩
            case measure => simp [intOf]; omega
        · have HN1 : Hid (NoOv n J (a + 1) 400) := Lib.hid (fun a' h1 b' h2 h3 => by
            rcases Nat.lt_or_ge a' a with h4 | h4
            · exact HNo.out a' h4 b' h2 h3
            · obtain rfl : a' = a := by omega
              exact HNb.out b' h2 (by omega))
          go_wp2
          go_roundw
          case rel => exact ⟨a + 1, by omega, by go_num, HN1.out, HZ2.out, HD2.out⟩
          case measure => simp [intOf]; omega
    · have haE : a = 401 := by omega
      subst haE
      have k0 := HZ.out.cell0
      have k1 := HZ.out.cell1
      have f0 := HZ.out.frozen 0
      have f1 := HZ.out.frozen 1
      go_wp2
      obtain ⟨z0, z1⟩ := z2W_cells HZ.out 0 0
      have hbz := z2W_below HD.out (Nat.le_refl _) 0 0
      unfold z2W at z0 z1 hbz
      refine bodyPost_ret (v := .tuple #[.agg #[.int .i64 0, .int .i64 0], .int .i64 4]) (by simp [results, Try.results36, go_sem, z0, z1]) rfl ?_
      exact ⟨.inl ⟨rfl, .inr HNo.out⟩, hbz⟩
end Go.Proofs.Ytbgekacfimgkeaa
