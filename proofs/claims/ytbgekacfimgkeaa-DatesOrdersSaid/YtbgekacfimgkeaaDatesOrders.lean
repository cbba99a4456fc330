import Derived.Test.YtbgekacfimgkeaaKc
import Derived.Test.YtbgekacfimgkeaaQi
import Derived.Test.YtbgekacfimgkeaaJl
namespace Go.Proofs.Ytbgekacfimgkeaa
open Go.RowKit

theorem ordB_minO (m : Nat) (f : Nat → Int) (n : Nat) (hn : n ≤ 8) : ordB (min m 10) f n = ordB m f n := by
  by_cases h : m ≤ 10
  · rw [Nat.min_eq_left h]
  · unfold ordB
    rw [decide_eq_false (show ¬ min m 10 = n by omega), decide_eq_false (show ¬ m = n by omega), Bool.false_and, Bool.false_and]
/-- What Least returns. -/
def LsC (n m : Nat) (J F : Nat → Nat → Int) (base : Nat) (w : World) (v : Value) (x er : Int) : Prop :=
  (okJ n J = false ∧ er = 2) ∨ (okJ n J = true ∧ bfB n m F = false ∧ er = 2) ∨ (okJ n J = true ∧ bfB n m F = true ∧ dT n J (nF F m) 0 = 161 ∧ er = 6) ∨
  (okJ n J = true ∧ bfB n m F = true ∧ er = 0 ∧ x = dT n J (nF F m) 0 ∧ ∃ g, OwnL w base v (lst n g) ∧ ordB n g n = true ∧ KeepsP m F n g ∧ IsDl n J (eoF J g n) x)
theorem leastC_any (A B : Option Addr) (n c m c2 : Nat) (J F : Nat → Nat → Int) (w : World) (h : Recs 4 w A n J) (hF : Recs 2 w B m F) (hn : n ≤ maxLen) (hm : m ≤ maxLen) :
    Calls Try.prog 29 #[.slice A n c, .slice B m c2] w fun e w' => ∃ v x er, e = .returned (.tuple #[v, .int .i64 x, .int .i64 er]) ∧ LsC n m J F w.heap.size w' v x er ∧ Below w.heap.size w w' := by
  cases hok : okJ n J with
  | false =>
    refine (least_bad A B n c m c2 J w h hn hok).mono ?_
    rintro e w' ⟨rfl, hb⟩
    exact ⟨_, _, _, rfl, .inl ⟨hok, rfl⟩, hb⟩
  | true =>
    cases hbf : bfB n m F with
    | false =>
      refine (least_bf A B n c m c2 J F w h hF hm hok hbf).mono ?_
      rintro e w' ⟨rfl, hb⟩
      exact ⟨_, _, _, rfl, .inr (.inl ⟨hok, hbf, rfl⟩), hb⟩
    | true =>
      refine (least_ok A B n c m c2 J F w h hF hm hok hbf).mono ?_
      rintro e w' ⟨⟨h1, rfl⟩ | ⟨h1, v, rfl, hv⟩, hb⟩
      · exact ⟨_, _, _, rfl, .inr (.inr (.inl ⟨hok, hbf, h1, rfl⟩)), hb⟩
      · obtain ⟨g, e1, e2, e3, e4⟩ := first_order hok hbf h1
        refine ⟨v, _, _, rfl, .inr (.inr (.inr ⟨hok, hbf, rfl, rfl, g, ?_, e2, e3, e4⟩)), hb⟩
        rw [← e1]
        exact hv
theorem wpOp_ofO {P : Program} {ops : Array Oper} {Q : Exit → Act → World → Prop} {i : Nat} {K : Act → World → Prop} {a : Act} {w : World} {o : Oper} (hi : ops[i]? = some o) (hw : Region.wanted o (yielded ops a.tmps) = true) (h : o.wp P a w K Q) : wpOp P ops Q i K a w := by
  unfold wpOp
  rw [hi]
  simp only [hw, if_true]
  exact .inl h

set_option maxHeartbeats 8000000 in
set_option maxRecDepth 1000000 in
theorem datesOrders_walk (A : Option Addr) (n c : Nat) (J : Nat → Nat → Int) (B : Option Addr) (m c2 : Nat) (F : Nat → Nat → Int) (C : Option Addr) (q c3 : Nat) (f : Nat → Int) (W : World) (h : ArgK 4 W A n c J) (hf : ArgK 2 W B m c2 F) (ho : ArgI W C q c3 f) : TrueBelow 12 #[.slice A n c, .slice B m c2, .slice C q c3] W := by
  have hnm : n ≤ maxLen := Nat.le_trans h.1 h.2.1
  have hmm : m ≤ maxLen := Nat.le_trans hf.1 hf.2.1
  have hqm : q ≤ maxLen := Nat.le_trans ho.1 ho.2.1
  obtain ⟨W2, hW2⟩ : ∃ W2, W2 = (W.alloc (.cells #[.slice A n c] 22)).alloc (.cells #[.slice B m c2] 43) := ⟨_, rfl⟩
  have hs1 : (W.alloc (.cells #[.slice A n c] 22)).heap.size = W.heap.size + 1 := by simp
  have hs2 : W2.heap.size = W.heap.size + 2 := by rw [hW2]; simp
  have hb0 : Below W.heap.size W W2 := by
    rw [hW2]
    exact ((Below.refl W.heap.size W).alloc (Nat.le_refl _) _).alloc (by rw [hs1]; omega) _
  have hbox1 : W2.cell? ⟨W.heap.size, 0, none⟩ = some (.slice A n c) := by
    rw [hW2]
    have h1 : (W.alloc (.cells #[.slice A n c] 22)).cell? ⟨W.heap.size, 0, none⟩ = some (.slice A n c) := by simp [World.cell?_alloc_at]
    exact (((Below.refl _ _).alloc (Nat.le_refl _) _).cell (World.block_lt_of_cell? _ _ h1)).trans h1
  have hbox2 : W2.cell? ⟨W.heap.size + 1, 0, none⟩ = some (.slice B m c2) := by
    rw [hW2, ← hs1]
    simp [World.cell?_alloc_at]
  have HW2 := Lib.hid hW2
  have HBW : Hid (∀ w', Below W2.heap.size W2 w' → Below W.heap.size W w') := Lib.hid (fun w' hb => hb0.trans (hb.mono (by omega)))
  have HX : Hid (∀ w', Below W2.heap.size W2 w' → w'.cell? ⟨W.heap.size, 0, none⟩ = some (.slice A n c)) := Lib.hid (fun w' hb => (hb.cell (by show W.heap.size < _; omega)).trans hbox1)
  have HY : Hid (∀ w', Below W2.heap.size W2 w' → w'.cell? ⟨W.heap.size + 1, 0, none⟩ = some (.slice B m c2)) := Lib.hid (fun w' hb => (hb.cell (by show W.heap.size + 1 < _; omega)).trans hbox2)
  have HRW : Hid (∀ w', Below W2.heap.size W2 w' → Recs 4 w' A n J) := Lib.hid (fun w' hb => h.2.2.2.keep (HBW.out w' hb))
  have HPW : Hid (∀ w', Below W2.heap.size W2 w' → ArgK 2 w' B m c2 F) := Lib.hid (fun w' hb => hf.below (HBW.out w' hb))
  have HOW : Hid (∀ w', Below W2.heap.size W2 w' → ArgI w' C q c3 f) := Lib.hid (fun w' hb => ho.below (HBW.out w' hb))
  have Hn := Lib.hid hnm
  have Hm := Lib.hid hmm
  have Hq := Lib.hid hqm
  have HS2 := Lib.hid hs2
  have HAl : Hid (0 < n → ∀ b o, A = some ⟨b, o, none⟩ → b < W.heap.size) := Lib.hid (fun hn b o e => by
    obtain ⟨b', o', e', hc⟩ := h.2.2.2 hn
    rw [e] at e'
    injection e' with e'
    injection e' with e1
    have := World.block_lt_of_cell? _ _ (hc 0 hn 0 (by omega))
    simp only at this
    omega)
  clear h hf ho hnm hmm hqm hb0 hbox1 hbox2 hs1 hs2 hW2
  show Calls _ _ _ _ _
  go_enter Try.func12, Try.ntmps12
  have hbx := HX.out W2 (Below.refl _ _)
  rw [HW2.out] at hbx
  go_wp2_with fail
  rw [← HW2.out] at hbx ⊢
  clear hbx
  refine (of_any A n c J W2 (HRW.out W2 (Below.refl _ _)) Hn.out).mono ?_
  rintro e w3 ⟨x, rfl, hx, hb3⟩
  obtain ⟨Ax, cx, rfl, -, hRx, -⟩ := hx.form
  have HXx := Lib.hid hRx
  have HB3 := Lib.hid hb3
  have Hm10 := Lib.hid (show min n 10 ≤ maxLen by have := Hn.out; omega)
  have Hm18 := Lib.hid (show min m 18 ≤ maxLen by have := Hm.out; omega)
  have HMin := Lib.hid (okJ_min n J)
  clear hx hRx hb3
  go_wp2_with fail
  refine (leastC_any Ax none (min n 10) cx 0 0 J F w3 HXx.out Recs.zero Hm10.out (Nat.zero_le _)).mono ?_
  rintro e w4 ⟨v1, x1, e1, rfl, hl1, hb4⟩
  have HL1 := Lib.hid hl1
  have HB4 := Lib.hid (HB3.out.trans (hb4.mono HB3.out.size))
  have Hs34 := Lib.hid (show W2.heap.size ≤ w3.heap.size from HB3.out.size)
  clear hl1 hb4
  go_wp2_with fail
  have HB4d : Hid (Below W2.heap.size W2 w4.drew) := Lib.hid (HB4.out.trans ((Dn.refl _).drew.below _))
  have hS0 : w4.drew.cell? ⟨W.heap.size, 0, none⟩ = some (.slice A n c) ∧ w4.drew.cell? ⟨W.heap.size + 1, 0, none⟩ = some (.slice B m c2) := ⟨HX.out _ HB4d.out, HY.out _ HB4d.out⟩
  refine wp_region_held (S := fun w' => w'.cell? ⟨W.heap.size, 0, none⟩ = some (.slice A n c) ∧ w'.cell? ⟨W.heap.size + 1, 0, none⟩ = some (.slice B m c2)) (by kernel_rfl) ?_
  refine wpAnyH_take (i := 0) (v := .slice A n c) rfl (by kernel_rfl) (by kernel_rfl) (by kernel_rfl) (fun _ _ _ h => h) (Or.inl ⟨by rfl, fun w hS => by have hq := hS.1; go_simp⟩) hS0 ?_
  refine wpAnyH_take (i := 2) (v := .slice B m c2) rfl (by kernel_rfl) (by kernel_rfl) (by kernel_rfl) (fun _ _ _ h => h) (Or.inl ⟨by rfl, fun w hS => by have hq := hS.2; go_simp⟩) hS0 ?_
  refine wpAnyH_all (rs := [1]) (by kernel_rfl) (by simp) (fun i hi => ?_)
  obtain rfl : i = 1 := by simpa using hi
  refine wpOp_ofO (by rfl) (by rfl) ?_
  go_simp
  go_at_call 18
  refine (of_any A n c J w4.drew (HRW.out _ HB4d.out) Hn.out).mono ?_
  rintro e w5 ⟨x, rfl, hx, hb5⟩
  obtain ⟨Ay, cy, rfl, -, hRy, -⟩ := hx.form
  have HYy := Lib.hid hRy
  have HB5 := Lib.hid (HB4d.out.trans (hb5.mono HB4d.out.size))
  have HC5 := Lib.hid (((Dn.refl w4).drew.below w4.heap.size).trans (hb5.mono (Nat.le_refl _)))
  clear hx hRy hb5
  have hS5 : w5.cell? ⟨W.heap.size, 0, none⟩ = some (.slice A n c) ∧ w5.cell? ⟨W.heap.size + 1, 0, none⟩ = some (.slice B m c2) := ⟨HX.out _ HB5.out, HY.out _ HB5.out⟩
  refine ⟨hS5, ?_⟩
  refine wpAnyH_all (rs := [3]) (by kernel_rfl) (by simp) (fun i hi => ?_)
  obtain rfl : i = 3 := by simpa using hi
  refine wpOp_ofO (by rfl) (by rfl) ?_
  go_simp
  go_at_call 30
  refine (pairs_any B m c2 F w5 (HPW.out _ HB5.out)).mono ?_
  rintro e w6 ⟨y, rfl, hy, hb6⟩
  obtain ⟨By, cby, rfl, -, hRb, -⟩ := hy.form
  have HBy := Lib.hid hRb
  have HYy6 := Lib.hid (HYy.out.keep hb6)
  have HB6 := Lib.hid (HB5.out.trans (hb6.mono HB5.out.size))
  have HC6 := Lib.hid (HC5.out.trans (hb6.mono HC5.out.size))
  clear hy hRb hb6 hS5
  have hS6 : w6.cell? ⟨W.heap.size, 0, none⟩ = some (.slice A n c) ∧ w6.cell? ⟨W.heap.size + 1, 0, none⟩ = some (.slice B m c2) := ⟨HX.out _ HB6.out, HY.out _ HB6.out⟩
  refine ⟨hS6, ?_⟩
  refine wpAnyH_all (rs := [4]) (by kernel_rfl) (by simp) (fun i hi => ?_)
  obtain rfl : i = 4 := by simpa using hi
  refine wpOp_ofO (by rfl) (by rfl) ?_
  go_simp
  go_at_call 29
  refine (leastC_any Ay By (min n 10) cy (min m 18) cby J F w6 HYy6.out HBy.out Hm10.out Hm18.out).mono ?_
  rintro e w7 ⟨v2, x2, e2, rfl, hl2, hb7⟩
  have HL2 := Lib.hid hl2
  have HB7 := Lib.hid (HB6.out.trans (hb7.mono HB6.out.size))
  have HC7 := Lib.hid (HC6.out.trans (hb7.mono HC6.out.size))
  clear hl2 hb7 hS6
  have hS7 : w7.cell? ⟨W.heap.size, 0, none⟩ = some (.slice A n c) ∧ w7.cell? ⟨W.heap.size + 1, 0, none⟩ = some (.slice B m c2) := ⟨HX.out _ HB7.out, HY.out _ HB7.out⟩
  refine ⟨hS7, ?_⟩
  refine wpAnyH_take (i := 5) (v := .tuple #[v2, .int .i64 x2, .int .i64 e2]) rfl (by kernel_rfl) (by kernel_rfl) (by kernel_rfl) (fun _ _ _ h => h) (Or.inl ⟨by rfl, fun w _ => by go_simp⟩) hS7 ?_
  refine wpAnyH_take (i := 6) (v := v2) rfl (by kernel_rfl) (by kernel_rfl) (by kernel_rfl) (fun _ _ _ h => h) (Or.inl ⟨by rfl, fun w _ => by go_simp⟩) hS7 ?_
  refine wpAnyH_take (i := 7) (v := .int .i64 x2) rfl (by kernel_rfl) (by kernel_rfl) (by kernel_rfl) (fun _ _ _ h => h) (Or.inl ⟨by rfl, fun w _ => by go_simp⟩) hS7 ?_
  refine wpAnyH_take (i := 8) (v := .int .i64 e2) rfl (by kernel_rfl) (by kernel_rfl) (by kernel_rfl) (fun _ _ _ h => h) (Or.inl ⟨by rfl, fun w _ => by go_simp⟩) hS7 ?_
  refine wpAnyH_take (i := 9) (v := v2) rfl (by kernel_rfl) (by kernel_rfl) (by kernel_rfl) (fun _ _ _ h => h) (Or.inl ⟨by rfl, fun w _ => by go_simp⟩) hS7 ?_
  refine wpAnyH_take (i := 10) (v := .int .i64 x2) rfl (by kernel_rfl) (by kernel_rfl) (by kernel_rfl) (fun _ _ _ h => h) (Or.inl ⟨by rfl, fun w _ => by go_simp⟩) hS7 ?_
  refine wpAnyH_take (i := 11) (v := .int .i64 e2) rfl (by kernel_rfl) (by kernel_rfl) (by kernel_rfl) (fun _ _ _ h => h) (Or.inl ⟨by rfl, fun w _ => by go_simp⟩) hS7 ?_
  refine wpAnyH_done (by kernel_rfl) ?_ _
  clear hS0 hS7
  cases hok : okJ n J with
  | false =>
    obtain rfl : e1 = 2 := by
      rcases HL1.out with ⟨-, h⟩ | ⟨h, -⟩ | ⟨h, -⟩ | ⟨h, -⟩
      · exact h
      all_goals (rw [HMin.out, hok] at h; cases h)
    obtain rfl : e2 = 2 := by
      rcases HL2.out with ⟨-, h⟩ | ⟨h, -⟩ | ⟨h, -⟩ | ⟨h, -⟩
      · exact h
      all_goals (rw [HMin.out, hok] at h; cases h)
    clear hok
    go_wp2_with fail
    refine (awake_any w7).use fun w8 hb8 => ?_
    have HB8 := Lib.hid (HB7.out.trans (hb8.mono HB7.out.size))
    clear hb8
    go_wp2
    go_ret
    exact ⟨rfl, HBW.out _ HB8.out⟩
  | true =>
    have HOk := Lib.hid hok
    obtain ⟨⟨hn80, hn81⟩, hJ⟩ := okJ_iff.1 hok
    have HJ := Lib.hid hJ
    have hmn : min n 10 = n := by omega
    rw [hmn] at HL1 HL2
    have HMn := Lib.hid hmn
    have hb00 : bfB n 0 F = true := rfl
    obtain ⟨rfl, hx1, g1, hO1, ho1, -, hd1⟩ : e1 = 0 ∧ x1 = dT n J (nF F 0) 0 ∧ ∃ g, OwnL w4 w3.heap.size v1 (lst n g) ∧ ordB n g n = true ∧ KeepsP 0 F n g ∧ IsDl n J (eoF J g n) x1 := by
      rcases HL1.out with ⟨h, -⟩ | ⟨-, h, -⟩ | ⟨-, -, h, -⟩ | ⟨-, -, h1, h2, h3⟩
      · rw [hok] at h; cases h
      · rw [hb00] at h; cases h
      · have h1 := (lsV_rng hok).2
        have h : lsV n J = 161 := h
        omega
      · exact ⟨h1, h2, h3⟩
    obtain ⟨A1, c1, rfl, -, hI1, -, hc1⟩ := hO1.form
    rw [lst_len] at hI1 hc1 ⊢
    have HI1 := Lib.hid ((hI1.congr (fun k hk => lst_getD _ _ _ hk)).keep HC7.out)
    have HC1 := Lib.hid hc1
    have HO1 := Lib.hid ho1
    have HD1 := Lib.hid hd1
    have HX1 := Lib.hid hx1
    have HLow : Hid (∀ g x, ordB n g n = true → IsDl n J (eoF J g n) x → x1 ≤ x) := Lib.hid (fun g x hg hx => by
      rw [hx1]
      exact least_lower (m := 0) (F := F) hok hb00 hg (fun k hk => absurd hk (by omega)) hx)
    clear hok hJ hmn hb00 hx1 hO1 ho1 hd1 hI1 hc1 HL1 HC5 HC6
    have hbx := HX.out w7 HB7.out
    go_wp2_with fail
    refine (refValid_any A n c J w7 (HRW.out w7 HB7.out) Hn.out).use fun w8 hb8 => ?_
    rw [HOk.out]
    have HB8 := Lib.hid (HB7.out.trans (hb8.mono HB7.out.size))
    have HC8 := Lib.hid (HC7.out.trans (hb8.mono HC7.out.size))
    have HI18 := Lib.hid (HI1.out.keep hb8)
    have H78 := Lib.hid (show Below w7.heap.size w7 w8 from hb8)
    clear hb8 hbx
    have hbx := HX.out w8 HB8.out
    obtain ⟨i1, hi1, hz01, hz11, hz21⟩ := info_parts infoInt
    go_wp2_with fail
    go_loopw [14, 58] (fun v i wx => ∃ k : Nat, k ≤ n ∧ i = .int .i64 k ∧ OwnL wx w8.heap.size v (lst k (fun j => (j : Int))) ∧ Below w8.heap.size w8 wx) (fun _ i _ => n - (intOf i).toNat)
    case atStart => exact ⟨0, Nat.zero_le _, rfl, OwnL.nil_ _ _, Below.refl _ _⟩
    case round =>
      obtain ⟨k, hk, rfl, hO, hE⟩ := hrel
      have HO := Lib.hid hO
      have HE := Lib.hid hE
      clear hE hO
      by_cases hlt : k < n
      · have hwl := HO.out
        unfold OwnL at hwl
        rw [lst_len] at hwl
        have HWL := Lib.hid hwl
        have hs0 : w8.heap.size ≤ wr.heap.size := HE.out.size
        clear hwl
        go_wp2_with (at_builtin; go_loud (refine wpList_append_own _ rfl _ _ 23 rfl w8.heap.size 3 i1 (.int .i64 0) 1 8 Try.underlying23 hi1 hz01 hz11 hz21 rfl (by decide) _ _ _ rfl (World.ownsRow.alloc HWL.out _) ⟨wr.heap.size, 0, none⟩ 1 1 [.int .i64 k] rfl rfl (news1 _ _ _) (one1 rfl) (by unfold maxLen; omega) (by omega) (by simp; omega) ?_))
        intro v' w5 hown hgrow _
        have HO5 := Lib.hid hown
        have HG5 := Lib.hid hgrow
        clear hown hgrow
        go_wp2
        go_roundw
        case rel =>
          refine ⟨k + 1, by omega, by go_num, ?_, ?_⟩
          · unfold OwnL
            rw [lst_len, lst_succ, List.map_append]
            exact HO5.out
          · refine (HE.out.alloc hs0 _).grown HG5.out (by simp; omega) ?_
            intro g hg
            exact (World.ownsRow.lt HWL.out g hg).1
        case measure => simp [intOf]; omega
      · have hkn : n = k := by omega
        subst hkn
        have HBr := Lib.hid (HB8.out.trans (HE.out.mono HB8.out.size))
        have hbx2 := HX.out wr HBr.out
        have HVA := Lib.hid (show W.heap.size < w8.heap.size by have := HB8.out.size; have := HS2.out; omega)
        have hlen : (lst n (fun j => (j : Int))).length = n := lst_len _ _
        clear hbx
        go_wp2_with fail
        refine (sortOwnR w8.heap.size W.heap.size n c u14 (lst n (fun j => (j : Int))) A J wr HO.out (fun h => by rw [h] at hlen; simp at hlen; omega) (by omega) (fun x hx => by
          unfold lst at hx
          obtain ⟨j, hj, e⟩ := List.mem_map.1 hx
          have := List.mem_range.1 hj
          omega) hbx2 HVA.out (HRW.out wr HBr.out) (fun h0 b o e => by have := HAl.out h0 b o e; have := HVA.out; omega) (by omega) (fun k hk => (HJ.out k hk).2.2.1)).mono ?_
        rintro e w9 ⟨rfl, F1, hO9, hP9, hS9, hG9⟩
        rw [hlen] at hO9 hP9 hS9
        have HE9 := Lib.hid (HE.out.grown hG9 HE.out.size (fun g hg => (World.ownsRow.lt HO.out g hg).1))
        have HB9 := Lib.hid (HB8.out.trans (HE9.out.mono HB8.out.size))
        have HP9 := Lib.hid hP9
        have HS9 := Lib.hid hS9
        obtain ⟨A9, c9, rfl, -, hI9, -, hc9⟩ := hO9.form
        rw [lst_len] at hI9 hc9 ⊢
        have HI9 := Lib.hid (hI9.congr (fun k hk => lst_getD _ _ _ hk))
        have HC9 := Lib.hid hc9
        have HI19 := Lib.hid (HI18.out.keep HE9.out)
        have H79 := Lib.hid (H78.out.trans (HE9.out.mono H78.out.size))
        clear hO9 hP9 hS9 hG9 hI9 hc9 hbx2 hlen
        have hbx := HX.out w9 HB9.out
        go_wp2_with fail
        refine (worstO_ok A A9 n c c9 W.heap.size J F1 w9 (HRW.out w9 HB9.out) HOk.out HI9.out HC9.out (ordB_perm HP9.out) hbx).mono ?_
        rintro e wA ⟨x, rfl, hx, hbA⟩
        have hxx : x = x1 := Int.le_antisymm (due_least HOk.out HP9.out HS9.out HO1.out hx HD1.out) (HLow.out _ _ (ordB_perm HP9.out) hx)
        subst hxx
        have HBA := Lib.hid (HB9.out.trans (hbA.mono HB9.out.size))
        have HI1A := Lib.hid (HI19.out.keep hbA)
        have H7A := Lib.hid (H79.out.trans (hbA.mono H79.out.size))
        clear hx hbA hbx
        have hbx := HX.out wA HBA.out
        go_wp2_with fail
        refine (worstO_ok A A1 n c c1 W.heap.size J g1 wA (HRW.out wA HBA.out) HOk.out HI1A.out HC1.out HO1.out hbx).mono ?_
        rintro e wB ⟨y, rfl, hy, hbB⟩
        obtain rfl := HD1.out.uniq hy
        have HBB := Lib.hid (HBA.out.trans (hbB.mono HBA.out.size))
        have H7B := Lib.hid (H7A.out.trans (hbB.mono H7A.out.size))
        clear hy hbB hbx
        have hnn := bne_f (a := x) rfl
        rcases HL2.out with ⟨h, -⟩ | ⟨-, -, rfl⟩ | ⟨-, -, -, rfl⟩ | ⟨-, hbf, rfl, hx2, g2, hO2, ho2, hk2, hd2⟩
        · exfalso
          rw [HOk.out] at h
          cases h
        · go_wp2_with fail
          refine (awake_any wB).use fun wC hbC => ?_
          have HBC := Lib.hid (HBB.out.trans (hbC.mono HBB.out.size))
          clear hbC
          go_wp2
          go_ret
          exact ⟨rfl, HBW.out _ HBC.out⟩
        · go_wp2_with fail
          refine (awake_any wB).use fun wC hbC => ?_
          have HBC := Lib.hid (HBB.out.trans (hbC.mono HBB.out.size))
          clear hbC
          go_wp2
          go_ret
          exact ⟨rfl, HBW.out _ HBC.out⟩
        · have hm16 := (bf_rng hbf).1
          have hmm : min m 18 = m := by omega
          rw [hmm] at hbf hk2 hx2
          have HBf := Lib.hid hbf
          have HK2 := Lib.hid ((kp_keeps hbf ho2).2 hk2)
          have hlt12 : decide (x2 < x) = false := decide_eq_false (by have := HLow.out _ _ ho2 hd2; omega)
          have HLow2 : Hid (∀ g z, ordB n g n = true → KeepsP m F n g → IsDl n J (eoF J g n) z → x2 ≤ z) := Lib.hid (fun g z hg hk hz => by
            rw [hx2]
            exact least_lower HOk.out hbf hg hk hz)
          obtain ⟨A2, c2', rfl, -, hI2, -, hc2⟩ := hO2.form
          rw [lst_len] at hI2 hc2
          simp only [lst_len]
          have HI2 := Lib.hid ((hI2.congr (fun k hk => lst_getD _ _ _ hk)).keep H7B.out)
          have HC2 := Lib.hid hc2
          have HO2 := Lib.hid ho2
          have HD2 := Lib.hid hd2
          have hmx : m ≤ maxLen := by unfold maxLen; omega
          clear hbf hx2 hO2 ho2 hk2 hd2 hI2 hc2 hmm HL2
          have hbx := HX.out wB HBB.out
          go_wp2_with fail
          refine (worstO_ok A A2 n c c2' W.heap.size J g2 wB (HRW.out wB HBB.out) HOk.out HI2.out HC2.out HO2.out hbx).mono ?_
          rintro e wC ⟨z, rfl, hz, hbC⟩
          obtain rfl := HD2.out.uniq hz
          have HBC := Lib.hid (HBB.out.trans (hbC.mono HBB.out.size))
          have HI2C := Lib.hid (HI2.out.keep hbC)
          clear hz hbC hbx
          have hby := HY.out wC HBC.out
          have hnn2 := bne_f (a := x2) rfl
          go_wp2_with fail
          refine (keepsO_any B A2 m c2 n c2' (W.heap.size + 1) F g2 wC (HPW.out wC HBC.out).2.2.2 hmx HI2C.out (by omega) hby).use fun wD hbD => ?_
          rw [HK2.out]
          have HBD := Lib.hid (HBC.out.trans (hbD.mono HBC.out.size))
          clear hbD hby
          go_wp2_with fail
          refine (list_any C q c3 f wD (HOW.out wD HBD.out)).mono ?_
          rintro e wE ⟨y, rfl, hy, hbE⟩
          obtain ⟨Cy, ccy, rfl, -, hIy, -, hcy⟩ := hy.form
          rw [lst_len] at hIy hcy ⊢
          have HIy := Lib.hid (hIy.congr (fun k hk => lst_getD _ _ _ hk))
          have HBE := Lib.hid (HBD.out.trans (hbE.mono HBD.out.size))
          have Hcy := Lib.hid hcy
          have Hq11 := Lib.hid (show min q 10 ≤ maxLen by have := Hq.out; omega)
          have HOM := Lib.hid (ordB_minO q f n hn81)
          clear hy hIy hbE hcy
          have hbx := HX.out wE HBE.out
          cases hor : ordB q f n with
          | false =>
            have HOr := Lib.hid hor
            clear hor
            go_wp2_with fail
            refine (worstO_bad A Cy n c (min q 10) ccy W.heap.size J f wE (HRW.out wE HBE.out) (by omega) HIy.out Hcy.out Hq11.out hbx (.inr (by rw [HOM.out, HOr.out]))).use fun wF hbF => ?_
            have HBF := Lib.hid (HBE.out.trans (hbF.mono HBE.out.size))
            clear hbF hbx
            go_wp2_with fail
            refine (awake_any wF).use fun wG hbG => ?_
            have HBG := Lib.hid (HBF.out.trans (hbG.mono HBF.out.size))
            clear hbG
            go_wp2
            go_ret
            exact ⟨rfl, HBW.out _ HBG.out⟩
          | true =>
            have HOr := Lib.hid hor
            have hqn : q = n := of_decide_eq_true (Bool.and_eq_true_iff.1 hor).1
            subst hqn
            have hmx2 : min q 10 = q := by omega
            rw [hmx2] at HIy Hcy ⊢
            clear hor hmx2 HOM Hq11
            go_wp2_with fail
            refine (worstO_ok A Cy q c ccy W.heap.size J f wE (HRW.out wE HBE.out) HOk.out HIy.out Hcy.out HOr.out hbx).mono ?_
            rintro e wF ⟨z, rfl, hz, hbF⟩
            have HZ := Lib.hid hz
            have HBF := Lib.hid (HBE.out.trans (hbF.mono HBE.out.size))
            clear hz hbF hbx
            have hby := HY.out wF HBF.out
            go_wp2_with fail
            refine (keepsO_any B C m c2 q c3 (W.heap.size + 1) F f wF (HPW.out wF HBF.out).2.2.2 hmx (HOW.out wF HBF.out).2.2.2 (by omega) hby).use fun wG hbG => ?_
            have HBG := Lib.hid (HBF.out.trans (hbG.mono HBF.out.size))
            clear hbG hby
            cases hkp : allB (kpP q f F) m with
            | false =>
              clear hkp
              go_wp2_with fail
              refine (awake_any wG).use fun wH hbH => ?_
              have HBH := Lib.hid (HBG.out.trans (hbH.mono HBG.out.size))
              clear hbH
              go_wp2
              go_ret
              exact ⟨rfl, HBW.out _ HBH.out⟩
            | true =>
              have hge : decide (x2 ≤ z) = true := decide_eq_true (HLow2.out f z HOr.out ((kp_keeps HBf.out HOr.out).1 hkp) HZ.out)
              clear hkp
              go_wp2_with fail
              refine (awake_any wG).use fun wH hbH => ?_
              have HBH := Lib.hid (HBG.out.trans (hbH.mono HBG.out.size))
              clear hbH
              go_wp2
              go_ret
              exact ⟨rfl, HBW.out _ HBH.out⟩
end Go.Proofs.Ytbgekacfimgkeaa
