/- Way. -/
import Derived.Test.YtclhamemlpbpiaaWc
import Derived.Test.YtclhamemlpbpiaaHv
import Derived.Deep.CutRange
import Derived.Deep.DeepCutAuto
namespace Go.Proofs.Ytclhamemlpbpiaa
open Go.RowKit

theorem boxW_row (w : World) (x : Value) (T : TypeId) : (w.alloc (.cells #[x] T)).rowIs w.heap.size T 1 (fun _ => x) :=
  World.rowIs_alloc w #[x] T (fun _ => x) (fun i hi => by
    have : i = 0 := by simpa using hi
    subst this
    rfl)
theorem ownOne (w : World) (base : Nat) (x : Int) (hb : base ≤ w.heap.size) : OwnL (w.alloc (.cells #[.int .i64 x] 3)) base (.slice (some ⟨w.heap.size, 0, none⟩) 1 1) [x] :=
  ⟨rfl, .inr ⟨w.heap.size, 1, #[.int .i64 x], rfl, hb, heap_alloc_new w _, Nat.le_refl _, by unfold maxLen; omega, rfl, rfl⟩⟩
theorem OwnL.raise {w : World} {base base' : Nat} {v : Value} {xs : List Int} (h : OwnL w base v xs) (hb : ∀ g, v.ownBlock = some g → base' ≤ g) : OwnL w base' v xs := by
  refine ⟨h.1, ?_⟩
  rcases h.2 with hn | ⟨g, cap, cur, rfl, hg, r⟩
  · exact .inl hn
  · exact .inr ⟨g, cap, cur, rfl, hb g rfl, r⟩
theorem infoB (w : World) (x : Int) (ty : TypeId) : (w.alloc (.cells #[.int .i64 x] ty)).cell? ⟨w.heap.size, 0, none⟩ = some (.int .i64 x) := by simp [World.cell?_alloc_at]
set_option maxHeartbeats 8000000 in
set_option maxRecDepth 1000000 in
theorem Way_ok (A : Option Addr) (m c n a b : Nat) (F : Nat → Nat → Int) (w : World) (h : Recs 3 w A m F) (hok : okM n m F = true) (ha : a < n) (hb : b < n) :
    Calls Try.prog 11 #[.agg #[.int .i64 n, .slice A m c], .int .i64 a, .int .i64 b] w fun e w' => ((dsT n m F (8 * a + b) = 400 ∧ e = .returned (.tuple #[.slice none 0 0, .int .i64 4])) ∨
      (dsT n m F (8 * a + b) < 400 ∧ ∃ v L, e = .returned (.tuple #[v, .int .i64 0]) ∧ wyF n (stT n m F) (dsT n m F) b (dsT n m F (8 * a + b)).toNat [(a : Int)] a none = some L ∧ OwnL w' w.heap.size v L)) ∧ Below w.heap.size w w' := by
  obtain ⟨⟨-, hn8⟩, hm16, hrd⟩ := okM_iff.1 hok
  have hn8 : n ≤ 8 := by omega
  have hMt := dsT_met hok
  have hSt := stT_met hok
  have hBd := dsT_bd hok
  have hBs := stT_bd (n := n) (m := m) (F := F) (fun k hk => by have := hrd k hk; omega)
  have HSome := Lib.hid (fun hlt => wyF_good hok hb (dsT n m F (8 * a + b)).toNat a [(a : Int)] none (PayG.start ha) hlt (by have := hMt.nn (8 * a + b); omega))
  have HGrow := Lib.hid (fun lo mB bB sB fB gB eB d1 d2 d3 d4 d5 d6 => grow_any lo mB bB sB fB gB eB n m c A b (stT n m F) (dsT n m F) hb hn8 hBs hBd (fun x y hx hy hxy => by have := hSt.off x y hx hy hxy; omega) (fun x y hx hy hxy => by have := hMt.off x y hx hy hxy; omega) d1 d2 d3 d4 d5 d6 (dsT n m F (8 * a + b)).toNat)
  have hB0 := MapB.new w n (.slice A m c)
  have hb0 := (Below.refl w.heap.size w).alloc (Nat.le_refl _) (.cells #[.int .i64 n, .slice A m c] 31)
  have hz0 : (w.alloc (.cells #[.int .i64 n, .slice A m c] 31)).heap.size = w.heap.size + 1 := by simp
  obtain ⟨W1, hW1⟩ : ∃ W1, W1 = w.alloc (.cells #[.int .i64 n, .slice A m c] 31) := ⟨_, rfl⟩
  rw [← hW1] at hB0 hb0 hz0
  have hb1 := (Below.refl W1.heap.size W1).alloc (Nat.le_refl _) (.cells #[.int .i64 (b : Int)] 3)
  have hc1 := infoB W1 b 3
  have hz1 : (W1.alloc (.cells #[.int .i64 (b : Int)] 3)).heap.size = W1.heap.size + 1 := by simp
  obtain ⟨W2, hW2⟩ : ∃ W2, W2 = W1.alloc (.cells #[.int .i64 (b : Int)] 3) := ⟨_, rfl⟩
  rw [← hW2] at hb1 hc1 hz1
  rw [hz0] at hb1 hc1 hz1
  have hB2 := hB0.below hb1 (by omega)
  have hb2 : Below w.heap.size w W2 := hb0.trans (hb1.mono (by omega))
  have HV := Lib.hid (fun w' (hb : Below W2.heap.size W2 w') => validM_any A m c n F w' (h.keep (hb2.trans (hb.mono hb2.size))) (by unfold maxLen; omega))
  have HDi := Lib.hid (fun w' (hb : Below W2.heap.size W2 w') => distances_any A m c n F w' (h.keep (hb2.trans (hb.mono hb2.size))) hm16 hn8 (fun k hk => ⟨(hrd k hk).1, (hrd k hk).2.1, (hrd k hk).2.2.1⟩) (fun k hk => by have := hrd k hk; omega))
  have HSt := Lib.hid (fun w' (hb : Below W2.heap.size W2 w') => steps_any A m c n F w' (h.keep (hb2.trans (hb.mono hb2.size))) hm16 hn8 (fun k hk => ⟨(hrd k hk).1, (hrd k hk).2.1, (hrd k hk).2.2.1⟩))
  have HI := Lib.hid (show inB n a = true from inB_t.2 ⟨by omega, by omega⟩)
  have HJ := Lib.hid (show inB n b = true from inB_t.2 ⟨by omega, by omega⟩)
  have HOk := Lib.hid hok
  have HMB : Hid (∀ w', Below W2.heap.size W2 w' → MapB w' w.heap.size n (.slice A m c) ∧ w'.cell? ⟨w.heap.size + 1, 0, none⟩ = some (.int .i64 (b : Int)) ∧ Below w.heap.size w w') := Lib.hid (fun w' hb => ⟨hB2.keep hb, (hb.cell (World.block_lt_of_cell? _ _ hc1)).trans hc1, hb2.trans (hb.mono hb2.size)⟩)
  have HWW : Hid ((w.alloc (.cells #[.int .i64 n, .slice A m c] 31)).alloc (.cells #[.int .i64 (b : Int)] 3) = W2) := Lib.hid (by rw [hW2, hW1])
  have Hz2 := Lib.hid (show W2.heap.size = w.heap.size + 2 by omega)
  have HDS : Hid (dS n (stT n m F) n = dsT n m F) := Lib.hid rfl
  have HTr := Lib.hid (hBd (8 * a + b))
  clear hB0 hb0 hz0 hW1 hW2 hb1 hc1 hz1 hB2 hb2 h hok hrd hMt hSt hBs hBd
  rw [HDS.out] at HDi
  generalize stT n m F = ST at *
  generalize dsT n m F = TT at *
  go_enter Try.func11, Try.ntmps11
  go_wp2_with fail
  rw [HWW.out]
  clear HWW
  refine (HV.out W2 (Below.refl _ _)).use fun w2 hb2 => ?_
  rw [HOk.out]
  have HB2 := Lib.hid hb2
  obtain ⟨q0, q1⟩ : w2.cell? ⟨w.heap.size, 0, none⟩ = some (.int .i64 n) ∧ w2.cell? ⟨w.heap.size, 1, none⟩ = some (.slice A m c) := ⟨(HMB.out w2 hb2).1.c0, (HMB.out w2 hb2).1.c1⟩
  clear hb2
  go_wp2_with fail
  refine (isStop_any A m c n a w2).use fun w3 hb3 => ?_
  rw [HI.out]
  have HB3 := Lib.hid (HB2.out.trans (hb3.mono HB2.out.size))
  clear hb3 q0 q1
  obtain ⟨q0, q1⟩ : w3.cell? ⟨w.heap.size, 0, none⟩ = some (.int .i64 n) ∧ w3.cell? ⟨w.heap.size, 1, none⟩ = some (.slice A m c) := ⟨(HMB.out w3 HB3.out).1.c0, (HMB.out w3 HB3.out).1.c1⟩
  have q2 := (HMB.out w3 HB3.out).2.1
  go_wp2_with fail
  refine (isStop_any A m c n b w3).use fun w4 hb4 => ?_
  rw [HJ.out]
  have HB4 := Lib.hid (HB3.out.trans (hb4.mono HB3.out.size))
  clear hb4 q0 q1 q2
  go_upto_region 3 with fail
  go_cut [8, 9] (fun s8 s9 wx => ∃ g8 g9 : Nat, s8 = .pointer (some ⟨g8, 0, none⟩) ∧ s9 = .pointer (some ⟨g9, 0, none⟩) ∧ W2.heap.size ≤ g8 ∧ W2.heap.size ≤ g9 ∧ g8 ≠ g9 ∧ TabI wx g8 ST ∧ TabI wx g9 TT ∧ Below W2.heap.size W2 wx)
  case first =>
    refine wp_region_held (S := fun w' => MapB w' w.heap.size n (.slice A m c)) (by kernel_rfl) ?_
    change wpAnyH _ _ _ _ _ _ _ _ w4.drew
    have HBu0 := Lib.hid (HB4.out.trans ((Dn.refl w4).drew.below _))
    generalize w4.drew = u0 at *
    have hS0 := (HMB.out u0 HBu0.out).1
    refine wpAnyH_take (i := 0) (v := .agg #[.int .i64 n, .slice A m c]) rfl (by kernel_rfl) (by kernel_rfl) (by kernel_rfl) (fun _ _ _ h => h) (Or.inl ⟨by rfl, fun w' hS => by have hq0 := hS.c0; have hq1 := hS.c1; go_simp⟩) hS0 ?_
    refine wpAnyH_take (i := 2) (v := .agg #[.int .i64 n, .slice A m c]) rfl (by kernel_rfl) (by kernel_rfl) (by kernel_rfl) (fun _ _ _ h => h) (Or.inl ⟨by rfl, fun w' hS => by have hq0 := hS.c0; have hq1 := hS.c1; go_simp⟩) hS0 ?_
    clear hS0
    refine wpAnyH_all (rs := [1, 4, 5]) (by kernel_rfl) (by simp) (fun i hi => ?_)
    rcases (show i = 1 ∨ i = 4 ∨ i = 5 by simpa using hi) with rfl | rfl | rfl
    · refine wpOp_ofW (by rfl) (by rfl) ?_
      go_simp
      refine (HSt.out u0 HBu0.out).mono ?_
      rintro e u1 ⟨rfl, hb⟩
      have HBu1 := Lib.hid (HBu0.out.trans (hb.mono HBu0.out.size))
      clear hb
      refine ⟨(HMB.out u1 HBu1.out).1, ?_⟩
      refine wpAnyH_all (rs := [3, 4, 5]) (by kernel_rfl) (by simp) (fun i hi => ?_)
      rcases (show i = 3 ∨ i = 4 ∨ i = 5 by simpa using hi) with rfl | rfl | rfl
      · refine wpOp_ofW (by rfl) (by rfl) ?_
        go_simp
        refine (HDi.out u1 HBu1.out).mono ?_
        rintro e u2 ⟨rfl, hb⟩
        have HBu2 := Lib.hid (HBu1.out.trans (hb.mono HBu1.out.size))
        clear hb
        refine ⟨(HMB.out u2 HBu2.out).1, ?_⟩
        refine wpAnyH_all (rs := [4, 5]) (by kernel_rfl) (by simp) (fun i hi => ?_)
        rcases (show i = 4 ∨ i = 5 by simpa using hi) with rfl | rfl
        · refine wpOp_ofW (by rfl) (by rfl) ?_
          go_simp
          obtain ⟨u3, hu3⟩ : ∃ u3, u3 = (u2.alloc (.cells #[.int .i64 0, .int .i64 0, .int .i64 0, .int .i64 0, .int .i64 0, .int .i64 0, .int .i64 0, .int .i64 0, .int .i64 0, .int .i64 0, .int .i64 0, .int .i64 0, .int .i64 0, .int .i64 0, .int .i64 0, .int .i64 0, .int .i64 0, .int .i64 0, .int .i64 0, .int .i64 0, .int .i64 0, .int .i64 0, .int .i64 0, .int .i64 0, .int .i64 0, .int .i64 0, .int .i64 0, .int .i64 0, .int .i64 0, .int .i64 0, .int .i64 0, .int .i64 0, .int .i64 0, .int .i64 0, .int .i64 0, .int .i64 0, .int .i64 0, .int .i64 0, .int .i64 0, .int .i64 0, .int .i64 0, .int .i64 0, .int .i64 0, .int .i64 0, .int .i64 0, .int .i64 0, .int .i64 0, .int .i64 0, .int .i64 0, .int .i64 0, .int .i64 0, .int .i64 0, .int .i64 0, .int .i64 0, .int .i64 0, .int .i64 0, .int .i64 0, .int .i64 0, .int .i64 0, .int .i64 0, .int .i64 0, .int .i64 0, .int .i64 0, .int .i64 0] 62)) := ⟨_, rfl⟩
          rw [← hu3]
          have hb : Below W2.heap.size W2 u3 := by rw [hu3]; exact HBu2.out.trans ((tab_below u2).mono HBu2.out.size)
          have hq : TabI u3 u2.heap.size (fun _ => 0) := by rw [hu3]; exact TabI.zero u2
          have HBu3 := Lib.hid hb
          have HY8u3 := Lib.hid hq
          have HLg3 := Lib.hid (show W2.heap.size ≤ u2.heap.size from HBu2.out.size)
          clear hb hq hu3
          refine ⟨(HMB.out u3 HBu3.out).1, ?_⟩
          refine wpAnyH_all (rs := [5]) (by kernel_rfl) (by simp) (fun i hi => ?_)
          obtain rfl : i = 5 := by simpa using hi
          refine wpOp_ofW (by rfl) (by rfl) ?_
          go_simp
          obtain ⟨u4, hu4⟩ : ∃ u4, u4 = (u3.alloc (.cells #[.int .i64 0, .int .i64 0, .int .i64 0, .int .i64 0, .int .i64 0, .int .i64 0, .int .i64 0, .int .i64 0, .int .i64 0, .int .i64 0, .int .i64 0, .int .i64 0, .int .i64 0, .int .i64 0, .int .i64 0, .int .i64 0, .int .i64 0, .int .i64 0, .int .i64 0, .int .i64 0, .int .i64 0, .int .i64 0, .int .i64 0, .int .i64 0, .int .i64 0, .int .i64 0, .int .i64 0, .int .i64 0, .int .i64 0, .int .i64 0, .int .i64 0, .int .i64 0, .int .i64 0, .int .i64 0, .int .i64 0, .int .i64 0, .int .i64 0, .int .i64 0, .int .i64 0, .int .i64 0, .int .i64 0, .int .i64 0, .int .i64 0, .int .i64 0, .int .i64 0, .int .i64 0, .int .i64 0, .int .i64 0, .int .i64 0, .int .i64 0, .int .i64 0, .int .i64 0, .int .i64 0, .int .i64 0, .int .i64 0, .int .i64 0, .int .i64 0, .int .i64 0, .int .i64 0, .int .i64 0, .int .i64 0, .int .i64 0, .int .i64 0, .int .i64 0] 62)) := ⟨_, rfl⟩
          rw [← hu4]
          have hb : Below W2.heap.size W2 u4 := by rw [hu4]; exact HBu3.out.trans ((tab_below u3).mono HBu3.out.size)
          have hq : TabI u4 u3.heap.size (fun _ => 0) := by rw [hu4]; exact TabI.zero u3
          have HBu4 := Lib.hid hb
          have HY8u4 := Lib.hid (show TabI u4 u2.heap.size (fun _ => 0) by rw [hu4]; exact HY8u3.out.keep (tab_below u3))
          have HNu4 := Lib.hid (show u2.heap.size ≠ u3.heap.size from by have := HY8u3.out.lt; omega)
          have HY9u4 := Lib.hid hq
          have HLg4 := Lib.hid (show W2.heap.size ≤ u3.heap.size from HBu3.out.size)
          clear hb hq hu4
          refine ⟨(HMB.out u4 HBu4.out).1, ?_⟩
          have hne : u2.heap.size ≠ u3.heap.size := by first | exact HNu4.out | exact fun e => HNu4.out e.symm
          refine wpAnyH_all (rs := [6]) (by kernel_rfl) (by simp) (fun i hi => ?_)
          obtain rfl : i = 6 := by simpa using hi
          refine wpOp_ofW (by rfl) (by rfl) ?_
          go_simp
          rw [run_storeTab _ _ _ ST HY8u4.out]
          simp only [Result.andThen_ok]
          rw [if_pos (tabL_len _), Oper.upon_skip]
          obtain ⟨v5_0, hv5_0⟩ : ∃ z, z = World.setCells u4 (u2.heap.size) 0 (tabL ST) := ⟨_, rfl⟩
          rw [← hv5_0]
          have HY8v5_0 := Lib.hid (show TabI v5_0 (u2.heap.size) ST by rw [hv5_0]; exact TabI.stored (T := ST) HY8u4.out)
          have HBv5_0 := Lib.hid (show Below W2.heap.size W2 v5_0 by rw [hv5_0]; exact below_setCells (tabL ST) 0 HLg3.out HBu4.out)
          have HY9v5_0 := Lib.hid (show TabI v5_0 (u3.heap.size) _ by rw [hv5_0]; exact World.rowIs.of_block HY9u4.out (setCells_other _ _ _ _ hne.symm 0))
          clear hv5_0
          refine ⟨(HMB.out v5_0 HBv5_0.out).1, ?_⟩
          refine wpAnyH_all (rs := [7]) (by kernel_rfl) (by simp) (fun i hi => ?_)
          obtain rfl : i = 7 := by simpa using hi
          refine wpOp_ofW (by rfl) (by rfl) ?_
          go_simp
          rw [run_storeTab _ _ _ TT HY9v5_0.out]
          simp only [Result.andThen_ok]
          rw [if_pos (tabL_len _), Oper.upon_skip]
          obtain ⟨v5_1, hv5_1⟩ : ∃ z, z = World.setCells v5_0 (u3.heap.size) 0 (tabL TT) := ⟨_, rfl⟩
          rw [← hv5_1]
          have HY9v5_1 := Lib.hid (show TabI v5_1 (u3.heap.size) TT by rw [hv5_1]; exact TabI.stored (T := TT) HY9v5_0.out)
          have HBv5_1 := Lib.hid (show Below W2.heap.size W2 v5_1 by rw [hv5_1]; exact below_setCells (tabL TT) 0 HLg4.out HBv5_0.out)
          have HY8v5_1 := Lib.hid (show TabI v5_1 (u2.heap.size) _ by rw [hv5_1]; exact World.rowIs.of_block HY8v5_0.out (setCells_other _ _ _ _ hne 0))
          clear hv5_1
          refine ⟨(HMB.out v5_1 HBv5_1.out).1, ?_⟩
          refine wpAnyH_done (by kernel_rfl) ?_ _
          go_wp2_with fail
          go_meet
          exact ⟨_, _, rfl, rfl, HLg3.out, HLg4.out, hne, HY8v5_1.out, HY9v5_1.out, HBv5_1.out⟩
        · refine wpOp_ofW (by rfl) (by rfl) ?_
          go_simp
          obtain ⟨u6, hu6⟩ : ∃ u6, u6 = (u2.alloc (.cells #[.int .i64 0, .int .i64 0, .int .i64 0, .int .i64 0, .int .i64 0, .int .i64 0, .int .i64 0, .int .i64 0, .int .i64 0, .int .i64 0, .int .i64 0, .int .i64 0, .int .i64 0, .int .i64 0, .int .i64 0, .int .i64 0, .int .i64 0, .int .i64 0, .int .i64 0, .int .i64 0, .int .i64 0, .int .i64 0, .int .i64 0, .int .i64 0, .int .i64 0, .int .i64 0, .int .i64 0, .int .i64 0, .int .i64 0, .int .i64 0, .int .i64 0, .int .i64 0, .int .i64 0, .int .i64 0, .int .i64 0, .int .i64 0, .int .i64 0, .int .i64 0, .int .i64 0, .int .i64 0, .int .i64 0, .int .i64 0, .int .i64 0, .int .i64 0, .int .i64 0, .int .i64 0, .int .i64 0, .int .i64 0, .int .i64 0, .int .i64 0, .int .i64 0, .int .i64 0, .int .i64 0, .int .i64 0, .int .i64 0, .int .i64 0, .int .i64 0, .int .i64 0, .int .i64 0, .int .i64 0, .int .i64 0, .int .i64 0, .int .i64 0, .int .i64 0] 62)) := ⟨_, rfl⟩
          rw [← hu6]
          have hb : Below W2.heap.size W2 u6 := by rw [hu6]; exact HBu2.out.trans ((tab_below u2).mono HBu2.out.size)
          have hq : TabI u6 u2.heap.size (fun _ => 0) := by rw [hu6]; exact TabI.zero u2
          have HBu6 := Lib.hid hb
          have HY9u6 := Lib.hid hq
          have HLg6 := Lib.hid (show W2.heap.size ≤ u2.heap.size from HBu2.out.size)
          clear hb hq hu6
          refine ⟨(HMB.out u6 HBu6.out).1, ?_⟩
          refine wpAnyH_all (rs := [4]) (by kernel_rfl) (by simp) (fun i hi => ?_)
          obtain rfl : i = 4 := by simpa using hi
          refine wpOp_ofW (by rfl) (by rfl) ?_
          go_simp
          obtain ⟨u7, hu7⟩ : ∃ u7, u7 = (u6.alloc (.cells #[.int .i64 0, .int .i64 0, .int .i64 0, .int .i64 0, .int .i64 0, .int .i64 0, .int .i64 0, .int .i64 0, .int .i64 0, .int .i64 0, .int .i64 0, .int .i64 0, .int .i64 0, .int .i64 0, .int .i64 0, .int .i64 0, .int .i64 0, .int .i64 0, .int .i64 0, .int .i64 0, .int .i64 0, .int .i64 0, .int .i64 0, .int .i64 0, .int .i64 0, .int .i64 0, .int .i64 0, .int .i64 0, .int .i64 0, .int .i64 0, .int .i64 0, .int .i64 0, .int .i64 0, .int .i64 0, .int .i64 0, .int .i64 0, .int .i64 0, .int .i64 0, .int .i64 0, .int .i64 0, .int .i64 0, .int .i64 0, .int .i64 0, .int .i64 0, .int .i64 0, .int .i64 0, .int .i64 0, .int .i64 0, .int .i64 0, .int .i64 0, .int .i64 0, .int .i64 0, .int .i64 0, .int .i64 0, .int .i64 0, .int .i64 0, .int .i64 0, .int .i64 0, .int .i64 0, .int .i64 0, .int .i64 0, .int .i64 0, .int .i64 0, .int .i64 0] 62)) := ⟨_, rfl⟩
          rw [← hu7]
          have hb : Below W2.heap.size W2 u7 := by rw [hu7]; exact HBu6.out.trans ((tab_below u6).mono HBu6.out.size)
          have hq : TabI u7 u6.heap.size (fun _ => 0) := by rw [hu7]; exact TabI.zero u6
          have HBu7 := Lib.hid hb
          have HY9u7 := Lib.hid (show TabI u7 u2.heap.size (fun _ => 0) by rw [hu7]; exact HY9u6.out.keep (tab_below u6))
          have HNu7 := Lib.hid (show u2.heap.size ≠ u6.heap.size from by have := HY9u6.out.lt; omega)
          have HY8u7 := Lib.hid hq
          have HLg7 := Lib.hid (show W2.heap.size ≤ u6.heap.size from HBu6.out.size)
          clear hb hq hu7
          refine ⟨(HMB.out u7 HBu7.out).1, ?_⟩
          have hne : u6.heap.size ≠ u2.heap.size := by first | exact HNu7.out | exact fun e => HNu7.out e.symm
          refine wpAnyH_all (rs := [6]) (by kernel_rfl) (by simp) (fun i hi => ?_)
          obtain rfl : i = 6 := by simpa using hi
          refine wpOp_ofW (by rfl) (by rfl) ?_
          go_simp
          rw [run_storeTab _ _ _ ST HY8u7.out]
          simp only [Result.andThen_ok]
          rw [if_pos (tabL_len _), Oper.upon_skip]
          obtain ⟨v8_0, hv8_0⟩ : ∃ z, z = World.setCells u7 (u6.heap.size) 0 (tabL ST) := ⟨_, rfl⟩
          rw [← hv8_0]
          have HY8v8_0 := Lib.hid (show TabI v8_0 (u6.heap.size) ST by rw [hv8_0]; exact TabI.stored (T := ST) HY8u7.out)
          have HBv8_0 := Lib.hid (show Below W2.heap.size W2 v8_0 by rw [hv8_0]; exact below_setCells (tabL ST) 0 HLg7.out HBu7.out)
          have HY9v8_0 := Lib.hid (show TabI v8_0 (u2.heap.size) _ by rw [hv8_0]; exact World.rowIs.of_block HY9u7.out (setCells_other _ _ _ _ hne.symm 0))
          clear hv8_0
          refine ⟨(HMB.out v8_0 HBv8_0.out).1, ?_⟩
          refine wpAnyH_all (rs := [7]) (by kernel_rfl) (by simp) (fun i hi => ?_)
          obtain rfl : i = 7 := by simpa using hi
          refine wpOp_ofW (by rfl) (by rfl) ?_
          go_simp
          rw [run_storeTab _ _ _ TT HY9v8_0.out]
          simp only [Result.andThen_ok]
          rw [if_pos (tabL_len _), Oper.upon_skip]
          obtain ⟨v8_1, hv8_1⟩ : ∃ z, z = World.setCells v8_0 (u2.heap.size) 0 (tabL TT) := ⟨_, rfl⟩
          rw [← hv8_1]
          have HY9v8_1 := Lib.hid (show TabI v8_1 (u2.heap.size) TT by rw [hv8_1]; exact TabI.stored (T := TT) HY9v8_0.out)
          have HBv8_1 := Lib.hid (show Below W2.heap.size W2 v8_1 by rw [hv8_1]; exact below_setCells (tabL TT) 0 HLg6.out HBv8_0.out)
          have HY8v8_1 := Lib.hid (show TabI v8_1 (u6.heap.size) _ by rw [hv8_1]; exact World.rowIs.of_block HY8v8_0.out (setCells_other _ _ _ _ hne 0))
          clear hv8_1
          refine ⟨(HMB.out v8_1 HBv8_1.out).1, ?_⟩
          refine wpAnyH_done (by kernel_rfl) ?_ _
          go_wp2_with fail
          go_meet
          exact ⟨_, _, rfl, rfl, HLg7.out, HLg6.out, hne, HY8v8_1.out, HY9v8_1.out, HBv8_1.out⟩
      · refine wpOp_ofW (by rfl) (by rfl) ?_
        go_simp
        obtain ⟨u9, hu9⟩ : ∃ u9, u9 = (u1.alloc (.cells #[.int .i64 0, .int .i64 0, .int .i64 0, .int .i64 0, .int .i64 0, .int .i64 0, .int .i64 0, .int .i64 0, .int .i64 0, .int .i64 0, .int .i64 0, .int .i64 0, .int .i64 0, .int .i64 0, .int .i64 0, .int .i64 0, .int .i64 0, .int .i64 0, .int .i64 0, .int .i64 0, .int .i64 0, .int .i64 0, .int .i64 0, .int .i64 0, .int .i64 0, .int .i64 0, .int .i64 0, .int .i64 0, .int .i64 0, .int .i64 0, .int .i64 0, .int .i64 0, .int .i64 0, .int .i64 0, .int .i64 0, .int .i64 0, .int .i64 0, .int .i64 0, .int .i64 0, .int .i64 0, .int .i64 0, .int .i64 0, .int .i64 0, .int .i64 0, .int .i64 0, .int .i64 0, .int .i64 0, .int .i64 0, .int .i64 0, .int .i64 0, .int .i64 0, .int .i64 0, .int .i64 0, .int .i64 0, .int .i64 0, .int .i64 0, .int .i64 0, .int .i64 0, .int .i64 0, .int .i64 0, .int .i64 0, .int .i64 0, .int .i64 0, .int .i64 0] 62)) := ⟨_, rfl⟩
        rw [← hu9]
        have hb : Below W2.heap.size W2 u9 := by rw [hu9]; exact HBu1.out.trans ((tab_below u1).mono HBu1.out.size)
        have hq : TabI u9 u1.heap.size (fun _ => 0) := by rw [hu9]; exact TabI.zero u1
        have HBu9 := Lib.hid hb
        have HY8u9 := Lib.hid hq
        have HLg9 := Lib.hid (show W2.heap.size ≤ u1.heap.size from HBu1.out.size)
        clear hb hq hu9
        refine ⟨(HMB.out u9 HBu9.out).1, ?_⟩
        refine wpAnyH_all (rs := [3, 5]) (by kernel_rfl) (by simp) (fun i hi => ?_)
        rcases (show i = 3 ∨ i = 5 by simpa using hi) with rfl | rfl
        · refine wpOp_ofW (by rfl) (by rfl) ?_
          go_simp
          refine (HDi.out u9 HBu9.out).mono ?_
          rintro e u10 ⟨rfl, hb⟩
          have HBu10 := Lib.hid (HBu9.out.trans (hb.mono HBu9.out.size))
          have HY8u10 := Lib.hid (HY8u9.out.keep hb)
          clear hb
          refine ⟨(HMB.out u10 HBu10.out).1, ?_⟩
          refine wpAnyH_all (rs := [5]) (by kernel_rfl) (by simp) (fun i hi => ?_)
          obtain rfl : i = 5 := by simpa using hi
          refine wpOp_ofW (by rfl) (by rfl) ?_
          go_simp
          obtain ⟨u11, hu11⟩ : ∃ u11, u11 = (u10.alloc (.cells #[.int .i64 0, .int .i64 0, .int .i64 0, .int .i64 0, .int .i64 0, .int .i64 0, .int .i64 0, .int .i64 0, .int .i64 0, .int .i64 0, .int .i64 0, .int .i64 0, .int .i64 0, .int .i64 0, .int .i64 0, .int .i64 0, .int .i64 0, .int .i64 0, .int .i64 0, .int .i64 0, .int .i64 0, .int .i64 0, .int .i64 0, .int .i64 0, .int .i64 0, .int .i64 0, .int .i64 0, .int .i64 0, .int .i64 0, .int .i64 0, .int .i64 0, .int .i64 0, .int .i64 0, .int .i64 0, .int .i64 0, .int .i64 0, .int .i64 0, .int .i64 0, .int .i64 0, .int .i64 0, .int .i64 0, .int .i64 0, .int .i64 0, .int .i64 0, .int .i64 0, .int .i64 0, .int .i64 0, .int .i64 0, .int .i64 0, .int .i64 0, .int .i64 0, .int .i64 0, .int .i64 0, .int .i64 0, .int .i64 0, .int .i64 0, .int .i64 0, .int .i64 0, .int .i64 0, .int .i64 0, .int .i64 0, .int .i64 0, .int .i64 0, .int .i64 0] 62)) := ⟨_, rfl⟩
          rw [← hu11]
          have hb : Below W2.heap.size W2 u11 := by rw [hu11]; exact HBu10.out.trans ((tab_below u10).mono HBu10.out.size)
          have hq : TabI u11 u10.heap.size (fun _ => 0) := by rw [hu11]; exact TabI.zero u10
          have HBu11 := Lib.hid hb
          have HY8u11 := Lib.hid (show TabI u11 u1.heap.size (fun _ => 0) by rw [hu11]; exact HY8u10.out.keep (tab_below u10))
          have HNu11 := Lib.hid (show u1.heap.size ≠ u10.heap.size from by have := HY8u10.out.lt; omega)
          have HY9u11 := Lib.hid hq
          have HLg11 := Lib.hid (show W2.heap.size ≤ u10.heap.size from HBu10.out.size)
          clear hb hq hu11
          refine ⟨(HMB.out u11 HBu11.out).1, ?_⟩
          have hne : u1.heap.size ≠ u10.heap.size := by first | exact HNu11.out | exact fun e => HNu11.out e.symm
          refine wpAnyH_all (rs := [6]) (by kernel_rfl) (by simp) (fun i hi => ?_)
          obtain rfl : i = 6 := by simpa using hi
          refine wpOp_ofW (by rfl) (by rfl) ?_
          go_simp
          rw [run_storeTab _ _ _ ST HY8u11.out]
          simp only [Result.andThen_ok]
          rw [if_pos (tabL_len _), Oper.upon_skip]
          obtain ⟨v12_0, hv12_0⟩ : ∃ z, z = World.setCells u11 (u1.heap.size) 0 (tabL ST) := ⟨_, rfl⟩
          rw [← hv12_0]
          have HY8v12_0 := Lib.hid (show TabI v12_0 (u1.heap.size) ST by rw [hv12_0]; exact TabI.stored (T := ST) HY8u11.out)
          have HBv12_0 := Lib.hid (show Below W2.heap.size W2 v12_0 by rw [hv12_0]; exact below_setCells (tabL ST) 0 HLg9.out HBu11.out)
          have HY9v12_0 := Lib.hid (show TabI v12_0 (u10.heap.size) _ by rw [hv12_0]; exact World.rowIs.of_block HY9u11.out (setCells_other _ _ _ _ hne.symm 0))
          clear hv12_0
          refine ⟨(HMB.out v12_0 HBv12_0.out).1, ?_⟩
          refine wpAnyH_all (rs := [7]) (by kernel_rfl) (by simp) (fun i hi => ?_)
          obtain rfl : i = 7 := by simpa using hi
          refine wpOp_ofW (by rfl) (by rfl) ?_
          go_simp
          rw [run_storeTab _ _ _ TT HY9v12_0.out]
          simp only [Result.andThen_ok]
          rw [if_pos (tabL_len _), Oper.upon_skip]
          obtain ⟨v12_1, hv12_1⟩ : ∃ z, z = World.setCells v12_0 (u10.heap.size) 0 (tabL TT) := ⟨_, rfl⟩
          rw [← hv12_1]
          have HY9v12_1 := Lib.hid (show TabI v12_1 (u10.heap.size) TT by rw [hv12_1]; exact TabI.stored (T := TT) HY9v12_0.out)
          have HBv12_1 := Lib.hid (show Below W2.heap.size W2 v12_1 by rw [hv12_1]; exact below_setCells (tabL TT) 0 HLg11.out HBv12_0.out)
          have HY8v12_1 := Lib.hid (show TabI v12_1 (u1.heap.size) _ by rw [hv12_1]; exact World.rowIs.of_block HY8v12_0.out (setCells_other _ _ _ _ hne 0))
          clear hv12_1
          refine ⟨(HMB.out v12_1 HBv12_1.out).1, ?_⟩
          refine wpAnyH_done (by kernel_rfl) ?_ _
          go_wp2_with fail
          go_meet
          exact ⟨_, _, rfl, rfl, HLg9.out, HLg11.out, hne, HY8v12_1.out, HY9v12_1.out, HBv12_1.out⟩
        · refine wpOp_ofW (by rfl) (by rfl) ?_
          go_simp
          obtain ⟨u13, hu13⟩ : ∃ u13, u13 = (u9.alloc (.cells #[.int .i64 0, .int .i64 0, .int .i64 0, .int .i64 0, .int .i64 0, .int .i64 0, .int .i64 0, .int .i64 0, .int .i64 0, .int .i64 0, .int .i64 0, .int .i64 0, .int .i64 0, .int .i64 0, .int .i64 0, .int .i64 0, .int .i64 0, .int .i64 0, .int .i64 0, .int .i64 0, .int .i64 0, .int .i64 0, .int .i64 0, .int .i64 0, .int .i64 0, .int .i64 0, .int .i64 0, .int .i64 0, .int .i64 0, .int .i64 0, .int .i64 0, .int .i64 0, .int .i64 0, .int .i64 0, .int .i64 0, .int .i64 0, .int .i64 0, .int .i64 0, .int .i64 0, .int .i64 0, .int .i64 0, .int .i64 0, .int .i64 0, .int .i64 0, .int .i64 0, .int .i64 0, .int .i64 0, .int .i64 0, .int .i64 0, .int .i64 0, .int .i64 0, .int .i64 0, .int .i64 0, .int .i64 0, .int .i64 0, .int .i64 0, .int .i64 0, .int .i64 0, .int .i64 0, .int .i64 0, .int .i64 0, .int .i64 0, .int .i64 0, .int .i64 0] 62)) := ⟨_, rfl⟩
          rw [← hu13]
          have hb : Below W2.heap.size W2 u13 := by rw [hu13]; exact HBu9.out.trans ((tab_below u9).mono HBu9.out.size)
          have hq : TabI u13 u9.heap.size (fun _ => 0) := by rw [hu13]; exact TabI.zero u9
          have HBu13 := Lib.hid hb
          have HY8u13 := Lib.hid (show TabI u13 u1.heap.size (fun _ => 0) by rw [hu13]; exact HY8u9.out.keep (tab_below u9))
          have HNu13 := Lib.hid (show u1.heap.size ≠ u9.heap.size from by have := HY8u9.out.lt; omega)
          have HY9u13 := Lib.hid hq
          have HLg13 := Lib.hid (show W2.heap.size ≤ u9.heap.size from HBu9.out.size)
          clear hb hq hu13
          refine ⟨(HMB.out u13 HBu13.out).1, ?_⟩
          refine wpAnyH_all (rs := [3]) (by kernel_rfl) (by simp) (fun i hi => ?_)
          obtain rfl : i = 3 := by simpa using hi
          refine wpOp_ofW (by rfl) (by rfl) ?_
          go_simp
          refine (HDi.out u13 HBu13.out).mono ?_
          rintro e u14 ⟨rfl, hb⟩
          have HBu14 := Lib.hid (HBu13.out.trans (hb.mono HBu13.out.size))
          have HY8u14 := Lib.hid (HY8u13.out.keep hb)
          have HY9u14 := Lib.hid (HY9u13.out.keep hb)
          clear hb
          refine ⟨(HMB.out u14 HBu14.out).1, ?_⟩
          have hne : u1.heap.size ≠ u9.heap.size := by first | exact HNu13.out | exact fun e => HNu13.out e.symm
          refine wpAnyH_all (rs := [6]) (by kernel_rfl) (by simp) (fun i hi => ?_)
          obtain rfl : i = 6 := by simpa using hi
          refine wpOp_ofW (by rfl) (by rfl) ?_
          go_simp
          rw [run_storeTab _ _ _ ST HY8u14.out]
          simp only [Result.andThen_ok]
          rw [if_pos (tabL_len _), Oper.upon_skip]
          obtain ⟨v15_0, hv15_0⟩ : ∃ z, z = World.setCells u14 (u1.heap.size) 0 (tabL ST) := ⟨_, rfl⟩
          rw [← hv15_0]
          have HY8v15_0 := Lib.hid (show TabI v15_0 (u1.heap.size) ST by rw [hv15_0]; exact TabI.stored (T := ST) HY8u14.out)
          have HBv15_0 := Lib.hid (show Below W2.heap.size W2 v15_0 by rw [hv15_0]; exact below_setCells (tabL ST) 0 HLg9.out HBu14.out)
          have HY9v15_0 := Lib.hid (show TabI v15_0 (u9.heap.size) _ by rw [hv15_0]; exact World.rowIs.of_block HY9u14.out (setCells_other _ _ _ _ hne.symm 0))
          clear hv15_0
          refine ⟨(HMB.out v15_0 HBv15_0.out).1, ?_⟩
          refine wpAnyH_all (rs := [7]) (by kernel_rfl) (by simp) (fun i hi => ?_)
          obtain rfl : i = 7 := by simpa using hi
          refine wpOp_ofW (by rfl) (by rfl) ?_
          go_simp
          rw [run_storeTab _ _ _ TT HY9v15_0.out]
          simp only [Result.andThen_ok]
          rw [if_pos (tabL_len _), Oper.upon_skip]
          obtain ⟨v15_1, hv15_1⟩ : ∃ z, z = World.setCells v15_0 (u9.heap.size) 0 (tabL TT) := ⟨_, rfl⟩
          rw [← hv15_1]
          have HY9v15_1 := Lib.hid (show TabI v15_1 (u9.heap.size) TT by rw [hv15_1]; exact TabI.stored (T := TT) HY9v15_0.out)
          have HBv15_1 := Lib.hid (show Below W2.heap.size W2 v15_1 by rw [hv15_1]; exact below_setCells (tabL TT) 0 HLg13.out HBv15_0.out)
          have HY8v15_1 := Lib.hid (show TabI v15_1 (u1.heap.size) _ by rw [hv15_1]; exact World.rowIs.of_block HY8v15_0.out (setCells_other _ _ _ _ hne 0))
          clear hv15_1
          refine ⟨(HMB.out v15_1 HBv15_1.out).1, ?_⟩
          refine wpAnyH_done (by kernel_rfl) ?_ _
          go_wp2_with fail
          go_meet
          exact ⟨_, _, rfl, rfl, HLg9.out, HLg13.out, hne, HY8v15_1.out, HY9v15_1.out, HBv15_1.out⟩
      · refine wpOp_ofW (by rfl) (by rfl) ?_
        go_simp
        obtain ⟨u16, hu16⟩ : ∃ u16, u16 = (u1.alloc (.cells #[.int .i64 0, .int .i64 0, .int .i64 0, .int .i64 0, .int .i64 0, .int .i64 0, .int .i64 0, .int .i64 0, .int .i64 0, .int .i64 0, .int .i64 0, .int .i64 0, .int .i64 0, .int .i64 0, .int .i64 0, .int .i64 0, .int .i64 0, .int .i64 0, .int .i64 0, .int .i64 0, .int .i64 0, .int .i64 0, .int .i64 0, .int .i64 0, .int .i64 0, .int .i64 0, .int .i64 0, .int .i64 0, .int .i64 0, .int .i64 0, .int .i64 0, .int .i64 0, .int .i64 0, .int .i64 0, .int .i64 0, .int .i64 0, .int .i64 0, .int .i64 0, .int .i64 0, .int .i64 0, .int .i64 0, .int .i64 0, .int .i64 0, .int .i64 0, .int .i64 0, .int .i64 0, .int .i64 0, .int .i64 0, .int .i64 0, .int .i64 0, .int .i64 0, .int .i64 0, .int .i64 0, .int .i64 0, .int .i64 0, .int .i64 0, .int .i64 0, .int .i64 0, .int .i64 0, .int .i64 0, .int .i64 0, .int .i64 0, .int .i64 0, .int .i64 0] 62)) := ⟨_, rfl⟩
        rw [← hu16]
        have hb : Below W2.heap.size W2 u16 := by rw [hu16]; exact HBu1.out.trans ((tab_below u1).mono HBu1.out.size)
        have hq : TabI u16 u1.heap.size (fun _ => 0) := by rw [hu16]; exact TabI.zero u1
        have HBu16 := Lib.hid hb
        have HY9u16 := Lib.hid hq
        have HLg16 := Lib.hid (show W2.heap.size ≤ u1.heap.size from HBu1.out.size)
        clear hb hq hu16
        refine ⟨(HMB.out u16 HBu16.out).1, ?_⟩
        refine wpAnyH_all (rs := [3, 4]) (by kernel_rfl) (by simp) (fun i hi => ?_)
        rcases (show i = 3 ∨ i = 4 by simpa using hi) with rfl | rfl
        · refine wpOp_ofW (by rfl) (by rfl) ?_
          go_simp
          refine (HDi.out u16 HBu16.out).mono ?_
          rintro e u17 ⟨rfl, hb⟩
          have HBu17 := Lib.hid (HBu16.out.trans (hb.mono HBu16.out.size))
          have HY9u17 := Lib.hid (HY9u16.out.keep hb)
          clear hb
          refine ⟨(HMB.out u17 HBu17.out).1, ?_⟩
          refine wpAnyH_all (rs := [4]) (by kernel_rfl) (by simp) (fun i hi => ?_)
          obtain rfl : i = 4 := by simpa using hi
          refine wpOp_ofW (by rfl) (by rfl) ?_
          go_simp
          obtain ⟨u18, hu18⟩ : ∃ u18, u18 = (u17.alloc (.cells #[.int .i64 0, .int .i64 0, .int .i64 0, .int .i64 0, .int .i64 0, .int .i64 0, .int .i64 0, .int .i64 0, .int .i64 0, .int .i64 0, .int .i64 0, .int .i64 0, .int .i64 0, .int .i64 0, .int .i64 0, .int .i64 0, .int .i64 0, .int .i64 0, .int .i64 0, .int .i64 0, .int .i64 0, .int .i64 0, .int .i64 0, .int .i64 0, .int .i64 0, .int .i64 0, .int .i64 0, .int .i64 0, .int .i64 0, .int .i64 0, .int .i64 0, .int .i64 0, .int .i64 0, .int .i64 0, .int .i64 0, .int .i64 0, .int .i64 0, .int .i64 0, .int .i64 0, .int .i64 0, .int .i64 0, .int .i64 0, .int .i64 0, .int .i64 0, .int .i64 0, .int .i64 0, .int .i64 0, .int .i64 0, .int .i64 0, .int .i64 0, .int .i64 0, .int .i64 0, .int .i64 0, .int .i64 0, .int .i64 0, .int .i64 0, .int .i64 0, .int .i64 0, .int .i64 0, .int .i64 0, .int .i64 0, .int .i64 0, .int .i64 0, .int .i64 0] 62)) := ⟨_, rfl⟩
          rw [← hu18]
          have hb : Below W2.heap.size W2 u18 := by rw [hu18]; exact HBu17.out.trans ((tab_below u17).mono HBu17.out.size)
          have hq : TabI u18 u17.heap.size (fun _ => 0) := by rw [hu18]; exact TabI.zero u17
          have HBu18 := Lib.hid hb
          have HY9u18 := Lib.hid (show TabI u18 u1.heap.size (fun _ => 0) by rw [hu18]; exact HY9u17.out.keep (tab_below u17))
          have HNu18 := Lib.hid (show u1.heap.size ≠ u17.heap.size from by have := HY9u17.out.lt; omega)
          have HY8u18 := Lib.hid hq
          have HLg18 := Lib.hid (show W2.heap.size ≤ u17.heap.size from HBu17.out.size)
          clear hb hq hu18
          refine ⟨(HMB.out u18 HBu18.out).1, ?_⟩
          have hne : u17.heap.size ≠ u1.heap.size := by first | exact HNu18.out | exact fun e => HNu18.out e.symm
          refine wpAnyH_all (rs := [6]) (by kernel_rfl) (by simp) (fun i hi => ?_)
          obtain rfl : i = 6 := by simpa using hi
          refine wpOp_ofW (by rfl) (by rfl) ?_
          go_simp
          rw [run_storeTab _ _ _ ST HY8u18.out]
          simp only [Result.andThen_ok]
          rw [if_pos (tabL_len _), Oper.upon_skip]
          obtain ⟨v19_0, hv19_0⟩ : ∃ z, z = World.setCells u18 (u17.heap.size) 0 (tabL ST) := ⟨_, rfl⟩
          rw [← hv19_0]
          have HY8v19_0 := Lib.hid (show TabI v19_0 (u17.heap.size) ST by rw [hv19_0]; exact TabI.stored (T := ST) HY8u18.out)
          have HBv19_0 := Lib.hid (show Below W2.heap.size W2 v19_0 by rw [hv19_0]; exact below_setCells (tabL ST) 0 HLg18.out HBu18.out)
          have HY9v19_0 := Lib.hid (show TabI v19_0 (u1.heap.size) _ by rw [hv19_0]; exact World.rowIs.of_block HY9u18.out (setCells_other _ _ _ _ hne.symm 0))
          clear hv19_0
          refine ⟨(HMB.out v19_0 HBv19_0.out).1, ?_⟩
          refine wpAnyH_all (rs := [7]) (by kernel_rfl) (by simp) (fun i hi => ?_)
          obtain rfl : i = 7 := by simpa using hi
          refine wpOp_ofW (by rfl) (by rfl) ?_
          go_simp
          rw [run_storeTab _ _ _ TT HY9v19_0.out]
          simp only [Result.andThen_ok]
          rw [if_pos (tabL_len _), Oper.upon_skip]
          obtain ⟨v19_1, hv19_1⟩ : ∃ z, z = World.setCells v19_0 (u1.heap.size) 0 (tabL TT) := ⟨_, rfl⟩
          rw [← hv19_1]
          have HY9v19_1 := Lib.hid (show TabI v19_1 (u1.heap.size) TT by rw [hv19_1]; exact TabI.stored (T := TT) HY9v19_0.out)
          have HBv19_1 := Lib.hid (show Below W2.heap.size W2 v19_1 by rw [hv19_1]; exact below_setCells (tabL TT) 0 HLg16.out HBv19_0.out)
          have HY8v19_1 := Lib.hid (show TabI v19_1 (u17.heap.size) _ by rw [hv19_1]; exact World.rowIs.of_block HY8v19_0.out (setCells_other _ _ _ _ hne 0))
          clear hv19_1
          refine ⟨(HMB.out v19_1 HBv19_1.out).1, ?_⟩
          refine wpAnyH_done (by kernel_rfl) ?_ _
          go_wp2_with fail
          go_meet
          exact ⟨_, _, rfl, rfl, HLg18.out, HLg16.out, hne, HY8v19_1.out, HY9v19_1.out, HBv19_1.out⟩
        · refine wpOp_ofW (by rfl) (by rfl) ?_
          go_simp
          obtain ⟨u20, hu20⟩ : ∃ u20, u20 = (u16.alloc (.cells #[.int .i64 0, .int .i64 0, .int .i64 0, .int .i64 0, .int .i64 0, .int .i64 0, .int .i64 0, .int .i64 0, .int .i64 0, .int .i64 0, .int .i64 0, .int .i64 0, .int .i64 0, .int .i64 0, .int .i64 0, .int .i64 0, .int .i64 0, .int .i64 0, .int .i64 0, .int .i64 0, .int .i64 0, .int .i64 0, .int .i64 0, .int .i64 0, .int .i64 0, .int .i64 0, .int .i64 0, .int .i64 0, .int .i64 0, .int .i64 0, .int .i64 0, .int .i64 0, .int .i64 0, .int .i64 0, .int .i64 0, .int .i64 0, .int .i64 0, .int .i64 0, .int .i64 0, .int .i64 0, .int .i64 0, .int .i64 0, .int .i64 0, .int .i64 0, .int .i64 0, .int .i64 0, .int .i64 0, .int .i64 0, .int .i64 0, .int .i64 0, .int .i64 0, .int .i64 0, .int .i64 0, .int .i64 0, .int .i64 0, .int .i64 0, .int .i64 0, .int .i64 0, .int .i64 0, .int .i64 0, .int .i64 0, .int .i64 0, .int .i64 0, .int .i64 0] 62)) := ⟨_, rfl⟩
          rw [← hu20]
          have hb : Below W2.heap.size W2 u20 := by rw [hu20]; exact HBu16.out.trans ((tab_below u16).mono HBu16.out.size)
          have hq : TabI u20 u16.heap.size (fun _ => 0) := by rw [hu20]; exact TabI.zero u16
          have HBu20 := Lib.hid hb
          have HY9u20 := Lib.hid (show TabI u20 u1.heap.size (fun _ => 0) by rw [hu20]; exact HY9u16.out.keep (tab_below u16))
          have HNu20 := Lib.hid (show u1.heap.size ≠ u16.heap.size from by have := HY9u16.out.lt; omega)
          have HY8u20 := Lib.hid hq
          have HLg20 := Lib.hid (show W2.heap.size ≤ u16.heap.size from HBu16.out.size)
          clear hb hq hu20
          refine ⟨(HMB.out u20 HBu20.out).1, ?_⟩
          refine wpAnyH_all (rs := [3]) (by kernel_rfl) (by simp) (fun i hi => ?_)
          obtain rfl : i = 3 := by simpa using hi
          refine wpOp_ofW (by rfl) (by rfl) ?_
          go_simp
          refine (HDi.out u20 HBu20.out).mono ?_
          rintro e u21 ⟨rfl, hb⟩
          have HBu21 := Lib.hid (HBu20.out.trans (hb.mono HBu20.out.size))
          have HY8u21 := Lib.hid (HY8u20.out.keep hb)
          have HY9u21 := Lib.hid (HY9u20.out.keep hb)
          clear hb
          refine ⟨(HMB.out u21 HBu21.out).1, ?_⟩
          have hne : u16.heap.size ≠ u1.heap.size := by first | exact HNu20.out | exact fun e => HNu20.out e.symm
          refine wpAnyH_all (rs := [6]) (by kernel_rfl) (by simp) (fun i hi => ?_)
          obtain rfl : i = 6 := by simpa using hi
          refine wpOp_ofW (by rfl) (by rfl) ?_
          go_simp
          rw [run_storeTab _ _ _ ST HY8u21.out]
          simp only [Result.andThen_ok]
          rw [if_pos (tabL_len _), Oper.upon_skip]
          obtain ⟨v22_0, hv22_0⟩ : ∃ z, z = World.setCells u21 (u16.heap.size) 0 (tabL ST) := ⟨_, rfl⟩
          rw [← hv22_0]
          have HY8v22_0 := Lib.hid (show TabI v22_0 (u16.heap.size) ST by rw [hv22_0]; exact TabI.stored (T := ST) HY8u21.out)
          have HBv22_0 := Lib.hid (show Below W2.heap.size W2 v22_0 by rw [hv22_0]; exact below_setCells (tabL ST) 0 HLg20.out HBu21.out)
          have HY9v22_0 := Lib.hid (show TabI v22_0 (u1.heap.size) _ by rw [hv22_0]; exact World.rowIs.of_block HY9u21.out (setCells_other _ _ _ _ hne.symm 0))
          clear hv22_0
          refine ⟨(HMB.out v22_0 HBv22_0.out).1, ?_⟩
          refine wpAnyH_all (rs := [7]) (by kernel_rfl) (by simp) (fun i hi => ?_)
          obtain rfl : i = 7 := by simpa using hi
          refine wpOp_ofW (by rfl) (by rfl) ?_
          go_simp
          rw [run_storeTab _ _ _ TT HY9v22_0.out]
          simp only [Result.andThen_ok]
          rw [if_pos (tabL_len _), Oper.upon_skip]
          obtain ⟨v22_1, hv22_1⟩ : ∃ z, z = World.setCells v22_0 (u1.heap.size) 0 (tabL TT) := ⟨_, rfl⟩
          rw [← hv22_1]
          have HY9v22_1 := Lib.hid (show TabI v22_1 (u1.heap.size) TT by rw [hv22_1]; exact TabI.stored (T := TT) HY9v22_0.out)
          have HBv22_1 := Lib.hid (show Below W2.heap.size W2 v22_1 by rw [hv22_1]; exact below_setCells (tabL TT) 0 HLg16.out HBv22_0.out)
          have HY8v22_1 := Lib.hid (show TabI v22_1 (u16.heap.size) _ by rw [hv22_1]; exact World.rowIs.of_block HY8v22_0.out (setCells_other _ _ _ _ hne 0))
          clear hv22_1
          refine ⟨(HMB.out v22_1 HBv22_1.out).1, ?_⟩
          refine wpAnyH_done (by kernel_rfl) ?_ _
          go_wp2_with fail
          go_meet
          exact ⟨_, _, rfl, rfl, HLg20.out, HLg16.out, hne, HY8v22_1.out, HY9v22_1.out, HBv22_1.out⟩
    · refine wpOp_ofW (by rfl) (by rfl) ?_
      go_simp
      obtain ⟨u23, hu23⟩ : ∃ u23, u23 = (u0.alloc (.cells #[.int .i64 0, .int .i64 0, .int .i64 0, .int .i64 0, .int .i64 0, .int .i64 0, .int .i64 0, .int .i64 0, .int .i64 0, .int .i64 0, .int .i64 0, .int .i64 0, .int .i64 0, .int .i64 0, .int .i64 0, .int .i64 0, .int .i64 0, .int .i64 0, .int .i64 0, .int .i64 0, .int .i64 0, .int .i64 0, .int .i64 0, .int .i64 0, .int .i64 0, .int .i64 0, .int .i64 0, .int .i64 0, .int .i64 0, .int .i64 0, .int .i64 0, .int .i64 0, .int .i64 0, .int .i64 0, .int .i64 0, .int .i64 0, .int .i64 0, .int .i64 0, .int .i64 0, .int .i64 0, .int .i64 0, .int .i64 0, .int .i64 0, .int .i64 0, .int .i64 0, .int .i64 0, .int .i64 0, .int .i64 0, .int .i64 0, .int .i64 0, .int .i64 0, .int .i64 0, .int .i64 0, .int .i64 0, .int .i64 0, .int .i64 0, .int .i64 0, .int .i64 0, .int .i64 0, .int .i64 0, .int .i64 0, .int .i64 0, .int .i64 0, .int .i64 0] 62)) := ⟨_, rfl⟩
      rw [← hu23]
      have hb : Below W2.heap.size W2 u23 := by rw [hu23]; exact HBu0.out.trans ((tab_below u0).mono HBu0.out.size)
      have hq : TabI u23 u0.heap.size (fun _ => 0) := by rw [hu23]; exact TabI.zero u0
      have HBu23 := Lib.hid hb
      have HY8u23 := Lib.hid hq
      have HLg23 := Lib.hid (show W2.heap.size ≤ u0.heap.size from HBu0.out.size)
      clear hb hq hu23
      refine ⟨(HMB.out u23 HBu23.out).1, ?_⟩
      refine wpAnyH_all (rs := [1, 5]) (by kernel_rfl) (by simp) (fun i hi => ?_)
      rcases (show i = 1 ∨ i = 5 by simpa using hi) with rfl | rfl
      · refine wpOp_ofW (by rfl) (by rfl) ?_
        go_simp
        refine (HSt.out u23 HBu23.out).mono ?_
        rintro e u24 ⟨rfl, hb⟩
        have HBu24 := Lib.hid (HBu23.out.trans (hb.mono HBu23.out.size))
        have HY8u24 := Lib.hid (HY8u23.out.keep hb)
        clear hb
        refine ⟨(HMB.out u24 HBu24.out).1, ?_⟩
        refine wpAnyH_all (rs := [3, 5]) (by kernel_rfl) (by simp) (fun i hi => ?_)
        rcases (show i = 3 ∨ i = 5 by simpa using hi) with rfl | rfl
        · refine wpOp_ofW (by rfl) (by rfl) ?_
          go_simp
          refine (HDi.out u24 HBu24.out).mono ?_
          rintro e u25 ⟨rfl, hb⟩
          have HBu25 := Lib.hid (HBu24.out.trans (hb.mono HBu24.out.size))
          have HY8u25 := Lib.hid (HY8u24.out.keep hb)
          clear hb
          refine ⟨(HMB.out u25 HBu25.out).1, ?_⟩
          refine wpAnyH_all (rs := [5]) (by kernel_rfl) (by simp) (fun i hi => ?_)
          obtain rfl : i = 5 := by simpa using hi
          refine wpOp_ofW (by rfl) (by rfl) ?_
          go_simp
          obtain ⟨u26, hu26⟩ : ∃ u26, u26 = (u25.alloc (.cells #[.int .i64 0, .int .i64 0, .int .i64 0, .int .i64 0, .int .i64 0, .int .i64 0, .int .i64 0, .int .i64 0, .int .i64 0, .int .i64 0, .int .i64 0, .int .i64 0, .int .i64 0, .int .i64 0, .int .i64 0, .int .i64 0, .int .i64 0, .int .i64 0, .int .i64 0, .int .i64 0, .int .i64 0, .int .i64 0, .int .i64 0, .int .i64 0, .int .i64 0, .int .i64 0, .int .i64 0, .int .i64 0, .int .i64 0, .int .i64 0, .int .i64 0, .int .i64 0, .int .i64 0, .int .i64 0, .int .i64 0, .int .i64 0, .int .i64 0, .int .i64 0, .int .i64 0, .int .i64 0, .int .i64 0, .int .i64 0, .int .i64 0, .int .i64 0, .int .i64 0, .int .i64 0, .int .i64 0, .int .i64 0, .int .i64 0, .int .i64 0, .int .i64 0, .int .i64 0, .int .i64 0, .int .i64 0, .int .i64 0, .int .i64 0, .int .i64 0, .int .i64 0, .int .i64 0, .int .i64 0, .int .i64 0, .int .i64 0, .int .i64 0, .int .i64 0] 62)) := ⟨_, rfl⟩
          rw [← hu26]
          have hb : Below W2.heap.size W2 u26 := by rw [hu26]; exact HBu25.out.trans ((tab_below u25).mono HBu25.out.size)
          have hq : TabI u26 u25.heap.size (fun _ => 0) := by rw [hu26]; exact TabI.zero u25
          have HBu26 := Lib.hid hb
          have HY8u26 := Lib.hid (show TabI u26 u0.heap.size (fun _ => 0) by rw [hu26]; exact HY8u25.out.keep (tab_below u25))
          have HNu26 := Lib.hid (show u0.heap.size ≠ u25.heap.size from by have := HY8u25.out.lt; omega)
          have HY9u26 := Lib.hid hq
          have HLg26 := Lib.hid (show W2.heap.size ≤ u25.heap.size from HBu25.out.size)
          clear hb hq hu26
          refine ⟨(HMB.out u26 HBu26.out).1, ?_⟩
          have hne : u0.heap.size ≠ u25.heap.size := by first | exact HNu26.out | exact fun e => HNu26.out e.symm
          refine wpAnyH_all (rs := [6]) (by kernel_rfl) (by simp) (fun i hi => ?_)
          obtain rfl : i = 6 := by simpa using hi
          refine wpOp_ofW (by rfl) (by rfl) ?_
          go_simp
          rw [run_storeTab _ _ _ ST HY8u26.out]
          simp only [Result.andThen_ok]
          rw [if_pos (tabL_len _), Oper.upon_skip]
          obtain ⟨v27_0, hv27_0⟩ : ∃ z, z = World.setCells u26 (u0.heap.size) 0 (tabL ST) := ⟨_, rfl⟩
          rw [← hv27_0]
          have HY8v27_0 := Lib.hid (show TabI v27_0 (u0.heap.size) ST by rw [hv27_0]; exact TabI.stored (T := ST) HY8u26.out)
          have HBv27_0 := Lib.hid (show Below W2.heap.size W2 v27_0 by rw [hv27_0]; exact below_setCells (tabL ST) 0 HLg23.out HBu26.out)
          have HY9v27_0 := Lib.hid (show TabI v27_0 (u25.heap.size) _ by rw [hv27_0]; exact World.rowIs.of_block HY9u26.out (setCells_other _ _ _ _ hne.symm 0))
          clear hv27_0
          refine ⟨(HMB.out v27_0 HBv27_0.out).1, ?_⟩
          refine wpAnyH_all (rs := [7]) (by kernel_rfl) (by simp) (fun i hi => ?_)
          obtain rfl : i = 7 := by simpa using hi
          refine wpOp_ofW (by rfl) (by rfl) ?_
          go_simp
          rw [run_storeTab _ _ _ TT HY9v27_0.out]
          simp only [Result.andThen_ok]
          rw [if_pos (tabL_len _), Oper.upon_skip]
          obtain ⟨v27_1, hv27_1⟩ : ∃ z, z = World.setCells v27_0 (u25.heap.size) 0 (tabL TT) := ⟨_, rfl⟩
          rw [← hv27_1]
          have HY9v27_1 := Lib.hid (show TabI v27_1 (u25.heap.size) TT by rw [hv27_1]; exact TabI.stored (T := TT) HY9v27_0.out)
          have HBv27_1 := Lib.hid (show Below W2.heap.size W2 v27_1 by rw [hv27_1]; exact below_setCells (tabL TT) 0 HLg26.out HBv27_0.out)
          have HY8v27_1 := Lib.hid (show TabI v27_1 (u0.heap.size) _ by rw [hv27_1]; exact World.rowIs.of_block HY8v27_0.out (setCells_other _ _ _ _ hne 0))
          clear hv27_1
          refine ⟨(HMB.out v27_1 HBv27_1.out).1, ?_⟩
          refine wpAnyH_done (by kernel_rfl) ?_ _
          go_wp2_with fail
          go_meet
          exact ⟨_, _, rfl, rfl, HLg23.out, HLg26.out, hne, HY8v27_1.out, HY9v27_1.out, HBv27_1.out⟩
        · refine wpOp_ofW (by rfl) (by rfl) ?_
          go_simp
          obtain ⟨u28, hu28⟩ : ∃ u28, u28 = (u24.alloc (.cells #[.int .i64 0, .int .i64 0, .int .i64 0, .int .i64 0, .int .i64 0, .int .i64 0, .int .i64 0, .int .i64 0, .int .i64 0, .int .i64 0, .int .i64 0, .int .i64 0, .int .i64 0, .int .i64 0, .int .i64 0, .int .i64 0, .int .i64 0, .int .i64 0, .int .i64 0, .int .i64 0, .int .i64 0, .int .i64 0, .int .i64 0, .int .i64 0, .int .i64 0, .int .i64 0, .int .i64 0, .int .i64 0, .int .i64 0, .int .i64 0, .int .i64 0, .int .i64 0, .int .i64 0, .int .i64 0, .int .i64 0, .int .i64 0, .int .i64 0, .int .i64 0, .int .i64 0, .int .i64 0, .int .i64 0, .int .i64 0, .int .i64 0, .int .i64 0, .int .i64 0, .int .i64 0, .int .i64 0, .int .i64 0, .int .i64 0, .int .i64 0, .int .i64 0, .int .i64 0, .int .i64 0, .int .i64 0, .int .i64 0, .int .i64 0, .int .i64 0, .int .i64 0, .int .i64 0, .int .i64 0, .int .i64 0, .int .i64 0, .int .i64 0, .int .i64 0] 62)) := ⟨_, rfl⟩
          rw [← hu28]
          have hb : Below W2.heap.size W2 u28 := by rw [hu28]; exact HBu24.out.trans ((tab_below u24).mono HBu24.out.size)
          have hq : TabI u28 u24.heap.size (fun _ => 0) := by rw [hu28]; exact TabI.zero u24
          have HBu28 := Lib.hid hb
          have HY8u28 := Lib.hid (show TabI u28 u0.heap.size (fun _ => 0) by rw [hu28]; exact HY8u24.out.keep (tab_below u24))
          have HNu28 := Lib.hid (show u0.heap.size ≠ u24.heap.size from by have := HY8u24.out.lt; omega)
          have HY9u28 := Lib.hid hq
          have HLg28 := Lib.hid (show W2.heap.size ≤ u24.heap.size from HBu24.out.size)
          clear hb hq hu28
          refine ⟨(HMB.out u28 HBu28.out).1, ?_⟩
          refine wpAnyH_all (rs := [3]) (by kernel_rfl) (by simp) (fun i hi => ?_)
          obtain rfl : i = 3 := by simpa using hi
          refine wpOp_ofW (by rfl) (by rfl) ?_
          go_simp
          refine (HDi.out u28 HBu28.out).mono ?_
          rintro e u29 ⟨rfl, hb⟩
          have HBu29 := Lib.hid (HBu28.out.trans (hb.mono HBu28.out.size))
          have HY8u29 := Lib.hid (HY8u28.out.keep hb)
          have HY9u29 := Lib.hid (HY9u28.out.keep hb)
          clear hb
          refine ⟨(HMB.out u29 HBu29.out).1, ?_⟩
          have hne : u0.heap.size ≠ u24.heap.size := by first | exact HNu28.out | exact fun e => HNu28.out e.symm
          refine wpAnyH_all (rs := [6]) (by kernel_rfl) (by simp) (fun i hi => ?_)
          obtain rfl : i = 6 := by simpa using hi
          refine wpOp_ofW (by rfl) (by rfl) ?_
          go_simp
          rw [run_storeTab _ _ _ ST HY8u29.out]
          simp only [Result.andThen_ok]
          rw [if_pos (tabL_len _), Oper.upon_skip]
          obtain ⟨v30_0, hv30_0⟩ : ∃ z, z = World.setCells u29 (u0.heap.size) 0 (tabL ST) := ⟨_, rfl⟩
          rw [← hv30_0]
          have HY8v30_0 := Lib.hid (show TabI v30_0 (u0.heap.size) ST by rw [hv30_0]; exact TabI.stored (T := ST) HY8u29.out)
          have HBv30_0 := Lib.hid (show Below W2.heap.size W2 v30_0 by rw [hv30_0]; exact below_setCells (tabL ST) 0 HLg23.out HBu29.out)
          have HY9v30_0 := Lib.hid (show TabI v30_0 (u24.heap.size) _ by rw [hv30_0]; exact World.rowIs.of_block HY9u29.out (setCells_other _ _ _ _ hne.symm 0))
          clear hv30_0
          refine ⟨(HMB.out v30_0 HBv30_0.out).1, ?_⟩
          refine wpAnyH_all (rs := [7]) (by kernel_rfl) (by simp) (fun i hi => ?_)
          obtain rfl : i = 7 := by simpa using hi
          refine wpOp_ofW (by rfl) (by rfl) ?_
          go_simp
          rw [run_storeTab _ _ _ TT HY9v30_0.out]
          simp only [Result.andThen_ok]
          rw [if_pos (tabL_len _), Oper.upon_skip]
          obtain ⟨v30_1, hv30_1⟩ : ∃ z, z = World.setCells v30_0 (u24.heap.size) 0 (tabL TT) := ⟨_, rfl⟩
          rw [← hv30_1]
          have HY9v30_1 := Lib.hid (show TabI v30_1 (u24.heap.size) TT by rw [hv30_1]; exact TabI.stored (T := TT) HY9v30_0.out)
          have HBv30_1 := Lib.hid (show Below W2.heap.size W2 v30_1 by rw [hv30_1]; exact below_setCells (tabL TT) 0 HLg28.out HBv30_0.out)
          have HY8v30_1 := Lib.hid (show TabI v30_1 (u0.heap.size) _ by rw [hv30_1]; exact World.rowIs.of_block HY8v30_0.out (setCells_other _ _ _ _ hne 0))
          clear hv30_1
          refine ⟨(HMB.out v30_1 HBv30_1.out).1, ?_⟩
          refine wpAnyH_done (by kernel_rfl) ?_ _
          go_wp2_with fail
          go_meet
          exact ⟨_, _, rfl, rfl, HLg23.out, HLg28.out, hne, HY8v30_1.out, HY9v30_1.out, HBv30_1.out⟩
      · refine wpOp_ofW (by rfl) (by rfl) ?_
        go_simp
        obtain ⟨u31, hu31⟩ : ∃ u31, u31 = (u23.alloc (.cells #[.int .i64 0, .int .i64 0, .int .i64 0, .int .i64 0, .int .i64 0, .int .i64 0, .int .i64 0, .int .i64 0, .int .i64 0, .int .i64 0, .int .i64 0, .int .i64 0, .int .i64 0, .int .i64 0, .int .i64 0, .int .i64 0, .int .i64 0, .int .i64 0, .int .i64 0, .int .i64 0, .int .i64 0, .int .i64 0, .int .i64 0, .int .i64 0, .int .i64 0, .int .i64 0, .int .i64 0, .int .i64 0, .int .i64 0, .int .i64 0, .int .i64 0, .int .i64 0, .int .i64 0, .int .i64 0, .int .i64 0, .int .i64 0, .int .i64 0, .int .i64 0, .int .i64 0, .int .i64 0, .int .i64 0, .int .i64 0, .int .i64 0, .int .i64 0, .int .i64 0, .int .i64 0, .int .i64 0, .int .i64 0, .int .i64 0, .int .i64 0, .int .i64 0, .int .i64 0, .int .i64 0, .int .i64 0, .int .i64 0, .int .i64 0, .int .i64 0, .int .i64 0, .int .i64 0, .int .i64 0, .int .i64 0, .int .i64 0, .int .i64 0, .int .i64 0] 62)) := ⟨_, rfl⟩
        rw [← hu31]
        have hb : Below W2.heap.size W2 u31 := by rw [hu31]; exact HBu23.out.trans ((tab_below u23).mono HBu23.out.size)
        have hq : TabI u31 u23.heap.size (fun _ => 0) := by rw [hu31]; exact TabI.zero u23
        have HBu31 := Lib.hid hb
        have HY8u31 := Lib.hid (show TabI u31 u0.heap.size (fun _ => 0) by rw [hu31]; exact HY8u23.out.keep (tab_below u23))
        have HNu31 := Lib.hid (show u0.heap.size ≠ u23.heap.size from by have := HY8u23.out.lt; omega)
        have HY9u31 := Lib.hid hq
        have HLg31 := Lib.hid (show W2.heap.size ≤ u23.heap.size from HBu23.out.size)
        clear hb hq hu31
        refine ⟨(HMB.out u31 HBu31.out).1, ?_⟩
        refine wpAnyH_all (rs := [1]) (by kernel_rfl) (by simp) (fun i hi => ?_)
        obtain rfl : i = 1 := by simpa using hi
        refine wpOp_ofW (by rfl) (by rfl) ?_
        go_simp
        refine (HSt.out u31 HBu31.out).mono ?_
        rintro e u32 ⟨rfl, hb⟩
        have HBu32 := Lib.hid (HBu31.out.trans (hb.mono HBu31.out.size))
        have HY8u32 := Lib.hid (HY8u31.out.keep hb)
        have HY9u32 := Lib.hid (HY9u31.out.keep hb)
        clear hb
        refine ⟨(HMB.out u32 HBu32.out).1, ?_⟩
        refine wpAnyH_all (rs := [3]) (by kernel_rfl) (by simp) (fun i hi => ?_)
        obtain rfl : i = 3 := by simpa using hi
        refine wpOp_ofW (by rfl) (by rfl) ?_
        go_simp
        refine (HDi.out u32 HBu32.out).mono ?_
        rintro e u33 ⟨rfl, hb⟩
        have HBu33 := Lib.hid (HBu32.out.trans (hb.mono HBu32.out.size))
        have HY8u33 := Lib.hid (HY8u32.out.keep hb)
        have HY9u33 := Lib.hid (HY9u32.out.keep hb)
        clear hb
        refine ⟨(HMB.out u33 HBu33.out).1, ?_⟩
        have hne : u0.heap.size ≠ u23.heap.size := by first | exact HNu31.out | exact fun e => HNu31.out e.symm
        refine wpAnyH_all (rs := [6]) (by kernel_rfl) (by simp) (fun i hi => ?_)
        obtain rfl : i = 6 := by simpa using hi
        refine wpOp_ofW (by rfl) (by rfl) ?_
        go_simp
        rw [run_storeTab _ _ _ ST HY8u33.out]
        simp only [Result.andThen_ok]
        rw [if_pos (tabL_len _), Oper.upon_skip]
        obtain ⟨v34_0, hv34_0⟩ : ∃ z, z = World.setCells u33 (u0.heap.size) 0 (tabL ST) := ⟨_, rfl⟩
        rw [← hv34_0]
        have HY8v34_0 := Lib.hid (show TabI v34_0 (u0.heap.size) ST by rw [hv34_0]; exact TabI.stored (T := ST) HY8u33.out)
        have HBv34_0 := Lib.hid (show Below W2.heap.size W2 v34_0 by rw [hv34_0]; exact below_setCells (tabL ST) 0 HLg23.out HBu33.out)
        have HY9v34_0 := Lib.hid (show TabI v34_0 (u23.heap.size) _ by rw [hv34_0]; exact World.rowIs.of_block HY9u33.out (setCells_other _ _ _ _ hne.symm 0))
        clear hv34_0
        refine ⟨(HMB.out v34_0 HBv34_0.out).1, ?_⟩
        refine wpAnyH_all (rs := [7]) (by kernel_rfl) (by simp) (fun i hi => ?_)
        obtain rfl : i = 7 := by simpa using hi
        refine wpOp_ofW (by rfl) (by rfl) ?_
        go_simp
        rw [run_storeTab _ _ _ TT HY9v34_0.out]
        simp only [Result.andThen_ok]
        rw [if_pos (tabL_len _), Oper.upon_skip]
        obtain ⟨v34_1, hv34_1⟩ : ∃ z, z = World.setCells v34_0 (u23.heap.size) 0 (tabL TT) := ⟨_, rfl⟩
        rw [← hv34_1]
        have HY9v34_1 := Lib.hid (show TabI v34_1 (u23.heap.size) TT by rw [hv34_1]; exact TabI.stored (T := TT) HY9v34_0.out)
        have HBv34_1 := Lib.hid (show Below W2.heap.size W2 v34_1 by rw [hv34_1]; exact below_setCells (tabL TT) 0 HLg31.out HBv34_0.out)
        have HY8v34_1 := Lib.hid (show TabI v34_1 (u0.heap.size) _ by rw [hv34_1]; exact World.rowIs.of_block HY8v34_0.out (setCells_other _ _ _ _ hne 0))
        clear hv34_1
        refine ⟨(HMB.out v34_1 HBv34_1.out).1, ?_⟩
        refine wpAnyH_done (by kernel_rfl) ?_ _
        go_wp2_with fail
        go_meet
        exact ⟨_, _, rfl, rfl, HLg23.out, HLg31.out, hne, HY8v34_1.out, HY9v34_1.out, HBv34_1.out⟩
    · refine wpOp_ofW (by rfl) (by rfl) ?_
      go_simp
      obtain ⟨u35, hu35⟩ : ∃ u35, u35 = (u0.alloc (.cells #[.int .i64 0, .int .i64 0, .int .i64 0, .int .i64 0, .int .i64 0, .int .i64 0, .int .i64 0, .int .i64 0, .int .i64 0, .int .i64 0, .int .i64 0, .int .i64 0, .int .i64 0, .int .i64 0, .int .i64 0, .int .i64 0, .int .i64 0, .int .i64 0, .int .i64 0, .int .i64 0, .int .i64 0, .int .i64 0, .int .i64 0, .int .i64 0, .int .i64 0, .int .i64 0, .int .i64 0, .int .i64 0, .int .i64 0, .int .i64 0, .int .i64 0, .int .i64 0, .int .i64 0, .int .i64 0, .int .i64 0, .int .i64 0, .int .i64 0, .int .i64 0, .int .i64 0, .int .i64 0, .int .i64 0, .int .i64 0, .int .i64 0, .int .i64 0, .int .i64 0, .int .i64 0, .int .i64 0, .int .i64 0, .int .i64 0, .int .i64 0, .int .i64 0, .int .i64 0, .int .i64 0, .int .i64 0, .int .i64 0, .int .i64 0, .int .i64 0, .int .i64 0, .int .i64 0, .int .i64 0, .int .i64 0, .int .i64 0, .int .i64 0, .int .i64 0] 62)) := ⟨_, rfl⟩
      rw [← hu35]
      have hb : Below W2.heap.size W2 u35 := by rw [hu35]; exact HBu0.out.trans ((tab_below u0).mono HBu0.out.size)
      have hq : TabI u35 u0.heap.size (fun _ => 0) := by rw [hu35]; exact TabI.zero u0
      have HBu35 := Lib.hid hb
      have HY9u35 := Lib.hid hq
      have HLg35 := Lib.hid (show W2.heap.size ≤ u0.heap.size from HBu0.out.size)
      clear hb hq hu35
      refine ⟨(HMB.out u35 HBu35.out).1, ?_⟩
      refine wpAnyH_all (rs := [1, 4]) (by kernel_rfl) (by simp) (fun i hi => ?_)
      rcases (show i = 1 ∨ i = 4 by simpa using hi) with rfl | rfl
      · refine wpOp_ofW (by rfl) (by rfl) ?_
        go_simp
        refine (HSt.out u35 HBu35.out).mono ?_
        rintro e u36 ⟨rfl, hb⟩
        have HBu36 := Lib.hid (HBu35.out.trans (hb.mono HBu35.out.size))
        have HY9u36 := Lib.hid (HY9u35.out.keep hb)
        clear hb
        refine ⟨(HMB.out u36 HBu36.out).1, ?_⟩
        refine wpAnyH_all (rs := [3, 4]) (by kernel_rfl) (by simp) (fun i hi => ?_)
        rcases (show i = 3 ∨ i = 4 by simpa using hi) with rfl | rfl
        · refine wpOp_ofW (by rfl) (by rfl) ?_
          go_simp
          refine (HDi.out u36 HBu36.out).mono ?_
          rintro e u37 ⟨rfl, hb⟩
          have HBu37 := Lib.hid (HBu36.out.trans (hb.mono HBu36.out.size))
          have HY9u37 := Lib.hid (HY9u36.out.keep hb)
          clear hb
          refine ⟨(HMB.out u37 HBu37.out).1, ?_⟩
          refine wpAnyH_all (rs := [4]) (by kernel_rfl) (by simp) (fun i hi => ?_)
          obtain rfl : i = 4 := by simpa using hi
          refine wpOp_ofW (by rfl) (by rfl) ?_
          go_simp
          obtain ⟨u38, hu38⟩ : ∃ u38, u38 = (u37.alloc (.cells #[.int .i64 0, .int .i64 0, .int .i64 0, .int .i64 0, .int .i64 0, .int .i64 0, .int .i64 0, .int .i64 0, .int .i64 0, .int .i64 0, .int .i64 0, .int .i64 0, .int .i64 0, .int .i64 0, .int .i64 0, .int .i64 0, .int .i64 0, .int .i64 0, .int .i64 0, .int .i64 0, .int .i64 0, .int .i64 0, .int .i64 0, .int .i64 0, .int .i64 0, .int .i64 0, .int .i64 0, .int .i64 0, .int .i64 0, .int .i64 0, .int .i64 0, .int .i64 0, .int .i64 0, .int .i64 0, .int .i64 0, .int .i64 0, .int .i64 0, .int .i64 0, .int .i64 0, .int .i64 0, .int .i64 0, .int .i64 0, .int .i64 0, .int .i64 0, .int .i64 0, .int .i64 0, .int .i64 0, .int .i64 0, .int .i64 0, .int .i64 0, .int .i64 0, .int .i64 0, .int .i64 0, .int .i64 0, .int .i64 0, .int .i64 0, .int .i64 0, .int .i64 0, .int .i64 0, .int .i64 0, .int .i64 0, .int .i64 0, .int .i64 0, .int .i64 0] 62)) := ⟨_, rfl⟩
          rw [← hu38]
          have hb : Below W2.heap.size W2 u38 := by rw [hu38]; exact HBu37.out.trans ((tab_below u37).mono HBu37.out.size)
          have hq : TabI u38 u37.heap.size (fun _ => 0) := by rw [hu38]; exact TabI.zero u37
          have HBu38 := Lib.hid hb
          have HY9u38 := Lib.hid (show TabI u38 u0.heap.size (fun _ => 0) by rw [hu38]; exact HY9u37.out.keep (tab_below u37))
          have HNu38 := Lib.hid (show u0.heap.size ≠ u37.heap.size from by have := HY9u37.out.lt; omega)
          have HY8u38 := Lib.hid hq
          have HLg38 := Lib.hid (show W2.heap.size ≤ u37.heap.size from HBu37.out.size)
          clear hb hq hu38
          refine ⟨(HMB.out u38 HBu38.out).1, ?_⟩
          have hne : u37.heap.size ≠ u0.heap.size := by first | exact HNu38.out | exact fun e => HNu38.out e.symm
          refine wpAnyH_all (rs := [6]) (by kernel_rfl) (by simp) (fun i hi => ?_)
          obtain rfl : i = 6 := by simpa using hi
          refine wpOp_ofW (by rfl) (by rfl) ?_
          go_simp
          rw [run_storeTab _ _ _ ST HY8u38.out]
          simp only [Result.andThen_ok]
          rw [if_pos (tabL_len _), Oper.upon_skip]
          obtain ⟨v39_0, hv39_0⟩ : ∃ z, z = World.setCells u38 (u37.heap.size) 0 (tabL ST) := ⟨_, rfl⟩
          rw [← hv39_0]
          have HY8v39_0 := Lib.hid (show TabI v39_0 (u37.heap.size) ST by rw [hv39_0]; exact TabI.stored (T := ST) HY8u38.out)
          have HBv39_0 := Lib.hid (show Below W2.heap.size W2 v39_0 by rw [hv39_0]; exact below_setCells (tabL ST) 0 HLg38.out HBu38.out)
          have HY9v39_0 := Lib.hid (show TabI v39_0 (u0.heap.size) _ by rw [hv39_0]; exact World.rowIs.of_block HY9u38.out (setCells_other _ _ _ _ hne.symm 0))
          clear hv39_0
          refine ⟨(HMB.out v39_0 HBv39_0.out).1, ?_⟩
          refine wpAnyH_all (rs := [7]) (by kernel_rfl) (by simp) (fun i hi => ?_)
          obtain rfl : i = 7 := by simpa using hi
          refine wpOp_ofW (by rfl) (by rfl) ?_
          go_simp
          rw [run_storeTab _ _ _ TT HY9v39_0.out]
          simp only [Result.andThen_ok]
          rw [if_pos (tabL_len _), Oper.upon_skip]
          obtain ⟨v39_1, hv39_1⟩ : ∃ z, z = World.setCells v39_0 (u0.heap.size) 0 (tabL TT) := ⟨_, rfl⟩
          rw [← hv39_1]
          have HY9v39_1 := Lib.hid (show TabI v39_1 (u0.heap.size) TT by rw [hv39_1]; exact TabI.stored (T := TT) HY9v39_0.out)
          have HBv39_1 := Lib.hid (show Below W2.heap.size W2 v39_1 by rw [hv39_1]; exact below_setCells (tabL TT) 0 HLg35.out HBv39_0.out)
          have HY8v39_1 := Lib.hid (show TabI v39_1 (u37.heap.size) _ by rw [hv39_1]; exact World.rowIs.of_block HY8v39_0.out (setCells_other _ _ _ _ hne 0))
          clear hv39_1
          refine ⟨(HMB.out v39_1 HBv39_1.out).1, ?_⟩
          refine wpAnyH_done (by kernel_rfl) ?_ _
          go_wp2_with fail
          go_meet
          exact ⟨_, _, rfl, rfl, HLg38.out, HLg35.out, hne, HY8v39_1.out, HY9v39_1.out, HBv39_1.out⟩
        · refine wpOp_ofW (by rfl) (by rfl) ?_
          go_simp
          obtain ⟨u40, hu40⟩ : ∃ u40, u40 = (u36.alloc (.cells #[.int .i64 0, .int .i64 0, .int .i64 0, .int .i64 0, .int .i64 0, .int .i64 0, .int .i64 0, .int .i64 0, .int .i64 0, .int .i64 0, .int .i64 0, .int .i64 0, .int .i64 0, .int .i64 0, .int .i64 0, .int .i64 0, .int .i64 0, .int .i64 0, .int .i64 0, .int .i64 0, .int .i64 0, .int .i64 0, .int .i64 0, .int .i64 0, .int .i64 0, .int .i64 0, .int .i64 0, .int .i64 0, .int .i64 0, .int .i64 0, .int .i64 0, .int .i64 0, .int .i64 0, .int .i64 0, .int .i64 0, .int .i64 0, .int .i64 0, .int .i64 0, .int .i64 0, .int .i64 0, .int .i64 0, .int .i64 0, .int .i64 0, .int .i64 0, .int .i64 0, .int .i64 0, .int .i64 0, .int .i64 0, .int .i64 0, .int .i64 0, .int .i64 0, .int .i64 0, .int .i64 0, .int .i64 0, .int .i64 0, .int .i64 0, .int .i64 0, .int .i64 0, .int .i64 0, .int .i64 0, .int .i64 0, .int .i64 0, .int .i64 0, .int .i64 0] 62)) := ⟨_, rfl⟩
          rw [← hu40]
          have hb : Below W2.heap.size W2 u40 := by rw [hu40]; exact HBu36.out.trans ((tab_below u36).mono HBu36.out.size)
          have hq : TabI u40 u36.heap.size (fun _ => 0) := by rw [hu40]; exact TabI.zero u36
          have HBu40 := Lib.hid hb
          have HY9u40 := Lib.hid (show TabI u40 u0.heap.size (fun _ => 0) by rw [hu40]; exact HY9u36.out.keep (tab_below u36))
          have HNu40 := Lib.hid (show u0.heap.size ≠ u36.heap.size from by have := HY9u36.out.lt; omega)
          have HY8u40 := Lib.hid hq
          have HLg40 := Lib.hid (show W2.heap.size ≤ u36.heap.size from HBu36.out.size)
          clear hb hq hu40
          refine ⟨(HMB.out u40 HBu40.out).1, ?_⟩
          refine wpAnyH_all (rs := [3]) (by kernel_rfl) (by simp) (fun i hi => ?_)
          obtain rfl : i = 3 := by simpa using hi
          refine wpOp_ofW (by rfl) (by rfl) ?_
          go_simp
          refine (HDi.out u40 HBu40.out).mono ?_
          rintro e u41 ⟨rfl, hb⟩
          have HBu41 := Lib.hid (HBu40.out.trans (hb.mono HBu40.out.size))
          have HY8u41 := Lib.hid (HY8u40.out.keep hb)
          have HY9u41 := Lib.hid (HY9u40.out.keep hb)
          clear hb
          refine ⟨(HMB.out u41 HBu41.out).1, ?_⟩
          have hne : u36.heap.size ≠ u0.heap.size := by first | exact HNu40.out | exact fun e => HNu40.out e.symm
          refine wpAnyH_all (rs := [6]) (by kernel_rfl) (by simp) (fun i hi => ?_)
          obtain rfl : i = 6 := by simpa using hi
          refine wpOp_ofW (by rfl) (by rfl) ?_
          go_simp
          rw [run_storeTab _ _ _ ST HY8u41.out]
          simp only [Result.andThen_ok]
          rw [if_pos (tabL_len _), Oper.upon_skip]
          obtain ⟨v42_0, hv42_0⟩ : ∃ z, z = World.setCells u41 (u36.heap.size) 0 (tabL ST) := ⟨_, rfl⟩
          rw [← hv42_0]
          have HY8v42_0 := Lib.hid (show TabI v42_0 (u36.heap.size) ST by rw [hv42_0]; exact TabI.stored (T := ST) HY8u41.out)
          have HBv42_0 := Lib.hid (show Below W2.heap.size W2 v42_0 by rw [hv42_0]; exact below_setCells (tabL ST) 0 HLg40.out HBu41.out)
          have HY9v42_0 := Lib.hid (show TabI v42_0 (u0.heap.size) _ by rw [hv42_0]; exact World.rowIs.of_block HY9u41.out (setCells_other _ _ _ _ hne.symm 0))
          clear hv42_0
          refine ⟨(HMB.out v42_0 HBv42_0.out).1, ?_⟩
          refine wpAnyH_all (rs := [7]) (by kernel_rfl) (by simp) (fun i hi => ?_)
          obtain rfl : i = 7 := by simpa using hi
          refine wpOp_ofW (by rfl) (by rfl) ?_
          go_simp
          rw [run_storeTab _ _ _ TT HY9v42_0.out]
          simp only [Result.andThen_ok]
          rw [if_pos (tabL_len _), Oper.upon_skip]
          obtain ⟨v42_1, hv42_1⟩ : ∃ z, z = World.setCells v42_0 (u0.heap.size) 0 (tabL TT) := ⟨_, rfl⟩
          rw [← hv42_1]
          have HY9v42_1 := Lib.hid (show TabI v42_1 (u0.heap.size) TT by rw [hv42_1]; exact TabI.stored (T := TT) HY9v42_0.out)
          have HBv42_1 := Lib.hid (show Below W2.heap.size W2 v42_1 by rw [hv42_1]; exact below_setCells (tabL TT) 0 HLg35.out HBv42_0.out)
          have HY8v42_1 := Lib.hid (show TabI v42_1 (u36.heap.size) _ by rw [hv42_1]; exact World.rowIs.of_block HY8v42_0.out (setCells_other _ _ _ _ hne 0))
          clear hv42_1
          refine ⟨(HMB.out v42_1 HBv42_1.out).1, ?_⟩
          refine wpAnyH_done (by kernel_rfl) ?_ _
          go_wp2_with fail
          go_meet
          exact ⟨_, _, rfl, rfl, HLg40.out, HLg35.out, hne, HY8v42_1.out, HY9v42_1.out, HBv42_1.out⟩
      · refine wpOp_ofW (by rfl) (by rfl) ?_
        go_simp
        obtain ⟨u43, hu43⟩ : ∃ u43, u43 = (u35.alloc (.cells #[.int .i64 0, .int .i64 0, .int .i64 0, .int .i64 0, .int .i64 0, .int .i64 0, .int .i64 0, .int .i64 0, .int .i64 0, .int .i64 0, .int .i64 0, .int .i64 0, .int .i64 0, .int .i64 0, .int .i64 0, .int .i64 0, .int .i64 0, .int .i64 0, .int .i64 0, .int .i64 0, .int .i64 0, .int .i64 0, .int .i64 0, .int .i64 0, .int .i64 0, .int .i64 0, .int .i64 0, .int .i64 0, .int .i64 0, .int .i64 0, .int .i64 0, .int .i64 0, .int .i64 0, .int .i64 0, .int .i64 0, .int .i64 0, .int .i64 0, .int .i64 0, .int .i64 0, .int .i64 0, .int .i64 0, .int .i64 0, .int .i64 0, .int .i64 0, .int .i64 0, .int .i64 0, .int .i64 0, .int .i64 0, .int .i64 0, .int .i64 0, .int .i64 0, .int .i64 0, .int .i64 0, .int .i64 0, .int .i64 0, .int .i64 0, .int .i64 0, .int .i64 0, .int .i64 0, .int .i64 0, .int .i64 0, .int .i64 0, .int .i64 0, .int .i64 0] 62)) := ⟨_, rfl⟩
        rw [← hu43]
        have hb : Below W2.heap.size W2 u43 := by rw [hu43]; exact HBu35.out.trans ((tab_below u35).mono HBu35.out.size)
        have hq : TabI u43 u35.heap.size (fun _ => 0) := by rw [hu43]; exact TabI.zero u35
        have HBu43 := Lib.hid hb
        have HY9u43 := Lib.hid (show TabI u43 u0.heap.size (fun _ => 0) by rw [hu43]; exact HY9u35.out.keep (tab_below u35))
        have HNu43 := Lib.hid (show u0.heap.size ≠ u35.heap.size from by have := HY9u35.out.lt; omega)
        have HY8u43 := Lib.hid hq
        have HLg43 := Lib.hid (show W2.heap.size ≤ u35.heap.size from HBu35.out.size)
        clear hb hq hu43
        refine ⟨(HMB.out u43 HBu43.out).1, ?_⟩
        refine wpAnyH_all (rs := [1]) (by kernel_rfl) (by simp) (fun i hi => ?_)
        obtain rfl : i = 1 := by simpa using hi
        refine wpOp_ofW (by rfl) (by rfl) ?_
        go_simp
        refine (HSt.out u43 HBu43.out).mono ?_
        rintro e u44 ⟨rfl, hb⟩
        have HBu44 := Lib.hid (HBu43.out.trans (hb.mono HBu43.out.size))
        have HY8u44 := Lib.hid (HY8u43.out.keep hb)
        have HY9u44 := Lib.hid (HY9u43.out.keep hb)
        clear hb
        refine ⟨(HMB.out u44 HBu44.out).1, ?_⟩
        refine wpAnyH_all (rs := [3]) (by kernel_rfl) (by simp) (fun i hi => ?_)
        obtain rfl : i = 3 := by simpa using hi
        refine wpOp_ofW (by rfl) (by rfl) ?_
        go_simp
        refine (HDi.out u44 HBu44.out).mono ?_
        rintro e u45 ⟨rfl, hb⟩
        have HBu45 := Lib.hid (HBu44.out.trans (hb.mono HBu44.out.size))
        have HY8u45 := Lib.hid (HY8u44.out.keep hb)
        have HY9u45 := Lib.hid (HY9u44.out.keep hb)
        clear hb
        refine ⟨(HMB.out u45 HBu45.out).1, ?_⟩
        have hne : u35.heap.size ≠ u0.heap.size := by first | exact HNu43.out | exact fun e => HNu43.out e.symm
        refine wpAnyH_all (rs := [6]) (by kernel_rfl) (by simp) (fun i hi => ?_)
        obtain rfl : i = 6 := by simpa using hi
        refine wpOp_ofW (by rfl) (by rfl) ?_
        go_simp
        rw [run_storeTab _ _ _ ST HY8u45.out]
        simp only [Result.andThen_ok]
        rw [if_pos (tabL_len _), Oper.upon_skip]
        obtain ⟨v46_0, hv46_0⟩ : ∃ z, z = World.setCells u45 (u35.heap.size) 0 (tabL ST) := ⟨_, rfl⟩
        rw [← hv46_0]
        have HY8v46_0 := Lib.hid (show TabI v46_0 (u35.heap.size) ST by rw [hv46_0]; exact TabI.stored (T := ST) HY8u45.out)
        have HBv46_0 := Lib.hid (show Below W2.heap.size W2 v46_0 by rw [hv46_0]; exact below_setCells (tabL ST) 0 HLg43.out HBu45.out)
        have HY9v46_0 := Lib.hid (show TabI v46_0 (u0.heap.size) _ by rw [hv46_0]; exact World.rowIs.of_block HY9u45.out (setCells_other _ _ _ _ hne.symm 0))
        clear hv46_0
        refine ⟨(HMB.out v46_0 HBv46_0.out).1, ?_⟩
        refine wpAnyH_all (rs := [7]) (by kernel_rfl) (by simp) (fun i hi => ?_)
        obtain rfl : i = 7 := by simpa using hi
        refine wpOp_ofW (by rfl) (by rfl) ?_
        go_simp
        rw [run_storeTab _ _ _ TT HY9v46_0.out]
        simp only [Result.andThen_ok]
        rw [if_pos (tabL_len _), Oper.upon_skip]
        obtain ⟨v46_1, hv46_1⟩ : ∃ z, z = World.setCells v46_0 (u0.heap.size) 0 (tabL TT) := ⟨_, rfl⟩
        rw [← hv46_1]
        have HY9v46_1 := Lib.hid (show TabI v46_1 (u0.heap.size) TT by rw [hv46_1]; exact TabI.stored (T := TT) HY9v46_0.out)
        have HBv46_1 := Lib.hid (show Below W2.heap.size W2 v46_1 by rw [hv46_1]; exact below_setCells (tabL TT) 0 HLg35.out HBv46_0.out)
        have HY8v46_1 := Lib.hid (show TabI v46_1 (u35.heap.size) _ by rw [hv46_1]; exact World.rowIs.of_block HY8v46_0.out (setCells_other _ _ _ _ hne 0))
        clear hv46_1
        refine ⟨(HMB.out v46_1 HBv46_1.out).1, ?_⟩
        refine wpAnyH_done (by kernel_rfl) ?_ _
        go_wp2_with fail
        go_meet
        exact ⟨_, _, rfl, rfl, HLg43.out, HLg35.out, hne, HY8v46_1.out, HY9v46_1.out, HBv46_1.out⟩
  case rest =>
    obtain ⟨g8, g9, rfl, rfl, hl8, hl9, hne, hy8, hy9, hbc⟩ := hcut
    have HY8 := Lib.hid hy8
    have HY9 := Lib.hid hy9
    have HB5 := Lib.hid hbc
    have q2 := (HMB.out _ hbc).2.1
    have q3 := hy9.cell (x := a) (y := b) (by omega) (by omega)
    have ha8 : (a : Int) < 8 := by omega
    have hb8 : (b : Int) < 8 := by omega
    have HSm := Lib.hid (rfl : TT (8 * a + b) = TT (8 * a + b))
    generalize htt : TT (8 * a + b) = tt at *
    have HTt := Lib.hid htt
    clear hy8 hy9 hbc htt
    by_cases h400 : tt = 400
    · have hbq := beq_t h400
      go_wp2
      go_region
      go_wp2
      go_returns
      exact ⟨.inl ⟨by rw [HTt.out]; exact h400, rfl⟩, (HMB.out _ HB5.out).2.2.trans ((Dn.refl _).drew.below _)⟩
    · have hbq := beq_f h400
      go_wp2
      go_region
      have HY8k : Hid (TabI wc.drew g8 ST) := Lib.hid HY8.out
      have HY9k : Hid (TabI wc.drew g9 TT) := Lib.hid HY9.out
      have HBk := Lib.hid (HB5.out.trans ((Dn.refl wc).drew.below _))
      clear q2 q3 HY8 HY9 HB5
      generalize wc.drew = Wk at *
      go_wp2_with fail
      have r1 := boxW_row Wk (.slice none 0 0) 33
      have b1 : Below Wk.heap.size Wk (Wk.alloc (.cells #[.slice none 0 0] 33)) := (Below.refl _ Wk).alloc (Nat.le_refl _) _
      generalize hX1 : Wk.alloc (.cells #[.slice none 0 0] 33) = X1 at *
      have s1 : X1.heap.size = Wk.heap.size + 1 := by rw [← hX1]; simp
      clear hX1
      have r2 := boxW_row X1 .nilFunc 68
      have b2 : Below X1.heap.size X1 (X1.alloc (.cells #[.nilFunc] 68)) := (Below.refl _ X1).alloc (Nat.le_refl _) _
      generalize hX2 : X1.alloc (.cells #[.nilFunc] 68) = X2 at *
      have s2 : X2.heap.size = Wk.heap.size + 1 + 1 := by rw [← hX2]; simp [s1]
      clear hX2
      rw [s1] at r2
      have c2 := World.rowIs.cell r2 (i := 0) (by omega)
      have z2 := World.rowIs.frozen r2 0
      rw [run_store _ _ _ _ _ rfl]
      simp only [c2, z2]
      have r3 := World.rowIs.set r2 0 (.func (.func 32) #[] #[.pointer (some ⟨w.heap.size + 1, 0, none⟩), .pointer (some ⟨Wk.heap.size, 0, none⟩), .pointer (some ⟨w.heap.size, 0, none⟩), .pointer (some ⟨g8, 0, none⟩), .pointer (some ⟨g9, 0, none⟩), .pointer (some ⟨Wk.heap.size + 1, 0, none⟩)])
      have e3 : Exc (Wk.heap.size + 1) X2 (X2.setCell ⟨Wk.heap.size + 1, 0, none⟩ (.func (.func 32) #[] #[.pointer (some ⟨w.heap.size + 1, 0, none⟩), .pointer (some ⟨Wk.heap.size, 0, none⟩), .pointer (some ⟨w.heap.size, 0, none⟩), .pointer (some ⟨g8, 0, none⟩), .pointer (some ⟨g9, 0, none⟩), .pointer (some ⟨Wk.heap.size + 1, 0, none⟩)])) := (Exc.refl _ _).set _ _
      have s3 : (X2.setCell ⟨Wk.heap.size + 1, 0, none⟩ (.func (.func 32) #[] #[.pointer (some ⟨w.heap.size + 1, 0, none⟩), .pointer (some ⟨Wk.heap.size, 0, none⟩), .pointer (some ⟨w.heap.size, 0, none⟩), .pointer (some ⟨g8, 0, none⟩), .pointer (some ⟨g9, 0, none⟩), .pointer (some ⟨Wk.heap.size + 1, 0, none⟩)])).heap.size = Wk.heap.size + 1 + 1 := by rw [← s2]; simp
      generalize X2.setCell _ _ = X3 at *
      have c3 := World.rowIs.cell r3 (i := 0) (by omega)
      rw [if_pos rfl] at c3
      have hb3 : Below Wk.heap.size Wk X3 := (b1.trans (b2.mono (by omega))).trans (e3.below (by omega) (by omega))
      have r1' : BoxV X3 Wk.heap.size (.slice none 0 0) := World.rowIs.of_block (World.rowIs.of_block r1 (b2.block _ (by omega))) (e3.block _ (by omega) (fun e => by injection e; omega))
      have b4 := (Below.refl X3.heap.size X3).alloc (Nat.le_refl _) (.cells #[.int .i64 (a : Int)] 3)
      have o4 := ownOne X3 (Wk.heap.size + 2) a (by omega)
      have s4 : (X3.alloc (.cells #[.int .i64 (a : Int)] 3)).heap.size = Wk.heap.size + 1 + 1 + 1 := by simp [s3]
      rw [s3] at b4 o4
      obtain ⟨X4, hX4⟩ : ∃ X4, X4 = X3.alloc (.cells #[.int .i64 (a : Int)] 3) := ⟨_, rfl⟩
      rw [← hX4] at b4 o4 s4
      have hb4 : Below Wk.heap.size Wk X4 := hb3.trans (b4.mono (by omega))
      have hl8' := HY8k.out.lt
      have hl9' := HY9k.out.lt
      have hws := HBk.out.size
      have hw2 := Hz2.out
      have hG := HGrow.out (Wk.heap.size + 2) w.heap.size (w.heap.size + 1) g8 g9 (Wk.heap.size + 1) Wk.heap.size ⟨by omega, by omega⟩ ⟨by omega, by omega⟩ ⟨by omega, by omega⟩ ⟨by omega, by omega⟩ ⟨by omega, by omega⟩ (by omega) (Wk.heap.size + 2) 1 a [(a : Int)] (.slice none 0 0) none X4
        ⟨(HMB.out _ HBk.out).1.keep hb4, (hb4.cell (World.block_lt_of_cell? _ _ (HMB.out _ HBk.out).2.1)).trans (HMB.out _ HBk.out).2.1, HY8k.out.keep hb4, HY9k.out.keep hb4, (b4.cell (p := ⟨Wk.heap.size + 1, 0, none⟩) (show Wk.heap.size + 1 < Wk.heap.size + 1 + 1 by omega)).trans c3⟩
        (by omega) o4 (by simp) rfl ha (by have := HTr.out; have := HTt.out; omega) (by have := HTr.out; simp; omega) (World.rowIs.of_block r1' (b4.block _ (by omega))) rfl (fun h hh => by cases hh)
      have HG := Lib.hid hG
      have HBX := Lib.hid ((HMB.out _ HBk.out).2.2.trans (hb4.mono (by omega)))
      have HX4 := Lib.hid hX4
      have HS4 := Lib.hid s4
      have HZ := Lib.hid hws
      clear hG r1 b1 r2 b2 c2 z2 r3 e3 hb3 r1' b4 o4 s4 hb4 hX4 hl8' hl9' s1 s2
      go_wp2_with fail
      rw [← HX4.out]
      refine HG.out.mono ?_
      rintro e w6 ⟨rfl, v6, hV6, hB6, hor6, hK6, -⟩
      have hc6 := hV6.c
      have HB6 := Lib.hid hB6
      have HO6 := Lib.hid hor6
      have HK6 := Lib.hid hK6
      clear hV6 hB6 hor6 hK6
      go_wp2
      go_returns
      have hlt : tt < 400 := by
        have := HTr.out
        omega
      obtain ⟨Lw, hLw, -⟩ := HSome.out hlt
      have hB6 := HB6.out
      rw [hLw] at hB6
      refine ⟨.inr ⟨by rw [HTt.out]; exact hlt, v6, Lw, rfl, by rw [HTt.out]; exact hLw, ?_⟩, HBX.out.trans (HK6.out.below (fun x hx => by
        have := HZ.out
        have := Hz2.out
        simp at hx
        omega) HBX.out.size)⟩
      refine hB6.1.raise (fun h hh => ?_)
      rcases HO6.out with e | e
      · subst e
        cases hh
      · have := e h hh
        have := HBX.out.size
        omega
end Go.Proofs.Ytclhamemlpbpiaa
