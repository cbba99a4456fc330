/- Way's closure: a step. -/
import Derived.Test.YtclhamemlpbpiaaWa
import Derived.Deep.RegionHeld3
namespace Go.Proofs.Ytclhamemlpbpiaa
open Go.RowKit

set_option maxHeartbeats 4000000 in
set_option maxRecDepth 1000000 in
theorem grow_step (lo mB bB sB fB gB eB n m c : Nat) (A : Option Addr) (b : Nat) (S T : Nat → Int) (f : Nat) (hb : b < n) (hn8 : n ≤ 8) (hS0 : ∀ i, 0 ≤ S i ∧ S i ≤ 400) (hT0 : ∀ i, 0 ≤ T i ∧ T i ≤ 400) (hSp : ∀ x y, x < n → y < n → x ≠ y → 1 ≤ S (8 * x + y))
    (hd1 : mB < lo ∧ mB ≠ eB) (hd2 : bB < lo ∧ bB ≠ eB) (hd3 : sB < lo ∧ sB ≠ eB) (hd4 : fB < lo ∧ fB ≠ eB) (hd5 : gB < lo ∧ gB ≠ eB) (heg : eB < lo)
    (ih : GrowOk lo mB bB sB fB gB eB n m c A b S T f) (g cp x : Nat) (L : List Int) (v : Value) (B : Option (List Int)) (w : World)
    (hE : GEnv w mB bB sB fB gB n m c A b S T (.func (.func 32) #[] (capW bB eB mB sB fB gB))) (hlo : lo ≤ w.heap.size) (hO : OwnL w lo (.slice (some ⟨g, 0, none⟩) L.length cp) L) (hL : 0 < L.length) (hx : L.getD (L.length - 1) 0 = (x : Int)) (hxn : x < n) (hxb : x ≠ b) (hTf : T (8 * x + b) ≤ (f + 1 : Nat))
    (hlen : L.length + (f + 1) ≤ 5000) (hV : BoxV w eB v) (hB : BestW w v B) (hsep : ∀ h, v.ownBlock = some h → lo ≤ h ∧ h ≠ g) :
    Calls Try.prog 32 (#[.slice (some ⟨g, 0, none⟩) L.length cp] ++ capW bB eB mB sB fB gB) w fun e w' => e = .returned (.tuple #[]) ∧ ∃ v', BoxV w' eB v' ∧ BestW w' v' (wyS n S T b f L x B n) ∧ (v' = v ∨ ∀ h, v'.ownBlock = some h → w.heap.size ≤ h) ∧ Kp [g, eB] w w' ∧ OwnL w' lo (.slice (some ⟨g, 0, none⟩) L.length cp) L := by
  obtain ⟨A1, c1, e1, -, hI, hg1, hcc⟩ := hO.form
  injection e1 with e1 e2 e3
  subst e1 e3
  obtain ⟨hge, hgl, -⟩ := hg1 g 0 rfl
  have hcl2 : w.cell? ⟨g, L.length - 1, none⟩ = some (.int .i64 x) := by
    rw [← Nat.zero_add (L.length - 1), hI.cell (show L.length - 1 < L.length by omega), hx]
  have hbc := hE.end_
  have hmc := hE.map.c0
  have HB := Lib.hid hB
  have HV := Lib.hid hV
  have HO := Lib.hid hO
  have HE := Lib.hid hE
  have HS := Lib.hid hsep
  have HIH := Lib.hid ih
  have HT0 := Lib.hid hT0
  have HS0 := Lib.hid hS0
  have HSp := Lib.hid hSp
  have HD := Lib.hid (And.intro hd1 (And.intro hd2 (And.intro hd3 (And.intro hd4 hd5))))
  have HNext : Hid (∀ k, wyS n S T b f L x B (k + 1) = if nxW S T b x k = true then wyF n S T b f (L ++ [(k : Int)]) k (wyS n S T b f L x B k) else wyS n S T b f L x B k) := Lib.hid (fun _ => rfl)
  have HZ : Hid (wyS n S T b f L x B 0 = B) := Lib.hid rfl
  generalize wyS n S T b f L x B = W at *
  generalize hi : L.length = i at *
  have HLi := Lib.hid hi
  have HTf := Lib.hid hTf
  have hi1 : (1 : Int) ≤ i := by omega
  have hbb : ((x : Int) == (b : Int)) = false := beq_f (by omega)
  clear hE hV hB hO hI hsep hg1 hi ih hT0 hS0 hSp hd1 hd2 hd3 hd4 hd5 hTf
  unfold capW
  go_enter Try.func32, Try.ntmps32
  go_wp2
  go_loopw [32] (fun i' wr => ∃ (k : Nat) (v' : Value), k ≤ n ∧ i' = .int .i64 k ∧ BoxV wr eB v' ∧ BestW wr v' (W k) ∧ (v' = v ∨ ∀ h, v'.ownBlock = some h → w.heap.size ≤ h) ∧ Kp [g, eB] w wr ∧ OwnL wr lo (.slice (some ⟨g, 0, none⟩) i cp) L) (fun i' _ => n - (intOf i').toNat)
  case atStart => exact ⟨0, v, Nat.zero_le _, rfl, HV.out, by rw [HZ.out]; exact HB.out, .inl rfl, Kp.refl _ _, HO.out⟩
  case round =>
    obtain ⟨k, v', hk, rfl, hVr, hBr, hor, hK, hOr⟩ := hrel
    have HVr := Lib.hid hVr
    have HBr := Lib.hid hBr
    have HOr := Lib.hid hOr
    have HK := Lib.hid hK
    have HVo := Lib.hid hor
    obtain ⟨⟨m1, m2⟩, ⟨b1, b2⟩, ⟨s1, s2⟩, ⟨f1, f2⟩, g1, g2⟩ := HD.out
    have hEr := HE.out.kp hK (by simp; omega) (by simp; omega) (by simp; omega) (by simp; omega) (by simp; omega)
    have HEr := Lib.hid hEr
    clear hVr hBr hor hOr hK
    by_cases hlt : k < n
    · have q1 := hEr.end_
      have q2 := hEr.st.cell (x := x) (y := k) (by omega) (by omega)
      have q3 := hEr.fa.cell (x := k) (y := b) (by omega) (by omega)
      have q4 := hEr.fa.cell (x := x) (y := b) (by omega) (by omega)
      have y1 := HS0.out (8 * x + k)
      have y2 := HT0.out (8 * k + b)
      have HP := Lib.hid (HSp.out x k hxn hlt)
      have hx8 : (x : Int) < 8 := by omega
      have hk8 : (k : Int) < 8 := by omega
      have hb8 : (b : Int) < 8 := by omega
      have HNx : Hid (nxW S T b x k = (!decide (k = x) && decide (S (8 * x + k) + T (8 * k + b) = T (8 * x + b)))) := Lib.hid rfl
      have HNk := Lib.hid (HNext.out k)
      generalize S (8 * x + k) = sv at *
      generalize htk : T (8 * k + b) = tk at *
      have HTk := Lib.hid htk
      clear htk
      have HTx := Lib.hid (rfl : T (8 * x + b) = T (8 * x + b))
      generalize htx : T (8 * x + b) = tx at *
      clear hEr
      by_cases hkx : k = x
      · have hc1 : ((k : Int) != (x : Int)) = false := bne_f (by omega)
        have HN := Lib.hid (show W (k + 1) = W k by rw [HNk.out, HNx.out, decide_eq_true hkx]; rfl)
        go_wp2
        go_region
        go_wp2
        go_roundw
        case rel => exact ⟨k + 1, v', by omega, by go_num, HVr.out, by rw [HN.out]; exact HBr.out, HVo.out, HK.out.drew, HOr.out⟩
        case measure => simp [intOf]; omega
      · have hc1 : ((k : Int) != (x : Int)) = true := bne_t (by omega)
        by_cases hs : sv + tk = tx
        · have hc2 := beq_t hs
          have HN := Lib.hid (show W (k + 1) = wyF n S T b f (L ++ [(k : Int)]) k (W k) by rw [HNk.out, HNx.out, decide_eq_false hkx, decide_eq_true hs]; rfl)
          have q5 := HEr.out.fn
          go_wp2
          go_region
          go_wp2_with fail
          refine wp_region_held (S := fun w' => w'.cell? ⟨gB, 0, none⟩ = some (.func (.func 32) #[] #[.pointer (some ⟨bB, 0, none⟩), .pointer (some ⟨eB, 0, none⟩), .pointer (some ⟨mB, 0, none⟩), .pointer (some ⟨sB, 0, none⟩), .pointer (some ⟨fB, 0, none⟩), .pointer (some ⟨gB, 0, none⟩)])) (by kernel_rfl) ?_
          change wpAnyH _ _ _ _ _ _ _ _ wr.drew.drew
          have HVk : Hid (BoxV wr.drew.drew eB v') := Lib.hid HVr.out
          have HBk : Hid (BestW wr.drew.drew v' (W k)) := Lib.hid HBr.out
          have HOk : Hid (OwnL wr.drew.drew lo (.slice (some ⟨g, 0, none⟩) i cp) L) := Lib.hid HOr.out
          have HKk := Lib.hid HK.out.drew.drew
          have HEk := Lib.hid (HEr.out.kp ((Kp.refl [eB] wr).drew.drew) (by simp; omega) (by simp; omega) (by simp; omega) (by simp; omega) (by simp; omega))
          have hS0 : wr.drew.drew.cell? ⟨gB, 0, none⟩ = some (.func (.func 32) #[] #[.pointer (some ⟨bB, 0, none⟩), .pointer (some ⟨eB, 0, none⟩), .pointer (some ⟨mB, 0, none⟩), .pointer (some ⟨sB, 0, none⟩), .pointer (some ⟨fB, 0, none⟩), .pointer (some ⟨gB, 0, none⟩)]) := q5
          clear HVr HBr HOr HK HEr q1 q2 q3 q4 q5 hc1 hc2 hbc hmc hcl2
          generalize wr.drew.drew = Wk at *
          have hlk : lo ≤ Wk.heap.size := by have := HKk.out.size; omega
          refine wpAnyH_take (i := 0) (v := .func (.func 32) #[] #[.pointer (some ⟨bB, 0, none⟩), .pointer (some ⟨eB, 0, none⟩), .pointer (some ⟨mB, 0, none⟩), .pointer (some ⟨sB, 0, none⟩), .pointer (some ⟨fB, 0, none⟩), .pointer (some ⟨gB, 0, none⟩)]) rfl (by kernel_rfl) (by kernel_rfl) (by kernel_rfl) (fun _ _ _ h => h) (Or.inl ⟨by rfl, fun w hS => by have hq := hS; go_simp⟩) hS0 ?_
          refine wpAnyH_take (i := 1) (v := .slice (some ⟨g, 0, none⟩) i cp) rfl (by kernel_rfl) (by kernel_rfl) (by kernel_rfl) (fun _ _ _ h => h) (Or.inl ⟨by rfl, fun w hS => by go_simp⟩) hS0 ?_
          refine wpAnyH_take (i := 2) (v := .int .i64 (k : Int)) rfl (by kernel_rfl) (by kernel_rfl) (by kernel_rfl) (fun _ _ _ h => h) (Or.inl ⟨by rfl, fun w hS => by go_simp⟩) hS0 ?_
          refine wpAnyH_all (rs := [3]) (by kernel_rfl) (by simp) (fun i hi => ?_)
          obtain rfl : i = 3 := by simpa using hi
          refine wpOp_ofW (by rfl) (by rfl) ?_
          go_simp
          have hA1 := (Below.refl Wk.heap.size Wk).alloc (Nat.le_refl _) (.cells #[.int .i64 (k : Int)] 3)
          have hA2 : (Wk.alloc (.cells #[.int .i64 (k : Int)] 3)).cell? ⟨Wk.heap.size, 0, none⟩ = some (.int .i64 (k : Int)) := by simp [World.cell?_alloc_at]
          have hA3 : (Wk.alloc (.cells #[.int .i64 (k : Int)] 3)).heap.size = Wk.heap.size + 1 := by simp
          have hS1 := (hA1.cell (World.block_lt_of_cell? _ _ hS0)).trans hS0
          have HO1 := Lib.hid (OwnL.below HOk.out hA1)
          have hEk := HEk.out
          have HK1 := Lib.hid (HKk.out.trans (Kp.of_below (bs := [g, eB]) hA1))
          have HV1 : Hid (BoxV (Wk.alloc (.cells #[.int .i64 (k : Int)] 3)) eB v') := Lib.hid (World.rowIs.of_block HVk.out (hA1.block _ (World.rowIs.lt HVk.out)))
          have HB1 := Lib.hid (HBk.out.kp (Kp.of_below (bs := []) hA1) (fun _ _ => by simp))
          have HE1 := Lib.hid (HEk.out.kp (Kp.of_below (bs := []) hA1) (by simp) (by simp) (by simp) (by simp) (by simp))
          refine ⟨hS1, ?_⟩
          clear HVk HBk HOk HEk hEk hS0 hA1
          generalize Wk.alloc (.cells #[.int .i64 (k : Int)] 3) = Wl at *
          refine wpAnyH_all (rs := [4]) (by kernel_rfl) (by simp) (fun i hi => ?_)
          obtain rfl : i = 4 := by simpa using hi
          refine wpOp_ofW (by rfl) (by rfl) ?_
          refine wp_append_way (.tmp 58) (.tmp 60) (by rfl) lo _ L (by rfl) HO1.out ⟨Wk.heap.size, 0, none⟩ (by rfl) (k : Int) hA2 (by have := HLi.out; omega) (by omega) ?_
          intro g5 c5 w5 hO5 hor5
          have hgWl : g < Wl.heap.size := by
            have := HKk.out.size
            omega
          have hg5 : (g5 = g ∧ c5 = cp ∧ Wl.grownBy w5 (some g)) ∨ (g5 = Wl.heap.size ∧ Wl.grownBy w5 none) := by
            rcases hor5 with ⟨e, h⟩ | ⟨e, h⟩
            · injection e with e1 e2 e3
              injection e1 with e1
              injection e1 with e1
              subst e1 e3
              exact .inl ⟨rfl, rfl, h⟩
            · exact .inr ⟨e, h⟩
          have hK5 : Kp [g] Wl w5 := by
            rcases hg5 with ⟨-, -, h⟩ | ⟨-, h⟩
            · exact Kp.of_grown h
            · exact Kp.of_none h
          have hvs : ∀ h, v'.ownBlock = some h → lo ≤ h ∧ h ≠ g := fun h hh => by
            rcases HVo.out with e | e
            · subst e
              exact HS.out h hh
            · have := e h hh
              omega
          have hne1 : ∀ h, h < lo → h ∉ [g] := fun h hh => by simp; omega
          have hE5 := HE1.out.kp hK5 (hne1 _ m1) (hne1 _ b1) (hne1 _ s1) (hne1 _ f1) (hne1 _ g1)
          have hV5 : BoxV w5 eB v' := World.rowIs.of_block HV1.out (hK5.block _ (World.rowIs.lt HV1.out) (hne1 _ heg))
          have hB5 : BestW w5 v' (W k) := HB1.out.kp hK5 (fun h hh => by have := hvs h hh; simp; omega)
          have hs5 : ∀ h, v'.ownBlock = some h → lo ≤ h ∧ h ≠ g5 := fun h hh => by
            have h1 := hvs h hh
            have h2 := HB1.out.lt hh
            rcases hg5 with ⟨e, -, -⟩ | ⟨e, -⟩ <;> omega
          have hll : (L ++ [(k : Int)]).length = L.length + 1 := by simp
          have hih := HIH.out g5 c5 k (L ++ [(k : Int)]) v' (W k) w5 hE5 (by have := hK5.size; omega) (by rw [hll]; exact hO5) (by omega) (by rw [hll, Nat.add_sub_cancel]; simp [List.getD]) hlt (by have := HTk.out; have := HP.out (by omega); have := HTf.out; omega) (by rw [hll]; have := HLi.out; omega) hV5 hB5 hs5
          rw [hll, ← HN.out] at hih
          have hS5 : w5.cell? ⟨gB, 0, none⟩ = some (.func (.func 32) #[] #[.pointer (some ⟨bB, 0, none⟩), .pointer (some ⟨eB, 0, none⟩), .pointer (some ⟨mB, 0, none⟩), .pointer (some ⟨sB, 0, none⟩), .pointer (some ⟨fB, 0, none⟩), .pointer (some ⟨gB, 0, none⟩)]) := hE5.fn
          refine ⟨hS5, ?_⟩
          have HIHk := Lib.hid hih
          have HO5 : Hid (g5 ≠ g → OwnL w5 lo (.slice (some ⟨g, 0, none⟩) i cp) L) := Lib.hid (fun hne => by
            rcases hg5 with ⟨e, -, -⟩ | ⟨-, h⟩
            · exact absurd e hne
            · exact (Kp.of_none (bs := []) h).ownL HO1.out (fun _ _ => by simp))
          have HG5 : Hid ((g5 = g ∧ c5 = cp) ∨ (g5 = Wl.heap.size)) := Lib.hid (by
            rcases hg5 with ⟨e1, e2, -⟩ | ⟨e, -⟩
            · exact .inl ⟨e1, e2⟩
            · exact .inr e)
          have HK5 := Lib.hid (HK1.out.trans (hK5.mono (fun b hb _ => by simp at hb; simp [hb])))
          have HKs := Lib.hid (show w.heap.size ≤ Wl.heap.size from HK1.out.size)
          have HGl := Lib.hid hgWl
          have HZ5 := Lib.hid (show Wl.heap.size ≤ w5.heap.size from hK5.size)
          clear hih hE5 hV5 hB5 hs5 hK5 hg5 hor5 hO5 hvs hne1 hll hgWl HV1 HB1 HE1 HO1 HK1 hA2 hA3
          refine wpAnyH_all (rs := [5]) (by kernel_rfl) (by simp) (fun i hi => ?_)
          obtain rfl : i = 5 := by simpa using hi
          refine wpOp_ofW (by rfl) (by rfl) ?_
          go_simp
          refine HIHk.out.mono ?_
          rintro e w6 ⟨rfl, v6, hV6, hB6, hor6, hK6, hO6⟩
          have HV6 := Lib.hid hV6
          have HB6 := Lib.hid hB6
          have HW6 : Hid (v6 = v ∨ ∀ h, v6.ownBlock = some h → w.heap.size ≤ h) := Lib.hid (by
            rcases hor6 with e | e
            · rw [e]
              exact HVo.out
            · exact .inr (fun h hh => by have := e h hh; have := HZ5.out; have := HKs.out; omega))
          have HK6 : Hid (Kp [g, eB] w w6) := Lib.hid (HK5.out.trans2 hK6 (fun b hb => by
            simp at hb
            rcases hb with rfl | rfl
            · rcases HG5.out with ⟨e, -⟩ | e
              · exact .inl (by simp [e])
              · exact .inr (by have := HKs.out; omega)
            · exact .inl (by simp)))
          have HO6 : Hid (OwnL w6 lo (.slice (some ⟨g, 0, none⟩) i cp) L) := Lib.hid (by
            rcases HG5.out with ⟨e1, e2⟩ | e
            · subst e1 e2
              have := OwnL.front hO6
              rw [HLi.out] at this
              exact this
            · refine hK6.ownL (HO5.out (by have := HGl.out; omega)) (fun h hh => ?_)
              obtain rfl : g = h := by simpa [Value.ownBlock] using hh
              have := HGl.out
              simp
              omega)
          have hS6 : w6.cell? ⟨gB, 0, none⟩ = some (.func (.func 32) #[] #[.pointer (some ⟨bB, 0, none⟩), .pointer (some ⟨eB, 0, none⟩), .pointer (some ⟨mB, 0, none⟩), .pointer (some ⟨sB, 0, none⟩), .pointer (some ⟨fB, 0, none⟩), .pointer (some ⟨gB, 0, none⟩)]) := by
            refine (World.cell?_of_block (hK6.block _ (World.block_lt_of_cell? _ _ hS5) ?_)).trans hS5
            rcases HG5.out with ⟨e, -⟩ | e <;> (have := HKs.out; simp; omega)
          refine ⟨hS6, ?_⟩
          clear hV6 hB6 hor6 hK6 hO6 hS6 hS5 HIHk
          refine wpAnyH_done (by kernel_rfl) ?_ _
          go_wp2
          go_roundw
          case rel => exact ⟨k + 1, v6, by omega, by go_num, HV6.out, HB6.out, HW6.out, HK6.out, HO6.out⟩
          case measure => simp [intOf]; omega
        · have hc2 := beq_f hs
          have HN := Lib.hid (show W (k + 1) = W k by rw [HNk.out, HNx.out, decide_eq_false hs, Bool.and_false]; rfl)
          go_wp2
          go_region
          go_wp2
          go_roundw
          case rel => exact ⟨k + 1, v', by omega, by go_num, HVr.out, by rw [HN.out]; exact HBr.out, HVo.out, HK.out.drew, HOr.out⟩
          case measure => simp [intOf]; omega
    · obtain rfl : k = n := by omega
      go_wp2
      go_returns
      exact ⟨rfl, v', HVr.out, HBr.out, HVo.out, HK.out, HOr.out⟩
end Go.Proofs.Ytclhamemlpbpiaa
