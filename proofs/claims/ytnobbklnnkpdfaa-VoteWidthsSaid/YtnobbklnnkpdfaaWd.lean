/- widths: each candidate is let in, in turn. -/
import Derived.Test.YtnobbklnnkpdfaaMg
namespace Go.Proofs.Ytnobbklnnkpdfaa
open Go.RowKit

def stW (T : Nat → Int) (t a b : Nat) : Nat → Int := if a = b then T else upd T (5 * a + b) (max (T (5 * a + b)) (min (T (5 * a + t)) (T (5 * t + b))))
def wB (t a : Nat) (T : Nat → Int) : Nat → Nat → Int
  | 0 => T
  | b + 1 => stW (wB t a T b) t a b
def wA (t c : Nat) (T : Nat → Int) : Nat → Nat → Int
  | 0 => T
  | a + 1 => wB t a (wA t c T a) c
def wT (c : Nat) (T : Nat → Int) : Nat → Nat → Int
  | 0 => T
  | t + 1 => wA t c (wT c T t) c

theorem TabI.zero (w : World) : TabI (w.alloc (.cells #[.int .i64 0, .int .i64 0, .int .i64 0, .int .i64 0, .int .i64 0, .int .i64 0, .int .i64 0, .int .i64 0, .int .i64 0, .int .i64 0, .int .i64 0, .int .i64 0, .int .i64 0, .int .i64 0, .int .i64 0, .int .i64 0, .int .i64 0, .int .i64 0, .int .i64 0, .int .i64 0, .int .i64 0, .int .i64 0, .int .i64 0, .int .i64 0, .int .i64 0] 54)) w.heap.size (fun _ => 0) := TabI.box w (fun _ => 0)
theorem tab_below (w : World) : Below w.heap.size w (w.alloc (.cells #[.int .i64 0, .int .i64 0, .int .i64 0, .int .i64 0, .int .i64 0, .int .i64 0, .int .i64 0, .int .i64 0, .int .i64 0, .int .i64 0, .int .i64 0, .int .i64 0, .int .i64 0, .int .i64 0, .int .i64 0, .int .i64 0, .int .i64 0, .int .i64 0, .int .i64 0, .int .i64 0, .int .i64 0, .int .i64 0, .int .i64 0, .int .i64 0, .int .i64 0] 54)) := (Below.refl _ w).alloc (Nat.le_refl _) _
theorem TabI.cell {w : World} {g : Nat} {T : Nat → Int} (h : TabI w g T) {x y : Nat} (hx : x < 5) (hy : y < 5) : w.cell? ⟨g, x * 5 + y, none⟩ = some (.int .i64 (T (5 * x + y))) := by
  rw [World.rowIs.cell h (by omega : x * 5 + y < 25), show x * 5 + y = 5 * x + y by omega]
theorem TabI.frozen {w : World} {g : Nat} {T : Nat → Int} (h : TabI w g T) (i : Nat) : w.frozen? ⟨g, i, none⟩ = false := World.rowIs.frozen h i
theorem TabI.set {w : World} {g : Nat} {T : Nat → Int} (h : TabI w g T) (x y : Nat) (z : Int) : TabI (w.setCell ⟨g, x * 5 + y, none⟩ (.int .i64 z)) g (upd T (5 * x + y) z) := by
  rw [show x * 5 + y = 5 * x + y by omega]
  exact World.rowIs.congr (World.rowIs.set h (5 * x + y) (.int .i64 z)) (fun j hj => by
    unfold upd
    by_cases e : j = 5 * x + y
    · rw [if_pos e, if_pos e]
    · rw [if_neg e, if_neg e])
theorem TabI.range {w : World} {g : Nat} {T : Nat → Int} (h : TabI w g T) : w.rangeAt g 0 (tabL T) := fun j v hv => by
  obtain ⟨hj, rfl⟩ := tabL_get hv
  rw [Nat.zero_add]
  exact World.rowIs.cell h hj
theorem tabL_one {T : Nat → Int} : ∀ u ∈ tabL T, u.oneCell' = true := by
  intro u hu
  obtain ⟨j, hj, e⟩ := List.getElem_of_mem hu
  obtain ⟨-, rfl⟩ := tabL_get (v := u) (by rw [List.getElem?_eq_getElem hj, e])
  rfl
theorem run_storeTab (W : World) (g : Nat) (F : Nat → Value) (T : Nat → Int) (h : W.rowIs g 54 25 F) :
    (storeCells ⟨g, 0, none⟩ (tabL T)).run Try.prog W = .ok () (W.setCells g 0 (tabL T)) := by
  have := run_storeCells_cells (P := Try.prog) g 0 (tabL T) 0 W (fun j hj => by
    rw [tabL_len] at hj
    have e : 0 + 0 + j = j := by omega
    rw [e, World.rowIs.cell h hj]
    rfl) (fun j hj => by
    have e : 0 + 0 + j = j := by omega
    rw [e]
    exact World.rowIs.frozen h j) tabL_one
  simpa using this
theorem TabI.stored {w : World} {g : Nat} {F : Nat → Value} {T : Nat → Int} (h : w.rowIs g 54 25 F) : TabI (w.setCells g 0 (tabL T)) g T := by
  have key : ∀ (vs : List Value) (o : Nat) (w : World) (F : Nat → Value), w.rowIs g 54 25 F → ∃ F', (w.setCells g o vs).rowIs g 54 25 F' := by
    intro vs
    induction vs with
    | nil => exact fun o w F h => ⟨F, h⟩
    | cons v vs ih => exact fun o w F h => ih (o + 1) _ _ (World.rowIs.set h o v)
  obtain ⟨F', hF⟩ := key (tabL T) 0 w F h
  refine World.rowIs.congr hF (fun i hi => ?_)
  have h1 := World.rangeAt_setCells_same w g 0 (tabL T) (fun j hj => ⟨by rw [Nat.zero_add, World.rowIs.cell h (by rw [tabL_len] at hj; exact hj)]; rfl, by rw [Nat.zero_add]; exact World.rowIs.frozen h j⟩) i _ (tabL_at T hi)
  rw [Nat.zero_add, World.rowIs.cell hF hi] at h1
  injection h1
theorem run_loadTab {W : World} {g : Nat} {T : Nat → Int} (h : TabI W g T) : (loadVar 54 ⟨g, 0, none⟩).run Try.prog W = .ok (.agg (tabL T).toArray) W := by
  have hl : (Try.prog.info? 54).map (·.size) = some (tabL T).length := by rw [tabL_len]; exact infoTab
  exact run_loadVar_mid (P := Try.prog) W g 0 54 (tabL T) _ h.range Try.underlying54 rfl hl
theorem tab_results (tmps : Array Value) (w : World) (g : Nat) (l : List Value) (h2 : tmps[2]?.getD undef = .pointer (some ⟨g, 0, none⟩))
    (hld : (loadVar 54 ⟨g, 0, none⟩).run Try.prog w = .ok (.agg l.toArray) w) : (results Try.f46 tmps).run Try.prog w = .ok (.agg l.toArray) w := by
  simp [results, Try.results46, asAddr, h2, hld]

set_option maxHeartbeats 1000000 in
set_option maxRecDepth 1000000 in
theorem widths_any (A : Option Addr) (n cA c : Nat) (T : Nat → Int) (hc : c ≤ 5) (w : World) :
    Calls Try.prog 46 #[.agg (pollL A n cA c T).toArray] w fun e w' => e = .returned (.agg (tabL (wT c T c)).toArray) ∧ Below w.heap.size w w' := by
  have HP0 := Lib.hid (PollI.box w A n cA c T)
  have Hb0 := Lib.hid ((Below.refl w.heap.size w).alloc (Nat.le_refl _) (.cells (pollL A n cA c T).toArray 56))
  go_enter Try.func46, Try.ntmps46
  have HP1 := Lib.hid (HP0.out.keep (tab_below _))
  have HZ1 := Lib.hid (TabI.zero (w.alloc (.cells (pollL A n cA c T).toArray 56)))
  have HP2 := Lib.hid (HP1.out.keep (tab_below _))
  have HZ2 := Lib.hid (HZ1.out.keep (tab_below _))
  have HY2 := Lib.hid (TabI.zero ((w.alloc (.cells (pollL A n cA c T).toArray 56)).alloc (.cells #[.int .i64 0, .int .i64 0, .int .i64 0, .int .i64 0, .int .i64 0, .int .i64 0, .int .i64 0, .int .i64 0, .int .i64 0, .int .i64 0, .int .i64 0, .int .i64 0, .int .i64 0, .int .i64 0, .int .i64 0, .int .i64 0, .int .i64 0, .int .i64 0, .int .i64 0, .int .i64 0, .int .i64 0, .int .i64 0, .int .i64 0, .int .i64 0, .int .i64 0] 54)))
  have Hb2 := Lib.hid ((Hb0.out.trans ((tab_below _).mono Hb0.out.size)).trans ((tab_below _).mono (by simp; omega)))
  go_wp2_with (first
    | (refine wpList_load_mid rfl 54 _ rfl w.heap.size 2 rfl (tabL T) _ HP1.out.tab Try.underlying54 rfl (by rw [tabL_len]; exact infoTab) ?_)
    | fail)
  have hz1 : (w.alloc (.cells (pollL A n cA c T).toArray 56)).heap.size = w.heap.size + 1 := by simp
  have hz2 : ((w.alloc (.cells (pollL A n cA c T).toArray 56)).alloc (.cells #[.int .i64 0, .int .i64 0, .int .i64 0, .int .i64 0, .int .i64 0, .int .i64 0, .int .i64 0, .int .i64 0, .int .i64 0, .int .i64 0, .int .i64 0, .int .i64 0, .int .i64 0, .int .i64 0, .int .i64 0, .int .i64 0, .int .i64 0, .int .i64 0, .int .i64 0, .int .i64 0, .int .i64 0, .int .i64 0, .int .i64 0, .int .i64 0, .int .i64 0] 54)).heap.size = w.heap.size + 1 + 1 := by simp
  rw [hz1] at HZ1 HZ2
  rw [hz2] at HY2
  rw [run_storeTab _ _ _ T HY2.out]
  simp only [Result.andThen_ok]
  rw [Oper.upon_skip]
  have HY3 := Lib.hid (TabI.stored (T := T) HY2.out)
  have HZ3 := Lib.hid (World.rowIs.of_block HZ2.out (setCells_other _ (w.heap.size + 1 + 1) (tabL T) (w.heap.size + 1) (by omega) 0))
  have HP3 := Lib.hid (World.rowIs.of_block HP2.out (setCells_other _ (w.heap.size + 1 + 1) (tabL T) w.heap.size (by omega) 0))
  have Hb3 := Lib.hid (below_setCells (tabL T) 0 (by omega : w.heap.size ≤ w.heap.size + 1 + 1) Hb2.out)
  clear HP0 Hb0 HP1 HZ1 HP2 HZ2 HY2 Hb2 hz1 hz2
  generalize World.setCells _ (w.heap.size + 1 + 1) 0 (tabL T) = W at *
  obtain ⟨B, hB⟩ : ∃ B, B = w.heap.size := ⟨_, rfl⟩
  obtain ⟨Z, hZ⟩ : ∃ Z, Z = w.heap.size + 1 := ⟨_, rfl⟩
  obtain ⟨Y, hY⟩ : ∃ Y, Y = w.heap.size + 1 + 1 := ⟨_, rfl⟩
  have HBZ : Hid (w.heap.size ≤ B ∧ w.heap.size ≤ Z ∧ w.heap.size ≤ Y ∧ B ≠ Y ∧ Z ≠ Y) := Lib.hid (by omega)
  rw [← hY] at HY3 ⊢
  rw [← hZ] at HZ3 ⊢
  have HP4 : Hid (PollI W B A n cA c T) := Lib.hid (by rw [hB]; exact HP3.out)
  clear HP3
  rw [← hB]
  clear hY hZ hB
  obtain ⟨h0, hc1⟩ : (W.cell? ⟨B, 0, none⟩ = some (.slice A n cA)) ∧ W.cell? ⟨B, 1, none⟩ = some (.int .i64 (c : Int)) := ⟨HP4.out.c0, HP4.out.c1⟩
  go_wp2
  clear h0 hc1
  go_loopw [11] (fun i wr => ∃ t : Nat, t ≤ c ∧ i = .int .i64 t ∧ TabI wr Y (wT c T t) ∧ TabI wr Z (fun _ => 0) ∧ PollI wr B A n cA c T ∧ Below w.heap.size w wr) (fun i _ => c - (intOf i).toNat)
  case atStart => exact ⟨0, Nat.zero_le _, rfl, HY3.out, HZ3.out, HP4.out, Hb3.out⟩
  case round =>
    obtain ⟨t, ht, rfl, hY, hZ, hP, hB⟩ := hrel
    have HY := Lib.hid hY
    have HZ := Lib.hid hZ
    have HP := Lib.hid hP
    have HB := Lib.hid hB
    clear hY hZ hP hB HY3 HZ3 HP4 Hb3
    by_cases hlt : t < c
    · have hc1 := HP.out.c1
      go_wp2
      clear hc1
      go_loopw [16] (fun i wx => ∃ a : Nat, a ≤ c ∧ i = .int .i64 a ∧ TabI wx Y (wA t c (wT c T t) a) ∧ TabI wx Z (fun _ => 0) ∧ PollI wx B A n cA c T ∧ Below w.heap.size w wx) (fun i _ => c - (intOf i).toNat)
      case atStart => exact ⟨0, Nat.zero_le _, rfl, HY.out, HZ.out, HP.out, HB.out⟩
      case round =>
        obtain ⟨a, ha, rfl, hY, hZ, hP, hB⟩ := hrel
        have HYb := Lib.hid hY
        have HZb := Lib.hid hZ
        have HPb := Lib.hid hP
        have HBb := Lib.hid hB
        clear hY hZ hP hB
        by_cases hla : a < c
        · have hc1 := HPb.out.c1
          go_wp2
          clear hc1
          generalize hTa : wA t c (wT c T t) a = Ta at *
          have HTa := Lib.hid hTa
          clear hTa
          go_loopw [21] (fun i wy => ∃ b : Nat, b ≤ c ∧ i = .int .i64 b ∧ TabI wy Y (wB t a Ta b) ∧ TabI wy Z (fun _ => 0) ∧ PollI wy B A n cA c T ∧ Below w.heap.size w wy) (fun i _ => c - (intOf i).toNat)
          case atStart => exact ⟨0, Nat.zero_le _, rfl, HYb.out, HZb.out, HPb.out, HBb.out⟩
          case round =>
            obtain ⟨b, hb, rfl, hY, hZ, hP, hB⟩ := hrel
            have HYc := Lib.hid hY
            have HZc := Lib.hid hZ
            have HPc := Lib.hid hP
            have HBc := Lib.hid hB
            clear hY hZ hP hB
            by_cases hlb : b < c
            · by_cases hab : a = b
              · have hbn := bne_f (a := (a : Int)) (b := (b : Int)) (by omega)
                have HE : Hid (wB t a Ta (b + 1) = wB t a Ta b) := Lib.hid (by simp only [wB, stW]; rw [if_pos hab])
                clear hab
                go_wp2
                go_roundw
                case rel => exact ⟨b + 1, by omega, by go_num, by rw [HE.out]; exact HYc.out, HZc.out, HPc.out, HBc.out⟩
                case measure => simp [intOf]; omega
              · have hbn := bne_t (a := (a : Int)) (b := (b : Int)) (by omega)
                have HE : Hid (wB t a Ta (b + 1) = upd (wB t a Ta b) (5 * a + b) (max (wB t a Ta b (5 * a + b)) (min (wB t a Ta b (5 * a + t)) (wB t a Ta b (5 * t + b))))) := Lib.hid (by simp only [wB, stW]; rw [if_neg hab])
                clear hab
                generalize wB t a Ta b = Tb at *
                have hx1 := HYc.out.cell (show a < 5 by omega) (show b < 5 by omega)
                have hx2 := HYc.out.cell (show a < 5 by omega) (show t < 5 by omega)
                have hx3 := HYc.out.cell (show t < 5 by omega) (show b < 5 by omega)
                have hf1 := HYc.out.frozen (a * 5 + b)
                have ha5 : a < 5 := by omega
                have hb5 : b < 5 := by omega
                have ht5 : t < 5 := by omega
                generalize Tb (5 * a + b) = M1 at *
                generalize Tb (5 * a + t) = M2 at *
                generalize Tb (5 * t + b) = M3 at *
                have HY2 := Lib.hid (HYc.out.set a b (max M1 (min M2 M3)))
                have HZ2 := Lib.hid (World.rowIs.setOther HZc.out (a := ⟨Y, a * 5 + b, none⟩) HBZ.out.2.2.2.2 (.int .i64 (max M1 (min M2 M3))))
                have HP2 := Lib.hid (World.rowIs.setOther HPc.out (a := ⟨Y, a * 5 + b, none⟩) HBZ.out.2.2.2.1 (.int .i64 (max M1 (min M2 M3))))
                have HB2 := Lib.hid (HBc.out.setCell (p := ⟨Y, a * 5 + b, none⟩) HBZ.out.2.2.1 (.int .i64 (max M1 (min M2 M3))))
                go_wp2
                go_region
                have hmx : (if M1 < (if M3 < M2 then M3 else M2) then (if M3 < M2 then M3 else M2) else M1) = max M1 (min M2 M3) := by
                  split <;> split <;> omega
                rw [hmx]
                clear hmx hx1 hx2 hx3 hf1
                generalize World.setCell _ ⟨Y, a * 5 + b, none⟩ (.int .i64 (max M1 (min M2 M3))) = W2 at *
                go_wp2
                go_roundw
                case rel => exact ⟨b + 1, by omega, by go_num, by rw [HE.out]; exact HY2.out, HZ2.out, HP2.out, HB2.out.trans ((Dn.refl _).drew.below _)⟩
                case measure => simp [intOf]; omega
            · obtain rfl : b = c := by omega
              go_wp2
              go_roundw
              case rel => exact ⟨a + 1, by omega, by go_num, by have h9 := HYc.out; rw [← HTa.out] at h9; exact h9, HZc.out, HPc.out, HBc.out⟩
              case measure => simp [intOf]; omega
        · obtain rfl : a = c := by omega
          go_wp2
          go_roundw
          case rel => exact ⟨t + 1, by omega, by go_num, HYb.out, HZb.out, HPb.out, HBb.out⟩
          case measure => simp [intOf]; omega
    · obtain rfl : t = c := by omega
      go_wp2_with (first
        | (refine wpList_load_mid rfl 54 _ rfl Y 0 rfl (tabL (wT t T t)) _ HY.out.range Try.underlying54 rfl (by rw [tabL_len]; exact infoTab) ?_)
        | fail)
      rw [run_storeTab _ _ _ (wT t T t) HZ.out]
      simp only [Result.andThen_ok]
      rw [Oper.upon_skip]
      have HR := Lib.hid (TabI.stored (T := wT t T t) HZ.out)
      have HB2 := Lib.hid (below_setCells (tabL (wT t T t)) 0 HBZ.out.2.1 HB.out)
      clear HY HZ HP HB
      generalize World.setCells _ Z 0 (tabL (wT t T t)) = W2 at *
      go_wp2_with fail
      have hld := run_loadTab HR.out
      refine bodyPost_ret (v := .agg (tabL (wT t T t)).toArray) (tab_results _ _ Z _ rfl hld) rfl ?_
      exact ⟨rfl, HB2.out⟩
end Go.Proofs.Ytnobbklnnkpdfaa
