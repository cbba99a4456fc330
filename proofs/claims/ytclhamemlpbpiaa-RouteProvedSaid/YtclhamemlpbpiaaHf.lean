/- distances: each stop in turn is let in. -/
import Derived.Test.YtclhamemlpbpiaaHe
namespace Go.Proofs.Ytclhamemlpbpiaa
open Go.RowKit

/-- A table's numbers are from 0 to 400. -/
def BT (T : Nat → Int) : Prop := ∀ i, 0 ≤ T i ∧ T i ≤ 400
theorem BT.upd_ {T : Nat → Int} (h : BT T) (i : Nat) {x : Int} (h0 : 0 ≤ x) (h1 : x ≤ 400) : BT (upd T i x) := fun j => by
  unfold upd
  split
  · exact ⟨h0, h1⟩
  · exact h j
theorem iB_bd {a : Nat} {T : Nat → Int} (h : BT T) : ∀ b, BT (iB a T b) := by
  intro b
  induction b with
  | zero => exact h
  | succ b ih =>
    rw [iB]
    split
    · exact ih
    · exact ih.upd_ _ (by omega) (by omega)
theorem iA_bd {n : Nat} {T : Nat → Int} (h : BT T) : ∀ a, BT (iA n T a) := by
  intro a
  induction a with
  | zero => exact h
  | succ a ih => exact iB_bd ih n
theorem rS_bd {m : Nat} {F : Nat → Nat → Int} {T : Nat → Int} (h : BT T) (hF : ∀ k, k < m → 0 ≤ F k 2) : ∀ k, k ≤ m → BT (rS F T k) := by
  intro k
  induction k with
  | zero => intro _; exact h
  | succ k ih =>
    intro hk
    have h1 := ih (by omega)
    have h2 := hF k (by omega)
    have h3 := h1 (8 * (F k 0).toNat + (F k 1).toNat)
    exact (h1.upd_ _ (by omega) (by omega)).upd_ _ (by omega) (by omega)
theorem stT_bd {n m : Nat} {F : Nat → Nat → Int} (hF : ∀ k, k < m → 0 ≤ F k 2) : BT (stT n m F) := rS_bd (iA_bd (fun _ => ⟨Int.le_refl _, by omega⟩) n) hF m (Nat.le_refl _)
theorem dB_bd {t a : Nat} {T : Nat → Int} (h : BT T) : ∀ b, BT (dB t a T b) := by
  intro b
  induction b with
  | zero => exact h
  | succ b ih =>
    have h1 := ih (8 * a + b)
    have h2 := ih (8 * a + t)
    have h3 := ih (8 * t + b)
    exact ih.upd_ _ (by omega) (by omega)
theorem dA_bd {t n : Nat} {T : Nat → Int} (h : BT T) : ∀ a, BT (dA t n T a) := by
  intro a
  induction a with
  | zero => exact h
  | succ a ih => exact dB_bd ih n
theorem dS_bd {n : Nat} {T : Nat → Int} (h : BT T) : ∀ t, BT (dS n T t) := by
  intro t
  induction t with
  | zero => exact h
  | succ t ih => exact dA_bd ih n

set_option maxHeartbeats 2000000 in
set_option maxRecDepth 1000000 in
theorem distances_any (A : Option Addr) (m c n : Nat) (F : Nat → Nat → Int) (w : World) (h : Recs 3 w A m F) (hm : m ≤ 16) (hn : n ≤ 8) (hr : ∀ k, k < m → (0 ≤ F k 0 ∧ F k 0 < n) ∧ (0 ≤ F k 1 ∧ F k 1 < n) ∧ F k 0 ≠ F k 1) (hF : ∀ k, k < m → 0 ≤ F k 2) :
    Calls Try.prog 29 #[.agg #[.int .i64 n, .slice A m c]] w fun e w' => e = .returned (.agg (tabL (dS n (stT n m F) n)).toArray) ∧ Below w.heap.size w w' := by
  have HBd := Lib.hid (stT_bd (n := n) hF)
  have HB1 := MapB.new w n (.slice A m c)
  have Hb1 := (Below.refl w.heap.size w).alloc (Nat.le_refl _) (.cells #[.int .i64 n, .slice A m c] 31)
  have hz1 : (w.alloc (.cells #[.int .i64 n, .slice A m c] 31)).heap.size = w.heap.size + 1 := by simp
  obtain ⟨W1, hW1⟩ : ∃ W1, W1 = w.alloc (.cells #[.int .i64 n, .slice A m c] 31) := ⟨_, rfl⟩
  rw [← hW1] at HB1 Hb1 hz1
  have HZ2 := TabI.zero W1
  have HB2 := HB1.keep (tab_below W1)
  have Hb2 := Hb1.trans ((tab_below W1).mono Hb1.size)
  have hz2 : (W1.alloc (.cells #[.int .i64 0, .int .i64 0, .int .i64 0, .int .i64 0, .int .i64 0, .int .i64 0, .int .i64 0, .int .i64 0, .int .i64 0, .int .i64 0, .int .i64 0, .int .i64 0, .int .i64 0, .int .i64 0, .int .i64 0, .int .i64 0, .int .i64 0, .int .i64 0, .int .i64 0, .int .i64 0, .int .i64 0, .int .i64 0, .int .i64 0, .int .i64 0, .int .i64 0, .int .i64 0, .int .i64 0, .int .i64 0, .int .i64 0, .int .i64 0, .int .i64 0, .int .i64 0, .int .i64 0, .int .i64 0, .int .i64 0, .int .i64 0, .int .i64 0, .int .i64 0, .int .i64 0, .int .i64 0, .int .i64 0, .int .i64 0, .int .i64 0, .int .i64 0, .int .i64 0, .int .i64 0, .int .i64 0, .int .i64 0, .int .i64 0, .int .i64 0, .int .i64 0, .int .i64 0, .int .i64 0, .int .i64 0, .int .i64 0, .int .i64 0, .int .i64 0, .int .i64 0, .int .i64 0, .int .i64 0, .int .i64 0, .int .i64 0, .int .i64 0, .int .i64 0] 62)).heap.size = W1.heap.size + 1 := by simp
  obtain ⟨W2, hW2⟩ : ∃ W2, W2 = W1.alloc (.cells #[.int .i64 0, .int .i64 0, .int .i64 0, .int .i64 0, .int .i64 0, .int .i64 0, .int .i64 0, .int .i64 0, .int .i64 0, .int .i64 0, .int .i64 0, .int .i64 0, .int .i64 0, .int .i64 0, .int .i64 0, .int .i64 0, .int .i64 0, .int .i64 0, .int .i64 0, .int .i64 0, .int .i64 0, .int .i64 0, .int .i64 0, .int .i64 0, .int .i64 0, .int .i64 0, .int .i64 0, .int .i64 0, .int .i64 0, .int .i64 0, .int .i64 0, .int .i64 0, .int .i64 0, .int .i64 0, .int .i64 0, .int .i64 0, .int .i64 0, .int .i64 0, .int .i64 0, .int .i64 0, .int .i64 0, .int .i64 0, .int .i64 0, .int .i64 0, .int .i64 0, .int .i64 0, .int .i64 0, .int .i64 0, .int .i64 0, .int .i64 0, .int .i64 0, .int .i64 0, .int .i64 0, .int .i64 0, .int .i64 0, .int .i64 0, .int .i64 0, .int .i64 0, .int .i64 0, .int .i64 0, .int .i64 0, .int .i64 0, .int .i64 0, .int .i64 0] 62) := ⟨_, rfl⟩
  rw [← hW2] at HZ2 HB2 Hb2 hz2
  rw [hz1] at HZ2 hz2
  have HS := Lib.hid (steps_any A m c n F W2 (h.keep Hb2) hm hn hr)
  have HZ2 := Lib.hid HZ2
  have HB2 := Lib.hid HB2
  have Hb2 := Lib.hid Hb2
  have Hz2 := Lib.hid hz2
  have HWW : Hid ((w.alloc (.cells #[.int .i64 n, .slice A m c] 31)).alloc (.cells #[.int .i64 0, .int .i64 0, .int .i64 0, .int .i64 0, .int .i64 0, .int .i64 0, .int .i64 0, .int .i64 0, .int .i64 0, .int .i64 0, .int .i64 0, .int .i64 0, .int .i64 0, .int .i64 0, .int .i64 0, .int .i64 0, .int .i64 0, .int .i64 0, .int .i64 0, .int .i64 0, .int .i64 0, .int .i64 0, .int .i64 0, .int .i64 0, .int .i64 0, .int .i64 0, .int .i64 0, .int .i64 0, .int .i64 0, .int .i64 0, .int .i64 0, .int .i64 0, .int .i64 0, .int .i64 0, .int .i64 0, .int .i64 0, .int .i64 0, .int .i64 0, .int .i64 0, .int .i64 0, .int .i64 0, .int .i64 0, .int .i64 0, .int .i64 0, .int .i64 0, .int .i64 0, .int .i64 0, .int .i64 0, .int .i64 0, .int .i64 0, .int .i64 0, .int .i64 0, .int .i64 0, .int .i64 0, .int .i64 0, .int .i64 0, .int .i64 0, .int .i64 0, .int .i64 0, .int .i64 0, .int .i64 0, .int .i64 0, .int .i64 0, .int .i64 0] 62) = W2) := Lib.hid (by rw [hW2, hW1])
  clear HB1 Hb1 hz1 hz2 hW1 hW2 h hr hF hm
  go_enter Try.func29, Try.ntmps29
  go_wp2_with fail
  rw [HWW.out]
  clear HWW
  refine HS.out.mono ?_
  rintro e w3 ⟨rfl, hb3⟩
  have HZ3 := Lib.hid (HZ2.out.keep hb3)
  have HB3 := Lib.hid (HB2.out.keep hb3)
  have Hb3 := Lib.hid (Hb2.out.trans (hb3.mono Hb2.out.size))
  have Hz3 : Hid (w.heap.size + 1 + 1 ≤ w3.heap.size) := Lib.hid (by have := hb3.size; have := Hz2.out; omega)
  clear hb3 HZ2 HB2 Hb2 Hz2 HS
  go_wp2_with fail
  have HY4 := TabI.zero w3
  rw [run_storeTab _ _ _ (stT n m F) HY4]
  simp only [Result.andThen_ok]
  rw [Oper.upon_skip]
  have HY5 := Lib.hid (TabI.stored (T := stT n m F) HY4)
  have HZ5 := Lib.hid (World.rowIs.of_block (HZ3.out.keep (tab_below w3)) (setCells_other _ w3.heap.size (tabL (stT n m F)) (w.heap.size + 1) (by have := Hz3.out; omega) 0))
  have HB5 := Lib.hid (World.rowIs.of_block (HB3.out.keep (tab_below w3)) (setCells_other _ w3.heap.size (tabL (stT n m F)) w.heap.size (by have := Hz3.out; omega) 0))
  have Hb5 := Lib.hid (below_setCells (tabL (stT n m F)) 0 (show w.heap.size ≤ w3.heap.size by have := Hz3.out; omega) (Hb3.out.trans ((tab_below w3).mono Hb3.out.size)))
  clear HY4 HZ3 HB3 Hb3
  generalize World.setCells _ w3.heap.size 0 (tabL (stT n m F)) = W at *
  obtain ⟨B, hB⟩ : ∃ B, B = w.heap.size := ⟨_, rfl⟩
  obtain ⟨Z, hZ⟩ : ∃ Z, Z = w.heap.size + 1 := ⟨_, rfl⟩
  obtain ⟨Y, hY⟩ : ∃ Y, Y = w3.heap.size := ⟨_, rfl⟩
  have HBZ : Hid (w.heap.size ≤ B ∧ w.heap.size ≤ Z ∧ w.heap.size ≤ Y ∧ B ≠ Y ∧ Z ≠ Y) := Lib.hid (by have := Hz3.out; omega)
  rw [← hY] at HY5 ⊢
  rw [← hZ] at HZ5 ⊢
  have HB6 : Hid (MapB W B n (.slice A m c)) := Lib.hid (by rw [hB]; exact HB5.out)
  clear HB5 Hz3
  rw [← hB]
  clear hY hZ hB
  generalize hT : stT n m F = T at *
  have HTT := Lib.hid hT
  clear hT
  have hc1 := HB6.out.c0
  go_wp2
  clear hc1
  go_loopw [11] (fun i wr => ∃ t : Nat, t ≤ n ∧ i = .int .i64 t ∧ TabI wr Y (dS n T t) ∧ TabI wr Z (fun _ => 0) ∧ MapB wr B n (.slice A m c) ∧ Below w.heap.size w wr) (fun i _ => n - (intOf i).toNat)
  case atStart => exact ⟨0, Nat.zero_le _, rfl, HY5.out, HZ5.out, HB6.out, Hb5.out⟩
  case round =>
    obtain ⟨t, ht, rfl, hY, hZ, hP, hB⟩ := hrel
    have HY := Lib.hid hY
    have HZ := Lib.hid hZ
    have HP := Lib.hid hP
    have HB := Lib.hid hB
    clear hY hZ hP hB HY5 HZ5 HB6 Hb5
    by_cases hlt : t < n
    · have hc1 := HP.out.c0
      have HEt : Hid (dS n T (t + 1) = dA t n (dS n T t) n) := Lib.hid rfl
      have HTb := Lib.hid (dS_bd HBd.out (n := n) t)
      generalize dS n T t = Tt at *
      go_wp2
      clear hc1
      go_loopw [16] (fun i wx => ∃ a : Nat, a ≤ n ∧ i = .int .i64 a ∧ TabI wx Y (dA t n Tt a) ∧ TabI wx Z (fun _ => 0) ∧ MapB wx B n (.slice A m c) ∧ Below w.heap.size w wx) (fun i _ => n - (intOf i).toNat)
      case atStart => exact ⟨0, Nat.zero_le _, rfl, HY.out, HZ.out, HP.out, HB.out⟩
      case round =>
        obtain ⟨a, ha, rfl, hY, hZ, hP, hB⟩ := hrel
        have HYb := Lib.hid hY
        have HZb := Lib.hid hZ
        have HPb := Lib.hid hP
        have HBb := Lib.hid hB
        clear hY hZ hP hB
        by_cases hla : a < n
        · have hc1 := HPb.out.c0
          have HEa : Hid (dA t n Tt (a + 1) = dB t a (dA t n Tt a) n) := Lib.hid rfl
          have HTa := Lib.hid (dA_bd HTb.out (t := t) (n := n) a)
          generalize dA t n Tt a = Ta at *
          go_wp2
          clear hc1
          go_loopw [21] (fun i wy => ∃ b : Nat, b ≤ n ∧ i = .int .i64 b ∧ TabI wy Y (dB t a Ta b) ∧ TabI wy Z (fun _ => 0) ∧ MapB wy B n (.slice A m c) ∧ Below w.heap.size w wy) (fun i _ => n - (intOf i).toNat)
          case atStart => exact ⟨0, Nat.zero_le _, rfl, HYb.out, HZb.out, HPb.out, HBb.out⟩
          case round =>
            obtain ⟨b, hb, rfl, hY, hZ, hP, hB⟩ := hrel
            have HYc := Lib.hid hY
            have HZc := Lib.hid hZ
            have HPc := Lib.hid hP
            have HBc := Lib.hid hB
            clear hY hZ hP hB
            by_cases hlb : b < n
            · have HE : Hid (dB t a Ta (b + 1) = upd (dB t a Ta b) (8 * a + b) (min (dB t a Ta b (8 * a + b)) (dB t a Ta b (8 * a + t) + dB t a Ta b (8 * t + b)))) := Lib.hid rfl
              obtain ⟨k11, k12⟩ := dB_bd HTa.out (t := t) (a := a) b (8 * a + b)
              obtain ⟨k21, k22⟩ := dB_bd HTa.out (t := t) (a := a) b (8 * a + t)
              obtain ⟨k31, k32⟩ := dB_bd HTa.out (t := t) (a := a) b (8 * t + b)
              generalize dB t a Ta b = Tb at *
              have ha8 : a < 8 := by omega
              have hb8 : b < 8 := by omega
              have ht8 : t < 8 := by omega
              have hx1 := HYc.out.cell ha8 hb8
              have hx2 := HYc.out.cell ha8 ht8
              have hx3 := HYc.out.cell ht8 hb8
              have hf1 := HYc.out.frozen (a * 8 + b)
              generalize Tb (8 * a + b) = M1 at *
              generalize Tb (8 * a + t) = M2 at *
              generalize Tb (8 * t + b) = M3 at *
              have HY2 := Lib.hid (TabI.set HYc.out a b (min M1 (M2 + M3)))
              have HZ2 := Lib.hid (World.rowIs.setOther HZc.out (a := ⟨Y, a * 8 + b, none⟩) HBZ.out.2.2.2.2 (.int .i64 (min M1 (M2 + M3))))
              have HP2 := Lib.hid (HPc.out.other (a := ⟨Y, a * 8 + b, none⟩) HBZ.out.2.2.2.1 (.int .i64 (min M1 (M2 + M3))))
              have HB2 := Lib.hid (HBc.out.setCell (p := ⟨Y, a * 8 + b, none⟩) HBZ.out.2.2.1 (.int .i64 (min M1 (M2 + M3))))
              go_wp2
              go_region
              have hmx : (if M2 + M3 < M1 then M2 + M3 else M1) = min M1 (M2 + M3) := by
                split <;> omega
              rw [hmx]
              clear hmx hx1 hx2 hx3 hf1
              generalize World.setCell _ ⟨Y, a * 8 + b, none⟩ (.int .i64 (min M1 (M2 + M3))) = W2 at *
              go_wp2
              go_roundw
              case rel => exact ⟨b + 1, by omega, by go_num, by rw [HE.out]; exact HY2.out, HZ2.out, HP2.out, HB2.out.trans ((Dn.refl _).drew.below _)⟩
              case measure => simp [intOf]; omega
            · obtain rfl : b = n := by omega
              go_wp2
              go_roundw
              case rel => exact ⟨a + 1, by omega, by go_num, by rw [HEa.out]; exact HYc.out, HZc.out, HPc.out, HBc.out⟩
              case measure => simp [intOf]; omega
        · obtain rfl : a = n := by omega
          go_wp2
          go_roundw
          case rel => exact ⟨t + 1, by omega, by go_num, by rw [HEt.out]; exact HYb.out, HZb.out, HPb.out, HBb.out⟩
          case measure => simp [intOf]; omega
    · obtain rfl : t = n := by omega
      go_wp2_with (first
        | (refine wpList_load_mid rfl 62 _ rfl Y 0 rfl (tabL (dS t T t)) _ HY.out.range Try.underlying62 rfl (by rw [tabL_len]; exact infoTab) ?_)
        | fail)
      rw [run_storeTab _ _ _ (dS t T t) HZ.out]
      simp only [Result.andThen_ok]
      rw [Oper.upon_skip]
      have HR := Lib.hid (TabI.stored (T := dS t T t) HZ.out)
      have HB2 := Lib.hid (below_setCells (tabL (dS t T t)) 0 HBZ.out.2.1 HB.out)
      clear HY HZ HP HB
      generalize World.setCells _ Z 0 (tabL (dS t T t)) = W2 at *
      go_wp2_with fail
      have hld := run_loadTab HR.out
      refine bodyPost_ret (v := .agg (tabL (dS t T t)).toArray) (dist_results _ _ Z _ rfl hld) rfl ?_
      exact ⟨by rw [HTT.out], HB2.out⟩
end Go.Proofs.Ytclhamemlpbpiaa
