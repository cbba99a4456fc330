/- strength of a path. -/
import Derived.Test.YtnobbklnnkpdfaaMg
import Derived.Test.YtnobbklnnkpdfaaWz
import Derived.BigQuiet
import Derived.Test.YtnobbklnnkpdfaaRowC
namespace Go.Proofs.Ytnobbklnnkpdfaa
open Go.RowKit

theorem stL_first (T : Nat → Int) (p : List Nat) (h : 2 ≤ p.length) : stL T p ≤ T (5 * p.getD 0 0 + p.getD 1 0) := by
  cases p with
  | nil => simp at h
  | cons x p =>
    cases p with
    | nil => simp at h
    | cons y p => rw [stL_two]; simp; omega

set_option maxHeartbeats 1000000 in
set_option maxRecDepth 1000000 in
theorem strength_any (A D : Option Addr) (n cA c cap : Nat) (T : Nat → Int) (p : List Nat) (hc : c ≤ 5) (hT : ∀ a b, a < c → b < c → -99 ≤ T (5 * a + b) ∧ T (5 * a + b) ≤ 99) (h2 : 2 ≤ p.length) (h9 : p.length ≤ 9) (hp : ∀ x ∈ p, x < c) (w : World) (hD : Ints w D p.length (rowF p)) :
    Lr 50 #[.agg (pollL A n cA c T).toArray, .slice D p.length cap] w (.int .i64 (stL T p)) := by
  have HP0 := Lib.hid (PollI.box w A n cA c T)
  have hb0 := (Below.refl w.heap.size w).alloc (Nat.le_refl _) (.cells (pollL A n cA c T).toArray 56)
  have HI0 := Lib.hid (hD.keep hb0)
  have Hb0 := Lib.hid hb0
  have HT := Lib.hid hT
  have HP : Hid (∀ k, k < p.length → p.getD k 0 < c) := Lib.hid (fun k hk => by
    have : p.getD k 0 = p[k] := by simp [List.getD, hk]
    rw [this]
    exact hp _ (List.getElem_mem hk))
  have HS : Hid (∀ k, 1 ≤ k → k < p.length → stL T (p.take (k + 1)) = min (stL T (p.take k)) (T (5 * p.getD (k - 1) 0 + p.getD k 0))) := Lib.hid (fun k h1 h2 => stL_take _ p h1 h2)
  have HS1 : Hid (stL T (p.take 1) = 99) := Lib.hid (stL_take1 _ p)
  have HSb : Hid (∀ k, k ≤ p.length → -99 ≤ stL T (p.take k) ∧ stL T (p.take k) ≤ 99) := Lib.hid (by
    intro k
    induction k with
    | zero => intro _; show (-99 : Int) ≤ 99 ∧ (99 : Int) ≤ 99; omega
    | succ k ih =>
      intro hk
      rcases Nat.eq_zero_or_pos k with h0 | h0
      · rw [h0, HS1.out]; omega
      · rw [HS.out k h0 (by omega)]
        have := ih (by omega)
        have := hT _ _ (HP.out (k - 1) (by omega)) (HP.out k (by omega))
        omega)
  have HE : Hid (min (T (5 * p.getD 0 0 + p.getD 1 0)) (stL T (p.take (p.length - 1 + 1))) = stL T p) := Lib.hid (by
    rw [show p.length - 1 + 1 = p.length by omega, List.take_length]
    have := stL_first T p h2
    omega)
  obtain ⟨t0, ht0⟩ : ∃ t0 : Int, t0 = T (5 * p.getD 0 0 + p.getD 1 0) := ⟨_, rfl⟩
  rw [← ht0] at HE
  have HT0 := Lib.hid ht0
  have ht0b := hT _ _ (HP.out 0 (by omega)) (HP.out 1 (by omega))
  rw [← ht0] at ht0b
  obtain ⟨ht1, ht2⟩ := ht0b
  obtain ⟨bD, oD, rfl, hcA⟩ := HI0.out.at (show 0 < p.length by omega)
  have hcA : (w.alloc (.cells (pollL A n cA c T).toArray 56)).cell? ⟨bD, oD, none⟩ = some (.int .i64 ((p.getD 0 0 : Nat) : Int)) := hcA
  have hcB : (w.alloc (.cells (pollL A n cA c T).toArray 56)).cell? ⟨bD, oD + 1, none⟩ = some (.int .i64 ((p.getD 1 0 : Nat) : Int)) := HI0.out.cell (show 1 < p.length by omega)
  have hx0 := HP.out 0 (by omega)
  have hx1 := HP.out 1 (by omega)
  have hcC := HP0.out.at2 (x := p.getD 0 0) (y := p.getD 1 0) (by omega) (by omega)
  rw [← ht0] at hcC
  clear hD hb0 hT hp ht0
  rw [← HE.out]
  clear HE HT0
  generalize p.getD 0 0 = x0 at *
  generalize p.getD 1 0 = x1 at *
  have hlI : (1 : Int) < ((p.length : Nat) : Int) := by omega
  have hlI0 : (0 : Int) < ((p.length : Nat) : Int) := by omega
  have hlN : 1 < p.length := by omega
  have hlN0 : 0 < p.length := by omega
  have hx05 : (x0 : Int) < 5 := by omega
  have hx15 : (x1 : Int) < 5 := by omega
  show Calls _ _ _ _ _
  go_enter Try.func50, Try.ntmps50
  go_wp2
  go_quiet (fail)
  go_wp2_with fail
  obtain ⟨X, hX⟩ : ∃ X, X = (w.alloc (.cells (pollL A n cA c T).toArray 56)) := ⟨_, rfl⟩
  rw [← hX] at HP0 HI0 Hb0 ⊢
  clear hcA hcB hcC hX
  go_loopw [5, 20] (fun s i wr => ∃ k : Nat, k + 1 ≤ p.length ∧ i = .int .i64 k ∧ s = .int .i64 (min t0 (stL T (p.take (k + 1)))) ∧ Below X.heap.size X wr) (fun _ i _ => p.length - (intOf i).toNat)
  case atStart => exact ⟨0, by omega, rfl, by rw [HS1.out, show min t0 99 = t0 by omega], ((Dn.refl _).drewN _).below _⟩
  case round =>
    obtain ⟨k, hk, rfl, rfl, hD⟩ := hrel
    have HDk := Lib.hid hD
    clear hD
    by_cases hlt : k + 1 < p.length
    · have hcA := (HI0.out.keep HDk.out).cell (show k < p.length by omega)
      have hcB := (HI0.out.keep HDk.out).cell hlt
      have hcA : wr.cell? ⟨bD, oD + k, none⟩ = some (.int .i64 ((p.getD k 0 : Nat) : Int)) := hcA
      have hcB0 : wr.cell? ⟨bD, oD + (k + 1), none⟩ = some (.int .i64 ((p.getD (k + 1) 0 : Nat) : Int)) := hcB
      clear hcB
      obtain ⟨k1, hk1⟩ : ∃ k1, k1 = k + 1 := ⟨_, rfl⟩
      have hwr : IntKind.i64.wrap ((k : Int) + 1) = (k1 : Int) := by
        rw [IntKind.wrap_i64]
        omega
      have hk1I : (k1 : Int) < (p.length : Int) := by omega
      have hk1N : k1 < p.length := by omega
      have hkN : k < p.length := by omega
      have hcB : wr.cell? ⟨bD, oD + k1, none⟩ = some (.int .i64 ((p.getD (k + 1) 0 : Nat) : Int)) := by rw [hk1]; exact hcB0
      clear hcB0
      have hy0 := HP.out k (by omega)
      have hy1 := HP.out (k + 1) hlt
      have hcC := (HP0.out.keep HDk.out).at2 (x := p.getD k 0) (y := p.getD (k + 1) 0) (by omega) (by omega)
      have hTb := HT.out _ _ hy0 hy1
      have HSk := Lib.hid (HS.out (k + 1) (by omega) hlt)
      have hsb := HSb.out (k + 1) (by omega)
      rw [show k + 1 - 1 = k by omega] at HSk
      generalize T (5 * p.getD k 0 + p.getD (k + 1) 0) = t at *
      generalize p.getD k 0 = y0 at *
      generalize p.getD (k + 1) 0 = y1 at *
      generalize stL T (p.take (k + 1)) = m at *
      have hy05 : (y0 : Int) < 5 := by omega
      have hy15 : (y1 : Int) < 5 := by omega
      obtain ⟨hTb1, hTb2⟩ := hTb
      obtain ⟨hsb1, hsb2⟩ := hsb
      have hE2 : min t0 (min m t) = min (min t0 m) t := by omega
      generalize hq : min t0 m = s0 at *
      have HK1 := Lib.hid hk1
      clear hk1
      rcases Int.lt_or_le t s0 with hl | hl
      · have HN : Hid (min t0 (stL T (p.take (k + 1 + 1))) = t) := Lib.hid (by rw [HSk.out]; omega)
        clear hE2 hq
        go_wp2
        have q1 : ∀ q : Later wr, q.to.cell? ⟨bD, oD + k, none⟩ = some (.int .i64 (y0 : Int)) := fun q => q.cell hcA
        have q2 : ∀ q : Later wr, q.to.cell? ⟨bD, oD + k1, none⟩ = some (.int .i64 (y1 : Int)) := fun q => q.cell hcB
        have q3 : ∀ q : Later wr, q.to.cell? ⟨w.heap.size, 2 + y0 * 5 + y1, none⟩ = some (.int .i64 t) := fun q => q.cell hcC
        refine wp_region_later (by kernel_rfl) (by kernel_rfl) ?_
        repeat
          (with_reducible refine wpQuiet_step ?_
           intro K hK
           go_simp
           refine hK _ ?_; clear hK K)
        with_reducible refine wpQuiet_nil ?_
        intro _ hw'
        obtain ⟨q, hw''⟩ := hw'
        subst hw''
        have HB2 := Lib.hid (HDk.out.trans (q.below.mono HDk.out.size))
        clear q1 q2 q3 hcA hcB hcC
        generalize q.to = w2 at *
        clear q
        go_wp2
        go_roundw
        case rel => exact ⟨k + 1, by omega, by rw [HK1.out], by rw [HN.out], HB2.out⟩
        case measure => have := HK1.out; simp [intOf]; omega
      · have HN : Hid (min t0 (stL T (p.take (k + 1 + 1))) = s0) := Lib.hid (by rw [HSk.out]; omega)
        clear hE2 hq
        go_wp2
        have q1 : ∀ q : Later wr, q.to.cell? ⟨bD, oD + k, none⟩ = some (.int .i64 (y0 : Int)) := fun q => q.cell hcA
        have q2 : ∀ q : Later wr, q.to.cell? ⟨bD, oD + k1, none⟩ = some (.int .i64 (y1 : Int)) := fun q => q.cell hcB
        have q3 : ∀ q : Later wr, q.to.cell? ⟨w.heap.size, 2 + y0 * 5 + y1, none⟩ = some (.int .i64 t) := fun q => q.cell hcC
        refine wp_region_later (by kernel_rfl) (by kernel_rfl) ?_
        repeat
          (with_reducible refine wpQuiet_step ?_
           intro K hK
           go_simp
           refine hK _ ?_; clear hK K)
        with_reducible refine wpQuiet_nil ?_
        intro _ hw'
        obtain ⟨q, hw''⟩ := hw'
        subst hw''
        have HB2 := Lib.hid (HDk.out.trans (q.below.mono HDk.out.size))
        clear q1 q2 q3 hcA hcB hcC
        generalize q.to = w2 at *
        clear q
        go_wp2
        go_roundw
        case rel => exact ⟨k + 1, by omega, by rw [HK1.out], by rw [HN.out, if_neg (by omega)], HB2.out⟩
        case measure => have := HK1.out; simp [intOf]; omega
    · have e : k = p.length - 1 := by omega
      have HB := Lib.hid (Hb0.out.trans (HDk.out.mono Hb0.out.size))
      have hk1 : ¬ (k : Int) < (p.length : Int) - 1 := by omega
      have HV : Hid (min t0 (stL T (p.take (k + 1))) = min t0 (stL T (p.take (p.length - 1 + 1)))) := Lib.hid (by rw [e])
      generalize min t0 (stL T (p.take (k + 1))) = z at *
      clear e
      go_wp2
      go_ret
      exact ⟨ret_int (by rw [HV.out]), HB.out⟩
end Go.Proofs.Ytnobbklnnkpdfaa
