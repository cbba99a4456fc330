/- The least greatest delays, set by set. -/
import Derived.Test.YtbgekacfimgkeaaJp
import Derived.Deep.MidRow
import Derived.OrdersHeld
namespace Go.Proofs.Ytbgekacfimgkeaa
open Go.RowKit

theorem wpOp_ofD {P : Program} {ops : Array Oper} {Q : Exit → Act → World → Prop} {i : Nat} {K : Act → World → Prop} {a : Act} {w : World} {o : Oper} (hi : ops[i]? = some o) (hw : Region.wanted o (yielded ops a.tmps) = true) (h : o.wp P a w K Q) : wpOp P ops Q i K a w := by
  unfold wpOp
  rw [hi]
  simp only [hw, if_true]
  exact .inl h
theorem infoRow : (Try.prog.info? 95).map (·.size) = some 9 := by kernel_rfl
/-- The least of what the jobs below k ask if they are next. -/
def mnR (n : Nat) (J : Nat → Nat → Int) (N : Nat → Nat) (d : Nat → Int) (s : Nat) : Nat → Int
  | 0 => 161
  | k + 1 => if cfB N s k = true then min (mnR n J N d s k) (dlV n J d s k) else mnR n J N d s k
/-- The table after m sets, from the greatest one down. -/
def dpA (n : Nat) (J : Nat → Nat → Int) (N : Nat → Nat) : Nat → Nat → Int
  | 0 => upd (fun _ => 0) (2 ^ n - 1) (-200)
  | m + 1 => upd (dpA n J N m) (2 ^ n - 2 - m) (mnR n J N (dpA n J N m) (2 ^ n - 2 - m) n)
section
variable {n : Nat} {J : Nat → Nat → Int} {N : Nat → Nat}
theorem cf_no {s j : Nat} (h : cfB N s j = true) : btN s j = false := by
  unfold cfB at h
  cases hb : btN s j with
  | false => rfl
  | true => rw [hb] at h; simp at h
theorem mnR_rng (h : okJ n J = true) {d : Nat → Int} (hd : ∀ s, -200 ≤ d s ∧ d s ≤ 161) (s : Nat) : ∀ k, k ≤ n → -200 ≤ mnR n J N d s k ∧ mnR n J N d s k ≤ 161 := by
  intro k
  induction k with
  | zero => intro _; exact ⟨by show (-200 : Int) ≤ 161; omega, Int.le_refl _⟩
  | succ k ih =>
    intro hk
    have h1 := ih (by omega)
    have h2 := dlV_rng h (j := k) (s := s) (by omega) (hd _)
    rw [mnR]
    split <;> omega
theorem dpA_rng (h : okJ n J = true) : ∀ m s, -200 ≤ dpA n J N m s ∧ dpA n J N m s ≤ 161 := by
  intro m
  induction m with
  | zero =>
    intro s
    rw [dpA]
    unfold upd
    split
    · omega
    · exact ⟨by show (-200 : Int) ≤ 0; omega, by show (0 : Int) ≤ 161; omega⟩
  | succ m ih =>
    intro s
    rw [dpA]
    unfold upd
    split
    · exact mnR_rng h ih _ n (Nat.le_refl _)
    · exact ih s
/-- What is asked of greater sets only. -/
theorem mnR_congr (hn : n ≤ 8) {d e : Nat → Int} {s : Nat} (hs : s < 256) (hde : ∀ u, s < u → d u = e u) : ∀ k, k ≤ n → mnR n J N d s k = mnR n J N e s k := by
  intro k
  induction k with
  | zero => intro _; rfl
  | succ k ih =>
    intro hk
    rw [mnR, mnR, ih (by omega)]
    cases hc : cfB N s k with
    | false => rfl
    | true =>
      simp only [if_true]
      unfold dlV
      rw [hde _ (orX_gt k (by omega) s hs (cf_no hc))]
end
theorem range_keep {w w' : World} {b : Nat} {l : List Value} (h : w.rangeAt b 0 l) (hb : Below w.heap.size w w') : w'.rangeAt b 0 l := fun j v hv => (hb.cell (World.block_lt_of_cell? _ _ (h j v hv))).trans (h j v hv)

set_option maxHeartbeats 8000000 in
set_option maxRecDepth 1000000 in
theorem delays_any (A : Option Addr) (n c : Nat) (N : Nat → Nat) (J : Nat → Nat → Int) (w : World) (h : Recs 4 w A n J) (hok : okJ n J = true) :
    Calls Try.prog 62 #[.agg #[.slice A n c, .int .i64 ((N 0 : Nat) : Int), .int .i64 ((N 1 : Nat) : Int), .int .i64 ((N 2 : Nat) : Int), .int .i64 ((N 3 : Nat) : Int), .int .i64 ((N 4 : Nat) : Int), .int .i64 ((N 5 : Nat) : Int), .int .i64 ((N 6 : Nat) : Int), .int .i64 ((N 7 : Nat) : Int)]] w fun e w' => ∃ g, e = .returned (.slice (some ⟨g, 0, none⟩) (2 ^ n) (2 ^ n)) ∧ RowI w' g (2 ^ n) (dpA n J N (2 ^ n - 1)) ∧ Below w.heap.size w w' := by
  have H := Lib.hid h
  have HOk := Lib.hid hok
  obtain ⟨⟨h1, h8⟩, -⟩ := okJ_iff.1 hok
  obtain ⟨P, hP⟩ : ∃ P, P = 2 ^ n := ⟨_, rfl⟩
  have hP256 : P ≤ 256 := by
    rw [hP]
    have := Nat.pow_le_pow_right (n := 2) (by omega) h8
    omega
  have hP2 : 2 ≤ P := by
    rw [hP]
    have := Nat.pow_le_pow_right (n := 2) (by omega) h1
    omega
  have HPn := Lib.hid hP
  have hb0 := (Below.refl w.heap.size w).alloc (Nat.le_refl _) (.cells #[.slice A n c, .int .i64 ((N 0 : Nat) : Int), .int .i64 ((N 1 : Nat) : Int), .int .i64 ((N 2 : Nat) : Int), .int .i64 ((N 3 : Nat) : Int), .int .i64 ((N 4 : Nat) : Int), .int .i64 ((N 5 : Nat) : Int), .int .i64 ((N 6 : Nat) : Int), .int .i64 ((N 7 : Nat) : Int)] 95)
  have hrg : (w.alloc (.cells #[.slice A n c, .int .i64 ((N 0 : Nat) : Int), .int .i64 ((N 1 : Nat) : Int), .int .i64 ((N 2 : Nat) : Int), .int .i64 ((N 3 : Nat) : Int), .int .i64 ((N 4 : Nat) : Int), .int .i64 ((N 5 : Nat) : Int), .int .i64 ((N 6 : Nat) : Int), .int .i64 ((N 7 : Nat) : Int)] 95)).rangeAt w.heap.size 0 [.slice A n c, .int .i64 ((N 0 : Nat) : Int), .int .i64 ((N 1 : Nat) : Int), .int .i64 ((N 2 : Nat) : Int), .int .i64 ((N 3 : Nat) : Int), .int .i64 ((N 4 : Nat) : Int), .int .i64 ((N 5 : Nat) : Int), .int .i64 ((N 6 : Nat) : Int), .int .i64 ((N 7 : Nat) : Int)] := fun j v hv => by
    rw [Nat.zero_add]
    simpa [World.cell?_alloc_at] using hv
  have hsz : w.heap.size < (w.alloc (.cells #[.slice A n c, .int .i64 ((N 0 : Nat) : Int), .int .i64 ((N 1 : Nat) : Int), .int .i64 ((N 2 : Nat) : Int), .int .i64 ((N 3 : Nat) : Int), .int .i64 ((N 4 : Nat) : Int), .int .i64 ((N 5 : Nat) : Int), .int .i64 ((N 6 : Nat) : Int), .int .i64 ((N 7 : Nat) : Int)] 95)).heap.size := by simp
  have hmk := mk_ints P (by omega) (w.alloc (.cells #[.slice A n c, .int .i64 ((N 0 : Nat) : Int), .int .i64 ((N 1 : Nat) : Int), .int .i64 ((N 2 : Nat) : Int), .int .i64 ((N 3 : Nat) : Int), .int .i64 ((N 4 : Nat) : Int), .int .i64 ((N 5 : Nat) : Int), .int .i64 ((N 6 : Nat) : Int), .int .i64 ((N 7 : Nat) : Int)] 95))
  have HW64 := Lib.hid (show wrap64 (2 ^ n) = (P : Int) by rw [hP]; exact pow_fit n h8)
  have HD0 : Hid (dpA n J N 0 = upd (fun _ => 0) (P - 1) (-200)) := Lib.hid (by rw [hP]; rfl)
  have HD1 : Hid (∀ m, dpA n J N (m + 1) = upd (dpA n J N m) (P - 2 - m) (mnR n J N (dpA n J N m) (P - 2 - m) n)) := Lib.hid (fun m => by rw [hP]; rfl)
  have HDr := Lib.hid (fun m => dpA_rng (N := N) hok m)
  have HMr := Lib.hid (fun (d : Nat → Int) (hd : ∀ s, -200 ≤ d s ∧ d s ≤ 161) (s k : Nat) (hk : k ≤ n) => mnR_rng (N := N) hok hd s k hk)
  rw [← hP]
  have hcb := hrg 0 _ rfl
  clear h hok hP
  go_enter Try.func62, Try.ntmps62
  go_wp2_with fail
  have e1 : wrap64 ((P : Int) - 1) = (P : Int) - 1 := IntWalk.wrap64_in _ ⟨by omega, by omega⟩
  have e2 : wrap64 ((P : Int) - 1 + 1) = (P : Int) := (IntWalk.wrap64_in _ ⟨by omega, by omega⟩).trans (by omega)
  rw [HW64.out, e1, e2]
  have hgs : (w.alloc (.cells #[.slice A n c, .int .i64 ((N 0 : Nat) : Int), .int .i64 ((N 1 : Nat) : Int), .int .i64 ((N 2 : Nat) : Int), .int .i64 ((N 3 : Nat) : Int), .int .i64 ((N 4 : Nat) : Int), .int .i64 ((N 5 : Nat) : Int), .int .i64 ((N 6 : Nat) : Int), .int .i64 ((N 7 : Nat) : Int)] 95)).heap.size = w.heap.size + 1 := by simp
  have hM := RowI.made (w.alloc (.cells #[.slice A n c, .int .i64 ((N 0 : Nat) : Int), .int .i64 ((N 1 : Nat) : Int), .int .i64 ((N 2 : Nat) : Int), .int .i64 ((N 3 : Nat) : Int), .int .i64 ((N 4 : Nat) : Int), .int .i64 ((N 5 : Nat) : Int), .int .i64 ((N 6 : Nat) : Int), .int .i64 ((N 7 : Nat) : Int)] 95)) P
  have hb1 := (Below.refl (w.alloc (.cells #[.slice A n c, .int .i64 ((N 0 : Nat) : Int), .int .i64 ((N 1 : Nat) : Int), .int .i64 ((N 2 : Nat) : Int), .int .i64 ((N 3 : Nat) : Int), .int .i64 ((N 4 : Nat) : Int), .int .i64 ((N 5 : Nat) : Int), .int .i64 ((N 6 : Nat) : Int), .int .i64 ((N 7 : Nat) : Int)] 95)).heap.size (w.alloc (.cells #[.slice A n c, .int .i64 ((N 0 : Nat) : Int), .int .i64 ((N 1 : Nat) : Int), .int .i64 ((N 2 : Nat) : Int), .int .i64 ((N 3 : Nat) : Int), .int .i64 ((N 4 : Nat) : Int), .int .i64 ((N 5 : Nat) : Int), .int .i64 ((N 6 : Nat) : Int), .int .i64 ((N 7 : Nat) : Int)] 95))).alloc (Nat.le_refl _) (.cells (madeCells #[.int .i64 0] P) 3)
  have hbW := hb0.trans (hb1.mono (by rw [hgs]; omega))
  have hrg1 := range_keep hrg hb1
  have eN : ((P : Int) - 1).toNat = P - 1 := by omega
  have eL : (P : Int) - 1 < (P : Int) := by omega
  have eZ : (0 : Int) ≤ (P : Int) - 1 := by omega
  have eV2 : IntKind.i64.wrap ((P : Int) - 1 - 1) = (P : Int) - 2 := (IntWalk.i64_in _ ⟨by omega, by omega⟩).trans (by omega)
  clear hcb
  rw [hmk]
  simp only [Result.andThen_ok]
  rw [Oper.upon_value, hgs]
  rw [hgs] at hM
  have hszW : w.heap.size + 1 < ((w.alloc (.cells #[.slice A n c, .int .i64 ((N 0 : Nat) : Int), .int .i64 ((N 1 : Nat) : Int), .int .i64 ((N 2 : Nat) : Int), .int .i64 ((N 3 : Nat) : Int), .int .i64 ((N 4 : Nat) : Int), .int .i64 ((N 5 : Nat) : Int), .int .i64 ((N 6 : Nat) : Int), .int .i64 ((N 7 : Nat) : Int)] 95)).alloc (.cells (madeCells #[.int .i64 0] P) 3)).heap.size := by simp
  clear hmk hb1 hrg hb0 hgs hsz
  generalize ((w.alloc (.cells #[.slice A n c, .int .i64 ((N 0 : Nat) : Int), .int .i64 ((N 1 : Nat) : Int), .int .i64 ((N 2 : Nat) : Int), .int .i64 ((N 3 : Nat) : Int), .int .i64 ((N 4 : Nat) : Int), .int .i64 ((N 5 : Nat) : Int), .int .i64 ((N 6 : Nat) : Int), .int .i64 ((N 7 : Nat) : Int)] 95)).alloc (.cells (madeCells #[.int .i64 0] P) 3)) = W1 at *
  have hfr := hM.frozen (P - 1)
  have hcz := hM.cell (show P - 1 < P by omega)
  have hE1 : Exc (w.heap.size + 1) W1 (W1.setCell ⟨w.heap.size + 1, P - 1, none⟩ (.int .i64 (-200))) := (Exc.refl _ _).set _ _
  have hM1 := hM.set (P - 1) (-200)
  rw [← HD0.out] at hM1
  have HM1 := Lib.hid hM1
  have HRg := Lib.hid hrg1
  have HB1 := Lib.hid (hbW.trans (hE1.below (B := w.heap.size) (by omega) hbW.size))
  have HE1 := Lib.hid hE1
  clear hM1 hrg1 hbW hE1
  go_wp2
  go_loopw [5] (fun dn wr => ∃ m : Nat, m ≤ P - 1 ∧ dn = .int .i64 ((P : Int) - 2 - m) ∧ RowI wr (w.heap.size + 1) P (dpA n J N m) ∧ wr.rangeAt w.heap.size 0 [.slice A n c, .int .i64 ((N 0 : Nat) : Int), .int .i64 ((N 1 : Nat) : Int), .int .i64 ((N 2 : Nat) : Int), .int .i64 ((N 3 : Nat) : Int), .int .i64 ((N 4 : Nat) : Int), .int .i64 ((N 5 : Nat) : Int), .int .i64 ((N 6 : Nat) : Int), .int .i64 ((N 7 : Nat) : Int)] ∧ Below w.heap.size w wr) (fun dn _ => (intOf dn + 1).toNat)
  case atStart => exact ⟨0, Nat.zero_le _, val_int (by omega), HM1.out, fun j v hv => HE1.out.cell (HRg.out j v hv) (by show w.heap.size ≠ w.heap.size + 1; omega), HB1.out⟩
  case round =>
    obtain ⟨m, hm, rfl, hR, hG, hB⟩ := hrel
    have HR := Lib.hid hR
    have HG := Lib.hid hG
    have HB := Lib.hid hB
    clear hR hG hB eN eL eZ eV2 hfr hcz hM hszW
    by_cases hmP : m < P - 1
    · obtain ⟨D, hD⟩ : ∃ D, D = P - 2 - m := ⟨_, rfl⟩
      have hDI : (P : Int) - 2 - m = (D : Int) := by omega
      have hDP : D < P := by omega
      have hD256 : D < 256 := by omega
      have HDm := Lib.hid (HD1.out m)
      rw [← hD] at HDm
      have HDN := Lib.hid hD
      have hD2 : (m : Int) + D = P - 2 := by omega
      rw [hDI]
      have hfr := HR.out.frozen D
      have hcz := HR.out.cell hDP
      have hDPI : (D : Int) < P := by omega
      have hE2 : Exc (w.heap.size + 1) wr (wr.setCell ⟨w.heap.size + 1, D, none⟩ (.int .i64 161)) := (Exc.refl _ _).set _ _
      have hG2 : (wr.setCell ⟨w.heap.size + 1, D, none⟩ (.int .i64 161)).rangeAt w.heap.size 0 [.slice A n c, .int .i64 ((N 0 : Nat) : Int), .int .i64 ((N 1 : Nat) : Int), .int .i64 ((N 2 : Nat) : Int), .int .i64 ((N 3 : Nat) : Int), .int .i64 ((N 4 : Nat) : Int), .int .i64 ((N 5 : Nat) : Int), .int .i64 ((N 6 : Nat) : Int), .int .i64 ((N 7 : Nat) : Int)] := fun j v hv => hE2.cell (HG.out j v hv) (by show w.heap.size ≠ w.heap.size + 1; omega)
      have hR2 := HR.out.set D 161
      have HR2 := Lib.hid hR2
      have HG2 := Lib.hid hG2
      have HB2 := Lib.hid (HB.out.trans (hE2.below (by omega) HB.out.size))
      have hb0 := hG2 0 _ rfl
      clear hD hDI hE2 hG2 hR2
      go_wp2_with fail
      clear hfr hcz hb0
      have H161 : Hid (mnR n J N (dpA n J N m) D 0 = 161) := Lib.hid rfl
      go_loopw [30] (fun i wx => ∃ k : Nat, k ≤ n ∧ i = .int .i64 k ∧ RowI wx (w.heap.size + 1) P (upd (dpA n J N m) D (mnR n J N (dpA n J N m) D k)) ∧ wx.rangeAt w.heap.size 0 [.slice A n c, .int .i64 ((N 0 : Nat) : Int), .int .i64 ((N 1 : Nat) : Int), .int .i64 ((N 2 : Nat) : Int), .int .i64 ((N 3 : Nat) : Int), .int .i64 ((N 4 : Nat) : Int), .int .i64 ((N 5 : Nat) : Int), .int .i64 ((N 6 : Nat) : Int), .int .i64 ((N 7 : Nat) : Int)] ∧ Below w.heap.size w wx) (fun i _ => n - (intOf i).toNat)
      case atStart => exact ⟨0, Nat.zero_le _, rfl, by rw [H161.out]; exact HR2.out, HG2.out, HB2.out⟩
      case round =>
        obtain ⟨k, hk, rfl, hR, hG, hB⟩ := hrel
        have HR3 := Lib.hid hR
        have HG3 := Lib.hid hG
        have HB3 := Lib.hid hB
        have HMk : Hid (mnR n J N (dpA n J N m) D (k + 1) = if cfB N D k = true then min (mnR n J N (dpA n J N m) D k) (dlV n J (dpA n J N m) D k) else mnR n J N (dpA n J N m) D k) := Lib.hid rfl
        have hmr := HMr.out (dpA n J N m) (HDr.out m) D k hk
        by_cases hlt : k < n
        · have hk8 : k < 8 := by omega
          clear hR hG hB
          go_wp2_with (first
            | (refine wpList_load_mid rfl 95 _ rfl w.heap.size 0 rfl [.slice A n c, .int .i64 ((N 0 : Nat) : Int), .int .i64 ((N 1 : Nat) : Int), .int .i64 ((N 2 : Nat) : Int), .int .i64 ((N 3 : Nat) : Int), .int .i64 ((N 4 : Nat) : Int), .int .i64 ((N 5 : Nat) : Int), .int .i64 ((N 6 : Nat) : Int), .int .i64 ((N 7 : Nat) : Int)] _ HG3.out Try.underlying95 rfl infoRow ?_)
            | fail)
          refine (canFollow_any A n c N D k _ hk8).use fun w2 hb2 => ?_
          have HR2d : Hid (RowI w2.drew (w.heap.size + 1) P (upd (dpA n J N m) D (mnR n J N (dpA n J N m) D k))) := Lib.hid (show RowI w2 _ _ _ from HR3.out.keep hb2)
          have HG2d : Hid (w2.drew.rangeAt w.heap.size 0 [.slice A n c, .int .i64 ((N 0 : Nat) : Int), .int .i64 ((N 1 : Nat) : Int), .int .i64 ((N 2 : Nat) : Int), .int .i64 ((N 3 : Nat) : Int), .int .i64 ((N 4 : Nat) : Int), .int .i64 ((N 5 : Nat) : Int), .int .i64 ((N 6 : Nat) : Int), .int .i64 ((N 7 : Nat) : Int)]) := Lib.hid (show w2.rangeAt _ _ _ from range_keep HG3.out hb2)
          have HB2d : Hid (Below w.heap.size w w2.drew) := Lib.hid ((HB3.out.trans (hb2.mono HB3.out.size)).trans ((Dn.refl _).drew.below _))
          have HB2w := Lib.hid (HB3.out.trans (hb2.mono HB3.out.size))
          clear hb2
          cases hc : cfB N D k with
          | false =>
            have HN := Lib.hid (show mnR n J N (dpA n J N m) D (k + 1) = mnR n J N (dpA n J N m) D k by rw [HMk.out, hc]; rfl)
            go_wp2
            go_roundw
            case rel => exact ⟨k + 1, by omega, by go_num, by rw [HN.out]; exact HR2d.out, HG2d.out, HB2w.out⟩
            case measure => simp [intOf]; omega
          | true =>
            have hno := cf_no hc
            have hgt := orX_gt k hk8 D hD256 hno
            have hoP : orX D k < P := by rw [HPn.out]; exact orX_lt (by rw [← HPn.out]; exact hDP) hlt
            have HN := Lib.hid (show mnR n J N (dpA n J N m) D (k + 1) = min (mnR n J N (dpA n J N m) D k) (dlV n J (dpA n J N m) D k) by rw [HMk.out, hc]; rfl)
            have hS0 := HG2d.out
            have HDo := Lib.hid (show -200 ≤ upd (dpA n J N m) D (mnR n J N (dpA n J N m) D k) (orX D k) ∧ upd (dpA n J N m) D (mnR n J N (dpA n J N m) D k) (orX D k) ≤ 161 by rw [upd_ne _ _ (by omega)]; exact HDr.out m _)
            have HNx : Hid (∀ i, i < P → upd (upd (dpA n J N m) D (mnR n J N (dpA n J N m) D k)) D (min (mnR n J N (dpA n J N m) D k) (dlV n J (upd (dpA n J N m) D (mnR n J N (dpA n J N m) D k)) D k)) i = upd (dpA n J N m) D (mnR n J N (dpA n J N m) D (k + 1)) i) := Lib.hid (fun i _ => by
              have e : dlV n J (upd (dpA n J N m) D (mnR n J N (dpA n J N m) D k)) D k = dlV n J (dpA n J N m) D k := by
                unfold dlV
                rw [upd_ne _ _ (show orX D k ≠ D by omega)]
              rw [e, HN.out]
              unfold upd
              by_cases h : i = D
              · rw [if_pos h, if_pos h]
              · rw [if_neg h, if_neg h, if_neg h])
            clear hc hno hgt
            generalize hmv : mnR n J N (dpA n J N m) D k = mv at *
            clear hmv
            obtain ⟨hmv1, hmv2⟩ := hmr
            have hD0 : (0 : Int) ≤ D := by omega
            go_wp2_with fail
            refine wp_region_held (S := fun w' => w'.rangeAt w.heap.size 0 [.slice A n c, .int .i64 ((N 0 : Nat) : Int), .int .i64 ((N 1 : Nat) : Int), .int .i64 ((N 2 : Nat) : Int), .int .i64 ((N 3 : Nat) : Int), .int .i64 ((N 4 : Nat) : Int), .int .i64 ((N 5 : Nat) : Int), .int .i64 ((N 6 : Nat) : Int), .int .i64 ((N 7 : Nat) : Int)]) (by kernel_rfl) ?_
            refine wpAnyH_take (i := 0) (v := .slice (some ⟨w.heap.size + 1, 0, none⟩) P P) rfl (by kernel_rfl) (by kernel_rfl) (by kernel_rfl) (fun _ _ _ h => h) (Or.inl ⟨by rfl, fun w _ => by go_simp⟩) hS0 ?_
            refine wpAnyH_take (i := 1) (v := .int .i64 (D : Int)) rfl (by kernel_rfl) (by kernel_rfl) (by kernel_rfl) (fun _ _ _ h => h) (Or.inl ⟨by rfl, fun w _ => by go_simp⟩) hS0 ?_
            refine wpAnyH_take (i := 2) (v := .slice (some ⟨w.heap.size + 1, 0, none⟩) P P) rfl (by kernel_rfl) (by kernel_rfl) (by kernel_rfl) (fun _ _ _ h => h) (Or.inl ⟨by rfl, fun w _ => by go_simp⟩) hS0 ?_
            refine wpAnyH_take (i := 3) (v := .int .i64 (D : Int)) rfl (by kernel_rfl) (by kernel_rfl) (by kernel_rfl) (fun _ _ _ h => h) (Or.inl ⟨by rfl, fun w _ => by go_simp⟩) hS0 ?_
            refine wpAnyH_take (i := 4) (v := .pointer (some ⟨w.heap.size + 1, D, none⟩)) rfl (by kernel_rfl) (by kernel_rfl) (by kernel_rfl) (fun _ _ _ h => h) (Or.inl ⟨by rfl, fun w _ => by go_simp⟩) hS0 ?_
            refine wpAnyH_take (i := 6) (v := .agg #[.slice A n c, .int .i64 ((N 0 : Nat) : Int), .int .i64 ((N 1 : Nat) : Int), .int .i64 ((N 2 : Nat) : Int), .int .i64 ((N 3 : Nat) : Int), .int .i64 ((N 4 : Nat) : Int), .int .i64 ((N 5 : Nat) : Int), .int .i64 ((N 6 : Nat) : Int), .int .i64 ((N 7 : Nat) : Int)]) rfl (by kernel_rfl) (by kernel_rfl) (by kernel_rfl) (fun _ _ _ h => h) (yieldsIf_load_mid (by rfl) 95 (.tmp 1) (by rfl) w.heap.size 0 (by rfl) [.slice A n c, .int .i64 ((N 0 : Nat) : Int), .int .i64 ((N 1 : Nat) : Int), .int .i64 ((N 2 : Nat) : Int), .int .i64 ((N 3 : Nat) : Int), .int .i64 ((N 4 : Nat) : Int), .int .i64 ((N 5 : Nat) : Int), .int .i64 ((N 6 : Nat) : Int), .int .i64 ((N 7 : Nat) : Int)] _ (fun w h => h) Try.underlying95 rfl infoRow) hS0 ?_
            refine wpAnyH_take (i := 7) (v := .int .i64 (D : Int)) rfl (by kernel_rfl) (by kernel_rfl) (by kernel_rfl) (fun _ _ _ h => h) (Or.inl ⟨by rfl, fun w _ => by go_simp⟩) hS0 ?_
            refine wpAnyH_take (i := 8) (v := .int .i64 (k : Int)) rfl (by kernel_rfl) (by kernel_rfl) (by kernel_rfl) (fun _ _ _ h => h) (Or.inl ⟨by rfl, fun w _ => by go_simp⟩) hS0 ?_
            refine wpAnyH_take (i := 9) (v := .slice (some ⟨w.heap.size + 1, 0, none⟩) P P) rfl (by kernel_rfl) (by kernel_rfl) (by kernel_rfl) (fun _ _ _ h => h) (Or.inl ⟨by rfl, fun w _ => by go_simp⟩) hS0 ?_
            refine wpAnyH_all (rs := [5, 10]) (by kernel_rfl) (by simp) (fun i hi => ?_)
            rcases (show i = 5 ∨ i = 10 by simpa using hi) with rfl | rfl
            · refine wpOp_ofD (by rfl) (by rfl) ?_
              have hcz := HR2d.out.cell hDP
              rw [upd_at] at hcz
              go_simp
              refine wpAnyH_all (rs := [10]) (by kernel_rfl) (by simp) (fun i hi => ?_)
              obtain rfl : i = 10 := by simpa using hi

              refine wpOp_ofD (by rfl) (by rfl) ?_
              go_simp
              go_at_call 82
              refine (delayR_any A n c N J D k (w.heap.size + 1) P _ _ (H.out.keep HB2d.out) HOk.out (by omega) hlt hoP HR2d.out HDo.out).use fun w5 hb5 => ?_
              have HR5 := Lib.hid (HR2d.out.keep hb5)
              have hS5 := range_keep hS0 hb5
              have HB5 := Lib.hid (HB2d.out.trans (hb5.mono HB2d.out.size))
              refine ⟨hS5, ?_⟩
              clear hb5

              refine wpAnyH_take (i := 11) (v := .int .i64 (min mv (dlV n J (upd (dpA n J N m) D mv) D k))) rfl (by kernel_rfl) (by kernel_rfl) (by kernel_rfl) (fun _ _ _ h => h) (Or.inl ⟨by rfl, fun w _ => by go_simp; (split <;> omega)⟩) hS5 ?_
              refine wpAnyH_take (i := 12) (v := .pointer (some ⟨w.heap.size + 1, D, none⟩)) rfl (by kernel_rfl) (by kernel_rfl) (by kernel_rfl) (fun _ _ _ h => h) (Or.inl ⟨by rfl, fun w _ => by go_simp⟩) hS5 ?_
              refine wpAnyH_all (rs := [13]) (by kernel_rfl) (by simp) (fun i hi => ?_)
              obtain rfl : i = 13 := by simpa using hi
              refine wpOp_ofD (by rfl) (by rfl) ?_
              have hfz := HR5.out.frozen D
              have hcz2 := HR5.out.cell hDP
              go_simp
              have hE8 : Exc (w.heap.size + 1) w5 (w5.setCell ⟨w.heap.size + 1, D, none⟩ (.int .i64 (min mv (dlV n J (upd (dpA n J N m) D mv) D k)))) := (Exc.refl _ _).set _ _
              have hS8 : (w5.setCell ⟨w.heap.size + 1, D, none⟩ (.int .i64 (min mv (dlV n J (upd (dpA n J N m) D mv) D k)))).rangeAt w.heap.size 0 [.slice A n c, .int .i64 ((N 0 : Nat) : Int), .int .i64 ((N 1 : Nat) : Int), .int .i64 ((N 2 : Nat) : Int), .int .i64 ((N 3 : Nat) : Int), .int .i64 ((N 4 : Nat) : Int), .int .i64 ((N 5 : Nat) : Int), .int .i64 ((N 6 : Nat) : Int), .int .i64 ((N 7 : Nat) : Int)] := fun j v hv => hE8.cell (hS5 j v hv) (by show w.heap.size ≠ w.heap.size + 1; omega)
              refine ⟨hS8, ?_⟩
              refine wpAnyH_done (by kernel_rfl) ?_ _
              have HR8 := Lib.hid (HR5.out.set D (min mv (dlV n J (upd (dpA n J N m) D mv) D k)))
              have HB8 := Lib.hid (HB5.out.trans (hE8.below (by omega) HB5.out.size))
              have HS8 := Lib.hid hS8
              clear hE8 hS8 hS5 hfz hcz2
              go_wp2
              go_roundw
              case rel => exact ⟨k + 1, by omega, by go_num, HR8.out.congr HNx.out, HS8.out, HB8.out⟩
              case measure => simp [intOf]; omega
            · refine wpOp_ofD (by rfl) (by rfl) ?_
              go_simp
              go_at_call 82
              refine (delayR_any A n c N J D k (w.heap.size + 1) P _ _ (H.out.keep HB2d.out) HOk.out (by omega) hlt hoP HR2d.out HDo.out).use fun w5 hb5 => ?_
              have HR5 := Lib.hid (HR2d.out.keep hb5)
              have hS5 := range_keep hS0 hb5
              have HB5 := Lib.hid (HB2d.out.trans (hb5.mono HB2d.out.size))
              refine ⟨hS5, ?_⟩
              clear hb5
              refine wpAnyH_all (rs := [5]) (by kernel_rfl) (by simp) (fun i hi => ?_)
              obtain rfl : i = 5 := by simpa using hi

              refine wpOp_ofD (by rfl) (by rfl) ?_
              have hcz := HR5.out.cell hDP
              rw [upd_at] at hcz
              go_simp

              refine wpAnyH_take (i := 11) (v := .int .i64 (min mv (dlV n J (upd (dpA n J N m) D mv) D k))) rfl (by kernel_rfl) (by kernel_rfl) (by kernel_rfl) (fun _ _ _ h => h) (Or.inl ⟨by rfl, fun w _ => by go_simp; (split <;> omega)⟩) hS5 ?_
              refine wpAnyH_take (i := 12) (v := .pointer (some ⟨w.heap.size + 1, D, none⟩)) rfl (by kernel_rfl) (by kernel_rfl) (by kernel_rfl) (fun _ _ _ h => h) (Or.inl ⟨by rfl, fun w _ => by go_simp⟩) hS5 ?_
              refine wpAnyH_all (rs := [13]) (by kernel_rfl) (by simp) (fun i hi => ?_)
              obtain rfl : i = 13 := by simpa using hi
              refine wpOp_ofD (by rfl) (by rfl) ?_
              have hfz := HR5.out.frozen D
              have hcz2 := HR5.out.cell hDP
              go_simp
              have hE8 : Exc (w.heap.size + 1) w5 (w5.setCell ⟨w.heap.size + 1, D, none⟩ (.int .i64 (min mv (dlV n J (upd (dpA n J N m) D mv) D k)))) := (Exc.refl _ _).set _ _
              have hS8 : (w5.setCell ⟨w.heap.size + 1, D, none⟩ (.int .i64 (min mv (dlV n J (upd (dpA n J N m) D mv) D k)))).rangeAt w.heap.size 0 [.slice A n c, .int .i64 ((N 0 : Nat) : Int), .int .i64 ((N 1 : Nat) : Int), .int .i64 ((N 2 : Nat) : Int), .int .i64 ((N 3 : Nat) : Int), .int .i64 ((N 4 : Nat) : Int), .int .i64 ((N 5 : Nat) : Int), .int .i64 ((N 6 : Nat) : Int), .int .i64 ((N 7 : Nat) : Int)] := fun j v hv => hE8.cell (hS5 j v hv) (by show w.heap.size ≠ w.heap.size + 1; omega)
              refine ⟨hS8, ?_⟩
              refine wpAnyH_done (by kernel_rfl) ?_ _
              have HR8 := Lib.hid (HR5.out.set D (min mv (dlV n J (upd (dpA n J N m) D mv) D k)))
              have HB8 := Lib.hid (HB5.out.trans (hE8.below (by omega) HB5.out.size))
              have HS8 := Lib.hid hS8
              clear hE8 hS8 hS5 hfz hcz2
              go_wp2
              go_roundw
              case rel => exact ⟨k + 1, by omega, by go_num, HR8.out.congr HNx.out, HS8.out, HB8.out⟩
              case measure => simp [intOf]; omega
        · have hkn : n = k := by omega
          subst hkn
          have HRn := Lib.hid (HR3.out)
          rw [← HDm.out] at HRn
          have hdec : IntKind.i64.wrap ((D : Int) - 1) = (D : Int) - 1 := IntWalk.i64_in _ ⟨by omega, by omega⟩
          clear hR hG hB
          go_wp2
          go_roundw
          case rel => exact ⟨m + 1, by omega, val_int (by omega), HRn.out, HG3.out, HB3.out⟩
          case measure => simp [intOf] <;> omega
    · have hmm : m = P - 1 := by omega
      have HRf := Lib.hid HR.out
      rw [hmm] at HRf
      have hneg : decide ((0 : Int) ≤ (P : Int) - 2 - m) = false := decide_eq_false (by omega)
      clear hmm
      go_wp2
      go_ret
      refine ⟨_, rfl, ?_, HB.out⟩
      exact HRf.out
end Go.Proofs.Ytbgekacfimgkeaa
