/- byBorda; Win by it. -/
import Derived.Test.YtnobbklnnkpdfaaWf
namespace Go.Proofs.Ytnobbklnnkpdfaa
open Go.RowKit

/-- The points of x, of the first n ballots. -/
def bdN (v : Nat → Nat → Int) (c x : Nat) : Nat → Int
  | 0 => 0
  | i + 1 => bdN v c x i + ((c : Int) - 1 - idxI (v i) (x : Int) c)
theorem bdN_bd {v : Nat → Nat → Int} {c x : Nat} (hx : x < c) : ∀ {n : Nat}, (∀ i, i < n → Ord c (v i)) → 0 ≤ bdN v c x n ∧ bdN v c x n ≤ n * c := by
  intro n
  induction n with
  | zero => intro _; simp [bdN]
  | succ n ih =>
    intro h
    have h1 := ih (fun i hi => h i (by omega))
    obtain ⟨k, hk, e⟩ := (h n (by omega)).surj hx
    have e2 : idxI (v n) (x : Int) c = k := by rw [← e]; exact idxI_some (fun j hj e3 => (h n (by omega)).inj j k hj hk e3) rfl c hk
    simp only [bdN, e2]
    push_cast
    rw [Int.add_mul]
    omega
/-- .. with the first t places of ballot k. -/
def bdP (v : Nat → Nat → Int) (c k t x : Nat) : Int := bdN v c x k + (if idxI (v k) (x : Int) c < (t : Int) then (c : Int) - 1 - idxI (v k) (x : Int) c else 0)
theorem idx_eq {c p : Nat} {f : Nat → Int} (h : Ord c f) (hp : p < c) {x : Nat} (e : f p = (x : Int)) : idxI f (x : Int) c = p := by
  rw [← e]
  exact idxI_some (fun j hj e3 => h.inj j p hj hp e3) rfl c hp
theorem bdP_zero {v : Nat → Nat → Int} {c k x : Nat} (h : Ord c (v k)) (hx : x < c) : bdP v c k 0 x = bdN v c x k := by
  obtain ⟨p, hp, e⟩ := h.surj hx
  unfold bdP
  rw [idx_eq h hp e, if_neg (by omega)]
  omega
theorem bdP_full {v : Nat → Nat → Int} {c k x : Nat} (h : Ord c (v k)) (hx : x < c) : bdP v c k c x = bdN v c x (k + 1) := by
  obtain ⟨p, hp, e⟩ := h.surj hx
  unfold bdP
  simp only [bdN]
  rw [idx_eq h hp e, if_pos (by omega)]
theorem bdP_next {v : Nat → Nat → Int} {c k t y x : Nat} (h : Ord c (v k)) (ht : t < c) (ey : v k t = (y : Int)) (hx : x < c) : upd (fun x => bdP v c k t x) y (bdP v c k t y + ((c : Int) - 1 - t)) x = bdP v c k (t + 1) x := by
  unfold upd
  by_cases e : x = y
  · rw [if_pos e, ← e]
    subst e
    unfold bdP
    rw [idx_eq h ht ey, if_neg (by omega), if_pos (by omega)]
    omega
  · rw [if_neg e]
    obtain ⟨p, hp, ep⟩ := h.surj hx
    have hpt : p ≠ t := fun e2 => e (by rw [e2, ey] at ep; omega)
    show bdP v c k t x = bdP v c k (t + 1) x
    unfold bdP
    rw [idx_eq h hp ep]
    by_cases hlt : p < t
    · rw [if_pos (by omega), if_pos (by omega)]
    · rw [if_neg (by omega), if_neg (by omega)]

theorem HCell {w W : World} {A : Option Addr} {n b o k c c' : Nat} {A' : Option Addr} {L : Nat → Nat} {v : Nat → Nat → Int} (h : RowsK w A n L v) (hk : k < n) (eA : A = some ⟨b, o, none⟩) (hb : Below w.heap.size w W) (hc : W.cell? ⟨b, o + k, none⟩ = some (.slice A' c c')) : w.cell? ⟨b, o + k, none⟩ = some (.slice A' c c') := by
  obtain ⟨b1, o1, A1, c1, e1, h1, -⟩ := h.at hk
  rw [eA] at e1
  injection e1 with e1
  injection e1 with e2 e3
  subst e2 e3
  rw [← hc]
  exact (hb.cell (World.block_lt_of_cell? _ _ h1)).symm
set_option maxHeartbeats 1000000 in
set_option maxRecDepth 1000000 in
theorem byBorda_any (A : Option Addr) (n cA c : Nat) (T : Nat → Int) (L : Nat → Nat) (v : Nat → Nat → Int) (w : World) (h : RowsK w A n L v) (hok : okBal n L v = true) (hc : c = L 0) :
    Calls Try.prog 64 #[.agg (pollL A n cA c T).toArray] w fun e w' => ∃ k : Nat, e = .returned (.int .i64 k) ∧ IsTop (fun x => bdN v c x n) c k ∧ Below w.heap.size w w' := by
  subst hc
  have HP0 := Lib.hid (PollI.box w A n cA (L 0) T)
  have hb0 := (Below.refl w.heap.size w).alloc (Nat.le_refl _) (.cells (pollL A n cA (L 0) T).toArray 56)
  have HR0 := Lib.hid (h.keep hb0)
  have Hb0 := Lib.hid hb0
  obtain ⟨⟨hn1, hn9⟩, ⟨hc1, hc5⟩, hO⟩ := okBal_iff.1 hok
  have HO := Lib.hid hO
  have hcc := HP0.out.c1
  have hc0 := HP0.out.c0
  have H0 := Lib.hid h
  clear h hb0 hO hok
  have HLL : Hid (∀ i, i < n → L i = L 0) := Lib.hid (fun i hi => (HO.out i hi).1)
  generalize hC : L 0 = c at *
  clear hC
  have hmk := mk_ints c (by omega)
  have hcx := (HP0.out.keep ((Below.refl _ _).alloc (Nat.le_refl _) (.cells (madeCells #[.int .i64 0] c) 3))).c0
  go_enter Try.func64, Try.ntmps64
  go_wp2_with fail
  have hR1 : RowI ((w.alloc (.cells (pollL A n cA c T).toArray 56)).alloc (.cells (madeCells #[.int .i64 0] c) 3)) (w.heap.size + 1) c (fun x => bdN v c x 0) := by
    have := RowI.made (w.alloc (.cells (pollL A n cA c T).toArray 56)) c
    rw [World.size_alloc] at this
    exact this.congr (fun i _ => rfl)
  have hB1 : Below w.heap.size w ((w.alloc (.cells (pollL A n cA c T).toArray 56)).alloc (.cells (madeCells #[.int .i64 0] c) 3)) := Hb0.out.alloc (by simp) _
  have hP1 := HP0.out.keep ((Below.refl _ _).alloc (Nat.le_refl _) (.cells (madeCells #[.int .i64 0] c) 3))
  have HH := Lib.hid H0.out
  generalize (w.alloc (.cells (pollL A n cA c T).toArray 56)).alloc (.cells (madeCells #[.int .i64 0] c) 3) = X at *
  clear hcx hmk hcc hc0 HP0 HR0 Hb0
  go_loopw [14] (fun i wr => ∃ k : Nat, k ≤ n ∧ i = .int .i64 k ∧ RowI wr (w.heap.size + 1) c (fun x => bdN v c x k) ∧ PollI wr w.heap.size A n cA c T ∧ Below w.heap.size w wr) (fun i _ => n - (intOf i).toNat)
  case atStart => exact ⟨0, Nat.zero_le _, rfl, hR1, hP1, hB1⟩
  case round =>
    obtain ⟨k, hk, rfl, hR, hP, hB⟩ := hrel
    have HR := Lib.hid hR
    have HP := Lib.hid hP
    have HB := Lib.hid hB
    clear hR hP hB hR1 hB1 hP1
    by_cases hlt : k < n
    · obtain ⟨b, o, A', c', eA, hc', hLc, hI⟩ := (HH.out.keep HB.out).at hlt
      rw [HLL.out k hlt] at hc' hI hLc
      have hOk := (HO.out k hlt).2
      have HOk := Lib.hid hOk
      have HIk := Lib.hid hI
      have HZ := Lib.hid (HR.out.congr (fun x hx => (bdP_zero hOk hx).symm))
      have HIw : Hid (∀ W : World, Below w.heap.size w W → Ints W A' c (v k)) := Lib.hid (fun W hW => by
        obtain ⟨b', o', A'', c'', eA', hc'', hLc', hI'⟩ := (HH.out.keep hW).at hlt
        rw [HLL.out k hlt] at hc'' hI' hLc'
        rw [eA] at eA'
        injection eA' with eA'
        injection eA' with e1 e2
        subst e1 e2
        have h1 := HB.out.cell (World.block_lt_of_cell? _ _ (show w.cell? ⟨b, o + k, none⟩ = some (.slice A' c c') from HCell HH.out hlt eA HB.out hc'))
        have h2 := hW.cell (World.block_lt_of_cell? _ _ (show w.cell? ⟨b, o + k, none⟩ = some (.slice A' c c') from HCell HH.out hlt eA HB.out hc'))
        rw [hc'] at h1
        rw [hc'', ← h1] at h2
        injection h2 with h2
        injection h2 with h3 h4 h5
        rw [← h3]
        exact hI')
      subst eA
      clear hI hOk hLc
      obtain ⟨Y, rfl⟩ : ∃ Y, Y = wr := ⟨wr, rfl⟩
      go_wp2
      go_loopw [20] (fun i wx => ∃ t : Nat, t ≤ c ∧ i = .int .i64 t ∧ RowI wx (w.heap.size + 1) c (fun x => bdP v c k t x) ∧ PollI wx w.heap.size (some ⟨b, o, none⟩) n cA c T ∧ Below w.heap.size w wx) (fun i _ => c - (intOf i).toNat)
      case atStart => exact ⟨0, Nat.zero_le _, rfl, HZ.out, HP.out, HB.out⟩
      case round =>
        obtain ⟨t, ht, rfl, hR, hP, hB⟩ := hrel
        have HRt := Lib.hid hR
        have HPt := Lib.hid hP
        have HBt := Lib.hid hB
        clear hR hP hB
        by_cases hlc : t < c
        · have hr := HOk.out.rng t hlc
          obtain ⟨b2, o2, rfl, hci⟩ := (HIw.out _ HBt.out).at hlc
          obtain ⟨y, hy, hy5⟩ : ∃ y : Nat, v k t = (y : Int) ∧ y < c := ⟨(v k t).toNat, by omega, by omega⟩
          rw [hy] at hci
          have hcy := HRt.out.cell hy5
          have hfy := HRt.out.frozen y
          have hp1 := HPt.out.c1
          have hbd : 0 ≤ bdP v c k t y ∧ bdP v c k t y ≤ 100 := by
            have h1 := bdN_bd (v := v) hy5 (n := k) (fun i hi => (HO.out i (by omega)).2)
            have h2 : (k : Int) * c ≤ 45 := by
              have : k * c ≤ 9 * 5 := Nat.mul_le_mul (by omega) hc5
              exact_mod_cast this
            unfold bdP
            rw [idx_eq HOk.out hlc hy, if_neg (by omega)]
            omega
          have HS := Lib.hid (HRt.out.set y (bdP v c k t y + ((c : Int) - 1 - t)))
          have HS2 := Lib.hid (HBt.out.setCell (p := ⟨w.heap.size + 1, y, none⟩) (show w.heap.size ≤ w.heap.size + 1 by omega) (.int .i64 (bdP v c k t y + ((c : Int) - 1 - t))))
          have HS3 := Lib.hid (World.rowIs.setOther HPt.out (a := ⟨w.heap.size + 1, y, none⟩) (by show w.heap.size ≠ w.heap.size + 1; omega) (.int .i64 (bdP v c k t y + ((c : Int) - 1 - t))))
          have HN : Hid (∀ x, x < c → upd (fun x => bdP v c k t x) y (bdP v c k t y + ((c : Int) - 1 - t)) x = bdP v c k (t + 1) x) := Lib.hid (fun x hx => bdP_next HOk.out hlc hy hx)
          obtain ⟨hbd1, hbd2⟩ := hbd
          clear hr hy
          generalize bdP v c k t y = q at *
          go_wp2
          go_region
          clear hcy hfy hp1
          generalize World.setCell _ ⟨w.heap.size + 1, y, none⟩ (.int .i64 (q + ((c : Int) - 1 - t))) = W2 at *
          go_wp2
          go_roundw
          case rel => exact ⟨t + 1, by omega, by go_num, (RowI.congr HS.out HN.out), HS3.out, HS2.out.trans ((Dn.refl _).drew.below _)⟩
          case measure => simp [intOf]; omega
        · have htc : t = c := by omega
          rw [htc] at HRt
          have HF := Lib.hid (HRt.out.congr (fun x hx => bdP_full HOk.out hx))
          clear htc
          go_wp2
          go_roundw
          case rel => exact ⟨k + 1, by omega, by go_num, HF.out, HPt.out, HBt.out⟩
          case measure => simp [intOf]; omega
    · have hkn : k = n := by omega
      rw [hkn] at HR ⊢
      clear hkn hlt hk
      go_wp2_with fail
      refine (firstOfMost_any (w.heap.size + 1) c c (fun x => bdN v c x n) wr HR.out.rowC hc1 (by omega)).mono ?_
      rintro e w3 ⟨j, rfl, hj, hb3⟩
      have HJ := Lib.hid hj
      have HB3 := Lib.hid (HB.out.trans (hb3.mono HB.out.size))
      clear hj hb3
      go_wp2
      go_ret
      exact ⟨j, rfl, HJ.out, HB3.out⟩
theorem byBorda_top (A : Option Addr) (n cA c k0 : Nat) (T : Nat → Int) (L : Nat → Nat) (v : Nat → Nat → Int) (w : World) (h : RowsK w A n L v) (hok : okBal n L v = true) (hc : c = L 0) (hk : IsTop (fun x => bdN v c x n) c k0) :
    Lr 64 #[.agg (pollL A n cA c T).toArray] w (.int .i64 k0) :=
  (byBorda_any A n cA c T L v w h hok hc).mono (by
    rintro e w' ⟨k, rfl, hk2, hb⟩
    rw [hk2.uniq hk]
    exact ⟨rfl, hb⟩)
end Go.Proofs.Ytnobbklnnkpdfaa
