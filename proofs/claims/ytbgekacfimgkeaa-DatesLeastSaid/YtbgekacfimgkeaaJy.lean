/- Least with befores. -/
import Derived.Test.YtbgekacfimgkeaaJu
import Derived.Test.YtbgekacfimgkeaaJw
namespace Go.Proofs.Ytbgekacfimgkeaa
open Go.RowKit

def upN (f : Nat → Nat) (j x : Nat) : Nat → Nat := fun i => if i = j then x else f i
/-- What each job needs, by the first k befores. -/
def nF (F : Nat → Nat → Int) : Nat → (Nat → Nat)
  | 0 => noN
  | k + 1 => upN (nF F k) (F k 1).toNat (orX (nF F k (F k 1).toNat) (F k 0).toNat)
def rwF (A : Option Addr) (n c : Nat) (N : Nat → Nat) : Nat → Value := fun i => if i = 0 then .slice A n c else .int .i64 ((N (i - 1) : Nat) : Int)
theorem bf_rng {n m : Nat} {F : Nat → Nat → Int} (h : bfB n m F = true) : m ≤ 16 ∧ ∀ k, k < m → (0 ≤ F k 0 ∧ F k 0 < n) ∧ (0 ≤ F k 1 ∧ F k 1 < n) := by
  obtain ⟨h1, h2⟩ := Bool.and_eq_true_iff.1 h
  refine ⟨of_decide_eq_true h1, fun k hk => ?_⟩
  have h3 := allB_iff.1 h2 k hk
  simp only [bfP, witB, Bool.and_eq_true, decide_eq_true_iff] at h3
  omega
theorem nF_lt {n m : Nat} {F : Nat → Nat → Int} (h8 : n ≤ 8) (h : bfB n m F = true) : ∀ k, k ≤ m → ∀ j, nF F k j < 256 := by
  intro k
  induction k with
  | zero => intro _ j; show (0 : Nat) < 256; omega
  | succ k ih =>
    intro hk j
    have h1 := (bf_rng h).2 k (by omega)
    rw [nF]
    unfold upN
    split
    · exact (bit_or (F k 0).toNat (by omega) _ (ih (by omega) _)).2
    · exact ih (by omega) j

set_option maxHeartbeats 4000000 in
set_option maxRecDepth 1000000 in
theorem least_bf (A B : Option Addr) (n c m c2 : Nat) (J F : Nat → Nat → Int) (w : World) (h : Recs 4 w A n J) (hF : Recs 2 w B m F) (hm : m ≤ maxLen) (hok : okJ n J = true) (hbf : bfB n m F = false) :
    Lr 29 #[.slice A n c, .slice B m c2] w (.tuple #[.slice none 0 0, .int .i64 0, .int .i64 2]) := by
  unfold Lr
  have H := Lib.hid h
  have HF := Lib.hid hF
  have HO := Lib.hid hok
  have HM := Lib.hid hm
  have HBf := Lib.hid hbf
  have hn8 := (okJ_iff.1 hok).1
  have hmm := Lib.hid (show n ≤ maxLen by unfold maxLen; omega)
  clear h hok hF hm hbf
  go_enter Try.func29, Try.ntmps29
  go_wp2_with fail
  refine (valid_any A n c J w H.out hmm.out).use fun w1 hb1 => ?_
  rw [HO.out]
  have HB1 := Lib.hid hb1
  clear hb1
  go_wp2_with fail
  refine (validBefores_any B n m c2 F w1 (HF.out.keep HB1.out) hn8 HM.out).use fun w2 hb2 => ?_
  rw [HBf.out]
  have HB2 := Lib.hid (HB1.out.trans (hb2.mono HB1.out.size))
  clear hb2
  go_wp2
  go_returns
  exact ⟨rfl, HB2.out⟩

set_option maxHeartbeats 8000000 in
set_option maxRecDepth 1000000 in
theorem least_ok (A B : Option Addr) (n c m c2 : Nat) (J F : Nat → Nat → Int) (w : World) (h : Recs 4 w A n J) (hF : Recs 2 w B m F) (hm : m ≤ maxLen) (hok : okJ n J = true) (hbf : bfB n m F = true) :
    Calls Try.prog 29 #[.slice A n c, .slice B m c2] w fun e w' => ((dpA n J (nF F m) (2 ^ n - 1) 0 = 161 ∧ e = .returned (.tuple #[.slice none 0 0, .int .i64 0, .int .i64 6])) ∨ (dpA n J (nF F m) (2 ^ n - 1) 0 ≠ 161 ∧ ∃ v, e = .returned (.tuple #[v, .int .i64 (dpA n J (nF F m) (2 ^ n - 1) 0), .int .i64 0]) ∧ OwnL w' w.heap.size v (frF n J (nF F m) (dpA n J (nF F m) (2 ^ n - 1)) (dpA n J (nF F m) (2 ^ n - 1) 0) n).2)) ∧ Below w.heap.size w w' := by
  have H := Lib.hid h
  have HF := Lib.hid hF
  have HOk := Lib.hid hok
  have HM := Lib.hid hm
  have HBf := Lib.hid hbf
  obtain ⟨⟨h1, h8⟩, -⟩ := okJ_iff.1 hok
  have hmx : n ≤ maxLen := by unfold maxLen; omega
  obtain ⟨P, hP⟩ : ∃ P, P = 2 ^ n := ⟨_, rfl⟩
  have hP0 : 0 < P := by rw [hP]; exact Nat.pow_pos (by omega)
  have HPn := Lib.hid hP
  have HNl := Lib.hid (nF_lt h8 hbf)
  have hbr := bf_rng hbf
  have HBr := Lib.hid hbr.2
  have hm16 := hbr.1
  have HN1 : Hid (∀ k, nF F (k + 1) = upN (nF F k) (F k 1).toNat (orX (nF F k (F k 1).toNat) (F k 0).toNat)) := Lib.hid (fun _ => rfl)
  have HDel : Hid (∀ w', Below w.heap.size w w' → Calls Try.prog 62 #[.agg #[.slice A n c, .int .i64 (((nF F m) 0 : Nat) : Int), .int .i64 (((nF F m) 1 : Nat) : Int), .int .i64 (((nF F m) 2 : Nat) : Int), .int .i64 (((nF F m) 3 : Nat) : Int), .int .i64 (((nF F m) 4 : Nat) : Int), .int .i64 (((nF F m) 5 : Nat) : Int), .int .i64 (((nF F m) 6 : Nat) : Int), .int .i64 (((nF F m) 7 : Nat) : Int)]] w' fun e w2 => ∃ g, e = .returned (.slice (some ⟨g, 0, none⟩) P P) ∧ RowI w2 g P (dpA n J (nF F m) (2 ^ n - 1)) ∧ Below w'.heap.size w' w2) := Lib.hid (fun w' hb => by
    rw [hP]
    exact delays_any A n c (nF F m) J w' (h.keep hb) hok)
  have HFir : Hid (∀ w' g ls, Below w.heap.size w w' → RowI w' g P (dpA n J (nF F m) (2 ^ n - 1)) → Calls Try.prog 63 #[.agg #[.slice A n c, .int .i64 (((nF F m) 0 : Nat) : Int), .int .i64 (((nF F m) 1 : Nat) : Int), .int .i64 (((nF F m) 2 : Nat) : Int), .int .i64 (((nF F m) 3 : Nat) : Int), .int .i64 (((nF F m) 4 : Nat) : Int), .int .i64 (((nF F m) 5 : Nat) : Int), .int .i64 (((nF F m) 6 : Nat) : Int), .int .i64 (((nF F m) 7 : Nat) : Int)], .slice (some ⟨g, 0, none⟩) P P, .int .i64 ls] w' fun e w2 => ∃ v, e = .returned v ∧ OwnL w2 w'.heap.size v (frF n J (nF F m) (dpA n J (nF F m) (2 ^ n - 1)) ls n).2 ∧ Below w'.heap.size w' w2) := Lib.hid (fun w' g ls hb hr =>
    first_any A n c g P (nF F m) J (dpA n J (nF F m) (2 ^ n - 1)) ls w' (h.keep hb) hok hP hr (dpA_rng hok _))
  clear h hok hP hF hm hbf hbr
  go_enter Try.func29, Try.ntmps29
  go_wp2_with fail
  refine (valid_any A n c J w H.out hmx).use fun w1 hb1 => ?_
  rw [HOk.out]
  have HB1 := Lib.hid hb1
  clear hb1
  go_wp2_with fail
  refine (validBefores_any B n m c2 F w1 (HF.out.keep HB1.out) ⟨h1, h8⟩ HM.out).use fun w2 hb2 => ?_
  rw [HBf.out]
  have HB2 := Lib.hid (HB1.out.trans (hb2.mono HB1.out.size))
  clear hb2
  have hb3 := HB2.out.alloc HB2.out.size (.cells #[.slice A n c, .int .i64 0, .int .i64 0, .int .i64 0, .int .i64 0, .int .i64 0, .int .i64 0, .int .i64 0, .int .i64 0] 95)
  have hrw : (w2.alloc (.cells #[.slice A n c, .int .i64 0, .int .i64 0, .int .i64 0, .int .i64 0, .int .i64 0, .int .i64 0, .int .i64 0, .int .i64 0] 95)).rowIs w2.heap.size 95 9 (rwF A n c (nF F 0)) := ⟨_, heap_alloc_new w2 _, rfl, fun i hi => by
    have : i = 0 ∨ i = 1 ∨ i = 2 ∨ i = 3 ∨ i = 4 ∨ i = 5 ∨ i = 6 ∨ i = 7 ∨ i = 8 := by omega
    rcases this with rfl | rfl | rfl | rfl | rfl | rfl | rfl | rfl | rfl <;> rfl⟩
  have hsz2 := HB2.out.size
  go_wp2
  have HB3 := Lib.hid hb3
  have HR3 := Lib.hid hrw
  clear hb3 hrw
  generalize w2.alloc (.cells #[.slice A n c, .int .i64 0, .int .i64 0, .int .i64 0, .int .i64 0, .int .i64 0, .int .i64 0, .int .i64 0, .int .i64 0] 95) = W3 at *
  generalize hbl : w2.heap.size = bl at *
  go_loopw [26] (fun i wr => ∃ k : Nat, k ≤ m ∧ i = .int .i64 k ∧ wr.rowIs bl 95 9 (rwF A n c (nF F k)) ∧ Below w.heap.size w wr) (fun i _ => m - (intOf i).toNat)
  case atStart => exact ⟨0, Nat.zero_le _, rfl, HR3.out, HB3.out⟩
  case round =>
    obtain ⟨k, hk, rfl, hR, hB⟩ := hrel
    have HR := Lib.hid hR
    have HB := Lib.hid hB
    clear hR
    by_cases hlt : k < m
    · obtain ⟨b, o, rfl, c0, c1⟩ := (HF.out.keep hB).two hlt
      obtain ⟨⟨hx0, hx1⟩, hy0, hy1⟩ := HBr.out k hlt
      obtain ⟨X, hX⟩ : ∃ X : Nat, F k 0 = X := ⟨(F k 0).toNat, by omega⟩
      obtain ⟨Y, hY⟩ : ∃ Y : Nat, F k 1 = Y := ⟨(F k 1).toNat, by omega⟩
      have hNk := Lib.hid (HN1.out k)
      rw [hX, hY, Int.toNat_natCast, Int.toNat_natCast] at hNk
      rw [hX] at c0 hx0 hx1
      rw [hY] at c1 hy0 hy1
      have hX8 : X < 8 := by omega
      have hY8 : Y < 8 := by omega
      have hYI : (Y : Int) < 8 := by omega
      have HBa := Lib.hid (hB.alloc hB.size (.cells #[.int .i64 X, .int .i64 Y] 52))
      have hra := World.rowIs.alloc HR.out (.cells #[.int .i64 X, .int .i64 Y] 52)
      have hrc := World.rowIs.cell hra (show 1 + Y < 9 by omega)
      have hrf := World.rowIs.frozen hra (1 + Y)
      have hrv : rwF A n c (nF F k) (1 + Y) = .int .i64 ((nF F k Y : Nat) : Int) := by
        unfold rwF
        rw [if_neg (by omega), show 1 + Y - 1 = Y by omega]
      rw [hrv] at hrc
      obtain ⟨hor, hor2⟩ := bit_or X hX8 (nF F k Y) (HNl.out k hk Y)
      have hpw := pow_fit X (by omega)
      have hset := World.rowIs.set hra (1 + Y) (.int .i64 ((orX (nF F k Y) X : Nat) : Int))
      have hset2 := Lib.hid (World.rowIs.congr hset (g := rwF A n c (nF F (k + 1))) (fun i hi => by
        rw [hNk.out]
        unfold rwF upN
        by_cases e : i = 1 + Y
        · subst e
          rw [if_pos rfl, if_neg (by omega), if_pos (by omega)]
        · rw [if_neg e]
          by_cases e0 : i = 0
          · rw [if_pos e0, if_pos e0]
          · rw [if_neg e0, if_neg e0, if_neg (by omega)]))
      have HBs := Lib.hid (HBa.out.setCell (p := ⟨bl, 1 + Y, none⟩) (by show w.heap.size ≤ bl; exact hsz2) (.int .i64 ((orX (nF F k Y) X : Nat) : Int)))
      clear hset hra hrv hX hY hB
      generalize nF F k Y = ny at *
      generalize orX ny X = no at *
      generalize (2 : Nat) ^ X = pw at *
      go_wp2_with fail
      go_region
      go_wp2
      go_roundw
      case rel => exact ⟨k + 1, by omega, by go_num, World.rowIs.of_block hset2.out rfl, HBs.out.trans (((Dn.refl _).drewN _).below _)⟩
      case measure => simp [intOf]; omega
    · have hkn : m = k := by omega
      subst hkn
      clear hB
      have z0 : wr.cell? ⟨bl, 0, none⟩ = some (.slice A n c) := World.rowIs.cell HR.out (show 0 < 9 by omega)
      have z1 : wr.cell? ⟨bl, 1, none⟩ = some (.int .i64 (((nF F m) 0 : Nat) : Int)) := World.rowIs.cell HR.out (show 1 < 9 by omega)
      have z2 : wr.cell? ⟨bl, 2, none⟩ = some (.int .i64 (((nF F m) 1 : Nat) : Int)) := World.rowIs.cell HR.out (show 2 < 9 by omega)
      have z3 : wr.cell? ⟨bl, 3, none⟩ = some (.int .i64 (((nF F m) 2 : Nat) : Int)) := World.rowIs.cell HR.out (show 3 < 9 by omega)
      have z4 : wr.cell? ⟨bl, 4, none⟩ = some (.int .i64 (((nF F m) 3 : Nat) : Int)) := World.rowIs.cell HR.out (show 4 < 9 by omega)
      have z5 : wr.cell? ⟨bl, 5, none⟩ = some (.int .i64 (((nF F m) 4 : Nat) : Int)) := World.rowIs.cell HR.out (show 5 < 9 by omega)
      have z6 : wr.cell? ⟨bl, 6, none⟩ = some (.int .i64 (((nF F m) 5 : Nat) : Int)) := World.rowIs.cell HR.out (show 6 < 9 by omega)
      have z7 : wr.cell? ⟨bl, 7, none⟩ = some (.int .i64 (((nF F m) 6 : Nat) : Int)) := World.rowIs.cell HR.out (show 7 < 9 by omega)
      have z8 : wr.cell? ⟨bl, 8, none⟩ = some (.int .i64 (((nF F m) 7 : Nat) : Int)) := World.rowIs.cell HR.out (show 8 < 9 by omega)
      go_wp2_with fail
      clear z0 z1 z2 z3 z4 z5 z6 z7 z8
      refine (HDel.out wr HB.out).mono ?_
      rintro e w3 ⟨g, rfl, hRg, hb3⟩
      have HT3 := Lib.hid hRg
      have HR4 := Lib.hid (World.rowIs.of_block HR.out (hb3.block _ (World.rowIs.lt HR.out)))
      have HB4 := Lib.hid (HB.out.trans (hb3.mono HB.out.size))
      have hc0 := HT3.out.cell hP0
      have hPI : (0 : Int) < P := by omega
      have HDr := Lib.hid (dpA_rng (N := nF F m) HOk.out (2 ^ n - 1) 0)
      clear hRg hb3
      obtain ⟨ls, hls⟩ : ∃ ls, ls = dpA n J (nF F m) (2 ^ n - 1) 0 := ⟨_, rfl⟩
      have HLe := Lib.hid hls
      rw [← hls] at hc0 HDr
      have HFi := Lib.hid (HFir.out w3 g ls HB4.out HT3.out)
      clear hls HFir HDel
      by_cases h161 : ls = 161
      · have hB := beq_t h161
        have HE := Lib.hid (show dpA n J (nF F m) (2 ^ n - 1) 0 = 161 by rw [← HLe.out]; exact h161)
        clear h161
        go_wp2
        go_returns
        exact ⟨.inl ⟨HE.out, rfl⟩, HB4.out⟩
      · have hB := beq_f h161
        have HE := Lib.hid (show dpA n J (nF F m) (2 ^ n - 1) 0 ≠ 161 by rw [← HLe.out]; exact h161)
        obtain ⟨hlr1, hlr2⟩ := HDr.out
        clear h161
        have z0 : w3.cell? ⟨bl, 0, none⟩ = some (.slice A n c) := World.rowIs.cell HR4.out (show 0 < 9 by omega)
        have z1 : w3.cell? ⟨bl, 1, none⟩ = some (.int .i64 (((nF F m) 0 : Nat) : Int)) := World.rowIs.cell HR4.out (show 1 < 9 by omega)
        have z2 : w3.cell? ⟨bl, 2, none⟩ = some (.int .i64 (((nF F m) 1 : Nat) : Int)) := World.rowIs.cell HR4.out (show 2 < 9 by omega)
        have z3 : w3.cell? ⟨bl, 3, none⟩ = some (.int .i64 (((nF F m) 2 : Nat) : Int)) := World.rowIs.cell HR4.out (show 3 < 9 by omega)
        have z4 : w3.cell? ⟨bl, 4, none⟩ = some (.int .i64 (((nF F m) 3 : Nat) : Int)) := World.rowIs.cell HR4.out (show 4 < 9 by omega)
        have z5 : w3.cell? ⟨bl, 5, none⟩ = some (.int .i64 (((nF F m) 4 : Nat) : Int)) := World.rowIs.cell HR4.out (show 5 < 9 by omega)
        have z6 : w3.cell? ⟨bl, 6, none⟩ = some (.int .i64 (((nF F m) 5 : Nat) : Int)) := World.rowIs.cell HR4.out (show 6 < 9 by omega)
        have z7 : w3.cell? ⟨bl, 7, none⟩ = some (.int .i64 (((nF F m) 6 : Nat) : Int)) := World.rowIs.cell HR4.out (show 7 < 9 by omega)
        have z8 : w3.cell? ⟨bl, 8, none⟩ = some (.int .i64 (((nF F m) 7 : Nat) : Int)) := World.rowIs.cell HR4.out (show 8 < 9 by omega)
        go_wp2_with fail
        clear z0 z1 z2 z3 z4 z5 z6 z7 z8
        refine HFi.out.mono ?_
        rintro e w4 ⟨v, rfl, hv, hb4⟩
        have HB5 := Lib.hid (HB4.out.trans (hb4.mono HB4.out.size))
        have HV := Lib.hid (hv.rebase HB4.out.size)
        clear hv hb4
        go_wp2
        go_returns
        exact ⟨.inr ⟨HE.out, v, by rw [← HLe.out]; rfl, by rw [← HLe.out]; exact HV.out⟩, HB5.out⟩
end Go.Proofs.Ytbgekacfimgkeaa
