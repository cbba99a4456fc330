/- Least without befores. -/
import Derived.Test.YtbgekacfimgkeaaJt
namespace Go.Proofs.Ytbgekacfimgkeaa
open Go.RowKit

def noN : Nat → Nat := fun _ => 0
/-- The least greatest delay of a row. -/
def lsV (n : Nat) (J : Nat → Nat → Int) : Int := dpA n J noN (2 ^ n - 1) 0
theorem out_ex : ∀ n, n ≤ 8 → ∀ s, s < 256 → s < 2 ^ n - 1 → ∃ k, k < n ∧ btN s k = false := by decide +kernel
theorem and_zero : ∀ s, s < 256 → bits .andNot .i64 ((0 : Nat) : Int) ((s : Nat) : Int) = 0 := by decide +kernel
theorem cf_zero {s j : Nat} (hs : s < 256) (h : btN s j = false) : cfB noN s j = true := by
  unfold cfB noN
  rw [h, and_zero s hs]
  rfl
section
variable {n : Nat} {J : Nat → Nat → Int}
theorem mnR_le {N : Nat → Nat} {d : Nat → Int} {s k : Nat} (hc : cfB N s k = true) : ∀ m, k < m → mnR n J N d s m ≤ dlV n J d s k := by
  intro m
  induction m with
  | zero => intro h; omega
  | succ m ih =>
    intro h
    rw [mnR]
    by_cases e : k = m
    · subst e
      rw [if_pos hc]
      omega
    · have := ih (by omega)
      split <;> omega
/-- Without befores some order is there. -/
theorem dpA_few (h : okJ n J = true) : ∀ m, m ≤ 2 ^ n - 1 → ∀ s, 2 ^ n - 1 - m ≤ s → s < 2 ^ n → dpA n J noN m s ≤ 160 := by
  obtain ⟨⟨h1, h8⟩, hJ⟩ := okJ_iff.1 h
  have hp := Nat.pow_le_pow_right (n := 2) (by omega) h8
  intro m
  induction m with
  | zero =>
    intro _ s hs1 hs2
    rw [dpA, show s = 2 ^ n - 1 by omega, upd_at]
    omega
  | succ m ih =>
    intro hm s hs1 hs2
    rw [dpA]
    unfold upd
    split
    · rename_i e
      rw [← e]
      obtain ⟨k, hk, hb⟩ := out_ex n h8 s (by omega) (by omega)
      have h2 := mnR_le (n := n) (J := J) (d := dpA n J noN m) (cf_zero (by omega) hb) n hk
      have h3 := orX_gt k (by omega) s (by omega) hb
      have h4 := ih (by omega) (orX s k) (by omega) (orX_lt hs2 hk)
      have h5 := tmS_rng h (orX s k) n (Nat.le_refl _)
      have h6 := (hJ k hk).2.2.1
      unfold dlV at h2
      omega
    · exact ih (by omega) s (by omega) hs2
theorem lsV_rng (h : okJ n J = true) : -200 ≤ lsV n J ∧ lsV n J ≤ 160 := by
  have hp := Nat.pow_pos (a := 2) (n := n) (by omega)
  exact ⟨(dpA_rng h _ _).1, dpA_few h _ (Nat.le_refl _) 0 (by omega) hp⟩
/-- Longer Times lessen it not. -/
theorem lsV_mono {J' : Nat → Nat → Int} (h0 : ∀ k, k < n → J k 0 ≤ J' k 0) (h2 : ∀ k, k < n → J k 2 = J' k 2) : ∀ m s, dpA n J noN m s ≤ dpA n J' noN m s := by
  intro m
  induction m with
  | zero => intro s; exact Int.le_refl _
  | succ m ih =>
    intro s
    rw [dpA, dpA]
    unfold upd
    split
    · have key : ∀ u k, k ≤ n → mnR n J noN (dpA n J noN m) u k ≤ mnR n J' noN (dpA n J' noN m) u k := by
        intro u k
        induction k with
        | zero => intro _; exact Int.le_refl _
        | succ k ihk =>
          intro hk
          have h3 := ihk (by omega)
          have h4 : dlV n J (dpA n J noN m) u k ≤ dlV n J' (dpA n J' noN m) u k := by
            have h5 : tmS n J (orX u k) ≤ tmS n J' (orX u k) := smT_le (fun a ha => by
              have := h0 a ha
              split <;> omega)
            have h6 := ih (orX u k)
            have h7 := h2 k (by omega)
            unfold dlV
            omega
          rw [mnR, mnR]
          split <;> omega
      exact key _ n (Nat.le_refl _)
    · exact ih s
end

set_option maxHeartbeats 1000000 in
set_option maxRecDepth 1000000 in
theorem vb_nil (n : Nat) (w : World) : Calls Try.prog 61 #[.slice none 0 0, .int .i64 n] w fun e w' => e = .returned (.bool true) ∧ w = w' := by
  go_enter Try.func61, Try.ntmps61
  go_wp2
  refine wp_loop_rounds 1 ?_
  rw [rounds_succ]
  go_wp2
  go_ret
  exact ⟨rfl, rfl⟩

set_option maxHeartbeats 1000000 in
set_option maxRecDepth 1000000 in
theorem least_bad (A B : Option Addr) (n c m c2 : Nat) (J : Nat → Nat → Int) (w : World) (h : Recs 4 w A n J) (hn : n ≤ maxLen) (hok : okJ n J = false) :
    Lr 29 #[.slice A n c, .slice B m c2] w (.tuple #[.slice none 0 0, .int .i64 0, .int .i64 2]) := by
  unfold Lr
  have H := Lib.hid h
  have HO := Lib.hid hok
  have hmm := Lib.hid hn
  clear h hok hn
  go_enter Try.func29, Try.ntmps29
  go_wp2_with fail
  refine (valid_any A n c J w H.out hmm.out).use fun w1 hb1 => ?_
  rw [HO.out]
  go_wp2
  go_returns
  exact ⟨rfl, hb1⟩

set_option maxHeartbeats 4000000 in
set_option maxRecDepth 1000000 in
theorem least_nil (A : Option Addr) (n c : Nat) (J : Nat → Nat → Int) (w : World) (h : Recs 4 w A n J) (hok : okJ n J = true) :
    Calls Try.prog 29 #[.slice A n c, .slice none 0 0] w fun e w' => ∃ v, e = .returned (.tuple #[v, .int .i64 (lsV n J), .int .i64 0]) ∧ Below w.heap.size w w' := by
  have H := Lib.hid h
  have HOk := Lib.hid hok
  obtain ⟨⟨h1, h8⟩, -⟩ := okJ_iff.1 hok
  have hmx : n ≤ maxLen := by unfold maxLen; omega
  obtain ⟨P, hP⟩ : ∃ P, P = 2 ^ n := ⟨_, rfl⟩
  have hP0 : 0 < P := by rw [hP]; exact Nat.pow_pos (by omega)
  have HPn := Lib.hid hP
  have HLr := lsV_rng hok
  have HDel : Hid (∀ w', Below w.heap.size w w' → Calls Try.prog 62 #[.agg #[.slice A n c, .int .i64 0, .int .i64 0, .int .i64 0, .int .i64 0, .int .i64 0, .int .i64 0, .int .i64 0, .int .i64 0]] w' fun e w2 => ∃ g, e = .returned (.slice (some ⟨g, 0, none⟩) P P) ∧ RowI w2 g P (dpA n J noN (2 ^ n - 1)) ∧ Below w'.heap.size w' w2) := Lib.hid (fun w' hb => by
    rw [hP]
    exact delays_any A n c noN J w' (h.keep hb) hok)
  have HFir : Hid (∀ w' g ls, Below w.heap.size w w' → RowI w' g P (dpA n J noN (2 ^ n - 1)) → Calls Try.prog 63 #[.agg #[.slice A n c, .int .i64 0, .int .i64 0, .int .i64 0, .int .i64 0, .int .i64 0, .int .i64 0, .int .i64 0, .int .i64 0], .slice (some ⟨g, 0, none⟩) P P, .int .i64 ls] w' fun e w2 => ∃ v, e = .returned v ∧ OwnL w2 w'.heap.size v (frF n J noN (dpA n J noN (2 ^ n - 1)) ls n).2 ∧ Below w'.heap.size w' w2) := Lib.hid (fun w' g ls hb hr =>
    first_any A n c g P noN J (dpA n J noN (2 ^ n - 1)) ls w' (h.keep hb) hok hP hr (dpA_rng hok _))
  have HLs : Hid (dpA n J noN (2 ^ n - 1) 0 = lsV n J) := Lib.hid rfl
  clear h hok hP
  go_enter Try.func29, Try.ntmps29
  go_wp2_with fail
  refine (valid_any A n c J w H.out hmx).use fun w1 hb1 => ?_
  rw [HOk.out]
  have HB1 := Lib.hid hb1
  clear hb1
  go_wp2_with fail
  refine (vb_nil n w1).mono ?_
  rintro e w2 ⟨rfl, rfl⟩
  have hb2 := HB1.out.alloc HB1.out.size (.cells #[.slice A n c, .int .i64 0, .int .i64 0, .int .i64 0, .int .i64 0, .int .i64 0, .int .i64 0, .int .i64 0, .int .i64 0] 95)
  have hrg : (w1.alloc (.cells #[.slice A n c, .int .i64 0, .int .i64 0, .int .i64 0, .int .i64 0, .int .i64 0, .int .i64 0, .int .i64 0, .int .i64 0] 95)).rangeAt w1.heap.size 0 [.slice A n c, .int .i64 0, .int .i64 0, .int .i64 0, .int .i64 0, .int .i64 0, .int .i64 0, .int .i64 0, .int .i64 0] := fun j v hv => by
    rw [Nat.zero_add]
    simpa [World.cell?_alloc_at] using hv
  go_wp2
  refine wp_loop_rounds 1 ?_
  rw [rounds_succ]
  have HB2 := Lib.hid hb2
  have HG2 := Lib.hid hrg
  clear hb2 hrg
  generalize hbl : w1.heap.size = bl at *
  generalize w1.alloc (.cells #[.slice A n c, .int .i64 0, .int .i64 0, .int .i64 0, .int .i64 0, .int .i64 0, .int .i64 0, .int .i64 0, .int .i64 0] 95) = W2 at *
  have z0 : W2.cell? ⟨bl, 0, none⟩ = some (.slice A n c) := HG2.out 0 _ rfl
  have z1 : W2.cell? ⟨bl, 1, none⟩ = some (.int .i64 0) := HG2.out 1 _ rfl
  have z2 : W2.cell? ⟨bl, 2, none⟩ = some (.int .i64 0) := HG2.out 2 _ rfl
  have z3 : W2.cell? ⟨bl, 3, none⟩ = some (.int .i64 0) := HG2.out 3 _ rfl
  have z4 : W2.cell? ⟨bl, 4, none⟩ = some (.int .i64 0) := HG2.out 4 _ rfl
  have z5 : W2.cell? ⟨bl, 5, none⟩ = some (.int .i64 0) := HG2.out 5 _ rfl
  have z6 : W2.cell? ⟨bl, 6, none⟩ = some (.int .i64 0) := HG2.out 6 _ rfl
  have z7 : W2.cell? ⟨bl, 7, none⟩ = some (.int .i64 0) := HG2.out 7 _ rfl
  have z8 : W2.cell? ⟨bl, 8, none⟩ = some (.int .i64 0) := HG2.out 8 _ rfl
  go_wp2_with fail
  clear z0 z1 z2 z3 z4 z5 z6 z7 z8
  refine (HDel.out W2 HB2.out).mono ?_
  rintro e w3 ⟨g, rfl, hR, hb3⟩
  have HR3 := Lib.hid hR
  have HG3 := Lib.hid (range_keep HG2.out hb3)
  have HB3 := Lib.hid (HB2.out.trans (hb3.mono HB2.out.size))
  have hc0 := HR3.out.cell hP0
  rw [HLs.out] at hc0
  clear hR hb3
  have z0 : w3.cell? ⟨bl, 0, none⟩ = some (.slice A n c) := HG3.out 0 _ rfl
  have z1 : w3.cell? ⟨bl, 1, none⟩ = some (.int .i64 0) := HG3.out 1 _ rfl
  have z2 : w3.cell? ⟨bl, 2, none⟩ = some (.int .i64 0) := HG3.out 2 _ rfl
  have z3 : w3.cell? ⟨bl, 3, none⟩ = some (.int .i64 0) := HG3.out 3 _ rfl
  have z4 : w3.cell? ⟨bl, 4, none⟩ = some (.int .i64 0) := HG3.out 4 _ rfl
  have z5 : w3.cell? ⟨bl, 5, none⟩ = some (.int .i64 0) := HG3.out 5 _ rfl
  have z6 : w3.cell? ⟨bl, 6, none⟩ = some (.int .i64 0) := HG3.out 6 _ rfl
  have z7 : w3.cell? ⟨bl, 7, none⟩ = some (.int .i64 0) := HG3.out 7 _ rfl
  have z8 : w3.cell? ⟨bl, 8, none⟩ = some (.int .i64 0) := HG3.out 8 _ rfl
  have hne := beq_f (a := lsV n J) (b := 161) (by omega)
  have hPI : (0 : Int) < P := by omega
  obtain ⟨ls, hls⟩ : ∃ ls, ls = lsV n J := ⟨_, rfl⟩
  have HLe := Lib.hid hls
  rw [← hls] at hne hc0 HLr
  clear hls
  go_wp2_with fail
  clear z0 z1 z2 z3 z4 z5 z6 z7 z8
  refine (HFir.out w3 g ls HB3.out HR3.out).mono ?_
  rintro e w4 ⟨v, rfl, hv, hb4⟩
  have HB4 := Lib.hid (HB3.out.trans (hb4.mono HB3.out.size))
  clear hv hb4
  go_wp2
  go_returns
  exact ⟨v, by rw [← HLe.out]; rfl, HB4.out⟩
end Go.Proofs.Ytbgekacfimgkeaa
