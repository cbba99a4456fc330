/- The reference's search through all orders finds the first one with the least greatest delay: plain words. -/
import Derived.Test.YtbgekacfimgkeaaKa
namespace Go.Proofs.Ytbgekacfimgkeaa

section
variable {n : Nat} {J : Nat → Nat → Int} {N : Nat → Nat}
/-- The greatest delay of the first i of an order. -/
def DL (n : Nat) (J : Nat → Nat → Int) (g : Nat → Int) : Nat → Int
  | 0 => -200
  | i + 1 => max (DL n J g i) (tmS n J (pfS g (i + 1)) - J (g i).toNat 2)
/-- What the best way to go on has. -/
def VG (n : Nat) (J : Nat → Nat → Int) (N : Nat → Nat) (g : Nat → Int) (i : Nat) : Int := max (DL n J g i) (dT n J N (pfS g i))
/-- The search: the best so far, and its greatest delay. -/
def lsR (n : Nat) (J : Nat → Nat → Int) (N : Nat → Nat) : Nat → (Nat → Int) → Nat → Option (List Int) × Int → Option (List Int) × Int
  | 0, g, _, acc => if DL n J g n < acc.2 then (some (lst n g), DL n J g n) else acc
  | r + 1, g, i, acc => (List.range n).foldl (fun acc j => if cfB N (pfS g i) j = true then lsR n J N r (upd g i (j : Int)) (i + 1) acc else acc) acc
def qF (n : Nat) (J : Nat → Nat → Int) (N : Nat → Nat) (g : Nat → Int) (i : Nat) (mu : Int) (j : Nat) : Bool := cfB N (pfS g i) j && decide (max (DL n J g i) (dlV n J (dT n J N) (pfS g i) j) ≤ mu)
/-- The first best way to go on. -/
def GF (n : Nat) (J : Nat → Nat → Int) (N : Nat → Nat) : Nat → (Nat → Int) → Nat → (Nat → Int)
  | 0, g, _ => g
  | r + 1, g, i => match (List.range n).find? (qF n J N g i (VG n J N g i)) with
    | none => g
    | some j => GF n J N r (upd g i (j : Int)) (i + 1)
theorem DL_congr {f g : Nat → Int} : ∀ {i}, (∀ a, a < i → f a = g a) → DL n J f i = DL n J g i := by
  intro i
  induction i with
  | zero => intro _; rfl
  | succ i ih =>
    intro h
    rw [DL, DL, ih (fun a ha => h a (by omega)), pfS_congr h, h i (by omega)]
theorem pf_next (g : Nat → Int) (i j : Nat) : pfS (upd g i (j : Int)) (i + 1) = orX (pfS g i) j := by
  rw [pfS, pfS_congr (g := g) (fun a ha => upd_ne _ _ (by omega)), upd_at, Int.toNat_natCast]
theorem VG_next (g : Nat → Int) (i j : Nat) : VG n J N (upd g i (j : Int)) (i + 1) = max (DL n J g i) (dlV n J (dT n J N) (pfS g i) j) := by
  unfold VG
  rw [DL, pf_next, upd_at, Int.toNat_natCast, DL_congr (g := g) (fun a ha => upd_ne _ _ (by omega))]
  unfold dlV
  omega
theorem find_more {p : Nat → Bool} {k j : Nat} (h : (List.range k).find? p = some j) : (List.range (k + 1)).find? p = some j := by
  rw [List.range_succ, List.find?_append, h]
  rfl
theorem find_last {p : Nat → Bool} {k : Nat} (h : ∀ j, j < k → p j = false) (hk : p k = true) : (List.range (k + 1)).find? p = some k :=
  List.find?_range_eq_some.2 ⟨hk, List.mem_range.2 (by omega), fun j hj => by rw [h j hj]; rfl⟩
theorem mnR_ge {d : Nat → Int} {s : Nat} : ∀ m k, k < m → cfB N s k = true → mnR n J N d s m ≤ dlV n J d s k := fun m k hk hc => mnR_le hc m hk
theorem find_min {g : Nat → Int} {i : Nat} (hD : DL n J g i ≤ 160) {k : Nat} (hm : max (DL n J g i) (mnR n J N (dT n J N) (pfS g i) k) < 161) : ∃ j, (List.range k).find? (qF n J N g i (max (DL n J g i) (mnR n J N (dT n J N) (pfS g i) k))) = some j := by
  obtain ⟨j, hj, hc, hv⟩ := mnR_att (n := n) (J := J) (N := N) (d := dT n J N) (s := pfS g i) k (by omega)
  cases hf : (List.range k).find? (qF n J N g i (max (DL n J g i) (mnR n J N (dT n J N) (pfS g i) k))) with
  | some j => exact ⟨j, rfl⟩
  | none =>
    exfalso
    have := List.find?_range_eq_none.1 hf j hj
    unfold qF at this
    rw [hc, Bool.true_and, decide_eq_true (by omega)] at this
    cases this
theorem lsR_spec (h8 : n ≤ 8) (hDr : ∀ s, -200 ≤ dT n J N s ∧ dT n J N s ≤ 161) (hJ : ∀ (g : Nat → Int) i, (∀ a, a < i → 0 ≤ g a ∧ g a < n) → DL n J g i ≤ 160) : ∀ (r : Nat) (g : Nat → Int) (i : Nat) (acc : Option (List Int) × Int), i + r = n → (∀ a, a < i → 0 ≤ g a ∧ g a < n) → (∀ a, a < i → btN (pfS g a) (g a).toNat = false) →
    lsR n J N r g i acc = if VG n J N g i < 161 ∧ VG n J N g i < acc.2 then (some (lst n (GF n J N r g i)), VG n J N g i) else acc := by
  have hp := Nat.pow_le_pow_right (n := 2) (by omega) h8
  intro r
  induction r with
  | zero =>
    intro g i acc hi hr hnew
    obtain rfl : i = n := by omega
    have hct := ct_pf h8 (f := g) i hr hnew
    have hlt := pfS_lt i hr
    have hall : pfS g i = 2 ^ i - 1 := by
      rcases Nat.lt_or_ge (pfS g i) (2 ^ i - 1) with h5 | h5
      · exfalso
        obtain ⟨k, hk, hb⟩ := out_ex i h8 _ (by omega) h5
        have h1 : ctS (pfS g i) i ≤ i - 1 := by
          have h2 : smT (fun k => if btN (pfS g i) k = true then (1 : Int) else 0) i ≤ smT (upd (fun _ => 1) k 0) i := smT_le (fun a ha => by
            unfold upd
            by_cases e : a = k
            · rw [if_pos e, e, hb]
              exact Int.le_refl _
            · rw [if_neg e]
              show (if btN (pfS g i) a = true then (1 : Int) else 0) ≤ 1
              split <;> omega)
          rw [smT_upd, if_pos hk] at h2
          have h3 : ∀ q, smT (fun _ => (1 : Int)) q = q := fun q => by
            induction q with
            | zero => rfl
            | succ q ih => rw [smT, ih]; push_cast; rfl
          rw [h3] at h2
          have h4 : ctS (pfS g i) i = smT (fun k => if btN (pfS g i) k = true then (1 : Int) else 0) i := rfl
          omega
        omega
      · omega
    have hV : VG i J N g i = DL i J g i := by
      unfold VG
      rw [hall, dT_all]
      have : ∀ q, -200 ≤ DL i J g q := fun q => by
        induction q with
        | zero => exact Int.le_refl _
        | succ q ih => rw [DL]; omega
      have := this i
      omega
    rw [lsR, hV]
    have := hJ g i hr
    by_cases hx : DL i J g i < acc.2
    · rw [if_pos hx, if_pos ⟨by omega, hx⟩]
      rfl
    · rw [if_neg hx, if_neg (fun h => hx h.2)]
  | succ r ih =>
    intro g i acc hi hr hnew
    have hlt := pfS_lt i hr
    have hct := ct_pf h8 (f := g) i hr hnew
    have hs1 : pfS g i < 2 ^ n - 1 := by
      rcases Nat.lt_or_ge (pfS g i) (2 ^ n - 1) with h6 | h6
      · exact h6
      · exfalso
        have e4 : pfS g i = 2 ^ n - 1 := by omega
        rw [e4, full_ct h8] at hct
        omega
    have hD := hJ g i hr
    have hch : ∀ j acc, j < n → cfB N (pfS g i) j = true → lsR n J N r (upd g i (j : Int)) (i + 1) acc = if max (DL n J g i) (dlV n J (dT n J N) (pfS g i) j) < 161 ∧ max (DL n J g i) (dlV n J (dT n J N) (pfS g i) j) < acc.2 then (some (lst n (GF n J N r (upd g i (j : Int)) (i + 1))), max (DL n J g i) (dlV n J (dT n J N) (pfS g i) j)) else acc := fun j acc hj hc => by
      rw [← VG_next]
      refine ih _ _ _ (by omega) (fun a ha => ?_) (fun a ha => ?_)
      · by_cases e : a = i
        · subst e
          rw [upd_at]
          omega
        · rw [upd_ne _ _ e]
          exact hr a (by omega)
      · rw [pfS_congr (g := g) (fun b hb => upd_ne _ _ (by omega))]
        by_cases e : a = i
        · subst e
          rw [upd_at, Int.toNat_natCast]
          exact cf_no hc
        · rw [upd_ne _ _ e]
          exact hnew a (by omega)
    have key : ∀ k, k ≤ n → (List.range k).foldl (fun acc j => if cfB N (pfS g i) j = true then lsR n J N r (upd g i (j : Int)) (i + 1) acc else acc) acc =
        if max (DL n J g i) (mnR n J N (dT n J N) (pfS g i) k) < 161 ∧ max (DL n J g i) (mnR n J N (dT n J N) (pfS g i) k) < acc.2 then
          (some (lst n (match (List.range k).find? (qF n J N g i (max (DL n J g i) (mnR n J N (dT n J N) (pfS g i) k))) with | none => g | some j => GF n J N r (upd g i (j : Int)) (i + 1))), max (DL n J g i) (mnR n J N (dT n J N) (pfS g i) k)) else acc := by
      intro k
      induction k with
      | zero =>
        intro _
        have h0 : mnR n J N (dT n J N) (pfS g i) 0 = 161 := rfl
        rw [h0, if_neg (by omega)]
        rfl
      | succ k ihk =>
        intro hk
        rw [List.range_succ, List.foldl_append, ihk (by omega)]
        show (if cfB N (pfS g i) k = true then _ else _) = _
        rw [mnR]
        cases hc : cfB N (pfS g i) k with
        | false =>
          simp only [Bool.false_eq_true, if_false]
          by_cases hm : max (DL n J g i) (mnR n J N (dT n J N) (pfS g i) k) < 161 ∧ max (DL n J g i) (mnR n J N (dT n J N) (pfS g i) k) < acc.2
          · rw [if_pos hm, if_pos hm]
            obtain ⟨j, hj⟩ := find_min (n := n) (J := J) (N := N) hD hm.1
            have := find_more hj
            rw [List.range_succ] at this
            rw [hj, this]
          · rw [if_neg hm, if_neg hm]
        | true =>
          simp only [if_true]
          rw [hch k _ (by omega) hc]
          obtain ⟨mk, hmk⟩ : ∃ mk, mk = mnR n J N (dT n J N) (pfS g i) k := ⟨_, rfl⟩
          obtain ⟨dk, hdk⟩ : ∃ dk, dk = dlV n J (dT n J N) (pfS g i) k := ⟨_, rfl⟩
          obtain ⟨D, hDd⟩ : ∃ D, D = DL n J g i := ⟨_, rfl⟩
          have hfm := fun hm => find_min (n := n) (J := J) (N := N) (g := g) (i := i) hD (k := k) hm
          have hge := fun j hj hcj => mnR_ge (n := n) (J := J) (N := N) (d := dT n J N) (s := pfS g i) k j hj hcj
          rw [← hmk] at hfm hge ⊢
          rw [← hdk]
          rw [← hDd] at hD hfm ⊢
          rcases Int.lt_or_le (max D dk) (max D mk) with hlt' | hle'
          · have e1 : max D (min mk dk) = max D dk := by omega
            have hfl : (List.range k ++ [k]).find? (qF n J N g i (max D dk)) = some k := by
              have := find_last (p := qF n J N g i (max D dk)) (k := k) (fun j hj => by
                unfold qF
                cases hcj : cfB N (pfS g i) j with
                | false => rfl
                | true =>
                  have := hge j hj hcj
                  rw [Bool.true_and, ← hDd]
                  exact decide_eq_false (by omega)) (by
                unfold qF
                rw [hc, Bool.true_and, ← hDd, ← hdk]
                exact decide_eq_true (Int.le_refl _))
              rw [List.range_succ] at this
              exact this
            rw [e1, hfl]
            by_cases hm : max D mk < 161 ∧ max D mk < acc.2
            · rw [if_pos hm]
              rw [if_pos ⟨by omega, by show max D dk < max D mk; omega⟩, if_pos ⟨by omega, by omega⟩]
            · rw [if_neg hm]
          · have e1 : max D (min mk dk) = max D mk := by omega
            rw [e1]
            by_cases hm : max D mk < 161 ∧ max D mk < acc.2
            · rw [if_pos hm, if_pos hm, if_neg (fun h => by
                have h2 : max D dk < max D mk := h.2
                omega)]
              obtain ⟨j, hj⟩ := hfm hm.1
              have := find_more hj
              rw [List.range_succ] at this
              rw [hj, this]
            · rw [if_neg hm, if_neg hm, if_neg (by omega)]
    have hV : VG n J N g i = max (DL n J g i) (mnR n J N (dT n J N) (pfS g i) n) := by
      unfold VG
      rw [dT_fix h8 hs1]
    rw [lsR, key n (Nat.le_refl _), ← hV]
    by_cases hm : VG n J N g i < 161 ∧ VG n J N g i < acc.2
    · rw [if_pos hm, if_pos hm, GF]
    · rw [if_neg hm, if_neg hm]
theorem DL_le (h : okJ n J = true) (g : Nat → Int) : ∀ i, (∀ a, a < i → 0 ≤ g a ∧ g a < n) → DL n J g i ≤ 160 := by
  intro i
  induction i with
  | zero => intro _; show (-200 : Int) ≤ 160; omega
  | succ i ih =>
    intro hr
    have h0 := ih (fun a ha => hr a (by omega))
    have h1 := tmS_rng h (pfS g (i + 1)) n (Nat.le_refl _)
    have h2 := (okJ_iff.1 h).1.2
    have h3 := hr i (by omega)
    have h4 := ((okJ_iff.1 h).2 (g i).toNat (by omega)).2.2.1
    rw [DL]
    omega
/-- The way on is the program's. -/
theorem GF_frF (h : okJ n J = true) {ls : Int} (hls : ls = dT n J N 0) (h161 : ls < 161) : ∀ (r : Nat) (g : Nat → Int) (i : Nat), i + r = n → (∀ a, a < i → 0 ≤ g a ∧ g a < n) → (∀ a, a < i → btN (pfS g a) (g a).toNat = false) → frF n J N (dT n J N) ls i = (pfS g i, lst i g) → DL n J g i ≤ ls → VG n J N g i = ls → frF n J N (dT n J N) ls n = (pfS (GF n J N r g i) n, lst n (GF n J N r g i)) := by
  obtain ⟨⟨-, h8⟩, -⟩ := okJ_iff.1 h
  have hp := Nat.pow_le_pow_right (n := 2) (by omega) h8
  intro r
  induction r with
  | zero =>
    intro g i hi _ _ hf _ _
    obtain rfl : i = n := by omega
    exact hf
  | succ r ih =>
    intro g i hi hr hnew hf hD hV
    have hlt := pfS_lt i hr
    have hct := ct_pf h8 (f := g) i hr hnew
    have hs1 : pfS g i < 2 ^ n - 1 := by
      rcases Nat.lt_or_ge (pfS g i) (2 ^ n - 1) with h6 | h6
      · exact h6
      · exfalso
        have e4 : pfS g i = 2 ^ n - 1 := by omega
        rw [e4, full_ct h8] at hct
        omega
    have hfix := dT_fix (J := J) (N := N) h8 hs1
    have hq : qF n J N g i (VG n J N g i) = pkP n J N (dT n J N) ls (pfS g i) := by
      funext j
      unfold qF pkP
      rw [hV]
      congr 1
      exact decide_eq_decide.2 (by omega)
    have hex : ∃ j, (List.range n).find? (pkP n J N (dT n J N) ls (pfS g i)) = some j := by
      have hV' := hV
      unfold VG at hV'
      obtain ⟨k0, hk0, hc0, hv0⟩ := mnR_att (n := n) (J := J) (N := N) (d := dT n J N) (s := pfS g i) n (by omega)
      cases hf2 : (List.range n).find? (pkP n J N (dT n J N) ls (pfS g i)) with
      | some j => exact ⟨j, rfl⟩
      | none =>
        exfalso
        have := List.find?_range_eq_none.1 hf2 k0 hk0
        unfold pkP at this
        rw [hc0, Bool.true_and, decide_eq_true (by omega)] at this
        cases this
    obtain ⟨j, hj⟩ := hex
    have hjn := List.mem_range.1 (List.mem_of_find?_eq_some hj)
    have hjp := List.find?_some hj
    unfold pkP at hjp
    obtain ⟨hc, hd⟩ := Bool.and_eq_true_iff.1 hjp
    have hd : dlV n J (dT n J N) (pfS g i) j ≤ ls := of_decide_eq_true hd
    have hnext : frF n J N (dT n J N) ls (i + 1) = (pfS (upd g i (j : Int)) (i + 1), lst (i + 1) (upd g i (j : Int))) := by
      have hj2 : (List.range n).find? (pkP n J N (dT n J N) ls (frF n J N (dT n J N) ls i).1) = some j := by rw [hf]; exact hj
      rw [frF_some hj2, hf, pf_next, lst_succ, lst_congr (fun a ha => upd_ne g (j : Int) (show a ≠ i by omega)), upd_at]
    rw [GF, hq, hj]
    refine ih _ _ (by omega) (fun a ha => ?_) (fun a ha => ?_) hnext ?_ ?_
    · by_cases e : a = i
      · subst e
        rw [upd_at]
        omega
      · rw [upd_ne _ _ e]
        exact hr a (by omega)
    · rw [pfS_congr (g := g) (fun b hb => upd_ne _ _ (by omega))]
      by_cases e : a = i
      · subst e
        rw [upd_at, Int.toNat_natCast]
        exact cf_no hc
      · rw [upd_ne _ _ e]
        exact hnew a (by omega)
    · rw [DL, pf_next, upd_at, Int.toNat_natCast, DL_congr (g := g) (fun a ha => upd_ne _ _ (by omega))]
      unfold dlV at hd
      omega
    · rw [VG_next]
      have h2 := mnR_le (n := n) (J := J) (d := dT n J N) hc n hjn
      unfold VG at hV
      omega
/-- What the reference finds. -/
theorem lsR_root (h : okJ n J = true) (g : Nat → Int) : lsR n J N n g 0 (none, 1073741824) = if dT n J N 0 < 161 then (some (frF n J N (dT n J N) (dT n J N 0) n).2, dT n J N 0) else (none, 1073741824) := by
  obtain ⟨⟨-, h8⟩, -⟩ := okJ_iff.1 h
  have hDr := fun s => dpA_rng (N := N) h (2 ^ n - 1) s
  have hDr : ∀ s, -200 ≤ dT n J N s ∧ dT n J N s ≤ 161 := hDr
  have hV : VG n J N g 0 = dT n J N 0 := by
    have := (hDr 0).1
    show max (-200) (dT n J N 0) = dT n J N 0
    omega
  rw [lsR_spec h8 hDr (fun g i hr => DL_le h g i hr) n g 0 _ (by omega) (fun a ha => absurd ha (Nat.not_lt_zero _)) (fun a ha => absurd ha (Nat.not_lt_zero _)), hV]
  have h2 := (hDr 0).2
  by_cases hlt : dT n J N 0 < 161
  · rw [if_pos ⟨hlt, by show dT n J N 0 < 1073741824; omega⟩, if_pos hlt]
    rw [GF_frF h (N := N) rfl hlt n g 0 (by omega) (fun a ha => absurd ha (Nat.not_lt_zero _)) (fun a ha => absurd ha (Nat.not_lt_zero _)) rfl (by show (-200 : Int) ≤ _; exact (hDr 0).1) hV]
  · rw [if_neg (fun h => hlt h.1), if_neg hlt]
end
end Go.Proofs.Ytbgekacfimgkeaa
