/- The first order that keeps the befores with the least greatest delay; no order has less; the order by Due. -/
import Derived.Test.YtbgekacfimgkeaaJz
namespace Go.Proofs.Ytbgekacfimgkeaa

/-- The first i of an order, as a set. -/
def pfS (f : Nat → Int) : Nat → Nat
  | 0 => 0
  | i + 1 => orX (pfS f i) (f i).toNat
section
variable {n : Nat} {J : Nat → Nat → Int} {N : Nat → Nat}
theorem pfS_congr {f g : Nat → Int} : ∀ {i}, (∀ a, a < i → f a = g a) → pfS f i = pfS g i := by
  intro i
  induction i with
  | zero => intro _; rfl
  | succ i ih =>
    intro h
    rw [pfS, pfS, ih (fun a ha => h a (by omega)), h i (by omega)]
theorem pfS_lt {f : Nat → Int} : ∀ i, (∀ a, a < i → 0 ≤ f a ∧ f a < n) → pfS f i < 2 ^ n := by
  intro i
  induction i with
  | zero => intro _; exact Nat.pow_pos (by omega)
  | succ i ih =>
    intro h
    have := h i (by omega)
    exact orX_lt (ih (fun a ha => h a (by omega))) (by omega)
theorem pfS_bit (hn : n ≤ 8) {f : Nat → Int} {x : Nat} (hx : x < 8) : ∀ i, (∀ a, a < i → 0 ≤ f a ∧ f a < n) → (btN (pfS f i) x = true ↔ ∃ a, a < i ∧ f a = (x : Int)) := by
  have hp := Nat.pow_le_pow_right (n := 2) (by omega) hn
  intro i
  induction i with
  | zero =>
    intro _
    constructor
    · intro h
      simp [pfS, btN] at h
    · rintro ⟨a, h, -⟩
      omega
  | succ i ih =>
    intro h
    have ih := ih (fun a ha => h a (by omega))
    have h1 := h i (by omega)
    have h2 := pfS_lt i (fun a ha => h a (by omega))
    rw [pfS, orX_bit (f i).toNat (by omega) _ (by omega) x hx, Bool.or_eq_true, ih, decide_eq_true_iff]
    constructor
    · rintro (⟨a, ha, e⟩ | e)
      · exact ⟨a, by omega, e⟩
      · exact ⟨i, by omega, by omega⟩
    · rintro ⟨a, ha, e⟩
      by_cases e2 : a = i
      · subst e2
        exact .inr (by omega)
      · exact .inl ⟨a, by omega, e⟩
theorem wtS_or (hn : n ≤ 8) (wt : Nat → Int) {s j : Nat} (hs : s < 256) (hj : j < n) (hb : btN s j = false) : wtS n wt (orX s j) = wtS n wt s + wt j := by
  have h1 : smT (fun k => if btN (orX s j) k = true then wt k else 0) n = smT (upd (fun k => if btN s k = true then wt k else 0) j (wt j)) n := smT_congr (fun k hk => by
    rw [orX_bit j (by omega) s hs k (by omega)]
    by_cases e : k = j
    · subst e
      rw [upd_at]
      simp
    · rw [upd_ne _ _ e]
      simp [e])
  unfold wtS
  rw [h1, smT_upd, if_pos hj, hb]
  simp
theorem wtS_sub (wt : Nat → Int) (h0 : ∀ k, k < n → 0 ≤ wt k) {s t : Nat} (h : ∀ k, k < n → btN s k = true → btN t k = true) : wtS n wt s ≤ wtS n wt t := smT_le (fun k hk => by
  have h1 := h0 k hk
  cases hb : btN s k with
  | true => rw [h k hk hb]
            exact Int.le_refl _
  | false =>
    rw [if_neg (by simp)]
    split
    · exact h1
    · exact Int.le_refl _)
/-- What has been worked on after i places. -/
theorem tm_pf (hn : n ≤ 8) {f : Nat → Int} : ∀ i, (∀ a, a < i → 0 ≤ f a ∧ f a < n) → (∀ a, a < i → btN (pfS f a) (f a).toNat = false) → tmS n J (pfS f i) = smT (fun a => J (f a).toNat 0) i := by
  have hp := Nat.pow_le_pow_right (n := 2) (by omega) hn
  intro i
  induction i with
  | zero =>
    intro _ _
    exact wtS_none n _
  | succ i ih =>
    intro h1 h2
    have h3 := pfS_lt i (fun a ha => h1 a (by omega))
    have h4 := h1 i (by omega)
    rw [pfS, smT, ← ih (fun a ha => h1 a (by omega)) (fun a ha => h2 a (by omega))]
    exact wtS_or hn (fun k => J k 0) (by omega) (by omega) (h2 i (by omega))
theorem ct_pf (hn : n ≤ 8) {f : Nat → Int} : ∀ i, (∀ a, a < i → 0 ≤ f a ∧ f a < n) → (∀ a, a < i → btN (pfS f a) (f a).toNat = false) → ctS (pfS f i) n = i := by
  have hp := Nat.pow_le_pow_right (n := 2) (by omega) hn
  intro i
  induction i with
  | zero =>
    intro _ _
    exact wtS_none n (fun _ => 1)
  | succ i ih =>
    intro h1 h2
    have h3 := pfS_lt i (fun a ha => h1 a (by omega))
    have h4 := h1 i (by omega)
    have h5 := wtS_or (n := n) hn (fun _ => 1) (s := pfS f i) (by omega) (show (f i).toNat < n by omega) (h2 i (by omega))
    have h6 : ctS (pfS f (i + 1)) n = ctS (pfS f i) n + 1 := h5
    rw [h6, ih (fun a ha => h1 a (by omega)) (fun a ha => h2 a (by omega))]
    push_cast
    rfl
theorem full_bit : ∀ n, n ≤ 8 → ∀ k, k < n → btN (2 ^ n - 1) k = true := by decide
theorem full_ct (hn : n ≤ 8) : ctS (2 ^ n - 1) n = n := by
  have : ∀ m, m ≤ n → smT (fun k => if btN (2 ^ n - 1) k = true then (1 : Int) else 0) m = m := by
    intro m
    induction m with
    | zero => intro _; rfl
    | succ m ih =>
      intro hm
      rw [smT, ih (by omega), if_pos (full_bit n hn m (by omega))]
      push_cast
      rfl
  exact this n (Nat.le_refl _)
/-- An order keeps the befores. -/
def KeepsP (m : Nat) (F : Nat → Nat → Int) (n : Nat) (f : Nat → Int) : Prop := ∀ k, k < m → ∀ a b, a < n → b < n → f a = F k 0 → f b = F k 1 → a < b
theorem nF_bit {m : Nat} {F : Nat → Nat → Int} (hn : n ≤ 8) (hbf : bfB n m F = true) {j x : Nat} (hx : x < 8) : ∀ k, k ≤ m → (btN (nF F k j) x = true ↔ ∃ a, a < k ∧ F a 1 = (j : Int) ∧ F a 0 = (x : Int)) := by
  intro k
  induction k with
  | zero =>
    intro _
    constructor
    · intro h
      simp [nF, noN, btN] at h
    · rintro ⟨a, h, -⟩
      omega
  | succ k ih =>
    intro hk
    have ih := ih (by omega)
    have h1 := (bf_rng hbf).2 k (by omega)
    have h2 := nF_lt hn hbf k (by omega) j
    rw [nF]
    unfold upN
    by_cases e : j = (F k 1).toNat
    · rw [if_pos e, ← e, orX_bit (F k 0).toNat (by omega) _ h2 x hx, Bool.or_eq_true, ih, decide_eq_true_iff]
      constructor
      · rintro (⟨a, ha, e1, e2⟩ | e2)
        · exact ⟨a, by omega, e1, e2⟩
        · exact ⟨k, by omega, by omega, by omega⟩
      · rintro ⟨a, ha, e1, e2⟩
        by_cases e3 : a = k
        · subst e3
          exact .inr (by omega)
        · exact .inl ⟨a, by omega, e1, e2⟩
    · rw [if_neg e, ih]
      constructor
      · rintro ⟨a, ha, e1, e2⟩
        exact ⟨a, by omega, e1, e2⟩
      · rintro ⟨a, ha, e1, e2⟩
        by_cases e3 : a = k
        · subst e3
          omega
        · exact ⟨a, by omega, e1, e2⟩
theorem ord_new {f : Nat → Int} (hn : n ≤ 8) (h : ordB n f n = true) {i : Nat} (hi : i < n) : btN (pfS f i) (f i).toNat = false := by
  have hr := ord_rng h
  have h1 := hr i hi
  cases hb : btN (pfS f i) (f i).toNat with
  | false => rfl
  | true =>
    obtain ⟨a, ha, e⟩ := (pfS_bit hn (by omega) i (fun a ha => hr a (by omega))).1 hb
    exact absurd (show f a = f i by omega) (ordB_inj h hi ha)
/-- No order that keeps the befores has less. -/
theorem least_lower {m : Nat} {F : Nat → Nat → Int} (h : okJ n J = true) (hbf : bfB n m F = true) {f : Nat → Int} (ho : ordB n f n = true) (hk : KeepsP m F n f) {x : Int} (hd : IsDl n J (eoF J f n) x) : dT n J (nF F m) 0 ≤ x := by
  obtain ⟨⟨h1, h8⟩, hJ⟩ := okJ_iff.1 h
  have hp := Nat.pow_le_pow_right (n := 2) (by omega) h8
  have hr := ord_rng ho
  have hx : -200 ≤ x := by
    obtain ⟨-, j, hj, e⟩ := hd
    obtain ⟨a, ha, ea⟩ := ord_surj ho hj
    have h2 := eoF_ord (J := J) ho ha
    rw [ea, Int.toNat_natCast] at h2
    have h3 : 0 ≤ smT (fun b => J (f b).toNat 0) (a + 1) := smT_nonneg (fun b hb => by
      have := hr b (by omega)
      have := (hJ (f b).toNat (by omega)).1
      omega)
    have := (hJ j hj).2.2.1
    omega
  have hnew := fun a (ha : a < n) => ord_new h8 ho ha
  have key : ∀ e i, i + e = n → dT n J (nF F m) (pfS f i) ≤ x := by
    intro e
    induction e with
    | zero =>
      intro i hi
      obtain rfl : i = n := by omega
      have h2 := ct_pf h8 (f := f) i (fun a ha => hr a (by omega)) hnew
      have h3 := pfS_lt i hr
      have h4 : pfS f i = 2 ^ i - 1 := by
        rcases Nat.lt_or_ge (pfS f i) (2 ^ i - 1) with h5 | h5
        · exfalso
          obtain ⟨k, hk, hb⟩ := out_ex i h8 _ (by omega) h5
          obtain ⟨a, ha, ea⟩ := ord_surj ho hk
          rw [(pfS_bit h8 (by omega) i hr).2 ⟨a, ha, ea⟩] at hb
          cases hb
        · omega
      rw [h4, dT_all]
      exact hx
    | succ e ih =>
      intro i hi
      have hin : i < n := by omega
      have h2 := ih (i + 1) (by omega)
      have h3 := pfS_lt i (fun a ha => hr a (by omega))
      have h4 := hr i hin
      have h5 := hnew i hin
      have hs1 : pfS f i < 2 ^ n - 1 := by
        rcases Nat.lt_or_ge (pfS f i) (2 ^ n - 1) with h6 | h6
        · exact h6
        · exfalso
          have e1 : pfS f i = 2 ^ n - 1 := by omega
          rw [e1, full_bit n h8 _ (by omega)] at h5
          cases h5
      have hcf : cfB (nF F m) (pfS f i) (f i).toNat = true := by
        refine (cf_iff (nF_lt h8 hbf m (Nat.le_refl _) _) (by omega)).2 ⟨h5, fun y hy hb => ?_⟩
        obtain ⟨k, hk1, e1, e2⟩ := (nF_bit h8 hbf hy m (Nat.le_refl _)).1 hb
        have h6 := (bf_rng hbf).2 k hk1
        obtain ⟨a, ha, ea⟩ := ord_surj ho (x := y) (by omega)
        have h7 := hk k hk1 a i ha hin (by omega) (by omega)
        exact (pfS_bit h8 hy i (fun a ha => hr a (by omega))).2 ⟨a, h7, ea⟩
      rw [dT_fix h8 hs1]
      have h6 := mnR_le (n := n) (J := J) (d := dT n J (nF F m)) hcf n (by omega)
      have h7 := tm_pf (J := J) h8 (f := f) (i + 1) (fun a ha => hr a (by omega)) (fun a ha => hnew a (by omega))
      have h8' := eoF_ord (J := J) ho hin
      have h9 := hd.1 (f i).toNat (by omega)
      have e3 : orX (pfS f i) (f i).toNat = pfS f (i + 1) := rfl
      unfold dlV at h6
      rw [e3] at h6
      omega
  have := key n 0 (by omega)
  exact this
/-- The order that first finds. -/
theorem first_order {m : Nat} {F : Nat → Nat → Int} (h : okJ n J = true) (hbf : bfB n m F = true) (hne : dT n J (nF F m) 0 ≠ 161) : ∃ g, (frF n J (nF F m) (dT n J (nF F m)) (dT n J (nF F m) 0) n).2 = lst n g ∧ ordB n g n = true ∧ KeepsP m F n g ∧ IsDl n J (eoF J g n) (dT n J (nF F m) 0) := by
  obtain ⟨⟨h1, h8⟩, hJ⟩ := okJ_iff.1 h
  have hp := Nat.pow_le_pow_right (n := 2) (by omega) h8
  have hrg := dpA_rng (N := nF F m) h (2 ^ n - 1)
  obtain ⟨ls, hls⟩ : ∃ ls, ls = dT n J (nF F m) 0 := ⟨_, rfl⟩
  have hl161 : ls < 161 := by
    have h2 := (hrg 0).2
    have h2 : dT n J (nF F m) 0 ≤ 161 := h2
    omega
  have key : ∀ i, i ≤ n → ∃ g, frF n J (nF F m) (dT n J (nF F m)) ls i = (pfS g i, lst i g) ∧ dT n J (nF F m) (pfS g i) ≤ ls ∧ ∀ a, a < i → (0 ≤ g a ∧ g a < n) ∧ cfB (nF F m) (pfS g a) (g a).toNat = true ∧ tmS n J (pfS g (a + 1)) - J (g a).toNat 2 ≤ ls := by
    intro i
    induction i with
    | zero => intro _; exact ⟨fun _ => 0, rfl, by show dT n J (nF F m) 0 ≤ ls; omega, fun a ha => by omega⟩
    | succ i ih =>
      intro hi
      obtain ⟨g, e1, e2, e3⟩ := ih (by omega)
      have hr : ∀ a, a < i → 0 ≤ g a ∧ g a < n := fun a ha => (e3 a ha).1
      have hlt := pfS_lt i hr
      have hct := ct_pf h8 (f := g) i hr (fun a ha => cf_no (e3 a ha).2.1)
      have hs1 : pfS g i < 2 ^ n - 1 := by
        rcases Nat.lt_or_ge (pfS g i) (2 ^ n - 1) with h6 | h6
        · exact h6
        · exfalso
          have e4 : pfS g i = 2 ^ n - 1 := by omega
          rw [e4, full_ct h8] at hct
          omega
      have hfix := dT_fix (J := J) (N := nF F m) h8 hs1
      obtain ⟨k0, hk0, hc0, hv0⟩ := mnR_att (n := n) (J := J) (N := nF F m) (d := dT n J (nF F m)) (s := pfS g i) n (by omega)
      have hpk : pkP n J (nF F m) (dT n J (nF F m)) ls (pfS g i) k0 = true := by
        unfold pkP
        rw [hc0, Bool.true_and]
        exact decide_eq_true (by omega)
      cases hf : (List.range n).find? (pkP n J (nF F m) (dT n J (nF F m)) ls (pfS g i)) with
      | none =>
        exfalso
        have := List.find?_range_eq_none.1 hf k0 hk0
        rw [hpk] at this
        cases this
      | some k =>
        have hk := List.mem_range.1 (List.mem_of_find?_eq_some hf)
        have hkp := List.find?_some hf
        unfold pkP at hkp
        obtain ⟨hk1, hk2⟩ := Bool.and_eq_true_iff.1 hkp
        have hk2 : dlV n J (dT n J (nF F m)) (pfS g i) k ≤ ls := of_decide_eq_true hk2
        have hcg : ∀ a, a < i → upd g i (k : Int) a = g a := fun a ha => upd_ne _ _ (by omega)
        have hpf : ∀ a, a ≤ i → pfS (upd g i (k : Int)) a = pfS g a := fun a ha => pfS_congr (fun b hb => hcg b (by omega))
        have hpi : pfS (upd g i (k : Int)) (i + 1) = orX (pfS g i) k := by
          rw [pfS, hpf i (Nat.le_refl _), upd_at, Int.toNat_natCast]
        refine ⟨upd g i (k : Int), ?_, ?_, fun a ha => ?_⟩
        · have hf2 : (List.range n).find? (pkP n J (nF F m) (dT n J (nF F m)) ls (frF n J (nF F m) (dT n J (nF F m)) ls i).1) = some k := by rw [e1]; exact hf
          rw [frF_some hf2, e1, hpi, lst_succ, lst_congr hcg, upd_at]
        · rw [hpi]
          unfold dlV at hk2
          omega
        · by_cases ea : a = i
          · subst ea
            rw [upd_at, hpf a (Nat.le_refl _), hpi, Int.toNat_natCast]
            refine ⟨⟨by omega, by omega⟩, hk1, ?_⟩
            unfold dlV at hk2
            omega
          · have hai : a < i := by omega
            rw [hcg a hai, hpf a (by omega), hpf (a + 1) (by omega)]
            exact e3 a hai
  obtain ⟨g, e1, -, e3⟩ := key n (Nat.le_refl _)
  have hr : ∀ a, a < n → 0 ≤ g a ∧ g a < n := fun a ha => (e3 a ha).1
  have hord : ordB n g n = true := by
    unfold ordB
    rw [decide_eq_true rfl, Bool.true_and]
    refine allB_t (fun k hk => ?_)
    unfold ordP
    have h2 := hr k hk
    rw [decide_eq_true h2.1, decide_eq_true h2.2, Bool.and_self, Bool.true_and]
    cases hb : hasB g (g k) k with
    | false => rfl
    | true =>
      obtain ⟨j, hj, e⟩ := (hasB_iff _ _ _).1 hb
      have h3 := cf_no (e3 k hk).2.1
      rw [(pfS_bit h8 (by omega) k (fun a ha => hr a (by omega))).2 ⟨j, hj, by omega⟩] at h3
      cases h3
  have hkeep : KeepsP m F n g := by
    intro k hk a b ha hb ea eb
    have h2 := (bf_rng hbf).2 k hk
    have h3 := ((cf_iff (nF_lt h8 hbf m (Nat.le_refl _) _) (by have := pfS_lt b (fun c hc => hr c (by omega)); omega)).1 (e3 b hb).2.1).2 (F k 0).toNat (by omega) ((nF_bit h8 hbf (by omega) m (Nat.le_refl _)).2 ⟨k, hk, by have := hr b hb; omega, by omega⟩)
    obtain ⟨c, hc, ec⟩ := (pfS_bit h8 (by omega) b (fun c hc => hr c (by omega))).1 h3
    rcases Nat.lt_trichotomy a c with h4 | h4 | h4
    · exact absurd (show g a = g c by omega) (ordB_inj hord (by omega) h4)
    · omega
    · exact absurd (show g c = g a by omega) (ordB_inj hord ha h4)
  have hup : ∀ j, j < n → eoF J g n j - J j 2 ≤ ls := fun j hj => by
    obtain ⟨a, ha, ea⟩ := ord_surj hord hj
    have h2 := eoF_ord (J := J) hord ha
    have h3 := tm_pf (J := J) h8 (f := g) (a + 1) (fun b hb => hr b (by omega)) (fun b hb => cf_no (e3 b (by omega)).2.1)
    have h4 := (e3 a ha).2.2
    rw [ea, Int.toNat_natCast] at h2 h4
    omega
  have hex : ∃ x, IsDl n J (eoF J g n) x := by
    have : ∀ q, 1 ≤ q → ∃ x, IsDl q J (eoF J g n) x := by
      intro q
      induction q with
      | zero => intro h; omega
      | succ q ih =>
        intro _
        rcases Nat.eq_zero_or_pos q with h0 | h0
        · subst h0
          exact ⟨eoF J g n 0 - J 0 2, fun k hk => by
            obtain rfl : k = 0 := by omega
            exact Int.le_refl _, 0, by omega, rfl⟩
        · obtain ⟨x, hx1, j, hj, ej⟩ := ih h0
          rcases Int.lt_or_le x (eoF J g n q - J q 2) with h2 | h2
          · refine ⟨eoF J g n q - J q 2, fun k hk => ?_, q, by omega, rfl⟩
            rcases Nat.lt_or_ge k q with h3 | h3
            · have := hx1 k h3
              omega
            · obtain rfl : k = q := by omega
              exact Int.le_refl _
          · refine ⟨x, fun k hk => ?_, j, by omega, ej⟩
            rcases Nat.lt_or_ge k q with h3 | h3
            · exact hx1 k h3
            · obtain rfl : k = q := by omega
              exact h2
    exact this n h1
  obtain ⟨x, hx⟩ := hex
  have hlow := least_lower h hbf hord hkeep hx
  have hxl : x = ls := by
    obtain ⟨-, j, hj, ej⟩ := hx
    have := hup j hj
    omega
  rw [hxl, hls] at hx
  rw [hls] at e1
  exact ⟨g, by rw [e1], hord, hkeep, hx⟩
/-- The order by Due has no greater delay than another one. -/
theorem due_least (h : okJ n J = true) {f g : Nat → Int} (hp : (lst n f).Perm (lst n (fun k => (k : Int)))) (hs : Srt (fun x => J x.toNat 2) f n) (hg : ordB n g n = true) {x y : Int} (hx : IsDl n J (eoF J f n) x) (hy : IsDl n J (eoF J g n) y) : x ≤ y := by
  obtain ⟨⟨h1, h8⟩, hJ⟩ := okJ_iff.1 h
  have hf := ordB_perm hp
  have hrf := ord_rng hf
  have hrg := ord_rng hg
  obtain ⟨-, j, hj, ej⟩ := hx
  obtain ⟨i, hi, ei⟩ := ord_surj hf hj
  obtain ⟨a0, ha0, e0⟩ := ord_surj hg hj
  obtain ⟨p, hpn, hP, hlast⟩ := last_ex (P := fun a => ∃ b, b < i + 1 ∧ f b = g a) n ⟨a0, ha0, i, by omega, by omega⟩
  obtain ⟨b, hb, eb⟩ := hP
  have h2 := eoF_ord (J := J) hf hi
  have h3 := eoF_ord (J := J) hg hpn
  have h4 := tm_pf (J := J) h8 (f := f) (i + 1) (fun a ha => hrf a (by omega)) (fun a ha => ord_new h8 hf (by omega))
  have h5 := tm_pf (J := J) h8 (f := g) (p + 1) (fun a ha => hrg a (by omega)) (fun a ha => ord_new h8 hg (by omega))
  have h6 : tmS n J (pfS f (i + 1)) ≤ tmS n J (pfS g (p + 1)) := wtS_sub (fun k => J k 0) (fun k hk => by have := (hJ k hk).1; show 0 ≤ J k 0; omega) (fun k hk hbk => by
    obtain ⟨c, hc, ec⟩ := (pfS_bit h8 (by omega) (i + 1) (fun a ha => hrf a (by omega))).1 hbk
    obtain ⟨q, hq, eq⟩ := ord_surj hg hk
    refine (pfS_bit h8 (by omega) (p + 1) (fun a ha => hrg a (by omega))).2 ⟨q, ?_, eq⟩
    rcases Nat.lt_or_ge p q with h7 | h7
    · exact absurd ⟨c, hc, by omega⟩ (hlast q h7 hq)
    · omega)
  have h7 : J (f b).toNat 2 ≤ J (f i).toNat 2 := by
    rcases Nat.lt_or_ge b i with h8 | h8
    · exact hs b i h8 hi
    · obtain rfl : b = i := by omega
      exact Int.le_refl _
  have h9 := hy.1 (g p).toNat (by have := hrg p hpn; omega)
  rw [ei, Int.toNat_natCast] at h2 h7
  rw [eb] at h7
  omega
end
end Go.Proofs.Ytbgekacfimgkeaa
