/- If nobody is late in the plan, no stretch is overloaded. -/
import Derived.Test.YthbahfmcmbjglaaQm
namespace Go.Proofs.Ythbahfmcmbjglaa

def eS (s : PSt) : Nat → Int := enF s.p s.m
theorem upd_upd (f : Nat → Int) (i : Nat) (x y : Int) : upd (upd f i x) i y = upd f i y := by
  funext k
  unfold upd
  by_cases h : k = i
  · rw [if_pos h, if_pos h]
  · rw [if_neg h, if_neg h, if_neg h]
theorem enF_congr {p q : Nat → Nat → Int} : ∀ {m : Nat}, (∀ a, a < m → p a 0 = q a 0 ∧ p a 2 = q a 2) → enF p m = enF q m := by
  intro m
  induction m with
  | zero => intro _; rfl
  | succ m ih =>
    intro h
    rw [enF, enF, ih (fun a ha => h a (by omega)), (h m (by omega)).1, (h m (by omega)).2]
section
variable {ru n : Nat} {J : Nat → Nat → Int}
/-- A job is worked on: its end is now. -/
theorem eS_push (h : okJ n J = true) {t j : Nat} (hj : j < n) (ha : avl (stF ru n J t).left (fun k => J k 1) t j = true) : eS (pushS (stF ru n J t) (j : Int) (t : Int)) = upd (eS (stF ru n J t)) j (t + 1) := by
  have hI := stF_inv (ru := ru) h t
  have hL := (stF_left (ru := ru) h t).1 j hj
  generalize stF ru n J t = s at *
  have hl0 : s.left j ≠ 0 := fun h0 => by simp [avl, h0] at ha
  unfold eS pushS
  by_cases hc : 0 < s.m ∧ s.p (s.m - 1) 0 = (j : Int)
  · rw [if_pos hc]
    obtain ⟨M, hM⟩ : ∃ M, s.m = M + 1 := ⟨s.m - 1, by omega⟩
    have hMM : s.m - 1 = M := by omega
    have he := hI.last hc.1 (by rw [hc.2, Int.toNat_natCast]; omega)
    rw [hMM] at hc he
    show enF (updK s.p (s.m - 1) 2 (s.p (s.m - 1) 2 + 1)) s.m = _
    rw [hMM, hM, enF, enF, updK_at, updK_ne _ _ (.inr (by omega)), hc.2, he]
    have : enF (updK s.p M 2 (t + 1)) M = enF s.p M := enF_congr (fun a ha => by
      rw [updK_ne _ _ (.inl (by omega)), updK_ne _ _ (.inl (by omega))]
      exact ⟨rfl, rfl⟩)
    rw [this]
    simp only [Int.toNat_natCast]
    rw [upd_upd]
  · rw [if_neg hc]
    show enF (pcK s.p s.m j t (t + 1)) (s.m + 1) = _
    rw [enF]
    have : enF (pcK s.p s.m j t (t + 1)) s.m = enF s.p s.m := enF_congr (fun a ha => by
      have h1 : ∀ b, pcK s.p s.m j t (t + 1) a b = s.p a b := fun b => by
        unfold pcK
        rw [if_neg (by omega)]
      exact ⟨h1 0, h1 2⟩)
    rw [this]
    simp [pcK]
/-- The next state: nothing is there, or job j is worked on. -/
theorem stF_cases (h : okJ n J = true) (t : Nat) : (stF ru n J (t + 1) = stF ru n J t ∧ ∀ k, k < n → avl (stF ru n J t).left (fun k => J k 1) t k = false) ∨
    ∃ j, j < n ∧ avl (stF ru n J t).left (fun k => J k 1) t j = true ∧ (∀ k, k < n → avl (stF ru n J t).left (fun k => J k 1) t k = true → rkF ru J (stF ru n J t).left j ≤ rkF ru J (stF ru n J t).left k) ∧
      stF ru n J (t + 1) = pushS (stF ru n J t) (j : Int) (t : Int) ∧ (stF ru n J (t + 1)).left = upd (stF ru n J t).left j ((stF ru n J t).left j - 1) ∧ eS (stF ru n J (t + 1)) = upd (eS (stF ru n J t)) j (t + 1) := by
  rcases chF_spec (left := (stF ru n J t).left) (r := fun k => J k 1) (rk := rkF ru J (stF ru n J t).left) (now := (t : Int)) n with ⟨e, hno⟩ | ⟨j, hj, e, ha, hb, -⟩
  · exact .inl ⟨by rw [stF_succ]; unfold stp; rw [e, if_pos (by omega)], hno⟩
  · have hs : stF ru n J (t + 1) = pushS (stF ru n J t) (j : Int) (t : Int) := by rw [stF_succ]; unfold stp; rw [e, if_neg (by omega)]
    exact .inr ⟨j, hj, ha, hb, hs, by rw [hs, pushS_left, Int.toNat_natCast], by rw [hs]; exact eS_push h hj ha⟩
theorem eS_le (h : okJ n J = true) : ∀ t k, eS (stF ru n J t) k ≤ t := by
  intro t
  induction t with
  | zero => intro k; exact Int.le_refl _
  | succ t ih =>
    intro k
    rcases stF_cases (ru := ru) h t with ⟨e, -⟩ | ⟨j, hj, -, -, -, -, e⟩
    · rw [e]
      have := ih k
      push_cast
      omega
    · rw [e]
      unfold upd
      have := ih k
      split <;> push_cast <;> omega
theorem eS_mono (h : okJ n J = true) (t : Nat) (k : Nat) : ∀ m, eS (stF ru n J t) k ≤ eS (stF ru n J (t + m)) k := by
  intro m
  induction m with
  | zero => exact Int.le_refl _
  | succ m ih =>
    rw [← Nat.add_assoc]
    rcases stF_cases (ru := ru) h (t + m) with ⟨e, -⟩ | ⟨j, hj, -, -, -, -, e⟩
    · rw [e]
      exact ih
    · rw [e]
      unfold upd
      have := eS_le (ru := ru) h (t + m) k
      split
      · push_cast at *
        omega
      · exact ih
/-- What has been done of the jobs of a stretch. -/
def dnW (J : Nat → Nat → Int) (left : Nat → Int) (a b : Int) (k : Nat) : Int := if a ≤ J k 1 ∧ J k 2 ≤ b then J k 0 - left k else 0
theorem dnW_all {J : Nat → Nat → Int} {left : Nat → Int} {a b : Int} : ∀ {n : Nat}, (∀ k, k < n → left k = 0) → smT (dnW J left a b) n = ldF J a b n := by
  intro n
  induction n with
  | zero => intro _; rfl
  | succ n ih =>
    intro h
    rw [smT, ldF_succ, ih (fun k hk => h k (by omega))]
    unfold dnW
    rw [h n (by omega)]
    split <;> omega
theorem no_over (h : okJ n J = true) (hl : ∀ k, k < n → eS (plS 0 n J) k ≤ J k 2) (a b : Int) (hab : a ≤ b) : ldF J a b n ≤ b - a := by
  have key : ∀ t, t ≤ 260 → smT (dnW J (stF 0 n J t).left a b) n ≤ 0 ∨ (smT (dnW J (stF 0 n J t).left a b) n ≤ t - a ∧ smT (dnW J (stF 0 n J t).left a b) n ≤ b - a) := by
    intro t
    induction t with
    | zero =>
      intro _
      left
      have : ∀ k, k < n → dnW J (stF 0 n J 0).left a b k = 0 := fun k _ => by
        have e : (stF 0 n J 0).left k = J k 0 := rfl
        unfold dnW
        rw [e, Int.sub_self]
        split <;> rfl
      rw [smT_congr this]
      have h0 : ∀ m, smT (fun _ => 0) m = 0 := fun m => by induction m with | zero => rfl | succ m ih => simp [smT, ih]
      rw [h0]
      exact Int.le_refl _
    | succ t ih =>
      intro ht
      have ih := ih (by omega)
      rcases stF_cases (ru := 0) h t with ⟨e, -⟩ | ⟨j, hj, ha, -, -, el, ee⟩
      · rw [e]
        push_cast
        omega
      · have hrel : J j 1 ≤ (t : Int) := by
          simp [avl] at ha
          exact ha.2
        have hend : (t : Int) + 1 ≤ J j 2 := by
          have h1 := eS_mono (ru := 0) h (t + 1) j (260 - (t + 1))
          rw [show t + 1 + (260 - (t + 1)) = 260 by omega, ee, upd_at] at h1
          have h2 := hl j hj
          unfold plS at h2
          omega
        rw [el]
        have hd : dnW J (upd (stF 0 n J t).left j ((stF 0 n J t).left j - 1)) a b = upd (dnW J (stF 0 n J t).left a b) j (dnW J (upd (stF 0 n J t).left j ((stF 0 n J t).left j - 1)) a b j) := by
          funext k
          unfold upd
          by_cases e : k = j
          · subst e
            rw [if_pos rfl]
          · rw [if_neg e]
            unfold dnW
            simp only [if_neg e]
        rw [hd, smT_upd, if_pos hj]
        by_cases hst : a ≤ J j 1 ∧ J j 2 ≤ b
        · have hv : dnW J (upd (stF 0 n J t).left j ((stF 0 n J t).left j - 1)) a b j - dnW J (stF 0 n J t).left a b j = 1 := by
            unfold dnW
            rw [if_pos hst, if_pos hst, upd_at]
            omega
          rw [hv]
          push_cast
          omega
        · have hv : dnW J (upd (stF 0 n J t).left j ((stF 0 n J t).left j - 1)) a b j - dnW J (stF 0 n J t).left a b j = 0 := by
            unfold dnW
            rw [if_neg hst, if_neg hst]
            omega
          rw [hv]
          push_cast
          omega
  have hk := key 260 (Nat.le_refl _)
  have he : smT (dnW J (stF 0 n J 260).left a b) n = ldF J a b n := dnW_all (plS_left (ru := 0) h)
  rw [he] at hk
  omega

/-- The first stretch that is overloaded, of those with a ≤ x and b ≤ y. -/
def OvB (n : Nat) (J : Nat → Nat → Int) (a b : Int) : Prop := b - a < ldF J a b n
def IsOv (n : Nat) (J : Nat → Nat → Int) (y : Nat) (a b : Nat) : Prop := a ≤ b ∧ b ≤ y ∧ OvB n J a b ∧ (∀ a', a' < a → ∀ b', a' ≤ b' → b' ≤ y → ¬ OvB n J (a' : Nat) (b' : Nat)) ∧ ∀ b', a ≤ b' → b' < b → ¬ OvB n J a (b' : Nat)
theorem ldF_zero (h : okJ n J = true) {a b : Int} (ha : 100 < a) : ∀ m, m ≤ n → ldF J a b m = 0 := by
  intro m
  induction m with
  | zero => intro _; rfl
  | succ m ih =>
    intro hm
    have := (okJ_iff.1 h).2 m (by omega)
    rw [ldF_succ, ih (by omega), if_neg (by omega)]
    rfl
theorem ldF_due (h : okJ n J = true) {a b b' : Int} (hb : 200 ≤ b) (hb' : 200 ≤ b') : ∀ m, m ≤ n → ldF J a b m = ldF J a b' m := by
  intro m
  induction m with
  | zero => intro _; rfl
  | succ m ih =>
    intro hm
    have := (okJ_iff.1 h).2 m (by omega)
    rw [ldF_succ, ldF_succ, ih (by omega)]
    by_cases e : a ≤ J m 1
    · rw [if_pos ⟨e, by omega⟩, if_pos ⟨e, by omega⟩]
    · rw [if_neg (fun h => e h.1), if_neg (fun h => e h.1)]
theorem ov_small (h : okJ n J = true) {a b : Nat} (hab : a ≤ b) (ho : OvB n J a b) : a ≤ 100 := by
  rcases Nat.lt_or_ge 100 a with h1 | h1
  · unfold OvB at ho
    rw [ldF_zero h (by omega) n (Nat.le_refl _)] at ho
    omega
  · exact h1
theorem ov_200 (h : okJ n J = true) {a b : Nat} (hab : a ≤ b) (hb : 200 < b) (ho : OvB n J a b) : OvB n J a (200 : Nat) := by
  have ha := ov_small h hab ho
  unfold OvB at ho ⊢
  rw [ldF_due h (b := ((200 : Nat) : Int)) (b' := (b : Int)) (by omega) (by omega) n (Nat.le_refl _)]
  omega
/-- Up to 200 and up to 400 the first one is the same. -/
theorem isOv_same (h : okJ n J = true) {a b a' b' : Nat} (h1 : IsOv n J 200 a b) (h2 : IsOv n J 400 a' b') : a = a' ∧ b = b' := by
  obtain ⟨p1, p2, p3, p4, p5⟩ := h1
  obtain ⟨q1, q2, q3, q4, q5⟩ := h2
  have hb' : b' ≤ 200 := by
    rcases Nat.lt_or_ge 200 b' with h3 | h3
    · have h4 := ov_200 h q1 h3 q3
      have h5 := ov_small h q1 q3
      exact absurd h4 (q5 200 (by omega) h3)
    · exact h3
  have ha : a = a' := by
    rcases Nat.lt_trichotomy a a' with h3 | h3 | h3
    · exact absurd p3 (q4 a h3 b p1 (by omega))
    · exact h3
    · exact absurd q3 (p4 a' h3 b' q1 hb')
  subst ha
  refine ⟨rfl, ?_⟩
  rcases Nat.lt_trichotomy b b' with h3 | h3 | h3
  · exact absurd p3 (q5 b p1 h3)
  · exact h3
  · exact absurd q3 (p5 b' q1 h3)
/-- No stretch at all is overloaded if none up to y is. -/
def NoOv (n : Nat) (J : Nat → Nat → Int) (x y : Nat) : Prop := ∀ a, a < x → ∀ b, a ≤ b → b ≤ y → ¬ OvB n J (a : Nat) (b : Nat)
theorem noOv_all (h : okJ n J = true) (hn : NoOv n J 101 200) {a b : Nat} (hab : a ≤ b) : ¬ OvB n J (a : Nat) (b : Nat) := by
  intro ho
  have ha := ov_small h hab ho
  rcases Nat.lt_or_ge 200 b with h3 | h3
  · exact hn a (by omega) 200 (by omega) (Nat.le_refl _) (ov_200 h hab h3 ho)
  · exact hn a (by omega) b hab h3 ho
end
end Go.Proofs.Ythbahfmcmbjglaa
