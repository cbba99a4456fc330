/- In the plan no time passes idle while a job waits; the pieces are as long as the jobs. -/
import Derived.Test.YthbahfmcmbjglaaQq
import Derived.Test.YthbahfmcmbjglaaQs
namespace Go.Proofs.Ythbahfmcmbjglaa

theorem dnF_congr {p q : Nat → Nat → Int} : ∀ {m : Nat}, (∀ a, a < m → ∀ i, p a i = q a i) → dnF p m = dnF q m := by
  intro m
  induction m with
  | zero => intro _; rfl
  | succ m ih =>
    intro h
    rw [dnF, dnF, ih (fun a ha => h a (by omega)), h m (by omega) 0, h m (by omega) 1, h m (by omega) 2]
/-- What stands about the pieces at time t. -/
structure GInv (n : Nat) (J : Nat → Nat → Int) (s : PSt) (t : Nat) : Prop where
  done : ∀ j, j < n → dnF s.p s.m j = J j 0 - s.left j
  ord : ∀ a, a < s.m → pvF s.p a 2 ≤ s.p a 1
  gap : ∀ a, a < s.m → pvF s.p a 2 < s.p a 1 → ∀ j, j < n → dnF s.p a j = J j 0 ∨ s.p a 1 ≤ J j 1
  now : pvF s.p s.m 2 ≤ t
  idle : pvF s.p s.m 2 < t → ∀ j, j < n → s.left j = 0 ∨ (t : Int) ≤ J j 1
theorem pvF_congr {p q : Nat → Nat → Int} {a : Nat} (h : ∀ b, b < a → ∀ i, p b i = q b i) (i : Nat) : pvF p a i = pvF q a i := by
  rcases a with _ | a
  · rfl
  · exact h a (by omega) i
theorem stF_gap {ru n : Nat} {J : Nat → Nat → Int} (h : okJ n J = true) : ∀ t, GInv n J (stF ru n J t) t := by
  intro t
  induction t with
  | zero =>
    refine ⟨fun j _ => ?_, fun a ha => absurd ha (Nat.not_lt_zero _), fun a ha => absurd ha (Nat.not_lt_zero _), ?_, fun h0 => ?_⟩
    · show (0 : Int) = J j 0 - J j 0
      rw [Int.sub_self]
    · show (0 : Int) ≤ ((0 : Nat) : Int)
      omega
    · have : (0 : Int) < ((0 : Nat) : Int) := h0
      omega
  | succ t ih =>
    have hP := stF_inv (ru := ru) h t
    have hL := (stF_left (ru := ru) h t).1
    rcases stF_cases (ru := ru) h t with ⟨e, hno⟩ | ⟨j, hj, ha, -, es, el, -⟩
    · rw [e]
      generalize stF ru n J t = s at *
      refine ⟨ih.done, ih.ord, ih.gap, by have := ih.now; push_cast; omega, fun _ k hk => ?_⟩
      have h1 := hno k hk
      by_cases h0 : s.left k = 0
      · exact .inl h0
      · right
        simp [avl, h0] at h1
        push_cast
        omega
    · rw [es] at el ⊢
      have hlj := hL j hj
      generalize stF ru n J t = s at *
      have hl0 : s.left j ≠ 0 := fun h0 => by simp [avl, h0] at ha
      obtain ⟨d1, d2, d3, d4, d5⟩ := ih
      unfold pushS at el ⊢
      by_cases hc : 0 < s.m ∧ s.p (s.m - 1) 0 = (j : Int)
      · rw [if_pos hc] at el ⊢
        obtain ⟨M, hM⟩ : ∃ M, s.m = M + 1 := ⟨s.m - 1, by omega⟩
        have hMM : s.m - 1 = M := by omega
        have he := hP.last hc.1 (by rw [hc.2, Int.toNat_natCast]; omega)
        have hr := hP.rng M (by omega)
        rw [hMM] at hc he
        have hq : ∀ a, a < M → ∀ i, updK s.p M 2 (s.p M 2 + 1) a i = s.p a i := fun a ha i => updK_ne _ _ (.inl (by omega))
        have hq0 : updK s.p M 2 (s.p M 2 + 1) M 0 = s.p M 0 := updK_ne _ _ (.inr (by omega))
        have hq1 : updK s.p M 2 (s.p M 2 + 1) M 1 = s.p M 1 := updK_ne _ _ (.inr (by omega))
        have hq2 : updK s.p M 2 (s.p M 2 + 1) M 2 = s.p M 2 + 1 := updK_at _ _ _ _
        rw [hMM] at el ⊢
        refine ⟨fun k hk => ?_, fun a ha' => ?_, fun a ha' => ?_, ?_, fun h1 => ?_⟩
        · have h1 := d1 k hk
          rw [el]
          show dnF (updK s.p M 2 (s.p M 2 + 1)) s.m k = _
          rw [hM, dnF] at h1 ⊢
          rw [dnF_congr hq, hq0, hq1, hq2]
          rw [hc.2, Int.toNat_natCast] at h1 ⊢
          unfold upd at h1 ⊢
          by_cases e : k = j
          · subst e
            rw [if_pos rfl] at h1 ⊢
            rw [if_pos rfl]
            omega
          · rw [if_neg e] at h1 ⊢
            rw [if_neg e]
            exact h1
        · have ha' : a < s.m := ha'
          have h1 := d2 a ha'
          show pvF (updK s.p M 2 _) a 2 ≤ updK s.p M 2 _ a 1
          rw [pvF_congr (q := s.p) (fun b hb i => hq b (by omega) i)]
          by_cases e : a = M
          · rw [e, hq1, ← e]; exact h1
          · rw [hq a (by omega)]; exact h1
        · have ha' : a < s.m := ha'
          have h1 := d3 a ha'
          show pvF (updK s.p M 2 _) a 2 < updK s.p M 2 _ a 1 → ∀ j, j < n → dnF (updK s.p M 2 _) a j = J j 0 ∨ updK s.p M 2 _ a 1 ≤ J j 1
          rw [pvF_congr (q := s.p) (fun b hb i => hq b (by omega) i), dnF_congr (fun b hb i => hq b (by omega) i)]
          by_cases e : a = M
          · rw [e, hq1, ← e]; exact h1
          · rw [hq a (by omega)]; exact h1
        · show pvF (updK s.p M 2 _) s.m 2 ≤ _
          rw [hM]
          show updK s.p M 2 _ M 2 ≤ _
          rw [hq2, he]
          push_cast
          omega
        · exfalso
          have h1 : pvF (updK s.p M 2 (s.p M 2 + 1)) s.m 2 < ((t + 1 : Nat) : Int) := h1
          rw [hM] at h1
          have h1 : updK s.p M 2 (s.p M 2 + 1) M 2 < ((t + 1 : Nat) : Int) := h1
          rw [hq2, he] at h1
          push_cast at h1
          omega
      · rw [if_neg hc] at el ⊢
        have hq : ∀ a, a < s.m → ∀ i, pcK s.p s.m j t (t + 1) a i = s.p a i := fun a ha i => by
          unfold pcK
          rw [if_neg (by omega)]
        have hq0 : pcK s.p s.m j t (t + 1) s.m 0 = (j : Int) := by simp [pcK]
        have hq1 : pcK s.p s.m j t (t + 1) s.m 1 = (t : Int) := by simp [pcK]
        have hq2 : pcK s.p s.m j t (t + 1) s.m 2 = (t : Int) + 1 := by simp [pcK]
        refine ⟨fun k hk => ?_, fun a ha' => ?_, fun a ha' => ?_, ?_, fun h1 => ?_⟩
        · have h1 := d1 k hk
          have h2 := d1 j hj
          rw [el]
          show dnF (pcK s.p s.m j t (t + 1)) (s.m + 1) k = _
          rw [dnF, dnF_congr hq, hq0, hq1, hq2, Int.toNat_natCast]
          unfold upd
          by_cases e : k = j
          · subst e
            rw [if_pos rfl, if_pos rfl]
            omega
          · rw [if_neg e, if_neg e]
            exact h1
        · have ha' : a < s.m + 1 := ha'
          show pvF (pcK s.p s.m j t (t + 1)) a 2 ≤ pcK s.p s.m j t (t + 1) a 1
          rw [pvF_congr (q := s.p) (fun b hb i => hq b (by omega) i)]
          by_cases e : a = s.m
          · rw [e, hq1]; exact d4
          · rw [hq a (by omega)]; exact d2 a (by omega)
        · have ha' : a < s.m + 1 := ha'
          show pvF (pcK s.p s.m j t (t + 1)) a 2 < pcK s.p s.m j t (t + 1) a 1 → ∀ k, k < n → dnF (pcK s.p s.m j t (t + 1)) a k = J k 0 ∨ pcK s.p s.m j t (t + 1) a 1 ≤ J k 1
          rw [pvF_congr (q := s.p) (fun b hb i => hq b (by omega) i), dnF_congr (fun b hb i => hq b (by omega) i)]
          by_cases e : a = s.m
          · rw [e, hq1]
            intro h1 k hk
            have h2 := d1 k hk
            rcases d5 h1 k hk with h3 | h3
            · left; omega
            · right; exact h3
          · rw [hq a (by omega)]; exact d3 a (by omega)
        · show pcK s.p s.m j t (t + 1) s.m 2 ≤ _
          rw [hq2]
          push_cast
          omega
        · exfalso
          have h1 : pcK s.p s.m j t (t + 1) s.m 2 < ((t + 1 : Nat) : Int) := h1
          rw [hq2] at h1
          push_cast at h1
          omega
end Go.Proofs.Ythbahfmcmbjglaa
