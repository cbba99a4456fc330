/- A job that takes longer: plain words. -/
import Derived.Test.YthbahfmcmbjglaaJu
import Derived.Test.YthbahfmcmbjglaaJh
import Derived.Test.YthbahfmcmbjglaaJo
namespace Go.Proofs.Ythbahfmcmbjglaa

/-- One job's Time is one more. -/
def slJ (J : Nat → Nat → Int) (job : Nat) : Nat → Nat → Int := updK J job 0 (J job 0 + 1)
theorem slJ0 (J : Nat → Nat → Int) (job : Nat) : slJ J job job 0 = J job 0 + 1 := updK_at _ _ _ _
theorem slJ_ne (J : Nat → Nat → Int) {job k i : Nat} (h : k ≠ job ∨ i ≠ 0) : slJ J job k i = J k i := updK_ne _ _ h
theorem slJ_ge (J : Nat → Nat → Int) (job k : Nat) : J k 0 ≤ slJ J job k 0 := by
  by_cases e : k = job
  · subst e
    rw [slJ0]
    omega
  · rw [slJ_ne J (.inl e)]
    exact Int.le_refl _
section
variable {n : Nat} {J : Nat → Nat → Int} {job : Nat}
theorem ldF_sl (a D : Int) : ∀ m, ldF J a D m ≤ ldF (slJ J job) a D m := by
  intro m
  induction m with
  | zero => exact Int.le_refl _
  | succ m ih =>
    rw [ldF_succ, ldF_succ, slJ_ne J (k := m) (i := 1) (.inr (by omega)), slJ_ne J (k := m) (i := 2) (.inr (by omega))]
    have := slJ_ge J job m
    split <;> omega
theorem delay_slower (h : okJ n J = true) (h' : okJ n (slJ J job) = true) {a b : Int} (ha : IsDl n J (enF (plS 0 n J).p (plS 0 n J).m) a) (hb : IsDl n (slJ J job) (enF (plS 0 n (slJ J job)).p (plS 0 n (slJ J job)).m) b) : a ≤ b := by
  rcases Int.lt_or_le b a with hlt | hle
  · exfalso
    obtain ⟨-, j0, hj0, e0⟩ := ha
    have e0 : eS (plS 0 n J) j0 - J j0 2 = a := e0
    obtain ⟨α, D, h1, h2⟩ := over_late h hj0 (x := a - 1) (by omega)
    have h3 := no_over_whole (n := n) (J := shJ (slJ J job) (a - 1)) (by rw [whB_sh]; exact pl_whole (ru := 0) h') (fun j hj => by
      have := hb.1 j hj
      show _ ≤ slJ J job j 2 + (a - 1)
      omega) h1
    rw [ldF_sh] at h3
    have := ldF_sl (J := J) (job := job) α D n
    omega
  · exact hle
/-- While something is left, the end is to come. -/
theorem open_end {ru : Nat} (h : okJ n J = true) {k t : Nat} : ∀ m, (stF ru n J (t + m)).left k < (stF ru n J t).left k → (t : Int) < eS (stF ru n J (t + m)) k := by
  intro m
  induction m with
  | zero => intro hl; exact absurd hl (Int.lt_irrefl _)
  | succ m ih =>
    intro hl
    rw [← Nat.add_assoc] at hl ⊢
    rcases stF_cases (ru := ru) h (t + m) with ⟨e, -⟩ | ⟨j, hj, -, -, -, el, ee⟩
    · rw [e] at hl ⊢
      exact ih hl
    · rw [el] at hl
      rw [ee]
      unfold upd at hl ⊢
      by_cases e : k = j
      · rw [if_pos e]
        push_cast
        omega
      · rw [if_neg e] at hl ⊢
        exact ih hl
theorem open_plan {ru : Nat} (h : okJ n J = true) {k : Nat} (hk : k < n) {t : Nat} (hl : 0 < (stF ru n J t).left k) : (t : Int) < enF (plS ru n J).p (plS ru n J).m k := by
  have hz := plS_left (ru := ru) h k hk
  rcases Nat.lt_or_ge t 260 with ht | ht
  · have := open_end (ru := ru) h (k := k) (t := t) (260 - t) (by
      rw [show t + (260 - t) = 260 by omega]
      have hz : (stF ru n J 260).left k = 0 := hz
      omega)
    rw [show t + (260 - t) = 260 by omega] at this
    exact this
  · exfalso
    have h1 := stF_stays (ru := ru) (plS_left (ru := ru) h) (t - 260)
    rw [show 260 + (t - 260) = t by omega] at h1
    rw [h1] at hl
    have hz : (stF ru n J 260).left k = 0 := hz
    omega
/-- The longer job's plan, without its last unit. -/
def dropF (n : Nat) (J : Nat → Nat → Int) (job : Nat) : Nat → Nat → Int := fun t k => if k = job then (if (stF 1 n (slJ J job) t).left k = 0 then 0 else (stF 1 n (slJ J job) t).left k - 1) else (stF 1 n (slJ J job) t).left k
theorem drop_sch (h : okJ n J = true) (h' : okJ n (slJ J job) = true) : Sch n J (dropF n J job) := by
  have hs := srpt_sch h'
  refine ⟨fun k hk => ?_, fun t k hk => ?_, fun t => ?_⟩
  · have h1 := hs.init k hk
    have h1 : (stF 1 n (slJ J job) 0).left k = slJ J job k 0 := h1
    unfold dropF
    by_cases e : k = job
    · subst e
      rw [if_pos rfl, h1, slJ0]
      have := ((okJ_iff.1 h).2 k hk).1
      rw [if_neg (by omega)]
      omega
    · rw [if_neg e, h1, slJ_ne J (.inl e)]
  · have h1 := hs.nn t k hk
    have h1 : 0 ≤ (stF 1 n (slJ J job) t).left k := h1
    unfold dropF
    split
    · split <;> omega
    · exact h1
  · rcases hs.step t with e | ⟨j, hj, hjr, e1, e2⟩
    · refine .inl (fun k hk => ?_)
      have e : (stF 1 n (slJ J job) (t + 1)).left k = (stF 1 n (slJ J job) t).left k := e k hk
      unfold dropF
      rw [e]
    · have e1 : (stF 1 n (slJ J job) (t + 1)).left j = (stF 1 n (slJ J job) t).left j - 1 := e1
      have e2 : ∀ k, k < n → k ≠ j → (stF 1 n (slJ J job) (t + 1)).left k = (stF 1 n (slJ J job) t).left k := e2
      have hn1 := hs.nn (t + 1) j hj
      have hn1 : 0 ≤ (stF 1 n (slJ J job) (t + 1)).left j := hn1
      have hjr' : J j 1 ≤ (t : Int) := by rw [slJ_ne J (.inr (by omega))] at hjr; exact hjr
      by_cases ej : j = job
      · subst ej
        by_cases e0 : (stF 1 n (slJ J j) t).left j = 1
        · refine .inl (fun k hk => ?_)
          unfold dropF
          by_cases e : k = j
          · subst e
            rw [if_pos rfl, if_pos rfl, e1, e0]
            rfl
          · rw [if_neg e, if_neg e, e2 k hk e]
        · refine .inr ⟨j, hj, hjr', ?_, fun k hk e => ?_⟩
          · unfold dropF
            rw [if_pos rfl, if_pos rfl, e1, if_neg (by omega), if_neg (by omega)]
          · unfold dropF
            rw [if_neg e, if_neg e, e2 k hk e]
      · refine .inr ⟨j, hj, hjr', ?_, fun k hk e => ?_⟩
        · unfold dropF
          rw [if_neg ej, if_neg ej, e1]
        · unfold dropF
          rw [e2 k hk e]
/-- The sum of the ends is greater. -/
theorem short_slower (h : okJ n J = true) (h' : okJ n (slJ J job) = true) (hj : job < n) : smT (enF (plS 1 n J).p (plS 1 n J).m) n < smT (enF (plS 1 n (slJ J job)).p (plS 1 n (slJ J job)).m) n := by
  have hs := srpt_sch h'
  have h1 := ends_le (ea := enF (plS 1 n J).p (plS 1 n J).m) (eb := upd (enF (plS 1 n (slJ J job)).p (plS 1 n (slJ J job)).m) job (enF (plS 1 n (slJ J job)).p (plS 1 n (slJ J job)).m job - 1)) (srpt_sch h) (srpt_sst h) (drop_sch h h') (fun k hk => ((okJ_iff.1 h).2 k hk).1.1) (fun k hk => srpt_end h hk) (fun k hk => by
    have hop := fun (t : Nat) (hl : 0 < (stF 1 n (slJ J job) t).left k) => open_plan (ru := 1) h' hk hl
    by_cases e : k = job
    · subst e
      rw [upd_at]
      have h0 := hop 0 (by
        have h2 := hs.init k hk
        have h2 : (stF 1 n (slJ J k) 0).left k = slJ J k k 0 := h2
        have := ((okJ_iff.1 h').2 k hk).1
        omega)
      refine ⟨by omega, fun t ht => ?_⟩
      have h3 : 2 ≤ (stF 1 n (slJ J k) t).left k := by
        have h4 := hs.nn t k hk
        have h4 : 0 ≤ (stF 1 n (slJ J k) t).left k := h4
        unfold dropF at ht
        rw [if_pos rfl] at ht
        split at ht <;> omega
      have h5 : (stF 1 n (slJ J k) t).left k - 1 ≤ (stF 1 n (slJ J k) (t + 1)).left k := by
        rcases hs.step t with e | ⟨j, -, -, e1, e2⟩
        · have e : (stF 1 n (slJ J k) (t + 1)).left k = (stF 1 n (slJ J k) t).left k := e k hk
          omega
        · by_cases ej : k = j
          · subst ej
            have e1 : (stF 1 n (slJ J k) (t + 1)).left k = (stF 1 n (slJ J k) t).left k - 1 := e1
            omega
          · have e2 : (stF 1 n (slJ J k) (t + 1)).left k = (stF 1 n (slJ J k) t).left k := e2 k hk ej
            omega
      have h6 := hop (t + 1) (by omega)
      push_cast at h6
      omega
    · rw [upd_ne _ _ e]
      refine ⟨(srpt_end h' hk).1, fun t ht => hop t ?_⟩
      unfold dropF at ht
      rw [if_neg e] at ht
      exact ht)
  rw [smT_upd, if_pos hj] at h1
  omega
theorem fit_slower {s : Nat} (hf : fitB n (slJ J job) s = true) : fitB n J s = true := by
  refine fitG_iff.2 (fun j hj hb => ?_)
  have h1 := fitG_iff.1 hf j hj hb
  rw [slJ_ne J (k := j) (i := 2) (.inr (by omega))] at h1
  have h2 : ldS n J s (J j 2) ≤ ldS n (slJ J job) s (J j 2) := smT_le (fun k hk => by
    unfold lsF
    rw [slJ_ne J (k := k) (i := 2) (.inr (by omega))]
    have := slJ_ge J job k
    split <;> omega)
  omega
theorem hv_pc (hn : n ≤ 8) : (hvF (wtS n (wtM J)) (fitB n J) (2 ^ n)).1 < 256 ∧ (hvF (wtS n (wtM J)) (fitB n J) (2 ^ n)).2 = (pc8 (hvF (wtS n (wtM J)) (fitB n J) (2 ^ n)).1 : Int) := by
  have h1 := hvF_lt (wtS n (wtM J)) (fitB n J) (2 ^ n) (Nat.pow_pos (by omega))
  have h2 := Nat.pow_le_pow_right (n := 2) (by omega) hn
  refine ⟨by omega, ?_⟩
  rw [hvF_val (wtS_none n _), ← pc8_ct, ← ctS_8 hn h1]
  rfl
/-- No more jobs are on time. -/
theorem most_slower (h : okJ n J = true) : pc8 (hvF (wtS n (wtM (slJ J job))) (fitB n (slJ J job)) (2 ^ n)).1 ≤ pc8 (hvF (wtS n (wtM J)) (fitB n J) (2 ^ n)).1 := by
  obtain ⟨⟨-, h8⟩, -⟩ := okJ_iff.1 h
  have h1 := (hv_pc (J := J) h8).2
  have h2 := (hv_pc (J := slJ J job) h8).2
  have h3 := hvF_lt (wtS n (wtM (slJ J job))) (fitB n (slJ J job)) (2 ^ n) (Nat.pow_pos (by omega))
  have h4 : fitB n (slJ J job) (hvF (wtS n (wtM (slJ J job))) (fitB n (slJ J job)) (2 ^ n)).1 = true := hvF_ok (g := wtS n (wtM (slJ J job))) (ok := fitB n (slJ J job)) (show fitG n (slJ J job) 0 0 = true from fitG_none (fun k _ => by simp [btN])) (2 ^ n)
  have h5 := hvF_max (g := wtS n (wtM J)) (ok := fitB n J) (2 ^ n) _ h3 (fit_slower h4)
  have h6 := hvF_val (g := wtS n (wtM (slJ J job))) (ok := fitB n (slJ J job)) (wtS_none n _) (2 ^ n)
  have e : wtM (slJ J job) = wtM J := rfl
  rw [e] at h6 h5 h2
  rw [e]
  omega
theorem ls_slower (J : Nat → Nat → Int) (job : Nat) : lsV n J ≤ lsV n (slJ J job) :=
  lsV_mono (fun k _ => slJ_ge J job k) (fun k _ => (slJ_ne J (.inr (by omega))).symm) _ _
end
end Go.Proofs.Ythbahfmcmbjglaa
