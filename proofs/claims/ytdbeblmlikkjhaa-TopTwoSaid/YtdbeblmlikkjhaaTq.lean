/- Two candidates and an odd number of ballots (theory). -/
import Derived.Test.YtdbeblmlikkjhaaWl
import Derived.Test.YtdbeblmlikkjhaaPk
import Derived.Test.YtdbeblmlikkjhaaMj
import Derived.Test.YtdbeblmlikkjhaaBl
import Derived.Test.YtdbeblmlikkjhaaWi
import Derived.Test.YtdbeblmlikkjhaaUp
namespace Go.Proofs.Ytdbeblmlikkjhaa
open Go.RowKit

theorem two_row {f : Nat → Int} (h : Ord 2 f) : (f 0 = 0 ∧ f 1 = 1) ∨ (f 0 = 1 ∧ f 1 = 0) := by
  have h0 := h.rng 0 (by omega)
  have h1 := h.rng 1 (by omega)
  have h2 := h.inj 0 1 (by omega) (by omega)
  omega
theorem two_idx {f : Nat → Int} (h : Ord 2 f) : (f 0 = 0 ∧ idxI f 0 2 = 0 ∧ idxI f 1 2 = 1) ∨ (f 0 = 1 ∧ idxI f 0 2 = 1 ∧ idxI f 1 2 = 0) := by
  have i0 := idx_at h (p := 0) (by omega)
  have i1 := idx_at h (p := 1) (by omega)
  rcases two_row h with ⟨e0, e1⟩ | ⟨e0, e1⟩
  · rw [e0] at i0; rw [e1] at i1
    exact .inl ⟨e0, by simpa using i0, by simpa using i1⟩
  · rw [e0] at i0; rw [e1] at i1
    exact .inr ⟨e0, by simpa using i1, by simpa using i0⟩
theorem two_fp {v : Nat → Nat → Int} : ∀ n : Nat, (∀ i, i < n → Ord 2 (v i)) → fpN v 1 n = n - fpN v 0 n ∧ fpN v 0 n ≤ n := by
  intro n
  induction n with
  | zero => intro _; exact ⟨rfl, Nat.le_refl _⟩
  | succ n ih =>
    intro h
    obtain ⟨h1, h2⟩ := ih (fun i hi => h i (by omega))
    rcases two_row (h n (by omega)) with ⟨e, -⟩ | ⟨e, -⟩
    · simp only [fpN, e]
      simp
      omega
    · simp only [fpN, e]
      simp
      omega
theorem two_bd {v : Nat → Nat → Int} {x : Nat} (hx : x < 2) : ∀ n : Nat, (∀ i, i < n → Ord 2 (v i)) → bdN v 2 x n = (fpN v x n : Int) := by
  intro n
  induction n with
  | zero => intro _; rfl
  | succ n ih =>
    intro h
    have h1 := ih (fun i hi => h i (by omega))
    have h2 := two_idx (h n (by omega))
    simp only [bdN, fpN, h1]
    obtain rfl | rfl : x = 0 ∨ x = 1 := by omega
    · rcases h2 with ⟨e, e0, e1⟩ | ⟨e, e0, e1⟩
      · simp [e, e0]
      · simp [e, e0]
    · rcases h2 with ⟨e, e0, e1⟩ | ⟨e, e0, e1⟩
      · simp [e, e1]
      · simp [e, e1]
theorem two_mrg {v : Nat → Nat → Int} : ∀ n : Nat, (∀ i, i < n → Ord 2 (v i)) → mrg v 2 0 1 n = 2 * (fpN v 0 n : Int) - n := by
  intro n
  induction n with
  | zero => intro _; rfl
  | succ n ih =>
    intro h
    have h1 := ih (fun i hi => h i (by omega))
    have h2 := two_idx (h n (by omega))
    simp only [mrg, fpN, h1]
    rcases h2 with ⟨e, e0, e1⟩ | ⟨e, e0, e1⟩
    · simp [e, e0, e1, sg]
      omega
    · simp [e, e0, e1, sg]
      omega
/-- The winner, by any rule, is who is first on more ballots. -/
theorem two_win {r n : Nat} {L : Nat → Nat} {v : Nat → Nat → Int} (hok : okBal n L v = true) (h2 : L 0 = 2) (hodd : n % 2 = 1) :
    winF r n (L 0) v = if 2 * fpN v 0 n < n then 1 else 0 := by
  obtain ⟨⟨hn1, hn9⟩, ⟨hc1, hc5⟩, hO⟩ := okBal_iff.1 hok
  have hO2 : ∀ i, i < n → Ord 2 (v i) := fun i hi => by rw [← h2]; exact (hO i hi).2
  have hanti := mAll_anti hok
  have hdia := mAll_dia hok
  have hbd := fun a b ha hb => (by rw [mAll_at hc5 ha hb n (fun i hi => (hO i hi).2)]; exact mrg_bd v (L 0) a b n : -(n : Int) ≤ mAll v (L 0) n (5 * a + b) ∧ mAll v (L 0) n (5 * a + b) ≤ n)
  have h01 : mAll v (L 0) n (5 * 0 + 1) = 2 * (fpN v 0 n : Int) - n := by
    rw [mAll_at hc5 (by omega) (by omega) n (fun i hi => (hO i hi).2), h2]
    exact two_mrg n hO2
  have h10 := hanti 0 1 (by omega) (by omega)
  have hf := two_fp n hO2
  have hcls := wT_cls (T := mAll v (L 0) n) hc5 hdia (L 0) (Nat.le_refl _)
  obtain ⟨k0, hk0, hst, hno⟩ := str_exists hc1 hcls
  have hbeat : ∀ b, b < L 0 → b ≠ (if 2 * fpN v 0 n < n then 1 else 0) → 0 < mAll v (L 0) n (5 * (if 2 * fpN v 0 n < n then 1 else 0) + b) := by
    intro b hb hne
    by_cases e : 2 * fpN v 0 n < n
    · simp only [if_pos e] at hne ⊢
      obtain rfl : b = 0 := by omega
      omega
    · simp only [if_neg e] at hne ⊢
      obtain rfl : b = 1 := by omega
      omega
  have hlt : (if 2 * fpN v 0 n < n then 1 else 0) < L 0 := by split <;> omega
  unfold winF
  by_cases r0 : r = 0
  · rw [if_pos r0, h2]
    have e1 : topF (fun x => (fpN v x n : Int)) 1 = 0 := by show (if _ then 0 else 0) = 0; simp
    show (if (fpN v (topF (fun x => (fpN v x n : Int)) 1) n : Int) < (fpN v 1 n : Int) then 1 else topF (fun x => (fpN v x n : Int)) 1) = _
    rw [e1, hf.1]
    by_cases e : 2 * fpN v 0 n < n
    · rw [if_pos e, if_pos (by omega)]
    · rw [if_neg e, if_neg (by omega)]
  rw [if_neg r0]
  by_cases r1 : r = 1
  · rw [if_pos r1, h2]
    have e1 : topF (fun x => bdN v 2 x n) 1 = 0 := by show (if _ then 0 else 0) = 0; simp
    show (if bdN v 2 (topF (fun x => bdN v 2 x n) 1) n < bdN v 2 1 n then 1 else topF (fun x => bdN v 2 x n) 1) = _
    rw [e1, two_bd (x := 0) (by omega) n hO2, two_bd (x := 1) (by omega) n hO2, hf.1]
    by_cases e : 2 * fpN v 0 n < n
    · rw [if_pos e, if_pos (by omega)]
    · rw [if_neg e, if_neg (by omega)]
  rw [if_neg r1]
  by_cases r2 : r = 2
  · rw [if_pos r2]
    have e := mj_win hc5 hdia hanti hlt hbeat hk0 hst
    obtain ⟨g1, g2, g3, g4⟩ := fstF_spec (strB (wT (L 0) (mAll v (L 0) n) (L 0)) (L 0)) (L 0) 0 ⟨k0, by omega, by omega, hst⟩
    exact mj_win hc5 hdia hanti hlt hbeat (by omega) g3
  rw [if_neg r2, mj_first hc5 hanti hbd hlt hbeat]
  simp
theorem fp_put {v : Nat → Nat → Int} {f : Nat → Int} {i x : Nat} : ∀ n : Nat, fpN (fun k => if k = i then f else v k) x n + (if i < n ∧ v i 0 = (x : Int) then 1 else 0) = fpN v x n + (if i < n ∧ f 0 = (x : Int) then 1 else 0) := by
  intro n
  induction n with
  | zero => simp [fpN]
  | succ n ih =>
    simp only [fpN]
    by_cases e : n = i
    · subst e
      simp only [if_true, Nat.lt_irrefl, false_and, if_false, Nat.lt_succ_self, true_and, Nat.add_zero] at ih ⊢
      rw [ih]
      omega
    · simp only [if_neg e]
      have e1 : (i < n + 1 ∧ v i 0 = (x : Int)) ↔ (i < n ∧ v i 0 = (x : Int)) := ⟨fun h => ⟨by omega, h.2⟩, fun h => ⟨by omega, h.2⟩⟩
      have e2 : (i < n + 1 ∧ f 0 = (x : Int)) ↔ (i < n ∧ f 0 = (x : Int)) := ⟨fun h => ⟨by omega, h.2⟩, fun h => ⟨by omega, h.2⟩⟩
      simp only [e1, e2]
      omega
/-- Nobody gains. -/
theorem two_gain {r n : Nat} {L : Nat → Nat} {v : Nat → Nat → Int} (hok : okBal n L v = true) (h2 : L 0 = 2) (hodd : n % 2 = 1) {i : Nat} (hi : i < n) {f : Nat → Int} (hf : Ord (L 0) f) :
    befB (v i) (L 0) ((winF r n (L 0) (fun k => if k = i then f else v k) : Nat) : Int) ((winF r n (L 0) v : Nat) : Int) = false := by
  obtain ⟨hA, hC, hO⟩ := okBal_iff.1 hok
  have hok' : okBal n L (fun k => if k = i then f else v k) = true := okBal_iff.2 ⟨hA, hC, fun k hk => ⟨(hO k hk).1, by
    by_cases e : k = i
    · simp only [if_pos e]; exact hf
    · simp only [if_neg e]; exact (hO k hk).2⟩⟩
  rw [two_win hok h2 hodd, two_win hok' h2 hodd]
  have hp := fp_put (v := v) (f := f) (i := i) (x := 0) n
  have hvi := two_idx (f := v i) (by rw [← h2]; exact (hO i hi).2)
  unfold befB
  rw [h2]
  generalize fpN (fun k => if k = i then f else v k) 0 n = p at *
  generalize fpN v 0 n = q at *
  have hz : ((0 : Nat) : Int) = 0 := rfl
  simp only [hi, true_and, hz] at hp
  refine decide_eq_false ?_
  rcases hvi with ⟨e, e0, e1⟩ | ⟨e, e0, e1⟩
  · rw [e] at hp
    by_cases a : 2 * p < n <;> by_cases b : 2 * q < n <;> simp [a, b, e0, e1]
    simp at hp
    by_cases g : f 0 = 0 <;> simp [g] at hp <;> omega
  · rw [e] at hp
    by_cases a : 2 * p < n <;> by_cases b : 2 * q < n <;> simp [a, b, e0, e1]
    simp at hp
    by_cases g : f 0 = 0 <;> simp [g] at hp <;> omega
end Go.Proofs.Ytdbeblmlikkjhaa
