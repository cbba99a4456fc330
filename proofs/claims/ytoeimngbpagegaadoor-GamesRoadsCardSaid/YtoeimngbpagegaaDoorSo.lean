import Derived.Test.YtoeimngbpagegaaDoorOwn
import Derived.Test.YtoeimngbpagegaaDoorRowI
namespace Go.Proofs.YtoeimngbpagegaaDoor

/-- Two neighbours change places. -/
def swp (F : Nat → Int) (j : Nat) : Nat → Int := upd (upd F (j + 1) (F j)) j (F (j + 1))
theorem swp_a (F : Nat → Int) (j : Nat) : swp F j j = F (j + 1) := upd_at _ _ _
theorem swp_b (F : Nat → Int) (j : Nat) : swp F j (j + 1) = F j := by
  unfold swp
  rw [upd_ne _ _ (by omega), upd_at]
theorem swp_o (F : Nat → Int) {j x : Nat} (h1 : x ≠ j) (h2 : x ≠ j + 1) : swp F j x = F x := by
  unfold swp
  rw [upd_ne _ _ h1, upd_ne _ _ h2]
theorem swp_perm (F : Nat → Int) (j : Nat) : ∀ n, j + 1 < n → (lst n (swp F j)).Perm (lst n F) := by
  intro n
  induction n with
  | zero => intro h; omega
  | succ n ih =>
    intro h
    rcases Nat.lt_or_ge (j + 1) n with hl | hl
    · rw [lst_succ, lst_succ, swp_o F (by omega) (by omega)]
      exact (ih hl).append (List.Perm.refl _)
    · obtain rfl : n = j + 1 := by omega
      rw [lst_succ, lst_succ, lst_succ, lst_succ, swp_a, swp_b, lst_congr (fun k hk => swp_o F (by omega) (by omega) : ∀ k, k < j → swp F j k = F k), List.append_assoc, List.append_assoc]
      exact (List.Perm.refl _).append (List.Perm.swap _ _ [])
/-- All pairs among the first k are in order. -/
def Srt (r : Int → Int) (F : Nat → Int) (k : Nat) : Prop := ∀ x y, x < y → y < k → r (F x) ≤ r (F y)
/-- .. but for those whose later one is j. -/
def SrtX (r : Int → Int) (F : Nat → Int) (k j : Nat) : Prop := ∀ x y, x < y → y < k → y ≠ j → r (F x) ≤ r (F y)
theorem Srt.one (r : Int → Int) (F : Nat → Int) : Srt r F 1 := fun x y h1 h2 => by omega
theorem Srt.open_ {r : Int → Int} {F : Nat → Int} {k : Nat} (h : Srt r F k) : SrtX r F (k + 1) k := fun x y h1 h2 h3 => h x y h1 (by omega)
theorem SrtX.done0 {r : Int → Int} {F : Nat → Int} {k : Nat} (h : SrtX r F k 0) : Srt r F k := fun x y h1 h2 => h x y h1 h2 (by omega)
theorem SrtX.done {r : Int → Int} {F : Nat → Int} {k j : Nat} (h : SrtX r F k (j + 1)) (hj : j + 1 < k) (hle : r (F j) ≤ r (F (j + 1))) : Srt r F k := fun x y h1 h2 => by
  by_cases e : y = j + 1
  · subst e
    rcases Nat.lt_or_ge x j with hl | hl
    · have := h x j hl (by omega) (by omega)
      omega
    · obtain rfl : x = j := by omega
      exact hle
  · exact h x y h1 h2 e
theorem SrtX.step {r : Int → Int} {F : Nat → Int} {k j : Nat} (h : SrtX r F k (j + 1)) (hj : j + 1 < k) (hlt : r (F (j + 1)) < r (F j)) : SrtX r (swp F j) k j := fun x y h1 h2 h3 => by
  by_cases e : y = j + 1
  · subst e
    rw [swp_b]
    by_cases e2 : x = j
    · subst e2
      rw [swp_a]
      omega
    · rw [swp_o F e2 (by omega)]
      exact h x j (by omega) (by omega) (by omega)
  · rw [swp_o F (x := y) h3 e]
    by_cases e2 : x = j
    · subst e2
      rw [swp_a]
      exact h (x + 1) y (by omega) h2 (by omega)
    · by_cases e3 : x = j + 1
      · subst e3
        rw [swp_b]
        exact h j y (by omega) h2 e
      · rw [swp_o F e2 e3]
        exact h x y h1 h2 e
end Go.Proofs.YtoeimngbpagegaaDoor
