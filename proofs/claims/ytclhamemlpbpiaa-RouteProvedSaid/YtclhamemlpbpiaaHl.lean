/- What is reached from a stop that is reached is reached. -/
import Derived.Test.YtclhamemlpbpiaaHk
namespace Go.Proofs.Ytclhamemlpbpiaa

/-- The count behind dsT_small. -/
theorem dsT_count {n m : Nat} {F : Nat → Nat → Int} (hok : okM n m F = true) {x y : Nat} (hx : x < n) (hy : y < n) (hlt : dsT n m F (8 * x + y) < 400) : dsT n m F (8 * x + y) ≤ 50 * (cnB (fun v => decide (dsT n m F (8 * x + v) < dsT n m F (8 * x + y))) n : Nat) := by
  have hM := dsT_met hok
  have hn8 : n ≤ 8 := by have := (okM_iff.1 hok).1; omega
  have hS := stT_met hok
  have hL : Lst n (stT n m F) (dsT n m F) := dS_lst hn8 hS (fun x y hx hy hxy h => ⟨x, hx, hxy, stT_small hok x y hx hy hxy h, by rw [hS.diag x hx]; omega⟩) n (Nat.le_refl _)
  have hle : ∀ i, dsT n m F i ≤ stT n m F i := dS_le n
  generalize dsT n m F = T at *
  have key : ∀ (q : Nat) y, y < n → T (8 * x + y) < 400 → T (8 * x + y) ≤ q → T (8 * x + y) ≤ 50 * (cnB (fun v => decide (T (8 * x + v) < T (8 * x + y))) n : Nat) := by
    intro q
    induction q with
    | zero =>
      intro y hy _ h0
      omega
    | succ q ih =>
      intro y hy hlt hq
      by_cases e : x = y
      · subst e
        rw [hM.diag x hx]
        omega
      · obtain ⟨z, hz, hzy, he, h2⟩ := hL x y hx hy e hlt
        have h3 := hS.off z y hz hy hzy
        have h4 := hle (8 * z + y)
        have h5 := hM.tri z hz x y hx hy
        have h6 := ih z hz (by omega) (by omega)
        have h7 := cnB_lt (p := fun v => decide (T (8 * x + v) < T (8 * x + z))) (q := fun v => decide (T (8 * x + v) < T (8 * x + y))) (n := n) (z := z) (fun v _ hp => decide_eq_true (by have := of_decide_eq_true hp; omega)) hz (decide_eq_false (by omega)) (decide_eq_true (by omega))
        omega
  exact key (T (8 * x + y)).toNat y hy hlt (by have := hM.nn (8 * x + y); omega)
/-- A road leads on. -/
theorem dsT_edge {n m : Nat} {F : Nat → Nat → Int} (hok : okM n m F = true) {a v u : Nat} (ha : a < n) (hv : v < n) (hu : u < n) (h : dsT n m F (8 * a + v) < 400) (he : dsT n m F (8 * v + u) ≤ 50) : dsT n m F (8 * a + u) < 400 := by
  have h0 := dsT_count hok ha hv h
  have hM := dsT_met hok
  have hn8 : n ≤ 8 := by have := (okM_iff.1 hok).1; omega
  generalize dsT n m F = T at *
  rcases Int.lt_or_le (T (8 * a + u)) 400 with h1 | h1
  · exact h1
  · have h2 := cnB_lt (p := fun k => decide (T (8 * a + k) < T (8 * a + v))) (q := fun k => decide (T (8 * a + k) < 400)) (n := n) (z := v) (fun k _ hp => decide_eq_true (by have := of_decide_eq_true hp; omega)) hv (decide_eq_false (by omega)) (decide_eq_true h)
    have h3 := cnB_lt (p := fun k => decide (T (8 * a + k) < 400)) (q := fun _ => true) (n := n) (z := u) (fun _ _ _ => rfl) hu (decide_eq_false (by omega)) rfl
    have h4 := cnB_top (p := fun _ => true) n
    have h5 := hM.tri v hv a u ha hu
    omega
theorem dsT_joins {n m : Nat} {F : Nat → Nat → Int} (hok : okM n m F = true) {a c : Nat} (ha : a < n) (hc : c < n) (h : dsT n m F (8 * a + c) < 400) : ∀ b, b < n → dsT n m F (8 * c + b) < 400 → dsT n m F (8 * a + b) < 400 := by
  have hM := dsT_met hok
  have hn8 : n ≤ 8 := by have := (okM_iff.1 hok).1; omega
  have hS := stT_met hok
  have hL : Lst n (stT n m F) (dsT n m F) := dS_lst hn8 hS (fun x y hx hy hxy h => ⟨x, hx, hxy, stT_small hok x y hx hy hxy h, by rw [hS.diag x hx]; omega⟩) n (Nat.le_refl _)
  have hle : ∀ i, dsT n m F i ≤ stT n m F i := dS_le n
  have hed : ∀ v u, v < n → u < n → dsT n m F (8 * a + v) < 400 → dsT n m F (8 * v + u) ≤ 50 → dsT n m F (8 * a + u) < 400 := fun v u hv hu => dsT_edge hok ha hv hu
  generalize dsT n m F = T at *
  have key : ∀ (q : Nat) b, b < n → T (8 * c + b) < 400 → T (8 * c + b) ≤ q → T (8 * a + b) < 400 := by
    intro q
    induction q with
    | zero =>
      intro b hb _ h0
      by_cases e : c = b
      · subst e
        exact h
      · have := hM.off c b hc hb e
        omega
    | succ q ih =>
      intro b hb hlt hq
      by_cases e : c = b
      · subst e
        exact h
      · obtain ⟨z, hz, hzb, he, h2⟩ := hL c b hc hb e hlt
        have h3 := hS.off z b hz hb hzb
        have h4 := hle (8 * z + b)
        exact hed z b hz hb (ih z hz (by omega) (by omega)) (by omega)
  exact fun b hb hlt => key (T (8 * c + b)).toNat b hb hlt (by have := hM.nn (8 * c + b); omega)
end Go.Proofs.Ytclhamemlpbpiaa
