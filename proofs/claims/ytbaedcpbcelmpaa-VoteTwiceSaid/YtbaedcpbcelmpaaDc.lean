/- What the functions give of ballots counted twice. -/
import Derived.Test.YtbaedcpbcelmpaaWr
import Derived.Test.YtbaedcpbcelmpaaRv2
import Derived.Test.YtbaedcpbcelmpaaEq
namespace Go.Proofs.Ytbaedcpbcelmpaa
open Go.RowKit

def inB (c : Nat) (T : Nat → Int) : Prop := ∀ a b, a < c → b < c → -9 ≤ T (5 * a + b) ∧ T (5 * a + b) ≤ 9
theorem inB_st {c t a b : Nat} {T : Nat → Int} (h : inB c T) (ht : t < c) (ha : a < c) (hb : b < c) : inB c (stW T t a b) := by
  intro x y hx hy
  unfold stW
  by_cases e : a = b
  · rw [if_pos e]; exact h x y hx hy
  · rw [if_neg e]
    unfold upd
    by_cases e2 : 5 * x + y = 5 * a + b
    · rw [if_pos e2]
      have h1 := h a b ha hb
      have h2 := h a t ha ht
      have h3 := h t b ht hb
      omega
    · rw [if_neg e2]; exact h x y hx hy
theorem inB_B {c t a : Nat} {T : Nat → Int} (h : inB c T) (ht : t < c) (ha : a < c) : ∀ b, b ≤ c → inB c (wB t a T b) := by
  intro b
  induction b with
  | zero => intro _; exact h
  | succ b ih => intro hb; exact inB_st (ih (by omega)) ht ha (by omega)
theorem inB_A {c t : Nat} {T : Nat → Int} (h : inB c T) (ht : t < c) : ∀ a, a ≤ c → inB c (wA t c T a) := by
  intro a
  induction a with
  | zero => intro _; exact h
  | succ a ih => intro ha; exact inB_B (ih (by omega)) ht (by omega) c (Nat.le_refl _)
theorem inB_T {c : Nat} {T : Nat → Int} (h : inB c T) : ∀ t, t ≤ c → inB c (wT c T t) := by
  intro t
  induction t with
  | zero => intro _; exact h
  | succ t ih => intro ht; exact inB_A (ih (by omega)) (by omega) c (Nat.le_refl _)
theorem eqB_one (n : Nat) (f : Nat → Int) : eqB n n f f = true := by
  simp only [eqB, decide_true, Bool.true_and]
  exact allB_t (fun g _ => by simp [eqP])

section
variable {n N cA : Nat} {L : Nat → Nat} {v : Nat → Nat → Int} {A : Option Addr} {w : World}
theorem okB_db (hok : okBal n L v = true) (h4 : n ≤ 4) (hN : N = 2 * n) : okBal N (fun _ => L 0) (dbV n v) = true := by rw [hN]; exact okBal_db hok h4
theorem MarginsB (hok : okBal n L v = true) (h4 : n ≤ 4) (hN : N = 2 * n) (h : RowsK w A N (fun _ => L 0) (dbV n v)) (hA : N ≤ cA) :
    Calls Try.prog 38 #[.slice A N cA] w fun e w' => ∃ A' c', e = .returned (.tuple #[.slice A' (L 0) c', .int .i64 0]) ∧ Rows2 w' A' (L 0) (fun _ => L 0) (fun a b => 2 * mAll v (L 0) n (5 * a + b)) ∧ Below w.heap.size w w' := by
  refine (Margins_ok A N cA (fun _ => L 0) (dbV n v) w h (okB_db hok h4 hN) hA).mono ?_
  rintro e w' ⟨x, rfl, hx, hb⟩
  obtain ⟨A', c', rfl, hr, -⟩ := hx.rows
  exact ⟨A', c', rfl, hr.congrV (fun a b ha hb => by rw [hN]; exact mAll_db hok h4 ha hb), hb⟩
theorem WidthsB (hok : okBal n L v = true) (h4 : n ≤ 4) (hN : N = 2 * n) (h : RowsK w A N (fun _ => L 0) (dbV n v)) (hA : N ≤ cA) :
    Calls Try.prog 15 #[.slice A N cA] w fun e w' => ∃ A' c', e = .returned (.tuple #[.slice A' (L 0) c', .int .i64 0]) ∧ Rows2 w' A' (L 0) (fun _ => L 0) (fun a b => 2 * wT (L 0) (mAll v (L 0) n) (L 0) (5 * a + b)) ∧ Below w.heap.size w w' := by
  refine (Widths_ok A N cA (fun _ => L 0) (dbV n v) w h (okB_db hok h4 hN) hA).mono ?_
  rintro e w' ⟨x, rfl, hx, hb⟩
  obtain ⟨A', c', rfl, hr, -⟩ := hx.rows
  have hR : dbR (L 0) (mAll v (L 0) n) (mAll (dbV n v) (L 0) (2 * n)) := fun a b ha hb => mAll_db hok h4 ha hb
  exact ⟨A', c', rfl, hr.congrV (fun a b ha hb => by rw [hN]; exact dbR_T hR (L 0) (Nat.le_refl _) a b ha hb), hb⟩
theorem KemenyB (hok : okBal n L v = true) (h4 : n ≤ 4) (hN : N = 2 * n) (h : RowsK w A N (fun _ => L 0) (dbV n v)) (hA : N ≤ cA) :
    Calls Try.prog 26 #[.slice A N cA] w fun e w' => ∃ g cap, e = .returned (.tuple #[.slice (some ⟨g, 0, none⟩) (L 0) cap, .int .i64 (2 * disS n (mAll v (L 0) n) (rowF (kemL n (mAll v (L 0) n) (L 0))) (L 0)), .int .i64 0]) ∧
      w.heap.size ≤ g ∧ cap ≤ maxLen ∧ RowC w' g cap (L 0) (rowF (kemL n (mAll v (L 0) n) (L 0))) ∧ Below w.heap.size w w' := by
  have := Kemeny_ok A N cA (fun _ => L 0) (dbV n v) w h (okB_db hok h4 hN) hA
  rw [hN] at this ⊢
  simp only [kem_db hok h4] at this
  rw [dis_db hok h4 (ord_of_mem (kem_mem n (mAll v (L 0) n) (L 0))).2] at this
  exact this
theorem BestB {s0 : Nat} (hok : okBal n L v = true) (h4 : n ≤ 4) (hN : N = 2 * n) (h : RowsK w A N (fun _ => L 0) (dbV n v)) (hA : N ≤ cA) (hs : IsBst (mAll v (L 0) n) (L 0) s0) :
    Lr 39 #[.slice A N cA] w (.tuple #[.int .i64 s0, .int .i64 0]) := by
  refine Best_ok A N cA s0 (fun _ => L 0) (dbV n v) w h (okB_db hok h4 hN) hA ?_
  rw [hN]
  exact bst_db (fun a b ha hb => mAll_db hok h4 ha hb) hs
theorem AxisB (hok : okBal n L v = true) (h4 : n ≤ 4) (hN : N = 2 * n) (h : RowsK w A N (fun _ => L 0) (dbV n v)) (hA : N ≤ cA) :
    Calls Try.prog 30 #[.slice A N cA] w fun e w' => (∃ g x, axF n L v (List.range (L 0)) = some x ∧ e = .returned (.tuple #[.slice (some ⟨g, 0, none⟩) (L 0) (L 0), .int .i64 0]) ∧ w.heap.size ≤ g ∧ RowI w' g (L 0) (rowF x) ∧ Below w.heap.size w w') ∨
      (axF n L v (List.range (L 0)) = none ∧ e = .returned (.tuple #[.slice none 0 0, .int .i64 4]) ∧ Below w.heap.size w w') := by
  obtain ⟨-, -, hO⟩ := okBal_iff.1 hok
  have := Axis_ok A N cA (fun _ => L 0) (dbV n v) w h (okB_db hok h4 hN) hA
  rw [hN] at this ⊢
  simp only [axF_db (fun i hi => (hO i hi).1)] at this
  exact this
theorem WinB {r : Nat} (hr : r < 4) (hok : okBal n L v = true) (h4 : n ≤ 4) (hN : N = 2 * n) (h : RowsK w A N (fun _ => L 0) (dbV n v)) (hA : N ≤ cA) :
    Lr 34 #[.slice A N cA, .int .i64 (r : Int)] w (.tuple #[.int .i64 (winF r n (L 0) v), .int .i64 0]) := by
  have := Win_rule r hr A N cA (fun _ => L 0) (dbV n v) w h (okB_db hok h4 hN) hA
  rw [hN] at this ⊢
  simp only [win_db hok h4] at this
  exact this
end
end Go.Proofs.Ytbaedcpbcelmpaa
