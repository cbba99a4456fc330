/- Overload's results; a box of two integers. -/
import Derived.Test.YtbgekacfimgkeaaQr
import Derived.Test.YtbgekacfimgkeaaQo
namespace Go.Proofs.Ytbgekacfimgkeaa
open Go.RowKit

def OvP (n : Nat) (J : Nat → Nat → Int) (x y f : Int) : Prop := (x = 0 ∧ y = 0 ∧ f = 4 ∧ NoOv n J 101 200) ∨ ∃ a b : Nat, x = a ∧ y = b ∧ f = 0 ∧ IsOv n J 200 a b
def OvQ (n : Nat) (J : Nat → Nat → Int) (x y f : Int) : Prop := (x = 0 ∧ y = 0 ∧ f = 4 ∧ ((∀ k, k < n → eS (plS 0 n J) k ≤ J k 2) ∨ NoOv n J 401 400)) ∨ ∃ a b : Nat, x = a ∧ y = b ∧ f = 0 ∧ IsOv n J 400 a b
theorem ov_agree {n : Nat} {J : Nat → Nat → Int} (h : okJ n J = true) {x y f x' y' f' : Int} (h1 : OvP n J x y f) (h2 : OvQ n J x' y' f') : x = x' ∧ y = y' ∧ f = f' := by
  rcases h1 with ⟨rfl, rfl, rfl, hn⟩ | ⟨a, b, rfl, rfl, rfl, hi⟩
  · rcases h2 with ⟨rfl, rfl, rfl, -⟩ | ⟨a', b', rfl, rfl, rfl, hi'⟩
    · exact ⟨rfl, rfl, rfl⟩
    · exact absurd hi'.2.2.1 (noOv_all h hn hi'.1)
  · rcases h2 with ⟨rfl, rfl, rfl, hc⟩ | ⟨a', b', rfl, rfl, rfl, hi'⟩
    · exfalso
      rcases hc with hc | hc
      · have h3 := no_over h hc (a : Int) (b : Int) (by have := hi.1; omega)
        have h4 : (b : Int) - a < ldF J a b n := hi.2.2.1
        omega
      · have h5 := ov_small h hi.1 hi.2.2.1
        exact hc a (by omega) b hi.1 (by have := hi.2.1; omega) hi.2.2.1
    · obtain ⟨rfl, rfl⟩ := isOv_same h hi hi'
      exact ⟨rfl, rfl, rfl⟩
theorem overload_okP (A : Option Addr) (n c : Nat) (J : Nat → Nat → Int) (w : World) (h : Recs 4 w A n J) (hok : okJ n J = true) :
    Calls Try.prog 34 #[.slice A n c] w fun e w' => ∃ x y f, e = .returned (.tuple #[.agg #[.int .i64 x, .int .i64 y], .int .i64 f]) ∧ OvP n J x y f ∧ Below w.heap.size w w' :=
  (overload_ok A n c J w h hok).mono (by
    rintro e w' ⟨h1 | ⟨a, b, h1, h2⟩, hb⟩
    · exact ⟨0, 0, 4, h1.1, .inl ⟨rfl, rfl, rfl, h1.2⟩, hb⟩
    · exact ⟨a, b, 0, h1, .inr ⟨a, b, rfl, rfl, rfl, h2⟩, hb⟩)
theorem refOverloadQ (A : Option Addr) (n c : Nat) (J : Nat → Nat → Int) (w : World) (h : Recs 4 w A n J) (hok : okJ n J = true) :
    Calls Try.prog 36 #[.slice A n c] w fun e w' => ∃ x y f, e = .returned (.tuple #[.agg #[.int .i64 x, .int .i64 y], .int .i64 f]) ∧ OvQ n J x y f ∧ Below w.heap.size w w' :=
  (refOverload_any A n c J w h hok).mono (by
    rintro e w' ⟨h1 | ⟨a, b, h1, h2⟩, hb⟩
    · exact ⟨0, 0, 4, h1.1, .inl ⟨rfl, rfl, rfl, h1.2⟩, hb⟩
    · exact ⟨a, b, 0, h1, .inr ⟨a, b, rfl, rfl, rfl, h2⟩, hb⟩)

theorem eql2_same (a b : Int) (w : World) : (binOp .eql 52 (.agg #[.int .i64 a, .int .i64 b]) (.agg #[.int .i64 a, .int .i64 b])).run Try.prog w = .ok (.bool true) w := by
  have he : (Op.equalIn 10000 52 (.agg #[.int .i64 a, .int .i64 b]) (.agg #[.int .i64 a, .int .i64 b])).run Try.prog w = .ok true w := by
    have u3 := Try.underlying3
    rw [show (10000 : Nat) = 9999 + 1 from rfl, Op.equalIn]
    simp only [Sem.run_bind, run_underlying Try.underlying52, Result.andThen_ok]
    simp only [Std.Legacy.Range.forIn_eq_forIn_range', Std.Legacy.Range.size, Nat.sub_zero, Nat.add_sub_cancel, Nat.div_one, List.range'_succ, List.range'_zero, List.forIn_cons, List.forIn_nil]
    go_simp
  simp [go_sem, he]
/-- A box of two integers. -/
def B2 (w : World) (g : Nat) (x y : Int) : Prop := w.heap[g]? = some (.cells #[.int .i64 x, .int .i64 y] 52 (0, 0))
theorem B2.cell0 {w : World} {g : Nat} {x y : Int} (h : B2 w g x y) : w.cell? ⟨g, 0, none⟩ = some (.int .i64 x) := by
  have h : w.heap[g]? = _ := h
  simp [World.cell?, h]
theorem B2.cell1 {w : World} {g : Nat} {x y : Int} (h : B2 w g x y) : w.cell? ⟨g, 1, none⟩ = some (.int .i64 y) := by
  have h : w.heap[g]? = _ := h
  simp [World.cell?, h]
theorem B2.keep {w w' : World} {g : Nat} {x y : Int} (h : B2 w g x y) (hb : Below w.heap.size w w') : B2 w' g x y := (hb.block g (Array.getElem?_eq_some_iff.1 h).1).trans h
theorem B2.made (w : World) (x y : Int) : B2 (w.alloc (.cells #[.int .i64 x, .int .i64 y] 52)) w.heap.size x y := heap_alloc_new w _

end Go.Proofs.Ytbgekacfimgkeaa
