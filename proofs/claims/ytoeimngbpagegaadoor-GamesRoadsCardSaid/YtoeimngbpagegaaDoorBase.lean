/- Words for slices of integers that are read: what the walks over this program share. -/
import Derived.Test.YtoeimngbpagegaaDoorProg
import Derived.WalkKit
import Derived.Handy
import Derived.BigQuiet
import Derived.Lib.Hide
import Derived.Deep.QuietTactic
import Derived.Deep.Draws
namespace Go.Proofs.YtoeimngbpagegaaDoor
open Go.RowKit

theorem ret_int {k : IntKind} {a b : Int} (h : a = b) : Ending.returned (.int k a) = .returned (.int k b) := by rw [h]
theorem ret_bool {a b : Bool} (h : a = b) : Ending.returned (.bool a) = .returned (.bool b) := by rw [h]
theorem val_int {k : IntKind} {a b : Int} (h : a = b) : Value.int k a = .int k b := by rw [h]

theorem bne_f {a b : Int} (h : a = b) : (a != b) = false := by simp [h]
theorem bne_t {a b : Int} (h : ¬ a = b) : (a != b) = true := by simpa using h
theorem beq_t {a b : Int} (h : a = b) : (a == b) = true := by simp [h]
theorem beq_f {a b : Int} (h : ¬ a = b) : (a == b) = false := by simpa using h

/-- The slice value '.slice A n c' holds the integers f 0 .. f (n-1). -/
def Ints (w : World) (A : Option Addr) (n : Nat) (f : Nat → Int) : Prop :=
  0 < n → ∃ b o, A = some ⟨b, o, none⟩ ∧ ∀ k, k < n → w.cell? ⟨b, o + k, none⟩ = some (.int .i64 (f k))

theorem Ints.at {w : World} {A : Option Addr} {n : Nat} {f : Nat → Int} (h : Ints w A n f) {k : Nat} (hk : k < n) :
    ∃ b o, A = some ⟨b, o, none⟩ ∧ w.cell? ⟨b, o + k, none⟩ = some (.int .i64 (f k)) := by
  obtain ⟨b, o, hA, hc⟩ := h (by omega)
  exact ⟨b, o, hA, hc k hk⟩
theorem Ints.cell {w : World} {b o n : Nat} {f : Nat → Int} (h : Ints w (some ⟨b, o, none⟩) n f) {k : Nat} (hk : k < n) : w.cell? ⟨b, o + k, none⟩ = some (.int .i64 (f k)) := by
  obtain ⟨b', o', hA, hc⟩ := h (by omega)
  injection hA with hA
  injection hA with h1 h2
  subst h1 h2
  exact hc k hk
theorem Ints.cell0 {w : World} {b o n : Nat} {f : Nat → Int} (h : Ints w (some ⟨b, o, none⟩) n f) (hk : 0 < n) : w.cell? ⟨b, o, none⟩ = some (.int .i64 (f 0)) := h.cell hk
theorem Ints.keep {w w' : World} {A : Option Addr} {n : Nat} {f : Nat → Int} (h : Ints w A n f) (hb : Below w.heap.size w w') : Ints w' A n f := fun hn => by
  obtain ⟨b, o, hA, hc⟩ := h hn
  exact ⟨b, o, hA, fun k hk => (hb.cell (World.block_lt_of_cell? _ _ (hc k hk))).trans (hc k hk)⟩
theorem Ints.congr {w : World} {A : Option Addr} {n : Nat} {f g : Nat → Int} (h : Ints w A n f) (he : ∀ k, k < n → f k = g k) : Ints w A n g := fun hn => by
  obtain ⟨b, o, hA, hc⟩ := h hn
  exact ⟨b, o, hA, fun k hk => by rw [← he k hk]; exact hc k hk⟩
theorem Ints.zero {w : World} {A : Option Addr} {f : Nat → Int} : Ints w A 0 f := fun h => absurd h (by omega)

/-- A slice of n slices of integers; slice i has L i of them. -/
def Rows2 (w : World) (A : Option Addr) (n : Nat) (L : Nat → Nat) (v : Nat → Nat → Int) : Prop :=
  0 < n → ∃ b o, A = some ⟨b, o, none⟩ ∧ ∀ i, i < n → ∃ A' c', w.cell? ⟨b, o + i, none⟩ = some (.slice A' (L i) c') ∧ Ints w A' (L i) (v i)

theorem Rows2.at {w : World} {A : Option Addr} {n : Nat} {L : Nat → Nat} {v : Nat → Nat → Int} (h : Rows2 w A n L v) {i : Nat} (hi : i < n) :
    ∃ b o A' c', A = some ⟨b, o, none⟩ ∧ w.cell? ⟨b, o + i, none⟩ = some (.slice A' (L i) c') ∧ Ints w A' (L i) (v i) := by
  obtain ⟨b, o, hA, hc⟩ := h (by omega)
  obtain ⟨A', c', h1, h2⟩ := hc i hi
  exact ⟨b, o, A', c', hA, h1, h2⟩
theorem Rows2.cell {w : World} {b o n : Nat} {L : Nat → Nat} {v : Nat → Nat → Int} (h : Rows2 w (some ⟨b, o, none⟩) n L v) {i : Nat} (hi : i < n) :
    ∃ A' c', w.cell? ⟨b, o + i, none⟩ = some (.slice A' (L i) c') ∧ Ints w A' (L i) (v i) := by
  obtain ⟨b', o', hA, hc⟩ := h (by omega)
  injection hA with hA
  injection hA with h1 h2
  subst h1 h2
  exact hc i hi
theorem Rows2.cell0 {w : World} {b o n : Nat} {L : Nat → Nat} {v : Nat → Nat → Int} (h : Rows2 w (some ⟨b, o, none⟩) n L v) (hi : 0 < n) :
    ∃ A' c', w.cell? ⟨b, o, none⟩ = some (.slice A' (L 0) c') ∧ Ints w A' (L 0) (v 0) := h.cell hi
theorem Rows2.keep {w w' : World} {A : Option Addr} {n : Nat} {L : Nat → Nat} {v : Nat → Nat → Int} (h : Rows2 w A n L v) (hb : Below w.heap.size w w') : Rows2 w' A n L v := fun hn => by
  obtain ⟨b, o, hA, hc⟩ := h hn
  refine ⟨b, o, hA, fun k hk => ?_⟩
  obtain ⟨A', c', h1, h2⟩ := hc k hk
  exact ⟨A', c', (hb.cell (World.block_lt_of_cell? _ _ h1)).trans h1, h2.keep hb⟩

/-- w' is w but for draws. -/
def Dn (w w' : World) : Prop := ∃ m, w' = w.drewN m
theorem Dn.refl (w : World) : Dn w w := ⟨0, rfl⟩
theorem Dn.drewN {a w : World} (h : Dn a w) (m : Nat) : Dn a (w.drewN m) := by
  obtain ⟨k, rfl⟩ := h
  exact ⟨k + m, by rw [World.drewN_drewN]⟩
theorem Dn.trans {a b c : World} (h : Dn a b) (k : Dn b c) : Dn a c := by
  obtain ⟨m, rfl⟩ := k
  exact h.drewN m
theorem Dn.drew {a w : World} (h : Dn a w) : Dn a w.drew := h.drewN 1
theorem Dn.below {w w' : World} (h : Dn w w') (B : Nat) : Below B w w' := by
  obtain ⟨m, rfl⟩ := h
  exact ⟨rfl, rfl, rfl, Nat.le_refl _, fun _ _ => rfl⟩
theorem Ints.dn {w w' : World} {A : Option Addr} {n : Nat} {f : Nat → Int} (h : Ints w A n f) (hd : Dn w w') : Ints w' A n f := by
  obtain ⟨m, rfl⟩ := hd
  exact h
theorem Rows2.dn {w w' : World} {A : Option Addr} {n : Nat} {L : Nat → Nat} {v : Nat → Nat → Int} (h : Rows2 w A n L v) (hd : Dn w w') : Rows2 w' A n L v := by
  obtain ⟨m, rfl⟩ := hd
  exact h

/-- A matrix: n rows of m integers each. -/
def Mat (w : World) (A : Option Addr) (n m : Nat) (v : Nat → Nat → Int) : Prop := Rows2 w A n (fun _ => m) v
section
variable {w w' : World} {A : Option Addr} {n m : Nat} {v : Nat → Nat → Int}
theorem Mat.at (h : Mat w A n m v) {i : Nat} (hi : i < n) : ∃ b o A' c', A = some ⟨b, o, none⟩ ∧ w.cell? ⟨b, o + i, none⟩ = some (.slice A' m c') ∧ Ints w A' m (v i) := Rows2.at h hi
theorem Mat.cell {b o : Nat} (h : Mat w (some ⟨b, o, none⟩) n m v) {i : Nat} (hi : i < n) : ∃ A' c', w.cell? ⟨b, o + i, none⟩ = some (.slice A' m c') ∧ Ints w A' m (v i) := Rows2.cell h hi
theorem Mat.cell0 {b o : Nat} (h : Mat w (some ⟨b, o, none⟩) n m v) (hi : 0 < n) : ∃ A' c', w.cell? ⟨b, o, none⟩ = some (.slice A' m c') ∧ Ints w A' m (v 0) := Rows2.cell0 h hi
theorem Mat.keep (h : Mat w A n m v) (hb : Below w.heap.size w w') : Mat w' A n m v := Rows2.keep h hb
theorem Mat.dn (h : Mat w A n m v) (hb : Dn w w') : Mat w' A n m v := Rows2.dn h hb
theorem Mat.of {L : Nat → Nat} (h : Rows2 w A n L v) (hL : ∀ i, i < n → L i = m) : Mat w A n m v := fun hn => by
  obtain ⟨b, o, hA, hc⟩ := h hn
  refine ⟨b, o, hA, fun k hk => ?_⟩
  have := hc k hk
  rw [hL k hk] at this
  exact this
end

/-- All of f 0 .. f (n-1) lie from 0 to m. -/
def Bd (n : Nat) (f : Nat → Int) (m : Int) : Prop := ∀ k, k < n → 0 ≤ f k ∧ f k ≤ m
def BdM (n m : Nat) (v : Nat → Nat → Int) (u : Int) : Prop := ∀ i, i < n → Bd m (v i) u

/-- 'Read only': it returns v; it may draw. -/
def Ro (f : FuncId) (args : Array Value) (w : World) (v : Value) : Prop :=
  Calls Tryd.prog f args w fun e w' => e = .returned v ∧ ∃ m, w' = w.drewN m

theorem Ro.same {f : FuncId} {args : Array Value} {w : World} {v : Value} (h : Calls Tryd.prog f args w fun e w' => e = .returned v ∧ w = w') : Ro f args w v :=
  h.mono fun _ _ ⟨he, hw⟩ => ⟨he, 0, hw.symm⟩
theorem Ro.quiet {f : FuncId} {args : Array Value} {w : World} {n : Nat} {v : Value} (h : Ro f args (w.drewN n) v) : Calls Tryd.prog f args (w.drewN n) fun e w'' => e = .returned v ∧ ∃ m, w'' = w.drewN m :=
  Calls.quiet_of h
theorem Ro.use {f : FuncId} {args : Array Value} {w : World} {v : Value} {R : Ending → World → Prop} (h : Ro f args w v) (hR : ∀ w', Dn w w' → R (.returned v) w') : Calls Tryd.prog f args w R :=
  h.mono fun _ _ ⟨he, hw⟩ => by subst he; exact hR _ hw
theorem Ro.of {f : FuncId} {args : Array Value} {w : World} {v : Value} (h : Calls Tryd.prog f args w fun e w' => e = .returned v ∧ Dn w w') : Ro f args w v := h

end Go.Proofs.YtoeimngbpagegaaDoor
