import Derived.Test.YtkgikehagkpmoaaShr
import Derived.Test.YtkgikehagkpmoaaGr1
import Derived.Test.YtkgikehagkpmoaaT6
namespace Go.Proofs.Ytkgikehagkpmoaa
open Go.RowKit

def wOf (f D : Nat → Int) (k : Nat) : Nat → Int := fun p => wTo f D p k

theorem wTo_congr {f D D' : Nat → Int} {j : Int} (k : Nat) (h : ∀ i, i < k → D i = D' i) : wTo f D j k = wTo f D' j k := by
  induction k with
  | zero => rfl
  | succ k ih => simp only [wTo]; rw [ih (fun i hi => h i (by omega)), h k (by omega)]
theorem wOf_put {f D D' : Nat → Int} {g p : Nat} (h : ∀ i, i < g → D' i = D i) (hp : D' g = p) (q : Nat) : wOf f D' (g + 1) q = addAt (wOf f D g) p (f g) q := by
  simp only [wOf, wTo, addAt, hp, wTo_congr g h]
  by_cases e : q = p
  · rw [if_pos (by rw [e]), if_pos e]
  · rw [if_neg (by omega), if_neg e]
theorem wOf_take {f D : Nat → Int} {g p : Nat} (hp : D g = p) (q : Nat) : upd (wOf f D (g + 1)) p (wOf f D (g + 1) p - f g) q = wOf f D g q := by
  simp only [upd, wOf, wTo, hp]
  by_cases e : q = p
  · subst e
    simp only [if_true]
    omega
  · rw [if_neg e, if_neg (by omega)]

/-- What the best division so far is, if the greatest least worth so far is sh. -/
def BestD (w : World) (base m n : Nat) (f : Nat → Int) (sh : Int) (vb : Value) : Prop :=
  (sh = -1 ∧ vb = .slice none 0 0) ∨ (0 ≤ sh ∧ ∃ D', OwnL w base vb (lst m D') ∧ Own (n + 1) m D' ∧ lowT (wOf f D' m) n = sh)

/-- Where the four blocks lie. -/
def Lay (N gd gs bd bs : Nat) : Prop := N + 4 ≤ gd ∧ gd < N + 8 ∧ N + 4 ≤ gs ∧ gs < N + 8 ∧ N + 4 ≤ bd ∧ bd < N + 8 ∧ N + 4 ≤ bs ∧ bs < N + 8 ∧ gd ≠ gs ∧ gd ≠ bd ∧ gd ≠ bs ∧ gs ≠ bd ∧ gs ≠ bs ∧ bd ≠ bs
def dvCaps (N bd bs : Nat) : Array Value := #[.pointer (some ⟨N, 0, none⟩), .pointer (some ⟨bs, 0, none⟩), .pointer (some ⟨N + 2, 0, none⟩), .pointer (some ⟨bd, 0, none⟩), .pointer (some ⟨N + 3, 0, none⟩), .pointer (some ⟨N + 1, 0, none⟩), .pointer (some ⟨N + 8, 0, none⟩)]

/-- The state of 'divide' when the first k goods are placed as D says; N: the heap's size at its call. -/
def DvI (w0 : World) (gd gs bd bs : Nat) (A : Option Addr) (c m n : Nat) (f : Nat → Int) (sh : Int) (k : Nat) (D : Nat → Int) (w : World) : Prop :=
  Below w0.heap.size w0 w ∧ Box w w0.heap.size 23 (.slice A m c) ∧ Box w (w0.heap.size + 1) 3 (.int .i64 ((n + 1 : Nat) : Int)) ∧ Box w (w0.heap.size + 2) 3 (.int .i64 sh) ∧
    RowI w (gd) m D ∧ RowI w (gs) (n + 1) (wOf f D k) ∧ Box w (bd) 23 (.slice (some ⟨gd, 0, none⟩) m m) ∧
    Box w (bs) 23 (.slice (some ⟨gs, 0, none⟩) (n + 1) (n + 1)) ∧
    Box w (w0.heap.size + 8) 71 (.func (.func 68) #[] (dvCaps w0.heap.size bd bs)) ∧
    ∃ vb, Box w (w0.heap.size + 3) 23 vb ∧ BestD w (w0.heap.size + 9) m n f sh vb

theorem BestD.keep {w w' : World} {base m n : Nat} {f : Nat → Int} {sh : Int} {vb : Value} (h : BestD w base m n f sh vb) (hk : ∀ x xs, OwnL w base x xs → OwnL w' base x xs) : BestD w' base m n f sh vb := by
  rcases h with h | ⟨h0, D', h1, h2⟩
  · exact .inl h
  · exact .inr ⟨h0, D', hk _ _ h1, h2⟩
/-- What stays where only a block below the owned ones is written. -/
theorem own_at {w : World} {base b : Nat} {x u : Value} {i : Nat} {xs : List Int} (h : OwnL w base x xs) (hb : b < base) : OwnL (w.setCell ⟨b, i, none⟩ u) base x xs :=
  OwnL.exc h ((Exc.refl b w).set i u) hb

theorem DvI.keep {w0 w w' : World} {gd gs bd bs : Nat} {A : Option Addr} {c m n k : Nat} {f : Nat → Int} {sh : Int} {D : Nat → Int} (h : DvI w0 gd gs bd bs A c m n f sh k D w) (hb : Below w.heap.size w w') : DvI w0 gd gs bd bs A c m n f sh k D w' := by
  obtain ⟨h1, h2, h3, h4, h5, h6, h7, h8, h9, vb, h10, h11⟩ := h
  exact ⟨h1.trans (hb.mono h1.size), h2.keep hb, h3.keep hb, h4.keep hb, h5.keep hb, h6.keep hb, h7.keep hb, h8.keep hb, h9.keep hb, vb, h10.keep hb, h11.keep (fun x xs hx => hx.below hb)⟩

/-- A good is put into part p. -/
theorem DvI.put {w0 w : World} {gd gs bd bs : Nat} (hL : Lay w0.heap.size gd gs bd bs) {A : Option Addr} {c m n g p : Nat} {f : Nat → Int} {sh : Int} {D : Nat → Int} (h : DvI w0 gd gs bd bs A c m n f sh g D w) :
    DvI w0 gd gs bd bs A c m n f sh (g + 1) (upd D g p) ((w.setCell ⟨gd, g, none⟩ (.int .i64 p)).setCell ⟨gs, p, none⟩ (.int .i64 (wOf f D g p + f g))) := by
  obtain ⟨l1, l2, l3, l4, l5, l6, l7, l8, l9, l10, l11, l12, l13, l14⟩ := hL
  obtain ⟨h1, h2, h3, h4, h5, h6, h7, h8, h9, vb, h10, h11⟩ := h
  have oth : ∀ b t x, b ≠ gd → b ≠ gs → Box w b t x → Box ((w.setCell ⟨gd, g, none⟩ (.int .i64 p)).setCell ⟨gs, p, none⟩ (.int .i64 (wOf f D g p + f g))) b t x :=
    fun b t x e1 e2 hx => (hx.other e1 _).other e2 _
  refine ⟨(h1.setCell (by show w0.heap.size ≤ gd; omega) _).setCell (by show w0.heap.size ≤ gs; omega) _, oth _ _ _ (by omega) (by omega) h2, oth _ _ _ (by omega) (by omega) h3, oth _ _ _ (by omega) (by omega) h4, ?_, ?_, oth _ _ _ (by omega) (by omega) h7, oth _ _ _ (by omega) (by omega) h8, oth _ _ _ (by omega) (by omega) h9, vb, oth _ _ _ (by omega) (by omega) h10, h11.keep (fun x xs hx => own_at (own_at hx (by omega)) (by omega))⟩
  · exact (h5.set g p).setOther (by show gd ≠ gs; omega) _
  · refine ((h6.setOther (by show gs ≠ gd; omega) _).set p _).congr fun q hq => ?_
    rw [wOf_put (D := D) (p := p) (fun i hi => upd_ne D p (by omega)) (upd_at D g p)]
    simp only [upd, addAt]
    by_cases e : q = p
    · rw [if_pos e, if_pos e, e]
    · rw [if_neg e, if_neg e]
/-- A good is taken out of part p again. -/
theorem DvI.take {w0 w : World} {gd gs bd bs : Nat} (hL : Lay w0.heap.size gd gs bd bs) {A : Option Addr} {c m n g p : Nat} {f : Nat → Int} {sh : Int} {D : Nat → Int} (h : DvI w0 gd gs bd bs A c m n f sh (g + 1) D w) (hp : D g = p) :
    DvI w0 gd gs bd bs A c m n f sh g D (w.setCell ⟨gs, p, none⟩ (.int .i64 (wOf f D (g + 1) p - f g))) := by
  obtain ⟨l1, l2, l3, l4, l5, l6, l7, l8, l9, l10, l11, l12, l13, l14⟩ := hL
  obtain ⟨h1, h2, h3, h4, h5, h6, h7, h8, h9, vb, h10, h11⟩ := h
  refine ⟨h1.setCell (by show w0.heap.size ≤ gs; omega) _, h2.other (by show w0.heap.size ≠ gs; omega) _, h3.other (by show w0.heap.size + 1 ≠ gs; omega) _, h4.other (by show w0.heap.size + 2 ≠ gs; omega) _, h5.setOther (by show gd ≠ gs; omega) _, ?_, h7.other (by show bd ≠ gs; omega) _, h8.other (by show bs ≠ gs; omega) _, h9.other (by show w0.heap.size + 8 ≠ gs; omega) _, vb, h10.other (by show w0.heap.size + 3 ≠ gs; omega) _, h11.keep (fun x xs hx => own_at hx (by omega))⟩
  exact (h6.set p _).congr fun q _ => wOf_take hp q
/-- A better division is kept. -/
theorem DvI.best {w0 w w' : World} {gd gs bd bs : Nat} (hL : Lay w0.heap.size gd gs bd bs) {A : Option Addr} {c m n : Nat} {f : Nat → Int} {sh : Int} {D : Nat → Int} {x : Value} (h : DvI w0 gd gs bd bs A c m n f sh m D w) (hb : Below w.heap.size w w') (hx : OwnL w' w.heap.size x (lst m D)) (hD : Own (n + 1) m D) (h0 : 0 ≤ lowT (wOf f D m) n) :
    DvI w0 gd gs bd bs A c m n f (lowT (wOf f D m) n) m D ((w'.setCell ⟨w0.heap.size + 2, 0, none⟩ (.int .i64 (lowT (wOf f D m) n))).setCell ⟨w0.heap.size + 3, 0, none⟩ x) := by
  obtain ⟨l1, l2, l3, l4, l5, l6, l7, l8, l9, l10, l11, l12, l13, l14⟩ := hL
  have hs : w0.heap.size + 9 ≤ w.heap.size := by have := h.2.2.2.2.2.2.2.2.1.lt; omega
  obtain ⟨h1, h2, h3, h4, h5, h6, h7, h8, h9, vb, h10, h11⟩ := h.keep hb
  have oth : ∀ b t y, b ≠ w0.heap.size + 2 → b ≠ w0.heap.size + 3 → Box w' b t y → Box ((w'.setCell ⟨w0.heap.size + 2, 0, none⟩ (.int .i64 (lowT (wOf f D m) n))).setCell ⟨w0.heap.size + 3, 0, none⟩ x) b t y :=
    fun b t y e1 e2 hx => (hx.other e1 _).other e2 _
  refine ⟨(h1.setCell (by show w0.heap.size ≤ w0.heap.size + 2; omega) _).setCell (by show w0.heap.size ≤ w0.heap.size + 3; omega) _, oth _ _ _ (by omega) (by omega) h2, oth _ _ _ (by omega) (by omega) h3, (h4.set _).other (by show w0.heap.size + 2 ≠ w0.heap.size + 3; omega) _, (h5.setOther (by show gd ≠ w0.heap.size + 2; omega) _).setOther (by show gd ≠ w0.heap.size + 3; omega) _, (h6.setOther (by show gs ≠ w0.heap.size + 2; omega) _).setOther (by show gs ≠ w0.heap.size + 3; omega) _, oth _ _ _ (by omega) (by omega) h7, oth _ _ _ (by omega) (by omega) h8, oth _ _ _ (by omega) (by omega) h9, x, (h10.other (by show w0.heap.size + 3 ≠ w0.heap.size + 2; omega) _).set x, .inr ⟨h0, D, own_at (own_at (hx.rebase hs) (by omega)) (by omega), hD, rfl⟩⟩
end Go.Proofs.Ytkgikehagkpmoaa
