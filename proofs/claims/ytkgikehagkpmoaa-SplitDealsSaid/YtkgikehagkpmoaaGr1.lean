import Derived.Test.YtkgikehagkpmoaaEach
import Derived.Test.YtkgikehagkpmoaaT7
import Derived.Deep.RegionWith
namespace Go.Proofs.Ytkgikehagkpmoaa
open Go.RowKit

/-- Block b is a box of one value. -/
def Box (w : World) (b : Nat) (t : TypeId) (x : Value) : Prop := w.rowIs b t 1 (fun _ => x)
section
variable {w w' : World} {b : Nat} {t : TypeId} {x : Value}
theorem Box.cell (h : Box w b t x) : w.cell? ⟨b, 0, none⟩ = some x := World.rowIs.cell h (by omega)
theorem Box.frozen (h : Box w b t x) : w.frozen? ⟨b, 0, none⟩ = false := World.rowIs.frozen h 0
theorem Box.lt (h : Box w b t x) : b < w.heap.size := World.rowIs.lt h
theorem Box.new (w : World) (t : TypeId) (x : Value) : Box (w.alloc (.cells #[x] t)) w.heap.size t x := World.rowIs_alloc w #[x] t _ (fun i hi => by
  have : i = 0 := by simp at hi; omega
  subst this
  rfl)
theorem Box.alloc (h : Box w b t x) (o : Obj) : Box (w.alloc o) b t x := World.rowIs.alloc h o
theorem Box.drew (h : Box w b t x) : Box w.drew b t x := h
theorem Box.keep (h : Box w b t x) (hb : Below w.heap.size w w') : Box w' b t x := World.rowIs.of_block h (hb.block b h.lt)
theorem Box.set (h : Box w b t x) (y : Value) : Box (w.setCell ⟨b, 0, none⟩ y) b t y := World.rowIs.congr (World.rowIs.set h 0 y) (fun i hi => by
  have : i = 0 := by omega
  simp [this])
theorem Box.other (h : Box w b t x) {a : Addr} (ha : b ≠ a.block) (y : Value) : Box (w.setCell a y) b t x := World.rowIs.setOther h ha y
theorem Box.exc {G : Nat} (h : Box w b t x) (he : Exc G w w') (hne : b ≠ G) : Box w' b t x := World.rowIs.of_block h (he.block b h.lt (fun e => hne (by injection e)))
end
theorem rowIs_block {w : World} {b : Nat} {t : TypeId} {n : Nat} {f : Nat → Value} (h : w.rowIs b t n f) : ∃ cs, w.heap[b]? = some (.cells cs t (0, 0)) ∧ cs.size = n ∧ ∀ i, i < n → cs[i]? = some (f i) := by
  obtain ⟨cs, h1, h2, h3⟩ := h
  exact ⟨cs, h1, h2, h3⟩
/-- A slice of integers does not lie in a box of another type. -/
theorem own_ne_box {w : World} {base b : Nat} {v x : Value} {xs : List Int} {t : TypeId} (h : OwnL w base v xs) (hb : Box w b t x) (hne : t ≠ 3) : v.ownBlock = none ∨ v.ownBlock ≠ some b := by
  rcases h.2 with ⟨rfl, _⟩ | ⟨g, cap, cur, rfl, _, hh, _⟩
  · exact .inl rfl
  · refine .inr ?_
    simp only [Value.ownBlock, ne_eq, Option.some.injEq]
    rintro rfl
    obtain ⟨cs, h1, _⟩ := rowIs_block hb
    rw [hh] at h1
    injection h1 with h1
    injection h1 with _ ht
    exact hne ht.symm
theorem OwnL.setBox {w : World} {base b : Nat} {v x : Value} {xs : List Int} {t : TypeId} (h : OwnL w base v xs) (hb : Box w b t x) (hne : t ≠ 3) (y : Value) : OwnL (w.setCell ⟨b, 0, none⟩ y) base v xs :=
  World.ownsRow.kept (row := some b) h ⟨rfl, rfl, rfl, by simp, fun k _ hk => Below.heap_setCell w _ y k (fun e => hk (by rw [e]))⟩ (own_ne_box h hb hne)
theorem OwnL.exc {G : Nat} {w w' : World} {base : Nat} {v : Value} {xs : List Int} (h : OwnL w base v xs) (he : Exc G w w') (hG : G < base) : OwnL w' base v xs := by
  refine World.ownsRow.kept (row := some G) h he ?_
  rcases h.2 with ⟨rfl, _⟩ | ⟨g, cap, cur, rfl, hg, _⟩
  · exact .inl rfl
  · exact .inr (by simp only [Value.ownBlock, ne_eq, Option.some.injEq]; omega)
theorem OwnL.of_row {w : World} {g n base : Nat} {f : Nat → Int} (h : RowI w g n f) (hb : base ≤ g) (hn : n ≤ 10000) : OwnL w base (.slice (some ⟨g, 0, none⟩) n n) (lst n f) := by
  obtain ⟨cs, h1, h2, h3⟩ := rowIs_block h
  unfold OwnL
  rw [lst_len]
  refine ⟨by simp [lst_len], .inr ⟨g, n, cs, rfl, hb, h1, Nat.le_refl _, by unfold maxLen; omega, by omega, ?_⟩⟩
  apply List.ext_getElem?
  intro j
  rcases Nat.lt_or_ge j n with hj | hj
  · have h4 := h3 j hj
    simp only [Nat.mul_one]
    rw [List.getElem?_take_of_lt hj, Array.getElem?_toList, h4, List.getElem?_map, lst_get _ _ _ hj]
    rfl
  · rw [List.getElem?_eq_none (by simp; omega), List.getElem?_eq_none (by simp [lst_len]; omega)]

theorem OwnL.sl {w : World} {base : Nat} {v : Value} {n : Nat} {f : Nat → Int} (h : OwnL w base v (lst n f)) (hn : 0 < n) : ∃ a c, v = .slice (some a) n c ∧ Ints w (some a) n f := by
  obtain ⟨A, c, e, hA, hI, -⟩ := h.form
  rw [lst_len] at e hI
  rcases A with _ | a
  · exact absurd hI.none_ (by omega)
  · exact ⟨a, c, e, hI.congr fun k hk => lst_getD _ _ _ hk⟩

theorem OwnL.sl0 {w : World} {base : Nat} {v : Value} {n : Nat} {f : Nat → Int} (h : OwnL w base v (lst n f)) : ∃ A c, v = .slice A n c ∧ Ints w A n f := by
  obtain ⟨A, c, e, hA, hI, -⟩ := h.form
  rw [lst_len] at e hI
  exact ⟨A, c, e, hI.congr fun k hk => lst_getD _ _ _ hk⟩

/-- What a score is asked for. -/
def ScoreOk (k : FuncId) (n len : Nat) (sc : (Nat → Int) → Nat → Int) : Prop :=
  ∀ (A : Option Addr) (c : Nat) (f : Nat → Int) (w : World), Ints w A n f → Bd n f 1000 → Calls Try.prog k #[.slice A n c] w fun e w' => ∃ v', e = .returned v' ∧ OwnL w' w.heap.size v' (lst len (sc f)) ∧ Below w.heap.size w w'

/-- The first best of the first i, by the scores s. -/
def bst (s : Nat → Nat → Int) (len : Nat) : Nat → Nat
  | 0 => 0
  | i + 1 => if i = 0 ∨ 0 < cmpF (s i) (s (bst s len i)) len then i else bst s len i

def wrt (v : Nat → Nat → Int) (m : Nat) (d : Nat → Int) : Nat → Int := fun p => wTo (v p) d p m
def sco (sc : (Nat → Int) → Nat → Int) (v : Nat → Nat → Int) (n m i : Nat) : Nat → Int := sc (wrt v m (dg n m i))

/-- What the two captured variables hold when i divisions have been seen. -/
def BestSt (w : World) (base n m len : Nat) (s : Nat → Nat → Int) (i : Nat) (vb vt : Value) : Prop :=
  (i = 0 ∧ vb = .slice none 0 0 ∧ vt = .slice none 0 0) ∨ (0 < i ∧ OwnL w base vb (lst m (dg n m (bst s len i))) ∧ OwnL w base vt (lst len (s (bst s len i))))

/-- The state of 'greatest' at visit i: N the heap's size at its call. -/
def GrI (w0 : World) (ks : FuncId) (A : Option Addr) (c n m len : Nat) (s : Nat → Nat → Int) (i : Nat) (w : World) : Prop :=
  Below w0.heap.size w0 w ∧ Box w w0.heap.size 22 (.slice A n c) ∧ Box w (w0.heap.size + 1) 34 (.func (.func ks) #[] #[]) ∧
    ∃ vb vt, Box w (w0.heap.size + 2) 23 vb ∧ Box w (w0.heap.size + 3) 23 vt ∧ BestSt w (w0.heap.size + 5) n m len s i vb vt

theorem GrI.exc {w0 : World} {ks : FuncId} {A : Option Addr} {c n m len : Nat} {s : Nat → Nat → Int} {i : Nat} {w w' : World} (h : GrI w0 ks A c n m len s i w) (he : Exc (w0.heap.size + 4) w w') : GrI w0 ks A c n m len s i w' := by
  obtain ⟨hb, h1, h2, vb, vt, h3, h4, h5⟩ := h
  refine ⟨hb.trans (he.below (by omega) hb.size), h1.exc he (by omega), h2.exc he (by omega), vb, vt, h3.exc he (by omega), h4.exc he (by omega), ?_⟩
  rcases h5 with h5 | ⟨h6, h7, h8⟩
  · exact .inl h5
  · exact .inr ⟨h6, h7.exc he (by omega), h8.exc he (by omega)⟩

theorem GrI.store {w0 w1 w3 w4 : World} {ks : FuncId} {A : Option Addr} {c n m len i b2 : Nat} {s : Nat → Nat → Int} {x2 x3 vd vs : Value} (hbel : Below w0.heap.size w0 w1) (KB : Below w1.heap.size w1 w3) (hb4 : Below w3.heap.size w3 w4)
    (K0 : Box w3 w0.heap.size 22 (.slice A n c)) (K1 : Box w3 (w0.heap.size + 1) 34 (.func (.func ks) #[] #[])) (K2 : Box w3 (w0.heap.size + 2) 23 x2) (K3 : Box w3 (w0.heap.size + 3) 23 x3) (KR : RowI w3 (w0.heap.size + 4) m (dg n m i))
    (hvs : OwnL w3 b2 vs (lst len (s i))) (hb2 : w0.heap.size + 5 ≤ b2) (hvd : OwnL w4 w3.heap.size vd (lst m (dg n m i))) (hbst : bst s len (i + 1) = i) :
    RowI ((w4.setCell ⟨w0.heap.size + 2, 0, none⟩ vd).setCell ⟨w0.heap.size + 3, 0, none⟩ vs) (w0.heap.size + 4) m (dg n m i) ∧ GrI w0 ks A c n m len s (i + 1) ((w4.setCell ⟨w0.heap.size + 2, 0, none⟩ vd).setCell ⟨w0.heap.size + 3, 0, none⟩ vs) := by
  have J0 := K0.keep hb4
  have J1 := K1.keep hb4
  have J2 := K2.keep hb4
  have J3 := K3.keep hb4
  have JR := KR.keep hb4
  have hlt := KR.lt
  have J3' : Box (w4.setCell ⟨w0.heap.size + 2, 0, none⟩ vd) (w0.heap.size + 3) 23 x3 := J3.other (by show w0.heap.size + 3 ≠ w0.heap.size + 2; omega) _
  refine ⟨(JR.setOther (by show w0.heap.size + 4 ≠ w0.heap.size + 2; omega) _).setOther (by show w0.heap.size + 4 ≠ w0.heap.size + 3; omega) _, ?_, ?_, ?_, vd, vs, ?_, ?_, .inr ⟨by omega, ?_, ?_⟩⟩
  · exact (((hbel.trans (KB.mono hbel.size)).trans (hb4.mono (Nat.le_trans hbel.size KB.size))).setCell (by show w0.heap.size ≤ w0.heap.size + 2; omega) _).setCell (by show w0.heap.size ≤ w0.heap.size + 3; omega) _
  · exact (J0.other (by show w0.heap.size ≠ w0.heap.size + 2; omega) _).other (by show w0.heap.size ≠ w0.heap.size + 3; omega) _
  · exact (J1.other (by show w0.heap.size + 1 ≠ w0.heap.size + 2; omega) _).other (by show w0.heap.size + 1 ≠ w0.heap.size + 3; omega) _
  · exact (J2.set vd).other (by show w0.heap.size + 2 ≠ w0.heap.size + 3; omega) _
  · exact J3'.set vs
  · rw [hbst]
    exact ((hvd.rebase (by omega)).setBox J2 (by decide) _).setBox J3' (by decide) _
  · rw [hbst]
    exact (((hvs.rebase hb2).below hb4).setBox J2 (by decide) _).setBox J3' (by decide) _

theorem GrI.stay {w0 w1 w3 : World} {ks : FuncId} {A : Option Addr} {c n m len i : Nat} {s : Nat → Nat → Int} {x2 x3 : Value} (hbel : Below w0.heap.size w0 w1) (KB : Below w1.heap.size w1 w3)
    (K0 : Box w3 w0.heap.size 22 (.slice A n c)) (K1 : Box w3 (w0.heap.size + 1) 34 (.func (.func ks) #[] #[])) (K2 : Box w3 (w0.heap.size + 2) 23 x2) (K3 : Box w3 (w0.heap.size + 3) 23 x3)
    (hvd : OwnL w1 (w0.heap.size + 5) x2 (lst m (dg n m (bst s len i)))) (hvs : OwnL w1 (w0.heap.size + 5) x3 (lst len (s (bst s len i)))) (hbst : bst s len (i + 1) = bst s len i) : GrI w0 ks A c n m len s (i + 1) w3 := by
  refine ⟨hbel.trans (KB.mono hbel.size), K0, K1, x2, x3, K2, K3, .inr ⟨by omega, ?_, ?_⟩⟩
  · rw [hbst]; exact hvd.below KB
  · rw [hbst]; exact hvs.below KB
end Go.Proofs.Ytkgikehagkpmoaa
