/- A part of the proof: Asz. -/
import Derived.Test.YtiigcjcolpmafaaGvz
import Derived.Test.YtiigcjcolpmafaaRg
import Derived.Test.YtiigcjcolpmafaaLW
import Derived.Test.YtiigcjcolpmafaaVe
import Derived.Maps.AppendAt
import Derived.Deep.RegionHeld3
namespace Go.Proofs.Ytiigcjcolpmafaa
open Go.RowKit

/-- Block b is a box of one value. -/
def Box (w : World) (b : Nat) (t : TypeId) (x : Value) : Prop := w.rowIs b t 1 (fun _ => x)
section
variable {w w' : World} {b : Nat} {t : TypeId} {x : Value}
theorem Box.cell (h : Box w b t x) : w.cell? ⟨b, 0, none⟩ = some x := World.rowIs.cell h (by omega)
theorem Box.frozen (h : Box w b t x) : w.frozen? ⟨b, 0, none⟩ = false := World.rowIs.frozen h 0
theorem Box.lt (h : Box w b t x) : b < w.heap.size := World.rowIs.lt h
theorem Box.new (w : World) (t : TypeId) (x : Value) : Box (w.alloc (.cells #[x] t)) w.heap.size t x := World.rowIs_alloc w #[x] t _ (fun i hi => by
  have : i = 0 := by simp at hi; omega
  subst this
  rfl)
theorem Box.alloc (h : Box w b t x) (o : Obj) : Box (w.alloc o) b t x := World.rowIs.alloc h o
theorem Box.drew (h : Box w b t x) : Box w.drew b t x := h
theorem Box.keep (h : Box w b t x) (hb : Below w.heap.size w w') : Box w' b t x := World.rowIs.of_block h (hb.block b h.lt)
theorem Box.set (h : Box w b t x) (y : Value) : Box (w.setCell ⟨b, 0, none⟩ y) b t y := World.rowIs.congr (World.rowIs.set h 0 y) (fun i hi => by
  have : i = 0 := by omega
  simp [this])
theorem Box.other (h : Box w b t x) {a : Addr} (ha : b ≠ a.block) (y : Value) : Box (w.setCell a y) b t x := World.rowIs.setOther h ha y
theorem Box.exc {G : Nat} (h : Box w b t x) (he : Exc G w w') (hne : b ≠ G) : Box w' b t x := World.rowIs.of_block h (he.block b h.lt (fun e => hne (by injection e)))
end

/-- A slice of slices of the call's own. -/
def OwnLL (w : World) (base : Nat) (x : Value) (ls : List (List Int)) : Prop :=
  ∃ vals : List Value, vals.length = ls.length ∧ w.ownsRow base 23 1 x ls.length vals ∧ ∀ i y, vals[i]? = some y → OwnL w base y (ls.getD i [])
theorem OwnLL.nil_ (w : World) (base : Nat) : OwnLL w base (.slice none 0 0) [] := ⟨[], rfl, World.ownsRow_nil w base _ 1, fun i y h => by simp at h⟩
theorem OwnLL.below {w w' : World} {base : Nat} {x : Value} {ls : List (List Int)} (h : OwnLL w base x ls) (hb : Below w.heap.size w w') : OwnLL w' base x ls := by
  obtain ⟨vals, h1, h2, h3⟩ := h
  exact ⟨vals, h1, ownsRow_below h2 hb, fun i y hy => (h3 i y hy).below hb⟩
theorem OwnLL.exc {w w' : World} {base g : Nat} {x : Value} {ls : List (List Int)} (h : OwnLL w base x ls) (he : Exc g w w') (hg : g < base) : OwnLL w' base x ls := by
  obtain ⟨vals, h1, h2, h3⟩ := h
  exact ⟨vals, h1, own_exc h2 he hg, fun i y hy => own_exc (h3 i y hy) he hg⟩
theorem OwnLL.form {w : World} {base : Nat} {x : Value} {ls : List (List Int)} (h : OwnLL w base x ls) : ∃ A c, x = .slice A ls.length c := by
  obtain ⟨vals, h1, h2, -⟩ := h
  rcases h2.2 with ⟨rfl, hn⟩ | ⟨g, cap, cur, rfl, _⟩
  · exact ⟨none, 0, by rw [hn]⟩
  · exact ⟨_, _, rfl⟩
/-- What one slice more at the end leaves. -/
theorem OwnLL.snoc {w w' : World} {base : Nat} {x x' y : Value} {ls : List (List Int)} {l : List Int} {vals : List Value} (h1 : vals.length = ls.length) (h2 : w.ownsRow base 23 1 x ls.length vals)
    (h3 : ∀ i y, vals[i]? = some y → OwnL w base y (ls.getD i [])) (hy : OwnL w base y l) (hg : w.grownBy w' x.ownBlock) (h : w'.ownsRow base 23 1 x' (ls.length + 1) (vals ++ [y])) : OwnLL w' base x' (ls ++ [l]) := by
  refine ⟨vals ++ [y], by simp [h1], by simpa using h, fun i z hz => ?_⟩
  rcases Nat.lt_or_ge i vals.length with hl | hl
  · rw [List.getElem?_append_left hl] at hz
    have e : (ls ++ [l]).getD i [] = ls.getD i [] := by
      simp [List.getD, List.getElem?_append_left (show i < ls.length by omega)]
    rw [e]
    exact World.ownsRow.kept (h3 i z hz) hg (own_other (h3 i z hz) h2 (by decide))
  · rw [List.getElem?_append_right hl] at hz
    have hi : i - vals.length = 0 := by
      rcases Nat.eq_zero_or_pos (i - vals.length) with h | h
      · exact h
      · rw [List.getElem?_eq_none (by simp; omega)] at hz
        cases hz
    rw [hi] at hz
    simp at hz
    subst hz
    have e : (ls ++ [l]).getD i [] = l := by
      simp [List.getD, List.getElem?_append_right (show ls.length ≤ i by omega), show i - ls.length = 0 by omega]
    rw [e]
    exact World.ownsRow.kept hy hg (own_other hy h2 (by decide))

/-- The closure's captured boxes. -/
def gvCaps (bm bp bf bg : Nat) : Array Value := #[.pointer (some ⟨bm, 0, none⟩), .pointer (some ⟨bp, 0, none⟩), .pointer (some ⟨bf, 0, none⟩), .pointer (some ⟨bg, 0, none⟩)]
/-- Where they lie. -/
structure LayG (B F bm bp bf bg gm : Nat) : Prop where
  b1 : B ≤ bm ∧ bm < F
  b2 : B ≤ bp ∧ bp < F
  b3 : B ≤ bf ∧ bf < F
  b4 : B ≤ bg ∧ bg < F
  b5 : B ≤ gm ∧ gm < F
  n1 : bm ≠ bf
  n2 : bm ≠ gm
  n3 : bp ≠ bf
  n4 : bp ≠ gm
  n5 : bg ≠ bf
  n6 : bg ≠ gm
  n7 : bf ≠ gm
/-- The state of the search: m as it stands, what was found. -/
structure AsI (w0 : World) (F bm bp bf bg gm : Nat) (AH AS AP : Option Addr) (cH cS cP : Nat) (p : PlanD) (m : Nat → Int) (ls : List (List Int)) (w : World) : Prop where
  bel : Below w0.heap.size w0 w
  sz : F ≤ w.heap.size
  plan : BoxP w bp AH AS AP p.nH p.nS p.nP cH cS cP
  mb : Box w bm 23 (.slice (some ⟨gm, 0, none⟩) p.nH p.nH)
  gb : Box w bg 90 (.func (.func 87) #[] (gvCaps bm bp bf bg))
  row : RowI w gm p.nH m
  fnd : ∃ v, Box w bf 22 v ∧ OwnLL w F v ls
theorem AsI.keep {w0 w w' : World} {F bm bp bf bg gm : Nat} {AH AS AP : Option Addr} {cH cS cP : Nat} {p : PlanD} {m : Nat → Int} {ls : List (List Int)} (h : AsI w0 F bm bp bf bg gm AH AS AP cH cS cP p m ls w) (hb : Below w.heap.size w w') : AsI w0 F bm bp bf bg gm AH AS AP cH cS cP p m ls w' := by
  obtain ⟨h1, h2, h3, h4, h5, h6, v, h7, h8⟩ := h
  exact ⟨h1.trans (hb.mono h1.size), Nat.le_trans h2 hb.size, h3.keep hb, h4.keep hb, h5.keep hb, h6.keep hb, v, h7.keep hb, h8.below hb⟩
theorem set_exc (w : World) (g i : Nat) (x : Value) : Exc g w (w.setCell ⟨g, i, none⟩ x) := (Exc.refl g w).set i x
/-- What a store into m leaves. -/
theorem AsI.put {w0 w : World} {F bm bp bf bg gm : Nat} {AH AS AP : Option Addr} {cH cS cP : Nat} {p : PlanD} {m : Nat → Int} {ls : List (List Int)} (hL : LayG w0.heap.size F bm bp bf bg gm) (h : AsI w0 F bm bp bf bg gm AH AS AP cH cS cP p m ls w) (i : Nat) (x : Int) :
    AsI w0 F bm bp bf bg gm AH AS AP cH cS cP p (upd m i x) ls (w.setCell ⟨gm, i, none⟩ (.int .i64 x)) := by
  obtain ⟨h1, h2, ⟨p0, p1, p2⟩, h4, h5, h6, v, h7, h8⟩ := h
  have he := set_exc w gm i (.int .i64 x)
  exact ⟨h1.setCell (p := ⟨gm, i, none⟩) hL.b5.1 _, by simpa using h2, ⟨he.cell p0 hL.n4, he.cell p1 hL.n4, he.cell p2 hL.n4⟩, h4.exc he hL.n2, h5.exc he hL.n6, h6.set i x, v, h7.exc he hL.n7, h8.exc he hL.b5.2⟩
end Go.Proofs.Ytiigcjcolpmafaa

