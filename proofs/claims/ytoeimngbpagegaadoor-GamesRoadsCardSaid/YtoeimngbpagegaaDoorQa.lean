/- Words for slices of structs of integer fields: read, and of the call's own. -/
import Derived.Test.YtoeimngbpagegaaDoorRowC
namespace Go.Proofs.YtoeimngbpagegaaDoor
open Go.RowKit

/-- The slice at A holds n structs of s integer fields; F k i is field i of struct k. -/
def Recs (s : Nat) (w : World) (A : Option Addr) (n : Nat) (F : Nat → Nat → Int) : Prop :=
  0 < n → ∃ b o, A = some ⟨b, o, none⟩ ∧ ∀ k, k < n → ∀ i, i < s → w.cell? ⟨b, o + k * s + i, none⟩ = some (.int .i64 (F k i))
section
variable {s : Nat} {w w' : World} {A : Option Addr} {n : Nat} {F : Nat → Nat → Int}
theorem Recs.at (h : Recs s w A n F) {k : Nat} (hk : k < n) : ∃ b o, A = some ⟨b, o, none⟩ ∧ ∀ i, i < s → w.cell? ⟨b, o + k * s + i, none⟩ = some (.int .i64 (F k i)) := by
  obtain ⟨b, o, hA, hc⟩ := h (by omega)
  exact ⟨b, o, hA, hc k hk⟩
theorem Recs.keep (h : Recs s w A n F) (hb : Below w.heap.size w w') : Recs s w' A n F := fun hn => by
  obtain ⟨b, o, hA, hc⟩ := h hn
  exact ⟨b, o, hA, fun k hk i hi => (hb.cell (World.block_lt_of_cell? _ _ (hc k hk i hi))).trans (hc k hk i hi)⟩
theorem Recs.dn (h : Recs s w A n F) (hd : Dn w w') : Recs s w' A n F := by
  obtain ⟨m, rfl⟩ := hd
  exact h
theorem Recs.congr {G : Nat → Nat → Int} (h : Recs s w A n F) (he : ∀ k, k < n → ∀ i, i < s → F k i = G k i) : Recs s w A n G := fun hn => by
  obtain ⟨b, o, hA, hc⟩ := h hn
  exact ⟨b, o, hA, fun k hk i hi => by rw [← he k hk i hi]; exact hc k hk i hi⟩
theorem Recs.zero : Recs s w A 0 F := fun h => absurd h (by omega)
theorem Recs.less {m : Nat} (h : Recs s w A n F) (hm : m ≤ n) : Recs s w A m F := fun hn => by
  obtain ⟨b, o, hA, hc⟩ := h (by omega)
  exact ⟨b, o, hA, fun k hk => hc k (by omega)⟩
end
/-- The four cells of a job; the three of a piece; the two of a pair. -/
theorem Recs.four {w : World} {A : Option Addr} {n : Nat} {F : Nat → Nat → Int} (h : Recs 4 w A n F) {k : Nat} (hk : k < n) : ∃ b o, A = some ⟨b, o, none⟩ ∧ w.cell? ⟨b, o + k * 4, none⟩ = some (.int .i64 (F k 0)) ∧ w.cell? ⟨b, o + k * 4 + 1, none⟩ = some (.int .i64 (F k 1)) ∧ w.cell? ⟨b, o + k * 4 + 2, none⟩ = some (.int .i64 (F k 2)) ∧ w.cell? ⟨b, o + k * 4 + 3, none⟩ = some (.int .i64 (F k 3)) := by
  obtain ⟨b, o, hA, hc⟩ := h.at hk
  exact ⟨b, o, hA, hc 0 (by omega), hc 1 (by omega), hc 2 (by omega), hc 3 (by omega)⟩
theorem Recs.three {w : World} {A : Option Addr} {n : Nat} {F : Nat → Nat → Int} (h : Recs 3 w A n F) {k : Nat} (hk : k < n) : ∃ b o, A = some ⟨b, o, none⟩ ∧ w.cell? ⟨b, o + k * 3, none⟩ = some (.int .i64 (F k 0)) ∧ w.cell? ⟨b, o + k * 3 + 1, none⟩ = some (.int .i64 (F k 1)) ∧ w.cell? ⟨b, o + k * 3 + 2, none⟩ = some (.int .i64 (F k 2)) := by
  obtain ⟨b, o, hA, hc⟩ := h.at hk
  exact ⟨b, o, hA, hc 0 (by omega), hc 1 (by omega), hc 2 (by omega)⟩

/-- The cells of n structs. -/
def recL (s : Nat) (F : Nat → Nat → Int) : Nat → List Value
  | 0 => []
  | n + 1 => recL s F n ++ (List.range s).map fun i => .int .i64 (F n i)
theorem recL_len (s : Nat) (F : Nat → Nat → Int) (n : Nat) : (recL s F n).length = n * s := by
  induction n with
  | zero => simp [recL]
  | succ n ih => simp [recL, ih, Nat.succ_mul]
theorem recL_get (s : Nat) (F : Nat → Nat → Int) : ∀ (n k i : Nat), k < n → i < s → (recL s F n)[k * s + i]? = some (.int .i64 (F k i)) := by
  intro n
  induction n with
  | zero => intro k i h; omega
  | succ n ih =>
    intro k i hk hi
    rcases Nat.lt_or_ge k n with hl | hl
    · have : k * s + i < n * s := by
        have := Nat.mul_le_mul_right s (show k + 1 ≤ n by omega)
        rw [Nat.succ_mul] at this
        omega
      rw [recL, List.getElem?_append_left (by rw [recL_len]; exact this)]
      exact ih k i hl hi
    · obtain rfl : k = n := by omega
      rw [recL, List.getElem?_append_right (by rw [recL_len]; omega), recL_len]
      simp [hi]
theorem recL_congr {s : Nat} {F G : Nat → Nat → Int} : ∀ {n : Nat}, (∀ k, k < n → ∀ i, i < s → F k i = G k i) → recL s F n = recL s G n := by
  intro n
  induction n with
  | zero => intro _; rfl
  | succ n ih =>
    intro h
    rw [recL, recL, ih (fun k hk => h k (by omega))]
    congr 1
    exact List.map_congr_left fun i hi => by rw [h n (by omega) i (List.mem_range.1 hi)]

/-- A slice of structs of the call's own: the blocks from base on. -/
def OwnK (s : Nat) (e : TypeId) (w : World) (base : Nat) (v : Value) (n : Nat) (F : Nat → Nat → Int) : Prop := w.ownsRow base e s v n (recL s F n)
section
variable {s : Nat} {e : TypeId} {w w' : World} {base n : Nat} {v : Value} {F : Nat → Nat → Int}
theorem OwnK.nil_ (s : Nat) (e : TypeId) (w : World) (base : Nat) (F : Nat → Nat → Int) : OwnK s e w base (.slice none 0 0) 0 F := World.ownsRow_nil w base _ s
theorem OwnK.form (h : OwnK s e w base v n F) : ∃ A c, v = .slice A n c ∧ (A = none → v = .slice none 0 0) ∧ Recs s w A n F ∧ (∀ b o, A = some ⟨b, o, none⟩ → base ≤ b ∧ b < w.heap.size ∧ o = 0) ∧ n ≤ c ∧ c ≤ maxLen := by
  have h0 := h
  rcases h0.2 with ⟨rfl, hn⟩ | ⟨g, cap, cur, rfl, hg, hh, hnc, hcm, hcs, ht⟩
  · refine ⟨none, 0, by rw [hn], fun _ => rfl, ?_, by simp, by omega, by unfold maxLen; omega⟩
    rw [hn]
    exact Recs.zero
  · refine ⟨some ⟨g, 0, none⟩, cap, rfl, by simp, fun hp => ⟨g, 0, rfl, fun k hk i hi => ?_⟩, ?_, hnc, hcm⟩
    · have hlt : k * s + i < n * s := by
        have := Nat.mul_le_mul_right s (show k + 1 ≤ n by omega)
        rw [Nat.succ_mul] at this
        omega
      rw [Nat.zero_add, World.ownsRow.cellAt h _ hlt]
      exact recL_get s F n k i hk hi
    · intro b o e
      injection e with e
      injection e with e1 e2
      subst e1 e2
      exact ⟨hg, (Array.getElem?_eq_some_iff.1 hh).1, rfl⟩
theorem OwnK.below (h : OwnK s e w base v n F) (hb : Below w.heap.size w w') : OwnK s e w' base v n F := by
  refine World.ownsRow.kept (row := none) h ⟨hb.os, hb.tape, hb.output, hb.size, fun k hk _ => hb.block k hk⟩ ?_
  cases v.ownBlock <;> simp
theorem OwnK.exc {G : Nat} (h : OwnK s e w base v n F) (he : Exc G w w') (hne : v.ownBlock = none ∨ v.ownBlock ≠ some G) : OwnK s e w' base v n F := World.ownsRow.kept h he hne
theorem OwnK.rebase {base' : Nat} (h : OwnK s e w base v n F) (hb : base' ≤ base) : OwnK s e w base' v n F := by
  refine ⟨h.1, ?_⟩
  rcases h.2 with hn | ⟨g, cap, cur, e, hg, r⟩
  · exact .inl hn
  · exact .inr ⟨g, cap, cur, e, by omega, r⟩
theorem OwnK.congr {G : Nat → Nat → Int} (h : OwnK s e w base v n F) (he : ∀ k, k < n → ∀ i, i < s → F k i = G k i) : OwnK s e w base v n G := by
  unfold OwnK
  rw [← recL_congr he]
  exact h
theorem OwnK.dn (h : OwnK s e w base v n F) (hd : Dn w w') : OwnK s e w' base v n F := h.below (hd.below _)
end
theorem one_of_recL (s : Nat) (F : Nat → Nat → Int) : ∀ n, ∀ u ∈ recL s F n, u.oneCell' = true := by
  intro n
  induction n with
  | zero => intro u hu; simp [recL] at hu
  | succ n ih =>
    intro u hu
    rw [recL, List.mem_append] at hu
    rcases hu with hu | hu
    · exact ih u hu
    · obtain ⟨i, _, rfl⟩ := List.mem_map.1 hu
      rfl

/-- A slice of structs as it may come in. -/
def ArgK (s : Nat) (w : World) (A : Option Addr) (n c : Nat) (F : Nat → Nat → Int) : Prop := n ≤ c ∧ c ≤ maxLen ∧ (A = none → c = 0) ∧ Recs s w A n F
theorem ArgK.below {s : Nat} {w w' : World} {A : Option Addr} {n c : Nat} {F : Nat → Nat → Int} (h : ArgK s w A n c F) (hb : Below w.heap.size w w') : ArgK s w' A n c F := ⟨h.1, h.2.1, h.2.2.1, h.2.2.2.keep hb⟩
theorem OwnK.arg {s : Nat} {e : TypeId} {w : World} {base n : Nat} {v : Value} {F : Nat → Nat → Int} (h : OwnK s e w base v n F) : ∃ A c, v = .slice A n c ∧ ArgK s w A n c F := by
  obtain ⟨A, c, rfl, h1, h2, -, h3, h4⟩ := h.form
  refine ⟨A, c, rfl, h3, h4, fun hA => ?_, h2⟩
  have := h1 hA
  injection this
end Go.Proofs.YtoeimngbpagegaaDoor
