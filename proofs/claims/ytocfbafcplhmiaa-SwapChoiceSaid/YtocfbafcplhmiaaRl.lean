/- A range over an iterator that hands over one row of its own, written anew between the rounds. -/
import Derived.RangeFuncKeeps
import Derived.Test.YtocfbafcplhmiaaOn
import Derived.Test.YtocfbafcplhmiaaExc
namespace Go.Proofs.Ytocfbafcplhmiaa
open Go.RowKit

def rowF (x : List Nat) : Nat → Int := fun i => ((x.getD i 0 : Nat) : Int)
/-- The blocks of K lie as they lay. -/
def KeepK (K : Nat → Prop) (W W' : World) : Prop := W.heap.size ≤ W'.heap.size ∧ ∀ b, K b → b < W.heap.size → W'.heap[b]? = W.heap[b]?
/-- The iterator gives the rows L, one after the other, each in block B. -/
def RowsOut (F : Fence) (n : Nat) (gf : Nat) (lb : Array Value) (B m l : Nat) (Kb : Nat → Prop) (L : List (List Nat)) (W : World) : Prop :=
  ∀ (J Jx : List (List Nat) → World → Prop),
    (∀ s W1 W2, J s W1 → Exc B W1 W2 → J s W2) →
    (∀ pre x W1, J pre W1 → (∃ r, L = pre ++ x :: r) → RowI W1 B m (rowF x) → YieldAt F (n - 1) Try.prog l #[.slice (some ⟨B, 0, none⟩) m m] W1 fun e W' =>
      W1.heap.size ≤ W'.heap.size ∧ (∀ b, Kb b → b < W1.heap.size → b ≠ l → W'.heap[b]? = W1.heap[b]?) ∧ ((e = .returned (.bool true) ∧ J (pre ++ [x]) W') ∨ (e = .returned (.bool false) ∧ Jx (pre ++ [x]) W'))) →
    J [] W → CallsIn F n Try.prog gf (#[.func (.yield l) #[] #[]] ++ lb) W fun e W' => (∃ v, e = .returned v) ∧ (J L W' ∨ ∃ pre, Jx pre W')
def rowPost (Kb : Nat → Prop) (I : List (List Nat) → World → Prop) (Ix : Code → List (List Nat) → World → Prop) (xs : List (List Nat)) (W : World) : Exit → Act → World → Prop
  | .normal, _, W' => KeepK Kb W W' ∧ I xs W'
  | .ret, _, W' => KeepK Kb W W' ∧ Ix .ret xs W'
  | .exit id, _, W' => KeepK Kb W W' ∧ Ix (.exit id) xs W'
  | .goto t, _, W' => KeepK Kb W W' ∧ Ix (.goto t) xs W'
  | .panic _, _, _ => False
  | .outgrown, _, _ => False

theorem exc_putObj (W : World) (l : Nat) (o : Obj) : Exc l W (W.putObj l o) := grownBy_putObj' W l o

theorem wpIn_rangeRows {F : Fence} {n : Nat} {g : Operand} {ps : Array Tmp} {assign body : Code} {Q : Exit → Act → World → Prop} {a : Act} {w : World}
    (hro : F.round = none) (h1 : 1 ≤ n) {gf : Nat} {lb : Array Value} (hg : a.eval g = .func (.func gf) #[] lb) (hFg : F.fn gf) (eg : ∀ args w, (callFunc gf args).run Try.prog w = .ok (.enter gf args) w)
    {B m : Nat} {Kb : Nat → Prop} {L : List (List Nat)} (hC : ∀ b, w.heap.size ≤ b → Kb b)
    (hseq : ∀ W : World, W.heap.size = w.heap.size + 2 → (∀ b, b < w.heap.size → W.heap[b]? = w.heap[b]?) → RowsOut F (n - 1) gf lb B m (w.heap.size + 1) Kb L W)
    (hps : ps.size = 1)
    (I : List (List Nat) → World → Prop) (Ix : Code → List (List Nat) → World → Prop)
    (hI : ∀ s W1 W2 b, b = w.heap.size + 1 ∨ b = B → I s W1 → Exc b W1 W2 → I s W2) (hIx : ∀ c s W1 W2, Ix c s W1 → Exc (w.heap.size + 1) W1 W2 → Ix c s W2)
    (hB : w.heap.size + 2 ≤ B) (h0 : I [] w) (a₁ : Act)
    (hassign : ∀ (W : World) (K : Act → World → Prop), K a₁ W →
      assign.wpIn (F.inRound (w.heap.size + 1)) (n - 1 - 1) Try.prog (Exit.then K (fun _ _ _ => False)) { tmps := (ps.zip #[.slice (some ⟨B, 0, none⟩) m m]).foldl (fun t (p, v) => t.setIfInBounds p v) a.tmps, defers := [] } W)
    (hbody : ∀ (pre : List (List Nat)) (x : List Nat) (W : World), I pre W → (∃ r, L = pre ++ x :: r) → RowI W B m (rowF x) → body.wpIn (F.inRound (w.heap.size + 1)) (n - 1 - 1) Try.prog (rowPost Kb I Ix (pre ++ [x]) W) a₁ W)
    (hdone : ∀ (D : Nat) (W : World), D = w.heap.size → I L W → W.heap[D]? = some (.deferred (some [])) → Q .normal { a with defers := { target := .collected D, args := #[] } :: a.defers } W)
    (hstop : ∀ (D : Nat) (c : Code) (pre : List (List Nat)) (W : World), D = w.heap.size → Ix c pre W → W.heap[D]? = some (.deferred (some [])) → c.wpIn F n Try.prog Q { a with defers := { target := .collected D, args := #[] } :: a.defers } W) :
    (Code.rangeFunc g ps assign body).wpIn F n Try.prog Q a w := by
  refine wpIn_rangeFunc ?_
  intro fn hfn
  rw [hro]
  obtain ⟨rec, hrec⟩ : ∃ rec : LoopState → Option Code → Loop, rec = fun st pe => { state := st, pending := pe, fn, tmps := a.tmps, params := ps, assign, body, defers := w.heap.size } := ⟨_, rfl⟩
  obtain ⟨W1, hW1⟩ : ∃ W1, (w.alloc (.deferred (some []))).alloc (.loop (rec .ready none)) = W1 := ⟨_, rfl⟩
  have hL1 : W1.heap[w.heap.size + 1]? = some (.loop (rec .ready none)) := by
    rw [← hW1]; have := World.alloc_heap_new (w.alloc (.deferred (some []))) (.loop (rec .ready none)); rwa [World.size_alloc] at this
  have hK1 : W1.heap[w.heap.size]? = some (.deferred (some [])) := by
    rw [← hW1]; exact (Below.heap_alloc _ _ _ (by simp)).trans (World.alloc_heap_new w _)
  have hb1 : Below w.heap.size w W1 := by
    rw [← hW1]; exact ((Below.refl _ w).alloc (Nat.le_refl _) _).alloc (by simp) _
  have hI1 : I [] W1 := hI _ _ _ _ (.inl rfl) h0 (Exc.of_below hb1)
  have hs1 : W1.heap.size = w.heap.size + 2 := by rw [← hW1]; simp
  have hblk : ∀ {s t : World} {b k : Nat} {o : Obj}, Exc b s t → k ≠ b → s.heap[k]? = some o → t.heap[k]? = some o := fun he hne hk =>
    (he.block _ (Array.getElem?_eq_some_iff.1 hk).1 (fun e => hne (Option.some.inj e))).trans hk
  refine ⟨w.heap.size + 1, [{ target := .collected w.heap.size, args := #[] }], W1, { target := .fn (.func gf) lb, args := #[.func (.yield (w.heap.size + 1)) #[] #[]] }, W1, gf,
    #[.func (.yield (w.heap.size + 1)) #[] #[]] ++ lb, W1, ?_, ?_, ?_, ?_, fun _ => h1, ?_⟩
  · rw [← hW1, hrec]; exact run_enterLoop_outer _ _ _ _ _
  · simp only [resolve, hg]
    simp [go_sem]
  · intro f' hf'; simp [Target.leads] at hf'; subst hf'; exact hFg
  · simp [invoke, go_sem, eg]
  · refine (hseq W1 hs1 (fun b hb => hb1.block b hb)
      (fun pre W => I pre W ∧ W.heap[w.heap.size + 1]? = some (.loop (rec .ready none)) ∧ W.heap[w.heap.size]? = some (.deferred (some [])))
      (fun pre W => ∃ c, Ix c pre W ∧ W.heap[w.heap.size + 1]? = some (.loop (rec .done (some c))) ∧ W.heap[w.heap.size]? = some (.deferred (some [])))
      (fun s A A' hs he => ⟨hI _ _ _ _ (.inr rfl) hs.1 he, hblk he (by omega) hs.2.1, hblk he (by omega) hs.2.2⟩)
      ?_ ⟨hI1, hL1, hK1⟩).mono ?_
    · rintro pre x W ⟨hi, hl, hk⟩ hmem hrow
      have hlt : w.heap.size + 1 < W.heap.size := (Array.getElem?_eq_some_iff.1 hl).1
      have hy := run_yield (P := Try.prog) (args := #[.slice (some ⟨B, 0, none⟩) m m]) hl (by rw [hrec]; exact hps.symm)
      rw [hrec] at hy
      refine ⟨fn, _, assign, body, hy, roundIn_of_wpIn hfn (hassign W _ ⟨_, run_beginRound hl (by rw [hrec]), ?_⟩)⟩
      have hl2 : (W.putObj (w.heap.size + 1) (.loop { rec .ready none with state := .busy })).heap[w.heap.size + 1]? = some (.loop { rec .ready none with state := .busy }) := World.putObj_heap_same hlt
      have hk2 : (W.putObj (w.heap.size + 1) (.loop { rec .ready none with state := .busy })).heap[w.heap.size]? = some (.deferred (some [])) := (World.putObj_heap_other (by omega)).trans hk
      have he2 : Exc (w.heap.size + 1) W (W.putObj (w.heap.size + 1) (.loop { rec .ready none with state := .busy })) := exc_putObj _ _ _
      have hrow2 := he2.row hrow (by omega)
      have hsz2 : (W.putObj (w.heap.size + 1) (.loop { rec .ready none with state := .busy })).heap.size = W.heap.size := by simp
      refine wpIn_mono (hbody pre x _ (hI _ _ _ _ (.inl rfl) hi he2) hmem hrow2) ?_
      have fin : ∀ (jump : Option Code) (W3 : World), KeepK Kb (W.putObj (w.heap.size + 1) (.loop { rec .ready none with state := .busy })) W3 →
          (Instr.endRound (w.heap.size + 1) jump).run Try.prog W3 = .ok (.bool jump.isNone) (W3.putObj (w.heap.size + 1) (.loop (rec (if jump.isNone then .ready else .done) jump))) ∧
          (W3.putObj (w.heap.size + 1) (.loop (rec (if jump.isNone then .ready else .done) jump))).heap[w.heap.size + 1]? = some (.loop (rec (if jump.isNone then .ready else .done) jump)) ∧
          (W3.putObj (w.heap.size + 1) (.loop (rec (if jump.isNone then .ready else .done) jump))).heap[w.heap.size]? = some (.deferred (some [])) ∧
          W.heap.size ≤ (W3.putObj (w.heap.size + 1) (.loop (rec (if jump.isNone then .ready else .done) jump))).heap.size ∧
          (∀ b, Kb b → b < W.heap.size → b ≠ w.heap.size + 1 → (W3.putObj (w.heap.size + 1) (.loop (rec (if jump.isNone then .ready else .done) jump))).heap[b]? = W.heap[b]?) := fun jump W3 hk3 => by
        have hl3 := (hk3.2 (w.heap.size + 1) (hC _ (by omega)) (by omega)).trans hl2
        have hkk := (hk3.2 w.heap.size (hC _ (Nat.le_refl _)) (by omega)).trans hk2
        have := run_endRound (P := Try.prog) jump hl3
        rw [hrec] at this ⊢
        refine ⟨this, World.putObj_heap_same (Array.getElem?_eq_some_iff.1 hl3).1, (World.putObj_heap_other (by omega)).trans hkk, ?_, fun b hb1 hb2 hb3 => ?_⟩
        · have := hk3.1
          simp at this ⊢
          omega
        · exact (World.putObj_heap_other hb3).trans ((hk3.2 b hb1 (by omega)).trans (World.putObj_heap_other hb3))
      rintro e a3 W3 hp
      cases e with
      | normal =>
        obtain ⟨hk3, hi3⟩ := hp
        obtain ⟨hr, hl4, hk4, hs4, hb4⟩ := fin none W3 hk3
        exact ⟨_, _, hr, hs4, hb4, .inl ⟨rfl, hI _ _ _ _ (.inl rfl) hi3 (exc_putObj _ _ _), hl4, hk4⟩⟩
      | ret =>
        obtain ⟨hk3, hi3⟩ := hp
        obtain ⟨hr, hl4, hk4, hs4, hb4⟩ := fin (some .ret) W3 hk3
        exact ⟨_, _, hr, hs4, hb4, .inr ⟨rfl, .ret, hIx _ _ _ _ hi3 (exc_putObj _ _ _), hl4, hk4⟩⟩
      | exit id =>
        obtain ⟨hk3, hi3⟩ := hp
        obtain ⟨hr, hl4, hk4, hs4, hb4⟩ := fin (some (.exit id)) W3 hk3
        exact ⟨_, _, hr, hs4, hb4, .inr ⟨rfl, .exit id, hIx _ _ _ _ hi3 (exc_putObj _ _ _), hl4, hk4⟩⟩
      | goto t =>
        obtain ⟨hk3, hi3⟩ := hp
        obtain ⟨hr, hl4, hk4, hs4, hb4⟩ := fin (some (.goto t)) W3 hk3
        exact ⟨_, _, hr, hs4, hb4, .inr ⟨rfl, .goto t, hIx _ _ _ _ hi3 (exc_putObj _ _ _), hl4, hk4⟩⟩
      | panic ch => exact hp.elim
      | outgrown => exact hp.elim
    · rintro e W2 ⟨⟨v, rfl⟩, (⟨hi, hl, hk⟩ | ⟨pre, c, hi, hl, hk⟩)⟩
      · exact ⟨none, _, by have := run_endLoop (P := Try.prog) hl (by rw [hrec]; simp); rw [hrec] at this; exact this, hdone _ _ rfl (hI _ _ _ _ (.inl rfl) hi (exc_putObj _ _ _)) ((World.putObj_heap_other (by omega)).trans hk)⟩
      · exact ⟨some c, _, by have := run_endLoop (P := Try.prog) hl (by rw [hrec]; simp); rw [hrec] at this; exact this, hstop _ c pre _ rfl (hIx _ _ _ _ hi (exc_putObj _ _ _)) ((World.putObj_heap_other (by omega)).trans hk)⟩
end Go.Proofs.Ytocfbafcplhmiaa
