/- A drawn region inside a round of a range over a function: shown outside of the round. -/
import Derived.Test.YtocfbafcplhmiaaRowC
import Derived.RangeFuncCalls
import Derived.OwnWalkIn
import Derived.OrdersIn
import Derived.Lib.QuietBelowIn
namespace Go.Proofs.Ytocfbafcplhmiaa
open Go.RowKit Go.Sort

theorem wpIn_inRound {F : Fence} {n l : Nat} {P : Program} {o : Oper} {a : Act} {w : World} {K K' : Act → World → Prop} {Q : Exit → Act → World → Prop} (_hro : F.round = none) (hnd : ∀ c, o.op ≠ .defer c) (hK : ∀ a w, K a w → K' a w)
    (h : o.wpIn F n P a w K Q) : o.wpIn (F.inRound l) n P a w K' Q := by
  have h := Oper.wpIn_mono hK h
  obtain ⟨h1, h2⟩ := h
  refine ⟨h1, ?_⟩
  rw [Oper.semAt_plain F _ _ hnd] at h2
  rw [Oper.semAt_plain (F.inRound l) _ _ hnd]
  revert h2
  generalize (execOp a.eval o).run P w = R
  intro h2
  exact h2
theorem wpOpIn_inRound {F : Fence} {n l i : Nat} {P : Program} {ops : Array Oper} {a : Act} {w : World} {K K' : Act → World → Prop} {Q : Exit → Act → World → Prop} (hro : F.round = none) (hnd : ∀ o, ops[i]? = some o → ∀ c, o.op ≠ .defer c) (hK : ∀ a w, K a w → K' a w)
    (h : wpOpIn F n P ops Q i K a w) : wpOpIn (F.inRound l) n P ops Q i K' a w := by
  unfold wpOpIn at h ⊢
  cases ho : ops[i]? with
  | none => rw [ho] at h; exact hK _ _ h
  | some o =>
    rw [ho] at h
    simp only at h ⊢
    by_cases hw : Region.wanted o (yielded ops a.tmps) = true
    · rw [if_pos hw] at h ⊢; exact wpIn_inRound hro (hnd o ho) hK h
    · rw [if_neg hw] at h ⊢; exact ⟨h.1, hK _ _ h.2⟩
theorem wpAnyIn_inRound {F : Fence} {n l : Nat} {P : Program} {md : Region.Mode} {ops : Array Oper} {Q : Exit → Act → World → Prop} (hro : F.round = none) (hnd : ∀ (i : Nat) (o : Oper), ops[i]? = some o → ∀ c, o.op ≠ .defer c) : ∀ (fuel : Nat) (listed : Array Bool) (a : Act) (w : World),
    wpAnyIn F n P md ops Q fuel listed a w → wpAnyIn (F.inRound l) n P md ops Q fuel listed a w
  | 0, _, _, _, h => h
  | fuel + 1, _, _, _, h => ⟨h.1, fun i hi => wpOpIn_inRound hro (hnd i) (fun _ _ hk => wpAnyIn_inRound hro hnd fuel _ _ _ hk) (h.2 i hi)⟩
/-- A region that draws its order in a round: every order walked outside of the round. -/
theorem wpIn_region_round {n k : Nat} {id : Nat} {Q : Exit → Act → World → Prop} {a : Act} {w : World} {l : List Oper} (hm : Try.prog.follows .mixedOrders = true) (hB : Region.lexB .any l.toArray = true) (hnd : ∀ (i : Nat) (o : Oper), l.toArray[i]? = some o → ∀ c, o.op ≠ .defer c)
    (h : wpQuietIn Fence.wide n Try.prog l.toArray (fun w' => ∃ p : Later w, w' = p.to) (fun a' => ∀ w', (∃ p : Later w, w' = p.to) → Q .normal a' w') l a) : (Code.region id l.toArray true).wpIn (Fence.wide.inRound k) n Try.prog Q a w := by
  simp only [Region.lexB, Bool.and_eq_true] at hB
  refine wpIn_region_any hm (wpAnyIn_inRound rfl hnd _ _ _ _ (wpAnyIn_of_quiet (C := fun w' => ∃ p : Later w, w' = p.to) (Q := fun a' => ∀ w', (∃ p : Later w, w' = p.to) → Q .normal a' w') rfl (fun _ w' hw' h => h w' hw') _ _ _ _ ⟨⟨{ w with drawn := w.drawn + 1 }, ⟨rfl, rfl, rfl, Nat.le_refl _, fun _ _ => rfl⟩⟩, rfl⟩ ?_))
  have := wpAnyQIn_lex (F := Fence.wide) (n := n) (C := fun w' => ∃ p : Later w, w' = p.to) (md := .any) hB.1 l 0 (Array.replicate l.toArray.size false) a (by simp) (by simpa using hB.2) h
  simpa using this
theorem quietUponIn_wide {n : Nat} {P : Program} {C : World → Prop} {w : World} {v : Value} : ∀ {r : Result Next}, Oper.quietUpon P C w v r → Oper.quietUponIn Fence.wide n P C w v r := by
  intro r h
  unfold Oper.quietUpon at h
  unfold Oper.quietUponIn
  split at h
  · exact h
  · exact h
  · exact ⟨h.1, (fun e : (Fence.wide.depth.isSome = true) => absurd e (by decide)), callsIn_wide.2 h.2⟩
  · exact h.elim
theorem wpQuietIn_wide {n : Nat} {P : Program} {ops : Array Oper} {C : World → Prop} {Q : Act → Prop} : ∀ (l : List Oper) (a : Act), wpQuiet P ops C Q l a → wpQuietIn Fence.wide n P ops C Q l a
  | [], _, h => h
  | o :: rest, a, h => by
    refine ⟨fun _ _ _ _ => trivial, ?_⟩
    unfold wpQuiet at h
    by_cases hw : Region.wanted o (yielded ops a.tmps) = true
    · rw [if_pos hw] at h ⊢
      obtain ⟨v, h1, h2⟩ := h
      exact ⟨v, fun w hC => quietUponIn_wide (h1 w hC), wpQuietIn_wide rest _ h2⟩
    · rw [if_neg hw] at h ⊢
      exact wpQuietIn_wide rest _ h
/-- The same, walked by the plain quiet steps. -/
theorem wp_region_round {n k : Nat} {id : Nat} {Q : Exit → Act → World → Prop} {a : Act} {w : World} {l : List Oper} (hm : Try.prog.follows .mixedOrders = true) (hB : Region.lexB .any l.toArray = true) (hnd : ∀ (i : Nat) (o : Oper), l.toArray[i]? = some o → ∀ c, o.op ≠ .defer c)
    (h : wpQuiet Try.prog l.toArray (fun w' => ∃ p : Later w, w' = p.to) (fun a' => ∀ w', (∃ p : Later w, w' = p.to) → Q .normal a' w') l a) : (Code.region id l.toArray true).wpIn (Fence.wide.inRound k) n Try.prog Q a w :=
  wpIn_region_round hm hB hnd (wpQuietIn_wide l a h)
end Go.Proofs.Ytocfbafcplhmiaa
