/- A region that draws in a round of a range over a function, held by S. -/
import Derived.Test.YtocfbafcplhmiaaUx
import Derived.Test.YtocfbafcplhmiaaIr
import Derived.OrdersHeld
namespace Go.Proofs.Ytocfbafcplhmiaa
open Go.RowKit Go.Sort

theorem rowsIn_wideU {n : Nat} {P : Program} {row : String} {args : Array Value} {w : World} {R : Value → World → Prop} : RowsIn Fence.wide n P row args w R ↔ Rows P row args w R :=
  ⟨fun h c cs => let ⟨v, w', r, s⟩ := h c cs (room_wide _); ⟨v, w', r, stepsIn_wide.1 s⟩, fun h c cs _ => let ⟨v, w', r, s⟩ := h c cs; ⟨v, w', r, stepsIn_wide.2 s⟩⟩
theorem opIn_of_wp {n : Nat} {P : Program} {o : Oper} {a : Act} {w : World} {K : Act → World → Prop} {Q : Exit → Act → World → Prop} (h : o.wp P a w K Q) : o.wpIn Fence.wide n P a w K Q := by
  unfold Oper.wp at h
  refine ⟨fun _ _ => trivial, ?_⟩
  show o.uponIn Fence.wide n P a K Q ((o.semAt none a.eval).run P w)
  rw [Oper.semAt_none]
  generalize (execOp a.eval o).run P w = r at *
  cases r with
  | ok x w' =>
    cases x <;> simp only [Oper.upon, Oper.uponIn] at h ⊢
    case value u => exact h
    case skip => exact h
    case defer d => exact h
    case enter f args => exact ⟨fun e => absurd e (by decide), callsIn_wide.2 h⟩
    case row row args => exact ⟨fun e => absurd e (by decide), rowsIn_wideU.2 h⟩
  | halt x w' =>
    cases x <;> simp only [Oper.upon, Oper.uponIn] at h ⊢
    case panic u => exact h
theorem anyIn_of_any {n : Nat} {P : Program} {md : Region.Mode} {ops : Array Oper} {Q : Exit → Act → World → Prop} (hno : ∀ a w, ¬ Q .outgrown a w) : ∀ (fuel : Nat) (listed : Array Bool) (a : Act) (w : World), wpAny P md ops Q fuel listed a w → wpAnyIn Fence.wide n P md ops Q fuel listed a w
  | 0, _, _, _, h => h
  | fuel + 1, listed, a, w, h => ⟨h.1, fun i hi => by
      have h2 := h.2 i hi
      unfold wpOp at h2
      unfold wpOpIn
      cases ho : ops[i]? with
      | none => rw [ho] at h2; exact anyIn_of_any hno fuel _ _ _ h2
      | some o =>
        rw [ho] at h2
        simp only at h2 ⊢
        by_cases hw : Region.wanted o (yielded ops a.tmps) = true
        · rw [if_pos hw] at h2 ⊢
          rcases h2 with h2 | ⟨-, a', w', h2⟩
          · exact Oper.wpIn_mono (fun a w hk => anyIn_of_any hno fuel _ a w hk) (opIn_of_wp h2)
          · exact absurd h2 (hno a' w')
        · rw [if_neg hw] at h2 ⊢
          exact ⟨fun _ _ => trivial, anyIn_of_any hno fuel _ _ _ h2⟩⟩
theorem region_round_held {n k : Nat} {id : Nat} {Q : Exit → Act → World → Prop} {a : Act} {w : World} {ops : Array Oper} {S : World → Prop} (hm : Try.prog.follows .mixedOrders = true) (hno : ∀ a w, ¬ Q .outgrown a w) (hnd : ∀ (i : Nat) (o : Oper), ops[i]? = some o → ∀ c, o.op ≠ .defer c)
    (h : wpAnyH Try.prog .any ops Q S ops.size (Array.replicate ops.size false) a { w with drawn := w.drawn + 1 }) : (Code.region id ops true).wpIn (Fence.wide.inRound k) n Try.prog Q a w :=
  wpIn_region_any hm (wpAnyIn_inRound rfl hnd _ _ _ _ (anyIn_of_any hno _ _ _ _ (wpAny_of_held _ _ _ _ h)))
end Go.Proofs.Ytocfbafcplhmiaa
