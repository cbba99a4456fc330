/- Order of what is chosen; chances of what is chosen. -/
import Derived.Test.YtocfbafcplhmiaaUtb
import Derived.Test.YtocfbafcplhmiaaUcm
namespace Go.Proofs.Ytocfbafcplhmiaa
open Go.RowKit

theorem cmF_congr {f f' g g' : Nat → Int} : ∀ n, (∀ j, j < n → f j = f' j) → (∀ j, j < n → g j = g' j) → cmF f g n = cmF f' g' n := by
  intro n
  induction n with
  | zero => intro _ _; rfl
  | succ n ih =>
    intro h1 h2
    rw [cmF, cmF, ih (fun j hj => h1 j (by omega)) (fun j hj => h2 j (by omega)), h1 n (by omega), h2 n (by omega)]
theorem choice_lex {t : Nat → Nat → Nat} {n : Nat} {f : Nat → Nat} (hf : Pm n f) {l : List Nat} (h : (ordL (List.range n) n []).find? (odP t n (chF t n f)) = some l) : cmF (rowF l) (fun p => (f p : Int)) n ≤ 0 := by
  have e : cmF (rowF l) (fun p => (f p : Int)) n = cmF (fun p => (rN l p : Int)) (fun p => (rN ((List.range n).map f) p : Int)) n := cmF_congr n (fun j _ => rfl) (fun j hj => by rw [rN_map hj])
  rw [e]
  rcases first_lex h (mem_of_pm hf) (odP_iff.2 (fun i hi => chF_congr (fun k hk => rN_map hk) i)) with h1 | h1
  · rw [h1, cmF_eq n (fun _ _ => rfl)]
    decide
  · have := cmF_lex h1
    omega
theorem chN_pos {t : Nat → Nat → Nat} {n : Nat} {f : Nat → Nat} (hf : Pm n f) {i : Nat} : 1 ≤ chN t n i (chF t n f i) := by
  unfold chN cnU
  refine List.countP_pos_iff.2 ⟨_, mem_of_pm hf, ?_⟩
  exact decide_eq_true (chF_congr (fun k hk => rN_map hk) i)
section
variable {n k cA : Nat} {L : Nat → Nat} {v : Nat → Nat → Int} {A : Option Addr} {w : World} {G : Option Addr} {cG : Nat} {f : Nat → Nat}
theorem OrderC (h : RowsK w A k (fun i => min (L i) 7) v) (hk : k = min n 7) (hok : okS n L v = true) (hG : Ints w G n (fun p => (chF (tO v) n f p : Int))) (hcG : n ≤ cG) (hf : Pm n f) :
    Calls Try.prog 33 #[.slice A k cA, .slice G n cG] w fun e w' => ∃ Aa ca l, e = .returned (.tuple #[.slice Aa n ca, .int .i64 0]) ∧ Ints w' Aa n (rowF l) ∧ cmF (rowF l) (fun p => (f p : Int)) n ≤ 0 ∧ Below w.heap.size w w' := by
  obtain ⟨h1, h2, h3, h4⟩ := okS_pm hok
  refine (OrderF h hk hok hG rfl hcG (chF_pm h1.2 h3 hf)).mono ?_
  rintro e w' (⟨x, v', hx, rfl, hv, hb'⟩ | ⟨hx, rfl, hb'⟩)
  · obtain ⟨Aa, ca, rfl, hI, hc⟩ := hv.sl1
    exact ⟨Aa, ca, x, rfl, hI, choice_lex hf hx, hb'⟩
  · exact absurd (chosen_best h1.2 h3 hf) ((order_none h1.2 h3 (chF_pm h1.2 h3 hf)).1 hx)
end
end Go.Proofs.Ytocfbafcplhmiaa
