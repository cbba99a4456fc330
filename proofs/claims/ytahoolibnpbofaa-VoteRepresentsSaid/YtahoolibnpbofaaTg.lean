/- Ballots turned in place; what is said of them. -/
import Derived.Test.YtahoolibnpbofaaRe
import Derived.Test.YtahoolibnpbofaaDb
import Derived.Test.YtahoolibnpbofaaVg
namespace Go.Proofs.Ytahoolibnpbofaa
open Go.RowKit

def OwnSv (w : World) (base : Nat) (x : Value) (n : Nat) (L : Nat → Nat) (v : Nat → Nat → Int) (vals : List Value) : Prop := vals.length = n ∧ w.ownsRow base 33 1 x n vals ∧ OwnVals w base vals L v ∧ Sep vals
theorem OwnSv.below {w w' : World} {base n : Nat} {x : Value} {L : Nat → Nat} {v : Nat → Nat → Int} {vals : List Value} (h : OwnSv w base x n L v vals) (hb : Below w.heap.size w w') : OwnSv w' base x n L v vals :=
  ⟨h.1, ownsRow_below h.2.1 hb, h.2.2.1.below hb, h.2.2.2⟩
theorem OwnSv.congr {w : World} {base n : Nat} {x : Value} {L : Nat → Nat} {v v' : Nat → Nat → Int} {vals : List Value} (h : OwnSv w base x n L v vals) (e : ∀ i g, i < n → g < L i → v i g = v' i g) : OwnSv w base x n L v' vals := by
  obtain ⟨h1, h2, h3, h4⟩ := h
  refine ⟨h1, h2, fun i y hy => ?_, h4⟩
  have hi : i < vals.length := (List.getElem?_eq_some_iff.1 hy).1
  have := h3 i y hy
  rwa [lst_congr (fun g hg => e i g (by omega) hg)] at this
theorem OwnSv.own {w : World} {base n : Nat} {x : Value} {L : Nat → Nat} {v : Nat → Nat → Int} {vals : List Value} (h : OwnSv w base x n L v vals) : OwnR w base x n L v := ⟨vals, h.1, h.2.1, h.2.2.1⟩
theorem OwnSv.exc {w w' : World} {base n g : Nat} {x : Value} {L : Nat → Nat} {v : Nat → Nat → Int} {vals : List Value} (h : OwnSv w base x n L v vals) (hE : Exc g w w') (hx : ∀ a, x.ownBlock = some a → a ≠ g) (hv : ∀ (i : Nat) (y : Value) (a : Nat), vals[i]? = some y → y.ownBlock = some a → a ≠ g) : OwnSv w' base x n L v vals := by
  obtain ⟨h1, h2, h3, h4⟩ := h
  refine ⟨h1, World.ownsRow.kept (row := some g) h2 hE ?_, fun i y hy => World.ownsRow.kept (row := some g) (h3 i y hy) hE ?_, h4⟩
  · cases hz : x.ownBlock with
    | none => exact .inl rfl
    | some a => exact .inr (fun e => by injection e with e; exact hx a hz e)
  · cases hz : y.ownBlock with
    | none => exact .inl rfl
    | some a => exact .inr (fun e => by injection e with e; exact hv i y a hy hz e)
theorem OwnSv.low {w : World} {base n : Nat} {x : Value} {L : Nat → Nat} {v : Nat → Nat → Int} {vals : List Value} (h : OwnSv w base x n L v vals) : (∀ a, x.ownBlock = some a → a < w.heap.size) ∧ ∀ (i : Nat) (y : Value) (a : Nat), vals[i]? = some y → y.ownBlock = some a → a < w.heap.size :=
  ⟨fun a ha => (World.ownsRow.lt h.2.1 a ha).2, fun i y a hy ha => (World.ownsRow.lt (h.2.2.1 i y hy) a ha).2⟩
theorem OwnSv.turned {w : World} {base n : Nat} {x : Value} {L : Nat → Nat} {v : Nat → Nat → Int} {vals : List Value} (h : OwnSv w base x n L v vals) {p : Nat} (hp : p < n) (hL : 0 < L p) :
    ∃ (G c g cap : Nat), x = .slice (some ⟨G, 0, none⟩) n c ∧ w.cell? ⟨G, p, none⟩ = some (.slice (some ⟨g, 0, none⟩) (L p) cap) ∧ base ≤ g ∧ RowC w g cap (L p) (v p) ∧ vals[p]? = some (.slice (some ⟨g, 0, none⟩) (L p) cap) ∧
      ∀ (w' : World) (D : Nat → Int), RowC w' g cap (L p) D → Exc g w w' → OwnSv w' base x n L (fun i => if i = p then D else v i) vals := by
  obtain ⟨hl, hown, hv, hsep⟩ := h
  obtain ⟨r, hr⟩ : ∃ r, vals[p]? = some r := ⟨_, List.getElem?_eq_getElem (by omega)⟩
  have hrow := hv p r hr
  have hown0 := hown
  rcases hown0.2 with ⟨-, h0⟩ | ⟨G, c, cur, rfl, -⟩
  · omega
  obtain ⟨g, cap, rfl, hb, hcm, hR⟩ := hrow.rowCm hL
  have hc := World.ownsRow.cellAt hown p (by omega)
  rw [hr] at hc
  refine ⟨G, c, g, cap, rfl, hc, hb, hR, hr, fun w' D hD hE => ⟨hl, World.ownsRow.kept (row := some g) hown hE ?_, fun i z hz => ?_, hsep⟩⟩
  · have := own_other hown hrow (by decide)
    simpa [Value.ownBlock] using this
  · by_cases e : i = p
    · subst e
      rw [hr] at hz
      injection hz with hz
      subst hz
      simp only [if_true]
      exact hD.ownL hb hcm
    · simp only [if_neg e]
      refine World.ownsRow.kept (row := some g) (hv i z hz) hE ?_
      cases hz2 : z.ownBlock with
      | none => exact .inl rfl
      | some a =>
        refine .inr (fun e3 => ?_)
        injection e3 with e3
        rcases Nat.lt_or_ge i p with hlt | hge
        · have := hsep i p z _ a g hlt hz hr hz2 rfl
          omega
        · have := hsep p i _ z g a (by omega) hr hz rfl hz2
          omega
theorem OwnSv.at0 {w : World} {base n : Nat} {x : Value} {L : Nat → Nat} {v : Nat → Nat → Int} {vals : List Value} (h : OwnSv w base x n L v vals) {p : Nat} (hp : p < n) :
    ∃ (G c : Nat) (A : Option Addr) (cap : Nat), x = .slice (some ⟨G, 0, none⟩) n c ∧ w.cell? ⟨G, p, none⟩ = some (.slice A (L p) cap) := by
  obtain ⟨hl, hown, hv, hsep⟩ := h
  obtain ⟨r, hr⟩ : ∃ r, vals[p]? = some r := ⟨_, List.getElem?_eq_getElem (by omega)⟩
  have hrow := hv p r hr
  rcases hown.2 with ⟨-, h0⟩ | ⟨G, c, cur, rfl, -⟩
  · omega
  obtain ⟨A, cap, rfl, -⟩ := hrow.form
  have hc := World.ownsRow.cellAt hown p (by omega)
  rw [hr, lst_len] at hc
  exact ⟨G, c, A, cap, rfl, hc⟩
/-- Row i backward. -/
def revV (L : Nat → Nat) (v : Nat → Nat → Int) : Nat → Nat → Int := fun i k => v i (L i - 1 - k)
/-- The first k rows are backward. -/
def revT (L : Nat → Nat) (v : Nat → Nat → Int) (k : Nat) : Nat → Nat → Int := fun i => if i < k then revV L v i else v i
theorem okBal_rev (n : Nat) (L : Nat → Nat) (v : Nat → Nat → Int) : okBal n L (revV L v) = okBal n L v := by
  unfold okBal
  congr 2
  exact allB_congr (fun i _ => ordB_rev (L 0) (L i) (v i))
theorem mrg_turn {n : Nat} {L : Nat → Nat} {v : Nat → Nat → Int} (hok : okBal n L v = true) {a b : Nat} (ha : a < L 0) (hb : b < L 0) : mrg (revV L v) (L 0) a b n = - mrg v (L 0) a b n := by
  obtain ⟨h1, h2, h3⟩ := okBal_iff.1 hok
  rw [← mrg_rev ha hb n (fun i hi => (h3 i hi).2)]
  refine mrg_congr n (fun i hi x => ?_)
  have : revV L v i = fun k => v i (L 0 - 1 - k) := by
    unfold revV
    rw [(h3 i hi).1]
  rw [this]
theorem listV {A : Option Addr} {m c : Nat} {o : Nat → Int} {w : World} (h : ArgI w A m c o) :
    Calls Try.prog 27 #[.slice A m c] w fun e w' => ∃ A' k c', e = .returned (.slice A' k c') ∧ k = min m 11 ∧ OwnL w' w.heap.size (.slice A' k c') (lst k o) ∧ k ≤ c' ∧ Below w.heap.size w w' := by
  refine (list_any A m c o w h).mono ?_
  rintro e w' ⟨x, rfl, hx, hb⟩
  obtain ⟨A', c', rfl, -, -, -, hc⟩ := hx.form
  rw [lst_len] at hc hx
  exact ⟨A', _, c', by rw [lst_len], rfl, hx, hc, hb⟩
/-- back turned. -/
theorem rev_back {A : Option Addr} {m c base : Nat} {o : Nat → Int} {w : World} (h : OwnL w base (.slice A m c) (lst m o)) (hm : m ≤ 11) :
    Calls Try.prog 39 #[.slice A m c] w fun e w' => (∃ v, e = .returned v) ∧ OwnL w' base (.slice A m c) (lst m (fun k => o (m - 1 - k))) ∧ ∃ g, base ≤ g ∧ Exc g w w' := by
  rcases Nat.eq_zero_or_pos m with rfl | hp
  · refine (reverse_none A c w).mono ?_
    rintro e w' ⟨he, rfl⟩
    exact ⟨he, h, base, Nat.le_refl _, Exc.refl _ _⟩
  · obtain ⟨g, cap, e, hb, hcm, hR⟩ := h.rowCm hp
    injection e with e1 e2 e3
    subst e1 e3
    refine (reverse_any g c c m o w hR (by omega) hp).mono ?_
    rintro e w' ⟨he, hR', hE⟩
    exact ⟨he, hR'.ownL hb hcm, g, hb, hE⟩
/-- Row p of the ballots turned. -/
theorem rev_row {w : World} {base n : Nat} {x : Value} {L : Nat → Nat} {v : Nat → Nat → Int} {vals : List Value} (h : OwnSv w base x n L v vals) (hL : ∀ i, L i ≤ 11) {p : Nat} (hp : p < n) :
    ∃ (G c : Nat) (A : Option Addr) (cap : Nat), x = .slice (some ⟨G, 0, none⟩) n c ∧ w.cell? ⟨G, p, none⟩ = some (.slice A (L p) cap) ∧
      Calls Try.prog 39 #[.slice A (L p) cap] w fun e w' => (∃ v, e = .returned v) ∧ OwnSv w' base x n L (fun i => if i = p then revV L v p else v i) vals ∧ (w = w' ∨ ∃ (i : Nat) (y : Value) (g : Nat), vals[i]? = some y ∧ y.ownBlock = some g ∧ base ≤ g ∧ Exc g w w') := by
  rcases Nat.eq_zero_or_pos (L p) with h0 | hpos
  · obtain ⟨G, c, A, cap, rfl, hc⟩ := h.at0 hp
    rw [h0] at hc
    refine ⟨G, c, A, cap, rfl, by rw [h0]; exact hc, ?_⟩
    rw [h0]
    refine (reverse_none A cap w).mono ?_
    rintro e w' ⟨he, rfl⟩
    refine ⟨he, h.congr (fun i g hi hg => ?_), .inl rfl⟩
    by_cases e : i = p
    · subst e
      omega
    · simp [e]
  · obtain ⟨G, c, g, cap, rfl, hc, hb, hR, hvp, hT⟩ := h.turned hp hpos
    refine ⟨G, c, _, cap, rfl, hc, (reverse_any g cap cap (L p) (v p) w hR (by have := hL p; omega) hpos).mono ?_⟩
    rintro e w' ⟨he, hR', hE⟩
    exact ⟨he, hT w' _ hR' hE, .inr ⟨p, _, g, hvp, rfl, hb, hE⟩⟩

/-- What a turned row leaves of all else. -/
theorem turn_keep {w w' : World} {base top : Nat} {vals : List Value} (h : w = w' ∨ ∃ (i : Nat) (y : Value) (g : Nat), vals[i]? = some y ∧ y.ownBlock = some g ∧ base ≤ g ∧ Exc g w w') (hlow : ∀ (i : Nat) (y : Value) (a : Nat), vals[i]? = some y → y.ownBlock = some a → a < top)
    {x : Value} {xs : List Int} (hx : OwnL w top x xs) : OwnL w' top x xs := by
  rcases h with rfl | ⟨i, y, g, h1, h2, h3, h4⟩
  · exact hx
  · have hg := hlow i y g h1 h2
    refine h4.ownL hx ?_
    cases hz : x.ownBlock with
    | none => exact .inl rfl
    | some a =>
      refine .inr (fun e => ?_)
      injection e with e
      have := (World.ownsRow.lt hx a hz).1
      omega
theorem turn_below {w0 w w' : World} {base : Nat} {vals : List Value} (h : w = w' ∨ ∃ (i : Nat) (y : Value) (g : Nat), vals[i]? = some y ∧ y.ownBlock = some g ∧ base ≤ g ∧ Exc g w w') (hb : Below base w0 w) (hs : base ≤ w.heap.size) : Below base w0 w' := by
  rcases h with rfl | ⟨i, y, g, h1, h2, h3, h4⟩
  · exact hb
  · exact hb.trans (h4.below h3 hs)
end Go.Proofs.Ytahoolibnpbofaa
