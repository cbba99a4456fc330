/- Ballots with the candidates renamed: in memory, and what the functions give of them. -/
import Derived.Test.YtnobbklnnkpdfaaNr
import Derived.Test.YtnobbklnnkpdfaaWi
import Derived.Test.YtnobbklnnkpdfaaKm
import Derived.Test.YtnobbklnnkpdfaaAz2
import Derived.Test.YtnobbklnnkpdfaaAf
import Derived.Test.YtnobbklnnkpdfaaVg
import Derived.Test.YtnobbklnnkpdfaaRowC
namespace Go.Proofs.Ytnobbklnnkpdfaa
open Go.RowKit

def OwnSv (w : World) (base : Nat) (x : Value) (n : Nat) (L : Nat → Nat) (v : Nat → Nat → Int) (vals : List Value) : Prop := vals.length = n ∧ w.ownsRow base 23 1 x n vals ∧ OwnVals w base vals L v ∧ Sep vals
theorem OwnSv.below {w w' : World} {base n : Nat} {x : Value} {L : Nat → Nat} {v : Nat → Nat → Int} {vals : List Value} (h : OwnSv w base x n L v vals) (hb : Below w.heap.size w w') : OwnSv w' base x n L v vals :=
  ⟨h.1, ownsRow_below h.2.1 hb, h.2.2.1.below hb, h.2.2.2⟩
theorem OwnSv.congr {w : World} {base n : Nat} {x : Value} {L : Nat → Nat} {v v' : Nat → Nat → Int} {vals : List Value} (h : OwnSv w base x n L v vals) (e : ∀ i g, i < n → g < L i → v i g = v' i g) : OwnSv w base x n L v' vals := by
  obtain ⟨h1, h2, h3, h4⟩ := h
  refine ⟨h1, h2, fun i y hy => ?_, h4⟩
  have hi : i < vals.length := (List.getElem?_eq_some_iff.1 hy).1
  have := h3 i y hy
  rwa [lst_congr (fun g hg => e i g (by omega) hg)] at this
theorem OwnSv.own {w : World} {base n : Nat} {x : Value} {L : Nat → Nat} {v : Nat → Nat → Int} {vals : List Value} (h : OwnSv w base x n L v vals) : OwnR w base x n L v := ⟨vals, h.1, h.2.1, h.2.2.1⟩
theorem OwnSv.exc {w w' : World} {base n g : Nat} {x : Value} {L : Nat → Nat} {v : Nat → Nat → Int} {vals : List Value} (h : OwnSv w base x n L v vals) (hE : Exc g w w') (hx : ∀ a, x.ownBlock = some a → a ≠ g) (hv : ∀ (i : Nat) (y : Value) (a : Nat), vals[i]? = some y → y.ownBlock = some a → a ≠ g) : OwnSv w' base x n L v vals := by
  obtain ⟨h1, h2, h3, h4⟩ := h
  refine ⟨h1, World.ownsRow.kept (row := some g) h2 hE ?_, fun i y hy => World.ownsRow.kept (row := some g) (h3 i y hy) hE ?_, h4⟩
  · cases hz : x.ownBlock with
    | none => exact .inl rfl
    | some a => exact .inr (fun e => by injection e with e; exact hx a hz e)
  · cases hz : y.ownBlock with
    | none => exact .inl rfl
    | some a => exact .inr (fun e => by injection e with e; exact hv i y a hy hz e)
theorem OwnSv.low {w : World} {base n : Nat} {x : Value} {L : Nat → Nat} {v : Nat → Nat → Int} {vals : List Value} (h : OwnSv w base x n L v vals) : (∀ a, x.ownBlock = some a → a < w.heap.size) ∧ ∀ (i : Nat) (y : Value) (a : Nat), vals[i]? = some y → y.ownBlock = some a → a < w.heap.size :=
  ⟨fun a ha => (World.ownsRow.lt h.2.1 a ha).2, fun i y a hy ha => (World.ownsRow.lt (h.2.2.1 i y hy) a ha).2⟩
theorem OwnSv.turned {w : World} {base n : Nat} {x : Value} {L : Nat → Nat} {v : Nat → Nat → Int} {vals : List Value} (h : OwnSv w base x n L v vals) {p : Nat} (hp : p < n) (hL : 0 < L p) :
    ∃ (G c g cap : Nat), x = .slice (some ⟨G, 0, none⟩) n c ∧ w.cell? ⟨G, p, none⟩ = some (.slice (some ⟨g, 0, none⟩) (L p) cap) ∧ base ≤ g ∧ RowC w g cap (L p) (v p) ∧ vals[p]? = some (.slice (some ⟨g, 0, none⟩) (L p) cap) ∧
      ∀ (w' : World) (D : Nat → Int), RowC w' g cap (L p) D → Exc g w w' → OwnSv w' base x n L (fun i => if i = p then D else v i) vals := by
  obtain ⟨hl, hown, hv, hsep⟩ := h
  obtain ⟨r, hr⟩ : ∃ r, vals[p]? = some r := ⟨_, List.getElem?_eq_getElem (by omega)⟩
  have hrow := hv p r hr
  have hown0 := hown
  rcases hown0.2 with ⟨-, h0⟩ | ⟨G, c, cur, rfl, -⟩
  · omega
  obtain ⟨g, cap, rfl, hb, hcm, hR⟩ := hrow.rowCm hL
  have hc := World.ownsRow.cellAt hown p (by omega)
  rw [hr] at hc
  refine ⟨G, c, g, cap, rfl, hc, hb, hR, hr, fun w' D hD hE => ⟨hl, World.ownsRow.kept (row := some g) hown hE ?_, fun i z hz => ?_, hsep⟩⟩
  · have := own_other hown hrow (by decide)
    simpa [Value.ownBlock] using this
  · by_cases e : i = p
    · subst e
      rw [hr] at hz
      injection hz with hz
      subst hz
      simp only [if_true]
      exact hD.ownL hb hcm
    · simp only [if_neg e]
      refine World.ownsRow.kept (row := some g) (hv i z hz) hE ?_
      cases hz2 : z.ownBlock with
      | none => exact .inl rfl
      | some a =>
        refine .inr (fun e3 => ?_)
        injection e3 with e3
        rcases Nat.lt_or_ge i p with hlt | hge
        · have := hsep i p z _ a g hlt hz hr hz2 rfl
          omega
        · have := hsep p i _ z g a (by omega) hr hz rfl hz2
          omega
theorem fewSv (A : Option Addr) (n c : Nat) (L : Nat → Nat) (v : Nat → Nat → Int) (w : World) (h : ArgR w A n c L v) :
    Calls Try.prog 11 #[.slice A n c] w fun e w' => ∃ A' k c' vals, e = .returned (.slice A' k c') ∧ k = min n 11 ∧ OwnSv w' w.heap.size (.slice A' k c') k (fun i => min (L i) 11) v vals ∧ Below w.heap.size w w' := by
  refine (fewS_any A n c L v w h).mono ?_
  rintro e w' ⟨x, rfl, ⟨vals, h1, h2, h3, h4⟩, hb⟩
  obtain ⟨A', c', rfl, -⟩ := (show OwnR w' w.heap.size x _ _ _ from ⟨vals, h1, h2, h3⟩).rows
  exact ⟨A', _, c', vals, rfl, rfl, ⟨h1, h2, h3, h4⟩, hb⟩

theorem RowsK.congrN {w : World} {A : Option Addr} {n : Nat} {L L' : Nat → Nat} {v v' : Nat → Nat → Int} (h : RowsK w A n L v) (e : ∀ i, i < n → L i = L' i) (e2 : ∀ i k, i < n → k < L i → v i k = v' i k) : RowsK w A n L' v' := fun hn => by
  obtain ⟨b, o, hA, hc⟩ := h hn
  refine ⟨b, o, hA, fun i hi => ?_⟩
  obtain ⟨A', c', h1, h2, h3⟩ := hc i hi
  rw [← e i hi]
  exact ⟨A', c', h1, h2, h3.congr (fun k hk => e2 i k hi hk)⟩
def rnV (u c : Nat) (v : Nat → Nat → Int) : Nat → Nat → Int := fun i => rnO u c (v i)
section
variable {n cA u : Nat} {L : Nat → Nat} {v : Nat → Nat → Int} {A : Option Addr} {w : World}
theorem okB_rn (hok : okBal n L v = true) (hu : u < L 0) : okBal n L (rnV u (L 0) v) = true := by
  obtain ⟨h1, h2, h3⟩ := okBal_iff.1 hok
  exact okBal_iff.2 ⟨h1, h2, fun i hi => ⟨(h3 i hi).1, rnO_ord hu (h3 i hi).2⟩⟩
theorem ren_all (hok : okBal n L v = true) (hu : u < L 0) : RenT u (L 0) (mAll v (L 0) n) (mAll (rnV u (L 0) v) (L 0) n) := by
  obtain ⟨h1, ⟨hc1, hc5⟩, h3⟩ := okBal_iff.1 hok
  intro a b ha hb
  show mAll (fun i => rnO u (L 0) (v i)) (L 0) n _ = _
  rw [mAll_at hc5 (rnN_lt hu ha) (rnN_lt hu hb) n (fun i hi => rnO_ord hu (h3 i hi).2), mAll_at hc5 ha hb n (fun i hi => (h3 i hi).2)]
  exact mrg_rn hu ha hb n (fun i hi => (h3 i hi).2)
theorem wid_all (hok : okBal n L v = true) (hu : u < L 0) {a b : Nat} (ha : a < L 0) (hb : b < L 0) : wT (L 0) (mAll (rnV u (L 0) v) (L 0) n) (L 0) (5 * rnN u (L 0) a + rnN u (L 0) b) = wT (L 0) (mAll v (L 0) n) (L 0) (5 * a + b) := by
  obtain ⟨⟨hn1, hn9⟩, ⟨hc1, hc5⟩, h3⟩ := okBal_iff.1 hok
  refine wT_ren hc5 hu (mAll_dia hok) (fun a b ha hb => ?_) (ren_all hok hu) ha hb
  rw [mAll_at hc5 ha hb n (fun i hi => (h3 i hi).2)]
  have := mrg_bd v (L 0) a b n
  omega
theorem pkB_con {c : Nat} {o o' : Nat → Int} (e : ∀ k, k < c → o k = o' k) (h : pkB n L v o c = true) : pkB n L v o' c = true :=
  pk_mk (fun x k z i hx hz hzc hi hh => pk_get h hx hz hzc hi (by rw [e x (by omega), e k (by omega), e z hzc]; exact hh))
theorem axF_of {c : Nat} {o : Nat → Int} (ho : Ord c o) (h : pkB n L v o c = true) : axF n L v (List.range c) ≠ none := by
  obtain ⟨x, hx, e⟩ := mem_of_ord ho
  unfold axF
  rw [List.length_range]
  intro h0
  have := List.find?_eq_none.1 h0 x hx
  rw [pkB_con (fun k hk => (e k hk).symm) h] at this
  exact this rfl
theorem ax_ren1 (hok : okBal n L v = true) (hu : u < L 0) (h : axF n L v (List.range (L 0)) ≠ none) : axF n L (rnV u (L 0) v) (List.range (L 0)) ≠ none := by
  obtain ⟨-, -, h3⟩ := okBal_iff.1 hok
  cases hx : axF n L v (List.range (L 0)) with
  | none => exact absurd hx h
  | some x =>
    obtain ⟨h1, h2⟩ := axF_some hx
    exact axF_of (rnO_ord hu h1) (pk_ren hu h3 h1 h2)
theorem ax_ren2 (hok : okBal n L v = true) (hu : u < L 0) (h : axF n L (rnV u (L 0) v) (List.range (L 0)) ≠ none) : axF n L v (List.range (L 0)) ≠ none := by
  obtain ⟨-, -, h3⟩ := okBal_iff.1 hok
  cases hx : axF n L (rnV u (L 0) v) (List.range (L 0)) with
  | none => exact absurd hx h
  | some x =>
    obtain ⟨h1, h2⟩ := axF_some hx
    refine axF_of (rnO_ord (rnI_lt hu) h1) ?_
    have key : ∀ i, i < n → ∀ k, k < L 0 → idxI (rnV u (L 0) v i) (rowF x k) (L i) = idxI (v i) (rnO (rnI u (L 0)) (L 0) (rowF x) k) (L i) := fun i hi k hk => by
      have h4 := h1.rng k hk
      obtain ⟨y, hy⟩ : ∃ y : Nat, rowF x k = (y : Int) := ⟨(rowF x k).toNat, by omega⟩
      have hyc : y < L 0 := by omega
      rw [rnO_at hy, hy, (h3 i hi).1, ← idx_rn hu (h3 i hi).2 (rnN_lt (rnI_lt hu) hyc), rnN_forth hu hyc]
      rfl
    refine pk_mk (fun x' k z i hx' hz hzc hi hh => ?_)
    rw [← key i hi x' (by omega), ← key i hi k (by omega), ← key i hi z hzc] at hh
    exact pk_get h2 hx' hz hzc hi hh
theorem MarginsN (hok : okBal n L v = true) (hu : u < L 0) (h : RowsK w A n L (rnV u (L 0) v)) (hA : n ≤ cA) :
    Calls Try.prog 20 #[.slice A n cA] w fun e w' => ∃ A' c', e = .returned (.tuple #[.slice A' (L 0) c', .int .i64 0]) ∧ Rows2 w' A' (L 0) (fun _ => L 0) (fun a b => mAll (rnV u (L 0) v) (L 0) n (5 * a + b)) ∧ Below w.heap.size w w' := by
  refine (Margins_ok A n cA L (rnV u (L 0) v) w h (okB_rn hok hu) hA).mono ?_
  rintro e w' ⟨x, rfl, hx, hb⟩
  obtain ⟨A', c', rfl, hr, -⟩ := hx.rows
  exact ⟨A', c', rfl, hr, hb⟩
theorem WidthsN (hok : okBal n L v = true) (hu : u < L 0) (h : RowsK w A n L (rnV u (L 0) v)) (hA : n ≤ cA) :
    Calls Try.prog 21 #[.slice A n cA] w fun e w' => ∃ A' c', e = .returned (.tuple #[.slice A' (L 0) c', .int .i64 0]) ∧ Rows2 w' A' (L 0) (fun _ => L 0) (fun a b => wT (L 0) (mAll (rnV u (L 0) v) (L 0) n) (L 0) (5 * a + b)) ∧ Below w.heap.size w w' := by
  refine (Widths_ok A n cA L (rnV u (L 0) v) w h (okB_rn hok hu) hA).mono ?_
  rintro e w' ⟨x, rfl, hx, hb⟩
  obtain ⟨A', c', rfl, hr, -⟩ := hx.rows
  exact ⟨A', c', rfl, hr, hb⟩
theorem KemenyN (hok : okBal n L v = true) (hu : u < L 0) (h : RowsK w A n L (rnV u (L 0) v)) (hA : n ≤ cA) :
    Calls Try.prog 32 #[.slice A n cA] w fun e w' => ∃ g cap, e = .returned (.tuple #[.slice (some ⟨g, 0, none⟩) (L 0) cap, .int .i64 (disS n (mAll v (L 0) n) (rowF (kemL n (mAll v (L 0) n) (L 0))) (L 0)), .int .i64 0]) ∧ Below w.heap.size w w' := by
  refine (Kemeny_ok A n cA L (rnV u (L 0) v) w h (okB_rn hok hu) hA).mono ?_
  rintro e w' ⟨g, cap, rfl, -, -, -, hb⟩
  rw [kem_ren hu (ren_all hok hu)]
  exact ⟨g, cap, rfl, hb⟩
theorem BestN {t0 : Nat} (hok : okBal n L v = true) (hu : u < L 0) (h : RowsK w A n L (rnV u (L 0) v)) (hA : n ≤ cA) (hs : IsBst (mAll (rnV u (L 0) v) (L 0) n) (L 0) t0) :
    Lr 31 #[.slice A n cA] w (.tuple #[.int .i64 t0, .int .i64 0]) := Best_ok A n cA t0 L (rnV u (L 0) v) w h (okB_rn hok hu) hA hs
theorem AxisN (hok : okBal n L v = true) (hu : u < L 0) (h : RowsK w A n L (rnV u (L 0) v)) (hA : n ≤ cA) :
    Calls Try.prog 27 #[.slice A n cA] w fun e w' => (axF n L v (List.range (L 0)) ≠ none ∧ (∃ g, e = .returned (.tuple #[.slice (some ⟨g, 0, none⟩) (L 0) (L 0), .int .i64 0])) ∧ Below w.heap.size w w') ∨
      (axF n L v (List.range (L 0)) = none ∧ e = .returned (.tuple #[.slice none 0 0, .int .i64 4]) ∧ Below w.heap.size w w') := by
  refine (Axis_ok A n cA L (rnV u (L 0) v) w h (okB_rn hok hu) hA).mono ?_
  rintro e w' (⟨g, x, hx, rfl, -, -, hb⟩ | ⟨hx, rfl, hb⟩)
  · exact .inl ⟨ax_ren2 hok hu (by rw [hx]; simp), ⟨g, rfl⟩, hb⟩
  · refine .inr ⟨?_, rfl, hb⟩
    cases h0 : axF n L v (List.range (L 0)) with
    | none => rfl
    | some x => exact absurd hx (ax_ren1 hok hu (by rw [h0]; simp))
end
end Go.Proofs.Ytnobbklnnkpdfaa
