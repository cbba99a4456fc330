import Derived.Test.YtkgikehagkpmoaaCy5
import Derived.Deep.LoopGhost
namespace Go.Proofs.Ytkgikehagkpmoaa
open Go.RowKit

/-- What everybody has, in their own eyes. -/
def phi (n m : Nat) (v : Nat → Nat → Int) (D : Nat → Int) : Int := sumTo (fun i => wTo (v i) D (i : Int) m) n
theorem phi_bd {n m : Nat} {v : Nat → Nat → Int} (hb : BdM n m v 100) (hn : n ≤ 4) (hm : m ≤ 7) (D : Nat → Int) : 0 ≤ phi n m v D ∧ phi n m v D ≤ 2800 := by
  have h1 : ∀ i, i < n → 0 ≤ wTo (v i) D (i : Int) m ∧ wTo (v i) D (i : Int) m ≤ 700 := fun i hi => by
    obtain ⟨a, b⟩ := wTo_bd (hb i hi) D (i : Int) m (Nat.le_refl _)
    obtain ⟨c, d⟩ := sumTo_bd (hb i hi) m (Nat.le_refl _)
    omega
  have h2 := sumTo_bd (n := n) (f := fun i => wTo (v i) D (i : Int) m) (m := 700) h1 n (Nat.le_refl _)
  unfold phi
  omega
theorem sumTo_lt {a b : Nat → Int} {n i : Nat} (h : ∀ j, j < n → a j ≤ b j) (hi : i < n) (hl : a i < b i) : sumTo a n < sumTo b n := by
  induction n with
  | zero => omega
  | succ n ih =>
    have h1 := h n (by omega)
    simp only [sumTo]
    rcases Nat.lt_or_ge i n with hl2 | hl2
    · have := ih (fun j hj => h j (by omega)) hl2
      omega
    · obtain rfl : i = n := by omega
      have := sumTo_le (fun j hj => h j (by omega) : ∀ j, j < i → a j ≤ b j)
      omega
theorem own_up {n m : Nat} {v : Nat → Nat → Int} {D : Nat → Int} {C : List Nat} (h : Cyc (envE m v D) n C) {i : Nat} (hi : i < n) :
    wTo (v i) D (i : Int) m ≤ wTo (v i) (resF C D) (i : Int) m ∧ ((∃ a, a < C.length ∧ C.getD a 0 = i) → wTo (v i) D (i : Int) m < wTo (v i) (resF C D) (i : Int) m) := by
  obtain ⟨j, hj, e, h1, h2⟩ := h.from_ hi
  have hw : wTo (v i) (resF C D) (i : Int) m = wTo (v i) D (j : Int) m := by rw [← e]; exact wTo_res h (v i) D (j : Int) m
  rw [hw]
  constructor
  · rcases h1 with rfl | h1
    · exact Int.le_refl _
    · have := of_decide_eq_true h1
      omega
  · intro hx
    have := of_decide_eq_true (h2 hx)
    omega
theorem phi_up {n m : Nat} {v : Nat → Nat → Int} {D : Nat → Int} {C : List Nat} (h : Cyc (envE m v D) n C) : phi n m v D < phi n m v (resF C D) := by
  have two := h.two
  exact sumTo_lt (fun i hi => (own_up h hi).1) (h.lt 0 (by omega)) ((own_up h (h.lt 0 (by omega))).2 ⟨0, by omega, rfl⟩)
theorem envE_irr (m : Nat) (v : Nat → Nat → Int) (D : Nat → Int) (i : Nat) : envE m v D i i = false := by
  unfold envE envB
  exact decide_eq_false (by omega)
theorem calm_cases (n m : Nat) (v : Nat → Nat → Int) (D : Nat → Int) : (calmI n m v D n = -1 ∧ ∀ j, j < n → ∃ i, i < n ∧ envE m v D i j = true) ∨ ∃ j : Nat, j < n ∧ calmI n m v D n = (j : Int) ∧ envdB n m v D j = false := by
  have key : ∀ k, (calmI n m v D k = -1 ∧ ∀ j, j < k → envdB n m v D j = true) ∨ ∃ j : Nat, j < k ∧ calmI n m v D k = (j : Int) ∧ envdB n m v D j = false := by
    intro k
    induction k with
    | zero => exact .inl ⟨rfl, fun j hj => absurd hj (by omega)⟩
    | succ k ih =>
      rcases ih with ⟨e, h⟩ | ⟨j, hj, e, h⟩
      · cases hx : envdB n m v D k with
        | true => exact .inl ⟨by simp [calmI, e, hx], fun j hj => by
            rcases Nat.lt_or_ge j k with hl | hl
            · exact h j hl
            · obtain rfl : j = k := by omega
              exact hx⟩
        | false => exact .inr ⟨k, by omega, by simp [calmI, e, hx], hx⟩
      · exact .inr ⟨j, by omega, by simp only [calmI, e]; rw [if_neg (by omega)], h⟩
  rcases key n with ⟨e, h⟩ | h
  · exact .inl ⟨e, fun j hj => by
      obtain ⟨i, hi, he⟩ := (anyB_iff).1 (h j hj)
      exact ⟨i, hi, he⟩⟩
  · exact .inr h

set_option maxHeartbeats 1000000 in
set_option maxRecDepth 1000000 in
theorem nextOwner_any (w0 : World) (A : Option Addr) (n m c gd cd : Nat) (v : Nat → Nat → Int) (hM : Mat w0 A n m v) (hb : BdM n m v 100) (hm : m ≤ 7) (hn0 : 0 < n) (hn : n ≤ 4) (hgd : w0.heap.size ≤ gd)
    (Inv : (Nat → Int) → Prop) (hstep : ∀ D C, Inv D → Cyc (envE m v D) n C → Inv (resF C D)) (D : Nat → Int) (w : World) (hI : Inv D) (hR : RowI w gd m D) (hbel : Below w0.heap.size w0 w) :
    Calls Try.prog 40 #[.slice A n c, .slice (some ⟨gd, 0, none⟩) m cd] w fun e w' => ∃ (D' : Nat → Int) (j : Nat), e = .returned (.int .i64 j) ∧ j < n ∧ envdB n m v D' j = false ∧ Inv D' ∧ RowI w' gd m D' ∧ Exc gd w w' := by
  have HM := Lib.hid hM
  have HB := Lib.hid hb
  have HB5 := Lib.hid (hb.le (u' := 100000) (by omega))
  have HSt := Lib.hid hstep
  have HI := Lib.hid hI
  have HR := Lib.hid hR
  have Hbel := Lib.hid hbel
  have hph := phi_bd hb hn hm D
  obtain ⟨G, hG⟩ : ∃ G : Nat, (G : Int) = 2800 - phi n m v D := ⟨(2800 - phi n m v D).toNat, by omega⟩
  have HG := Lib.hid hG
  clear hM hb hstep hI hR hbel hph hG
  go_enter Try.func40, Try.ntmps40
  go_wp2_with fail
  go_loopg [5] G (fun gk _ wr => ∃ E : Nat → Int, (gk : Int) = 2800 - phi n m v E ∧ Inv E ∧ RowI wr gd m E ∧ Exc gd w wr)
  case atStart => exact ⟨D, HG.out, HI.out, HR.out, Exc.refl _ _⟩
  case round =>
    obtain ⟨E, hgk, hIE, hRE, hEx⟩ := hrel
    have HGk := Lib.hid hgk
    have HIE := Lib.hid hIE
    have HRE := Lib.hid hRE
    have HEx := Lib.hid hEx
    have hMw := HM.out.keep (Hbel.out.trans (hEx.below hgd Hbel.out.size))
    have HMw := Lib.hid hMw
    clear hgk hIE hRE hEx hMw
    go_wp2_with fail
    refine Ro.use (unenvied_any A _ n m c cd v E _ HMw.out HRE.out.ints HB5.out (by omega) (by omega)) ?_
    intro w2 hD2
    have HR2 := Lib.hid (HRE.out.dn hD2)
    have HM2 := Lib.hid (HMw.out.dn hD2)
    have HEx2 := Lib.hid (HEx.out.trans (Exc.of_below (hD2.below _)))
    clear hD2
    rcases calm_cases n m v E with ⟨hc, hall⟩ | ⟨j, hj, hc, hfree⟩
    · rw [hc]
      have HAll := Lib.hid hall
      clear hc hall
      go_wp2_with fail
      refine (shortest_any A _ n m c cd v E _ HM2.out HR2.out.ints HB5.out (by omega) hn0 (by omega)).mono ?_
      rintro e w3 ⟨x, rfl, hb3, hrep⟩
      have HR3 := Lib.hid (HR2.out.keep hb3)
      have HEx3 := Lib.hid (HEx2.out.trans (Exc.of_below hb3))
      have hgw := HR2.out.lt
      cases hsh : shC (envE m v E) n with
      | none => exact (shC_none (envE_irr m v E) hn0 HAll.out hsh).elim
      | some C =>
        rw [hsh] at hrep
        obtain ⟨b5, o5, c5, rfl, hI5, hB5⟩ := hrep
        obtain ⟨hcyc, hcl⟩ := shC_some hsh
        have HCyc := Lib.hid hcyc
        have HRes := Lib.hid (resolve_any gd m cd b5 o5 c5 C E w3 HR3.out hI5 (by omega) (by have := hcyc.two; omega) (by omega) (by omega))
        clear hsh hI5 hcyc hcl hb3
        go_wp2_with fail
        refine HRes.out.mono ?_
        rintro e w4 ⟨rfl, hR4, hE4⟩
        have HR4 := Lib.hid hR4
        have HE4 := Lib.hid (HEx3.out.trans hE4)
        have HI4 := Lib.hid (HSt.out E C HIE.out HCyc.out)
        have hup := phi_up HCyc.out
        have hb1 := phi_bd HB.out hn hm (resF C E)
        obtain ⟨g', hg'⟩ : ∃ g' : Nat, (g' : Int) = 2800 - phi n m v (resF C E) := ⟨(2800 - phi n m v (resF C E)).toNat, by omega⟩
        have HLt : Hid (g' < gk) := Lib.hid (by have := HGk.out; omega)
        have HG' := Lib.hid hg'
        clear hR4 hE4 hup hb1 hg'
        go_wp2
        go_roundg g'
        case rel => exact ⟨_, HG'.out, HI4.out, HR4.out, HE4.out⟩
        case measure => exact HLt.out
    · rw [hc]
      have hj1 := bne_t (a := (j : Int)) (b := -1) (by omega)
      have HF := Lib.hid hfree
      clear hc hfree
      go_wp2
      go_ret
      exact ⟨E, j, rfl, hj, HF.out, HIE.out, HR2.out, HEx2.out⟩
end Go.Proofs.Ytkgikehagkpmoaa
