/- A ballot that is changed; Axis of what Few leaves. -/
import Derived.Test.YtjomkbdelgnkcaaAz2
import Derived.Test.YtjomkbdelgnkcaaBl
import Derived.Test.YtjomkbdelgnkcaaWi
import Derived.Test.YtjomkbdelgnkcaaRv
import Derived.Test.YtjomkbdelgnkcaaMj
import Derived.Test.YtjomkbdelgnkcaaLv
namespace Go.Proofs.Ytjomkbdelgnkcaa
open Go.RowKit

theorem OwnS.put {w : World} {base n : Nat} {x : Value} {L : Nat → Nat} {v : Nat → Nat → Int} (h : OwnS w base x n L v) {p : Nat} (hp : p < n) {y : Value} {m : Nat} {f : Nat → Int} (hy : OwnL w base y (lst m f)) :
    ∃ (G c : Nat) (z : Value), x = .slice (some ⟨G, 0, none⟩) n c ∧ w.cell? ⟨G, p, none⟩ = some z ∧ w.frozen? ⟨G, p, none⟩ = false ∧ base ≤ G ∧ n ≤ c ∧ OwnR (w.setCell ⟨G, p, none⟩ y) base x n (fun i => if i = p then m else L i) (fun i => if i = p then f else v i) := by
  obtain ⟨vals, hl, hown, hv, -⟩ := h
  have hown0 := hown
  rcases hown0.2 with ⟨-, h0⟩ | ⟨G, c, cur, rfl, hb, -, hnc, -⟩
  · omega
  have hc := World.ownsRow.cellAt hown p (by omega)
  obtain ⟨hst, hg⟩ := World.ownsRow.stored hown p y
  refine ⟨G, c, _, rfl, by rw [hc]; exact List.getElem?_eq_getElem (by omega), World.ownsRow.frozenAt hown p, hb, hnc, vals.set p y, by simp [hl], hst, fun i z hz => ?_⟩
  by_cases e : i = p
  · subst e
    rw [List.getElem?_set_self (by omega)] at hz
    injection hz with hz
    subst hz
    simp only [if_true]
    exact World.ownsRow.kept hy hg (own_other hy hown (by decide))
  · rw [List.getElem?_set_ne (fun h => e h.symm)] at hz
    simp only [if_neg e]
    exact World.ownsRow.kept (hv i z hz) hg (own_other (hv i z hz) hown (by decide))
theorem OwnR.argn {w : World} {base n c : Nat} {A : Option Addr} {L : Nat → Nat} {v : Nat → Nat → Int} (h : OwnR w base (.slice A n c) n L v) (hn : n ≤ 17592186044416) : ArgR w A n n L v := by
  obtain ⟨vals, hl, hown, hv⟩ := h
  have hown0 := hown
  rcases hown0.2 with ⟨e, h0⟩ | ⟨G, c', cur, e, hb, -, hnc, -⟩
  · exact ⟨Nat.le_refl _, hn, fun _ => h0, fun h => absurd h (by omega)⟩
  · injection e with e1 e2 e3
    subst e1
    refine ⟨Nat.le_refl _, hn, (fun e => by cases e), fun _ => ⟨G, 0, rfl, fun i hi => ?_⟩⟩
    obtain ⟨r, hr⟩ : ∃ r, vals[i]? = some r := ⟨_, List.getElem?_eq_getElem (by omega)⟩
    have hc := World.ownsRow.cellAt hown i (by omega)
    rw [hr] at hc
    have hrow := hv i r hr
    rcases hrow.2 with ⟨rfl, h0⟩ | ⟨blk, cap, cur2, rfl, hbb, hh, hnc2, hcm2, -⟩
    · rw [lst_len] at h0
      refine ⟨none, 0, by rw [Nat.zero_add, hc, h0], by omega, by unfold maxLen; omega, fun _ => rfl, by rw [h0]; exact Ints.zero⟩
    · obtain ⟨A', cA, e4, hI⟩ := OwnL.sl0 hrow
      injection e4 with e4 e5 e6
      rw [lst_len] at hc hnc2
      exact ⟨_, cap, by rw [Nat.zero_add]; exact hc, hnc2, hcm2, (fun e => by cases e), by rw [e4]; exact hI⟩
theorem pkB_few {n : Nat} {L : Nat → Nat} {v : Nat → Nat → Int} (hok : okBal n L v = true) (o : Nat → Int) (c : Nat) : pkB (min n 11) (fun i => min (L i) 11) v o c = pkB n L v o c := by
  obtain ⟨e1, e2, e3⟩ := bal_few hok
  rw [e1]
  exact allB_congr (fun k _ => allB_congr (fun x _ => allB_congr (fun q _ => allB_congr (fun i hi => by simp only [e3 i hi]))))
theorem axF_few {n : Nat} {L : Nat → Nat} {v : Nat → Nat → Int} (hok : okBal n L v = true) (T : List Nat) : axF (min n 11) (fun i => min (L i) 11) v T = axF n L v T := by
  unfold axF
  congr 1
  funext x
  exact pkB_few hok _ _
theorem axF_some {n : Nat} {L : Nat → Nat} {v : Nat → Nat → Int} {c : Nat} {x : List Nat} (h : axF n L v (List.range c) = some x) : Ord c (rowF x) ∧ pkB n L v (rowF x) c = true := by
  unfold axF at h
  rw [List.length_range] at h
  have h1 := List.find?_some h
  have h2 := List.mem_of_find?_eq_some h
  exact ⟨(ord_of_mem h2).2, h1⟩
theorem AxisF {n : Nat} {L : Nat → Nat} {v : Nat → Nat → Int} {A : Option Addr} {k cA : Nat} {w : World} (h : RowsK w A k (fun i => min (L i) 11) v) (hk : k = min n 11) (hA : k ≤ cA) (hok : okBal n L v = true) :
    Calls Try.prog 6 #[.slice A k cA] w fun e w' => (∃ g x, axF n L v (List.range (L 0)) = some x ∧ e = .returned (.tuple #[.slice (some ⟨g, 0, none⟩) (L 0) (L 0), .int .i64 0]) ∧ w.heap.size ≤ g ∧ RowI w' g (L 0) (rowF x) ∧ Below w.heap.size w w') ∨
      (axF n L v (List.range (L 0)) = none ∧ e = .returned (.tuple #[.slice none 0 0, .int .i64 4]) ∧ Below w.heap.size w w') := by
  subst hk
  obtain ⟨e1, e2, e3⟩ := bal_few hok
  have := Axis_ok A (min n 11) cA (fun i => min (L i) 11) v w h (by rw [okBal_few]; exact hok) hA
  simp only [axF_few hok, e2] at this
  exact this
theorem AxisFbad {n : Nat} {L : Nat → Nat} {v : Nat → Nat → Int} {A : Option Addr} {k cA : Nat} {w : World} (h : RowsK w A k (fun i => min (L i) 11) v) (hk : k = min n 11) (hok : okBal n L v = false) :
    Lr 6 #[.slice A k cA] w (.tuple #[.slice none 0 0, .int .i64 2]) := by
  subst hk
  exact Axis_bad A (min n 11) cA (fun i => min (L i) 11) v w h (by rw [okBal_few]; exact hok) (by omega) (fun i hi => by show min (L i) 11 ≤ 1000; omega)
/-- The middle wins by paths. -/
theorem mid_wins {n c m : Nat} {L : Nat → Nat} {v : Nat → Nat → Int} {o : Nat → Int} (hok : okBal n L v = true) (hc : c = L 0) (ho : Ord c o) (hp : pkB n L v o c = true) (hm : IsMid n c v o m) :
    (o m).toNat < c ∧ strB (wT c (mAll v c n) c) c (o m).toNat = true ∧ ∀ a, a < (o m).toNat → strB (wT c (mAll v c n) c) c a = false := by
  subst hc
  obtain ⟨⟨hn1, hn9⟩, ⟨hc1, hc5⟩, hO⟩ := okBal_iff.1 hok
  have r1 := ho.rng m hm.1
  have hlt : (o m).toNat < L 0 := by omega
  have hb : ∀ b, b < L 0 → b ≠ (o m).toNat → 0 < mAll v (L 0) n (5 * (o m).toNat + b) := fun b hb hne => by
    rw [mAll_at hc5 hlt hb n (fun i hi => (hO i hi).2)]
    exact mid_beats hc1 ho hO hp hm hb hne
  have hcls := wT_cls (T := mAll v (L 0) n) hc5 (mAll_dia hok) (L 0) (Nat.le_refl _)
  obtain ⟨k0, hk0, hst, hno⟩ := str_exists hc1 hcls
  have e := mj_win hc5 (mAll_dia hok) (mAll_anti hok) hlt hb hk0 hst
  subst e
  exact ⟨hlt, hst, hno⟩
/-- The middle is first everywhere. -/
theorem mid_first {n c m : Nat} {L : Nat → Nat} {v : Nat → Nat → Int} {o : Nat → Int} (hok : okBal n L v = true) (hc : c = L 0) (ho : Ord c o) (hp : pkB n L v o c = true) (hm : IsMid n c v o m) :
    IsBst (mAll v c n) c (2 ^ (o m).toNat) ∧ rowF (kemL n (mAll v c n) c) 0 = o m := by
  subst hc
  obtain ⟨⟨hn1, hn9⟩, ⟨hc1, hc5⟩, hO⟩ := okBal_iff.1 hok
  have r1 := ho.rng m hm.1
  have hlt : (o m).toNat < L 0 := by omega
  have hb : ∀ b, b < L 0 → b ≠ (o m).toNat → 0 < mAll v (L 0) n (5 * (o m).toNat + b) := fun b hb hne => by
    rw [mAll_at hc5 hlt hb n (fun i hi => (hO i hi).2)]
    exact mid_beats hc1 ho hO hp hm hb hne
  obtain ⟨s0, hs0⟩ := bst_exists (T := mAll v (L 0) n) hc1 hc5
  have e := mj_best hc5 (mAll_anti hok) hlt hb hs0
  subst e
  have e2 := mj_first (n := n) hc5 (mAll_anti hok) (fun a b ha hb => by
    rw [mAll_at hc5 ha hb n (fun i hi => (hO i hi).2)]
    exact mrg_bd v (L 0) a b n) hlt hb
  exact ⟨hs0, by omega⟩
end Go.Proofs.Ytjomkbdelgnkcaa
