import Derived.Test.YtghkcdldkbencaaImp
namespace Go.Proofs.Ytghkcdldkbencaa
open Go.RowKit

def betP' (n m : Nat) (v : Nat → Nat → Int) (d : Nat → Int) (i : Nat) : Bool := impB n (wrt v m (dg n m i)) (wrt v m d)

/-- The state of 'Better' at visit i. N: the heap's size at its call; block N the box of v, N + 1 what everybody had, N + 2 its box, N + 3 the box of what is found. -/
def BtBox (w0 : World) (A : Option Addr) (c n m : Nat) (v : Nat → Nat → Int) (d : Nat → Int) (w : World) : Prop :=
  Below w0.heap.size w0 w ∧ Box w w0.heap.size 22 (.slice A n c) ∧ RowI w (w0.heap.size + 1) n (wrt v m d) ∧ Box w (w0.heap.size + 2) 23 (.slice (some ⟨w0.heap.size + 1, 0, none⟩) n n)
def BtI (w0 : World) (A : Option Addr) (c n m : Nat) (v : Nat → Nat → Int) (d : Nat → Int) (i : Nat) (w : World) : Prop :=
  BtBox w0 A c n m v d w ∧ Box w (w0.heap.size + 3) 23 (.slice none 0 0) ∧ NoneLt (betP' n m v d) i
def BtS (w0 : World) (A : Option Addr) (c n m : Nat) (v : Nat → Nat → Int) (d : Nat → Int) (i : Nat) (w : World) : Prop :=
  Below w0.heap.size w0 w ∧ (∃ x, Box w (w0.heap.size + 3) 23 x ∧ OwnL w (w0.heap.size + 5) x (lst m (dg n m i)) ∧ x ≠ .slice none 0 0) ∧ NoneLt (betP' n m v d) i ∧ betP' n m v d i = true

theorem BtI.exc {w0 : World} {A : Option Addr} {c n m : Nat} {v : Nat → Nat → Int} {d : Nat → Int} {i : Nat} {w w' : World} (h : BtI w0 A c n m v d i w) (he : Exc (w0.heap.size + 4) w w') : BtI w0 A c n m v d i w' := by
  obtain ⟨⟨hb, h1, h2, h3⟩, h4, h5⟩ := h
  exact ⟨⟨hb.trans (he.below (by omega) hb.size), h1.exc he (by omega), he.row h2 (by omega), h3.exc he (by omega)⟩, h4.exc he (by omega), h5⟩

set_option maxHeartbeats 2000000 in
set_option maxRecDepth 1000000 in
theorem better1_any (w0 : World) (A : Option Addr) (c n m : Nat) (v : Nat → Nat → Int) (d : Nat → Int) (h : Mat w0 A n m v) (hb : BdM n m v 100) (hn : 0 < n) (hn4 : n ≤ 4) (hm : m ≤ 7) (hm0 : 0 < m) :
    Visits 73 #[.pointer (some ⟨w0.heap.size, 0, none⟩), .pointer (some ⟨w0.heap.size + 2, 0, none⟩), .pointer (some ⟨w0.heap.size + 3, 0, none⟩)] (w0.heap.size + 4) n m (BtI w0 A c n m v d) (BtS w0 A c n m v d) := by
  intro i w1 hi hI hR
  obtain ⟨⟨hbel, hB0, hRow, hB2⟩, hB3, hN⟩ := hI
  have q := fun (w : World) (a : Option Addr) (n c n' c' : Nat) => Lib.run_eql_slice_nil (P := Try.prog) w 23 3 a n c n' c' Try.underlying23
  have HH := Lib.hid (h.keep hbel)
  have HB := Lib.hid hb
  have HR := Lib.hid hR
  have c0 := hB0.cell
  have c2 := hB2.cell
  have H0 := Lib.hid hB0
  have H1 := Lib.hid hRow
  have H2 := Lib.hid hB2
  have H3 := Lib.hid hB3
  have HN := Lib.hid hN
  clear h hb hR hB0 hRow hB2 hB3 hN hi
  simp only [List.append_toArray, List.cons_append, List.nil_append]
  go_enter Try.func73, Try.ntmps73
  go_wp2_with fail
  go_region_with (first
    | (go_at_call 71; refine (ownWorths_any _ _ _ _ _ _ _ _ _ (HH.out.dn ⟨1, rfl⟩) (HR.out.dn ⟨1, rfl⟩).ints (HB.out.le (by omega)) (by omega) (by omega) (dg_own hn)).mono ?_; rintro e w2 ⟨rfl, hR2, hb2⟩; have c22 := (Box.keep (Box.drew H2.out) hb2).cell; have hr1 := RowI.keep (RowI.drew H1.out) hb2)
    | (go_at_call 74; refine Ro.use (improves_any _ _ n _ _ (wrt v m (dg n m i)) (wrt v m d) _ (RowI.ints hR2) (RowI.ints hr1) (by omega)) ?_; intro w3 hD3))
  all_goals
    have hd1 : Dn w1 w1.drew := ⟨1, rfl⟩
    have hbl : Below w1.heap.size w1 w3 := (hd1.below _).trans (hb2.trans (hD3.below _))
    have K0 := Lib.hid (H0.out.keep hbl)
    have K1 := Lib.hid (H1.out.keep hbl)
    have K2 := Lib.hid (H2.out.keep hbl)
    have K3 := Lib.hid (H3.out.keep hbl)
    have KR := Lib.hid (HR.out.keep hbl)
    have KB := Lib.hid hbl
    have k3 := K3.out.cell
    have k3f := K3.out.frozen
    have hbp : impB n (wrt v m (dg n m i)) (wrt v m d) = betP' n m v d i := rfl
    rw [hbp]
    clear c0 c2 c22 hR2 hr1 hb2 hD3 hd1 hbl hbp
    cases hp : betP' n m v d i with
    | false =>
      have HP := Lib.hid hp
      clear hp
      go_wp2
      go_ret
      exact ⟨true, rfl, KR.out, fun _ => ⟨⟨hbel.trans (KB.out.mono hbel.size), K0.out, K1.out, K2.out⟩, K3.out, HN.out.succ HP.out⟩, fun h => by cases h⟩
    | true =>
      have HP := Lib.hid hp
      clear hp
      go_wp2_with fail
      refine (clone_any _ m m (dg n m i) _ KR.out.ints (by omega)).mono ?_
      rintro e w4 ⟨vd, rfl, hvd, -, hb4⟩
      have J3 := (K3.out.keep hb4)
      have j3 := J3.cell
      have j3f := J3.frozen
      obtain ⟨ad, cd, rfl, -⟩ := hvd.sl hm0
      have HD := Lib.hid hvd
      have HJ3 := Lib.hid J3
      have Hb4 := Lib.hid hb4
      clear hvd J3 hb4 k3 k3f
      go_wp2
      go_ret
      refine ⟨false, rfl, (KR.out.keep Hb4.out).setOther (by show w0.heap.size + 4 ≠ w0.heap.size + 3; omega) _, (fun h => by cases h), fun _ => ⟨?_, ⟨_, HJ3.out.set _, ?_, by simp⟩, HN.out, HP.out⟩⟩
      · exact ((hbel.trans (KB.out.mono hbel.size)).trans (Hb4.out.mono (Nat.le_trans hbel.size KB.out.size))).setCell (by show w0.heap.size ≤ w0.heap.size + 3; omega) _
      · have := KR.out.lt
        exact (HD.out.rebase (by omega)).setBox HJ3.out (by decide) _
end Go.Proofs.Ytghkcdldkbencaa
