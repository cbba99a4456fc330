import Derived.Test.YtghkcdldkbencaaImp
import Derived.Test.YtghkcdldkbencaaDivs
namespace Go.Proofs.Ytghkcdldkbencaa
open Go.RowKit

/-- The i-th division is better than d. -/
def betP (n m : Nat) (v : Nat → Nat → Int) (d : Nat → Int) (i : Nat) : Bool := impB n (wrt v m (dg n m i)) (wrt v m d)

set_option maxHeartbeats 2000000 in
set_option maxRecDepth 1000000 in
theorem rbetter_any (A D : Option Addr) (n m c c' : Nat) (v : Nat → Nat → Int) (d : Nat → Int) (w : World) (h : Mat w A n m v) (hd : Ints w D m d) (hb : BdM n m v 100000) (hm : m ≤ 7) (hn : 0 < n) (hn4 : n ≤ 4) :
    Calls Try.prog 40 #[.slice A n c, .slice D m c'] w fun e w' => ∃ x fe, e = .returned (.tuple #[x, .int .i64 fe]) ∧ Below w.heap.size w w' ∧
      ((∃ i, i < n ^ m ∧ betP n m v d i = true ∧ NoneLt (betP n m v d) i ∧ OwnL w' w.heap.size x (lst m (dg n m i)) ∧ fe = 0) ∨ (NoneLt (betP n m v d) (n ^ m) ∧ x = .slice none 0 0 ∧ fe = 4)) := by
  obtain ⟨b, o, R, cR, rfl, -, -⟩ := h.at hn
  obtain ⟨R0, c0, hc0, -⟩ := h.cell0 hn
  have HM := Lib.hid h
  have HD := Lib.hid hd
  have HB := Lib.hid hb
  have hN : n ^ m ≤ 16384 := by
    have h1 : n ^ m ≤ 4 ^ m := Nat.pow_le_pow_left hn4 m
    have h2 : 4 ^ m ≤ 4 ^ 7 := Nat.pow_le_pow_right (by omega) (by omega)
    omega
  have HDv := Lib.hid (divs_any n hn hn4 m hm)
  obtain ⟨N, hNe⟩ : ∃ N, N = n ^ m := ⟨_, rfl⟩
  rw [← hNe] at hN
  have HNe := Lib.hid hNe
  clear h hd hb hNe
  go_enter Try.func40, Try.ntmps40
  go_wp2_with fail
  refine (HDv.out w).mono ?_
  rintro e w1 ⟨y, rfl, hy, hb1⟩
  rw [← HNe.out] at hy
  obtain ⟨Ay, cy, rfl, hrows, -⟩ := hy.rows
  have Hb1 := Lib.hid hb1
  have HRows := Lib.hid hrows
  have HY := Lib.hid hy
  clear hb1 hrows hy
  go_wp2_with fail
  go_loopw [16] (fun x wr => ∃ k : Nat, k ≤ N ∧ x = .int .i64 k ∧ NoneLt (betP n m v d) k ∧ Below w1.heap.size w1 wr) (fun x _ => N - (intOf x).toNat)
  case atStart => exact ⟨0, Nat.zero_le _, rfl, NoneLt.zero, Below.refl _ _⟩
  case round =>
    obtain ⟨k, hk, rfl, hN', hbel⟩ := hrel
    have HBel := Lib.hid (Hb1.out.trans (hbel.mono Hb1.out.size))
    have HB2 := Lib.hid hbel
    clear hbel
    by_cases hlt : k < N
    · obtain ⟨by_, oy, Rk, ck, rfl, hck, hIk⟩ := (HRows.out.keep HB2.out).at hlt
      have HIk := Lib.hid hIk
      clear hIk
      go_wp2_with fail
      refine (rbetter_is _ _ _ n m _ _ _ v (dg n m k) d _ (HM.out.keep HBel.out) HIk.out (HD.out.keep HBel.out) HB.out (by omega) (by omega)).mono ?_
      rintro e w2 ⟨rfl, hb2⟩
      have hbp : impB n (wrt v m (dg n m k)) (wrt v m d) = betP n m v d k := rfl
      rw [hbp]
      clear hbp
      have Hb2 := Lib.hid (HB2.out.trans (hb2.mono HB2.out.size))
      cases hp : betP n m v d k with
      | true =>
        have HP := Lib.hid hp
        have hX : ∃ x, OwnL w2 w.heap.size x (lst m (dg n m k)) ∧ x = .slice Rk m ck := by
          obtain ⟨vals, hvl, hown, hvals⟩ := HY.out
          have hkl : k < vals.length := by omega
          obtain ⟨rx, hx⟩ : ∃ rx, vals[k]? = some rx := ⟨_, List.getElem?_eq_getElem hkl⟩
          have hr := hvals k rx hx
          refine ⟨rx, hr.below Hb2.out, ?_⟩
          have hown' := ownsRow_below hown HB2.out
          rcases hown'.2 with ⟨e1, _⟩ | ⟨g, cap, cur, e1, _⟩
          · cases e1
          · injection e1 with e1 e2 e3
            injection e1 with e1
            injection e1 with e4 e5
            subst e4 e5 e3
            have := World.ownsRow.cellAt hown' k (by omega)
            rw [hx] at this
            rw [Nat.zero_add] at hck
            rw [hck] at this
            injection this with this
            exact this.symm
        obtain ⟨x, hx1, rfl⟩ := hX
        have HX := Lib.hid hx1
        have HF := Lib.hid (HBel.out.trans (hb2.mono HBel.out.size))
        clear hp hx1 hb2
        go_wp2
        go_ret2
        exact ⟨_, 0, rfl, HF.out, .inl ⟨k, by rw [← HNe.out]; exact hlt, HP.out, hN', HX.out, rfl⟩⟩
      | false =>
        have HP := Lib.hid hp
        clear hp hb2
        go_wp2
        go_roundw
        case rel => exact ⟨k + 1, by omega, by go_num, hN'.succ HP.out, Hb2.out⟩
        case measure => simp [intOf]; omega
    · obtain rfl : k = N := by omega
      go_wp2
      go_ret2
      exact ⟨_, 4, rfl, HBel.out, .inr ⟨by rw [← HNe.out]; exact hN', rfl, rfl⟩⟩
end Go.Proofs.Ytghkcdldkbencaa
