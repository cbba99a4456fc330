import Derived.Test.YtghkcdldkbencaaRef3
import Derived.Test.YtghkcdldkbencaaAwake
import Derived.Test.YtghkcdldkbencaaPairEq
import Derived.Test.YtghkcdldkbencaaOkFew
namespace Go.Proofs.Ytghkcdldkbencaa
open Go.RowKit

set_option maxRecDepth 1000000 in
theorem divided_any (A D : Option Addr) (n c nd cd : Nat) (L : Nat → Nat) (v : Nat → Nat → Int) (d : Nat → Int) (w : World) (h : ArgR w A n c L v) (hd : ArgI w D nd cd d) :
    Calls Try.prog 19 #[.slice A n c, .slice D nd cd] w fun e w' => e = .returned (.bool (okDiv n L v nd d)) ∧ w = w' := by
  cases ho : okVals n L v with
  | false =>
    have HO := Lib.hid ho
    have HE : Hid (okDiv n L v nd d = false) := Lib.hid (by simp [okDiv, ho])
    clear ho
    go_enter Try.func19, Try.ntmps19
    go_wp2_with fail
    refine (rvalid_any _ _ _ _ _ _ h).mono ?_
    rintro e w' ⟨rfl, rfl⟩
    rw [HO.out]
    go_wp2
    go_ret
    exact ⟨ret_bool HE.out.symm, rfl⟩
  | true =>
    obtain ⟨h1, h2, -⟩ := okVals_of ho
    have HO := Lib.hid ho
    have HE : Hid (okDiv n L v nd d = divB n nd L d) := Lib.hid (by simp only [okDiv, ho, Bool.true_and, divB])
    have HR := Lib.hid h.rows
    have HN : Hid (nd ≤ 9223372036854775807) := Lib.hid (Nat.le_trans hd.1 hd.2.1)
    clear ho
    go_enter Try.func19, Try.ntmps19
    go_wp2_with fail
    refine (rvalid_any _ _ _ _ _ _ h).mono ?_
    rintro e w' ⟨rfl, rfl⟩
    rw [HO.out]
    go_wp2_with fail
    refine (rdivision_any _ _ _ _ _ _ L v d _ HR.out h1 h2 hd.2.2.2 HN.out).mono ?_
    rintro e w' ⟨rfl, rfl⟩
    go_wp2
    go_ret
    exact ⟨ret_bool HE.out.symm, rfl⟩

theorem ownsRow_dn {w w' : World} {base size n : Nat} {e : TypeId} {x : Value} {xs : List Value} (h : w.ownsRow base e size x n xs) (hd : Dn w w') : w'.ownsRow base e size x n xs := by
  obtain ⟨q, rfl⟩ := hd
  exact h

/-- Two slices of pairs that hold the same. -/
theorem ownP_cell {w : World} {base g n cap : Nat} {xs : List (Int × Int)} (h : w.ownsRow base 35 2 (.slice (some ⟨g, 0, none⟩) n cap) n (cellsP xs)) (hn : n = xs.length) {k : Nat} (hk : k < n) :
    w.cell? ⟨g, k * 2, none⟩ = some (.int .i64 (xs.getD k (0, 0)).1) ∧ w.cell? ⟨g, k * 2 + 1, none⟩ = some (.int .i64 (xs.getD k (0, 0)).2) := by
  have key : ∀ (l : List (Int × Int)) (k : Nat), k < l.length → (cellsP l)[k * 2]? = some (.int .i64 (l.getD k (0, 0)).1) ∧ (cellsP l)[k * 2 + 1]? = some (.int .i64 (l.getD k (0, 0)).2) := by
    intro l
    induction l with
    | nil => intro k hk; simp at hk
    | cons x l ih =>
      intro k hk
      rcases k with _ | k
      · simp [cellsP]
      · have := ih k (by simpa using hk)
        simp only [cellsP, List.flatMap_cons] at this ⊢
        rw [show (k + 1) * 2 = k * 2 + 1 + 1 by omega]
        simpa using this
  have := key xs k (by omega)
  rw [World.ownsRow.cellAt h _ (by omega), World.ownsRow.cellAt h _ (by omega)]
  exact this

set_option maxHeartbeats 1000000 in
set_option maxRecDepth 1000000 in
theorem equalP_same (base : Nat) (x y : Value) (xs : List (Int × Int)) (w : World) (hx : OwnP w base x xs) (hy : OwnP w base y xs) (hn : xs.length ≤ 10000) :
    Ro 21 #[x, y] w (.bool true) := by
  refine Ro.of ?_
  rcases hx.2 with ⟨rfl, h0⟩ | ⟨g, cap, cur, rfl, hg, hh, hnc, hcm, hcs, ht⟩
  · rcases hy.2 with ⟨rfl, _⟩ | ⟨g', cap', cur', rfl, _⟩
    · have hB := bne_f (a := (0 : Int)) rfl
      go_enter Try.func21, Try.ntmps21
      go_wp2
      refine wp_loop_rounds 1 ?_
      rw [rounds_succ]
      go_wp2
      go_ret
      exact ⟨rfl, Dn.refl _⟩
    · rw [h0]
      have hB := bne_f (a := (0 : Int)) rfl
      go_enter Try.func21, Try.ntmps21
      go_wp2
      refine wp_loop_rounds 1 ?_
      rw [rounds_succ]
      go_wp2
      go_ret
      exact ⟨rfl, Dn.refl _⟩
  · rcases hy.2 with ⟨rfl, h0⟩ | ⟨g', cap', cur', rfl, hg', hh', hnc', hcm', hcs', ht'⟩
    · rw [h0]
      have hB := bne_f (a := (0 : Int)) rfl
      go_enter Try.func21, Try.ntmps21
      go_wp2
      refine wp_loop_rounds 1 ?_
      rw [rounds_succ]
      go_wp2
      go_ret
      exact ⟨rfl, Dn.refl _⟩
    · have HX := Lib.hid hx
      have HY := Lib.hid hy
      obtain ⟨n, hnn⟩ : ∃ n, n = xs.length := ⟨_, rfl⟩
      have HN := Lib.hid hnn
      rw [← hnn] at hn ⊢
      have hB := bne_f (a := (n : Int)) rfl
      clear hx hy hnn ht ht' hcs hcs' hnc hnc' hcm hcm' hh hh' hg hg'
      go_enter Try.func21, Try.ntmps21
      go_wp2
      go_loopw [13] (fun i wr => ∃ k : Nat, k ≤ n ∧ i = .int .i64 k ∧ Dn w wr) (fun i _ => n - (intOf i).toNat)
      case atStart => exact ⟨0, Nat.zero_le _, rfl, Dn.refl _⟩
      case round =>
        obtain ⟨k, hk, rfl, hD⟩ := hrel
        by_cases hlt : k < n
        · have hXw : wr.ownsRow base 35 2 (.slice (some ⟨g, 0, none⟩) n cap) n (cellsP xs) := by
            have h1 := HX.out
            unfold OwnP at h1
            rw [← HN.out] at h1
            exact ownsRow_dn h1 hD
          have hYw : wr.ownsRow base 35 2 (.slice (some ⟨g', 0, none⟩) n cap') n (cellsP xs) := by
            have h1 := HY.out
            unfold OwnP at h1
            rw [← HN.out] at h1
            exact ownsRow_dn h1 hD
          obtain ⟨x1, x2⟩ := ownP_cell hXw HN.out hlt
          obtain ⟨y1, y2⟩ := ownP_cell hYw HN.out hlt
          clear hXw hYw
          generalize (xs.getD k (0, 0)).1 = p at *
          generalize (xs.getD k (0, 0)).2 = q at *
          have hpq : ∀ W, (binOp .neq 35 (.agg #[.int .i64 p, .int .i64 q]) (.agg #[.int .i64 p, .int .i64 q])).run Try.prog W = .ok (.bool false) W := fun W => by rw [pair_neq]; simp
          go_wp2
          go_quiet (fail)
          go_wp2
          go_roundw
          case rel => exact ⟨k + 1, by omega, by go_num, hD.drewN _⟩
          case measure => simp [intOf]; omega
        · obtain rfl : k = n := by omega
          go_wp2
          go_ret
          exact ⟨rfl, hD⟩
end Go.Proofs.Ytghkcdldkbencaa
