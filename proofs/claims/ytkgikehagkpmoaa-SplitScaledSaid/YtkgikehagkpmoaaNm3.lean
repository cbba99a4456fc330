import Derived.Test.YtkgikehagkpmoaaNm2
import Derived.Test.YtkgikehagkpmoaaPairEq
namespace Go.Proofs.Ytkgikehagkpmoaa
open Go.RowKit

theorem ownP_cell {w : World} {base g n cap : Nat} {xs : List (Int × Int)} (h : w.ownsRow base 45 2 (.slice (some ⟨g, 0, none⟩) n cap) n (cellsP xs)) (hn : n = xs.length) {k : Nat} (hk : k < n) :
    w.cell? ⟨g, k * 2, none⟩ = some (.int .i64 (xs.getD k (0, 0)).1) ∧ w.cell? ⟨g, k * 2 + 1, none⟩ = some (.int .i64 (xs.getD k (0, 0)).2) := by
  have key : ∀ (l : List (Int × Int)) (k : Nat), k < l.length → (cellsP l)[k * 2]? = some (.int .i64 (l.getD k (0, 0)).1) ∧ (cellsP l)[k * 2 + 1]? = some (.int .i64 (l.getD k (0, 0)).2) := by
    intro l
    induction l with
    | nil => intro k hk; simp at hk
    | cons x l ih =>
      intro k hk
      rcases k with _ | k
      · simp [cellsP]
      · have := ih k (by simpa using hk)
        simp only [cellsP, List.flatMap_cons] at this ⊢
        rw [show (k + 1) * 2 = k * 2 + 1 + 1 by omega]
        simpa using this
  have := key xs k (by omega)
  rw [World.ownsRow.cellAt h _ (by omega), World.ownsRow.cellAt h _ (by omega)]
  exact this


/-- A slice of pairs that is read. -/
def Prs (w : World) (A : Option Addr) (xs : List (Int × Int)) : Prop := 0 < xs.length → ∃ b, A = some ⟨b, 0, none⟩ ∧ ∀ k, k < xs.length → w.cell? ⟨b, k * 2, none⟩ = some (.int .i64 (xs.getD k (0, 0)).1) ∧ w.cell? ⟨b, k * 2 + 1, none⟩ = some (.int .i64 (xs.getD k (0, 0)).2)
theorem Prs.keep {w w' : World} {A : Option Addr} {xs : List (Int × Int)} (h : Prs w A xs) (hb : Below w.heap.size w w') : Prs w' A xs := fun hn => by
  obtain ⟨b, hA, hc⟩ := h hn
  exact ⟨b, hA, fun k hk => ⟨(hb.cell (World.block_lt_of_cell? _ _ (hc k hk).1)).trans (hc k hk).1, (hb.cell (World.block_lt_of_cell? _ _ (hc k hk).2)).trans (hc k hk).2⟩⟩
theorem Prs.dn {w w' : World} {A : Option Addr} {xs : List (Int × Int)} (h : Prs w A xs) (hd : Dn w w') : Prs w' A xs := h.keep (hd.below _)
theorem OwnP.prs {w : World} {base : Nat} {v : Value} {xs : List (Int × Int)} (h : OwnP w base v xs) : ∃ A c, v = .slice A xs.length c ∧ Prs w A xs := by
  rcases h.2 with ⟨rfl, h0⟩ | ⟨g, cap, cur, rfl, -⟩
  · exact ⟨none, 0, by rw [h0], fun hn => absurd hn (by omega)⟩
  · exact ⟨_, cap, rfl, fun _ => ⟨g, rfl, fun k hk => ownP_cell (n := xs.length) h rfl hk⟩⟩

set_option maxHeartbeats 1000000 in
set_option maxRecDepth 1000000 in
theorem pindex_any (A : Option Addr) (c : Nat) (xs : List (Int × Int)) (p q : Int) (w : World) (h : Prs w A xs) (hn : xs.length ≤ 1000) (hm : (p, q) ∈ xs) :
    Calls Try.prog 61 #[.slice A xs.length c, .agg #[.int .i64 p, .int .i64 q]] w fun e w' => ∃ k : Nat, e = .returned (.int .i64 k) ∧ k < 1000 ∧ Below w.heap.size w w' := by
  have hl : 0 < xs.length := List.length_pos_of_mem hm
  obtain ⟨b, rfl, hc⟩ := h hl
  obtain ⟨k0, hk0, e0⟩ : ∃ k0, k0 < xs.length ∧ xs.getD k0 (0, 0) = (p, q) := by
    obtain ⟨i, hi, e⟩ := List.mem_iff_getElem.1 hm
    exact ⟨i, hi, by rw [List.getD_eq_getElem?_getD, List.getElem?_eq_getElem hi, Option.getD_some, e]⟩
  obtain ⟨n, hnn⟩ : ∃ n, n = xs.length := ⟨_, rfl⟩
  rw [← hnn] at hn hk0 hl ⊢
  have HC : Hid (∀ k, k < n → w.cell? ⟨b, k * 2, none⟩ = some (.int .i64 (xs.getD k (0, 0)).1) ∧ w.cell? ⟨b, k * 2 + 1, none⟩ = some (.int .i64 (xs.getD k (0, 0)).2)) := Lib.hid (by rw [hnn]; exact hc)
  have HE0 := Lib.hid e0
  clear h hm hc hnn e0
  go_enter Try.func61, Try.ntmps61
  go_wp2_with fail
  obtain ⟨wi, hwi⟩ : ∃ wi : World, wi = w.alloc (.cells #[.int .i64 p, .int .i64 q] 45) := ⟨_, rfl⟩
  rw [← hwi]
  have hb1 : Below w.heap.size w wi := by rw [hwi]; exact (Below.refl _ _).alloc (Nat.le_refl _) _
  have hp0 : wi.cell? ⟨w.heap.size, 0, none⟩ = some (.int .i64 p) := by rw [hwi]; simp [World.cell?_alloc_at]
  have hp1 : wi.cell? ⟨w.heap.size, 1, none⟩ = some (.int .i64 q) := by rw [hwi]; simp [World.cell?_alloc_at]
  have HW := Lib.hid hwi
  have HB1 := Lib.hid hb1
  have HP0 := Lib.hid hp0
  have HP1 := Lib.hid hp1
  clear hwi hb1 hp0 hp1
  go_loopw [8] (fun i wr => ∃ k : Nat, k ≤ n ∧ i = .int .i64 k ∧ Dn wi wr ∧ ∀ j, j < k → xs.getD j (0, 0) ≠ (p, q)) (fun i _ => n - (intOf i).toNat)
  case atStart => exact ⟨0, Nat.zero_le _, rfl, Dn.refl _, fun j hj => absurd hj (by omega)⟩
  case round =>
    obtain ⟨k, hk, rfl, hD, hne⟩ := hrel
    by_cases hlt : k < n
    · have hbr := HB1.out.trans ((hD.below _).mono HB1.out.size)
      have hc := HC.out k hlt
      have x1 := (hbr.cell (World.block_lt_of_cell? _ _ hc.1)).trans hc.1
      have x2 := (hbr.cell (World.block_lt_of_cell? _ _ hc.2)).trans hc.2
      have y1 := ((hD.below wi.heap.size).cell (World.block_lt_of_cell? _ _ HP0.out)).trans HP0.out
      have y2 := ((hD.below wi.heap.size).cell (World.block_lt_of_cell? _ _ HP1.out)).trans HP1.out
      have hk0 : (0 : Int) ≤ k := by omega
      have hkn : (k : Int) < n := by omega
      have HNe := Lib.hid hne
      clear hc hne hbr
      by_cases he : xs.getD k (0, 0) = (p, q)
      · rw [he] at x1 x2
        have hpq : ∀ W, (binOp .eql 45 (.agg #[.int .i64 p, .int .i64 q]) (.agg #[.int .i64 p, .int .i64 q])).run Try.prog W = .ok (.bool true) W := fun W => by rw [pair_eql]; simp
        clear he
        go_wp2_with fail
        go_quiet (fail)
        go_wp2
        go_ret
        exact ⟨k, rfl, by omega, (HB1.out.trans ((hD.below _).mono HB1.out.size)).trans (Dn.below ⟨_, rfl⟩ _)⟩
      · have HNe2 : Hid (∀ j, j < k + 1 → xs.getD j (0, 0) ≠ (p, q)) := Lib.hid (fun j hj => by
          rcases Nat.lt_or_ge j k with h | h
          · exact HNe.out j h
          · obtain rfl : j = k := by omega
            exact he)
        have hq : (p == (xs.getD k (0, 0)).1 && q == (xs.getD k (0, 0)).2) = false := by
          rw [Bool.eq_false_iff]
          intro h
          simp only [Bool.and_eq_true, beq_iff_eq] at h
          exact he (by rw [h.1, h.2])
        have hpq : ∀ W, (binOp .eql 45 (.agg #[.int .i64 p, .int .i64 q]) (.agg #[.int .i64 (xs.getD k (0, 0)).1, .int .i64 (xs.getD k (0, 0)).2])).run Try.prog W = .ok (.bool false) W := fun W => by rw [pair_eql, hq]
        clear he hq
        generalize (xs.getD k (0, 0)).1 = p' at *
        generalize (xs.getD k (0, 0)).2 = q' at *
        go_wp2_with fail
        go_quiet (fail)
        go_wp2
        go_roundw
        case rel => exact ⟨k + 1, by omega, by go_num, hD.drewN _, HNe2.out⟩
        case measure => simp [intOf]; omega
    · exact absurd HE0.out (hne k0 (by omega))
set_option maxRecDepth 1000000 in
theorem pcontains_any (A : Option Addr) (c : Nat) (xs : List (Int × Int)) (p q : Int) (w : World) (h : Prs w A xs) (hn : xs.length ≤ 1000) (hm : (p, q) ∈ xs) :
    Calls Try.prog 35 #[.slice A xs.length c, .agg #[.int .i64 p, .int .i64 q]] w fun e w' => e = .returned (.bool true) ∧ Below w.heap.size w w' := by
  have hb1 : Below w.heap.size w (w.alloc (.cells #[.int .i64 p, .int .i64 q] 45)) := (Below.refl _ _).alloc (Nat.le_refl _) _
  have HX := Lib.hid (pindex_any A c xs p q _ (h.keep hb1) hn hm)
  have HB1 := Lib.hid hb1
  clear h hm hb1
  go_enter Try.func35, Try.ntmps35
  go_wp2_with fail
  refine HX.out.mono ?_
  rintro e w2 ⟨k, rfl, hk, hb2⟩
  have HB2 := Lib.hid (HB1.out.trans (hb2.mono HB1.out.size))
  clear hb2
  have hk0 : (0 : Int) ≤ k := by omega
  go_wp2
  go_ret
  exact ⟨rfl, HB2.out⟩
end Go.Proofs.Ytkgikehagkpmoaa
