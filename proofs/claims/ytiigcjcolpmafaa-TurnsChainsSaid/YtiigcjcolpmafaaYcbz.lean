/- Rows of bools; slices.Contains of bools where all are true; another list of a shift in a plan in memory. -/
import Derived.Test.YtiigcjcolpmafaaYL
import Derived.Test.YtiigcjcolpmafaaYD
import Derived.Test.YtiigcjcolpmafaaSbz
import Derived.Test.YtiigcjcolpmafaaYK
namespace Go.Proofs.Ytiigcjcolpmafaa
open Go.RowKit

theorem infoBool : (Try.prog.info? 4).map (fun i => (i.zero, i.size, i.bytes)) = some (some (.bool false), 1, 1) := by kernel_rfl
/-- Block g is a row of n bools. -/
def RowB (w : World) (g n : Nat) (f : Nat → Bool) : Prop := w.rowIs g 4 n (fun i => .bool (f i))
def updB (f : Nat → Bool) (i : Nat) (x : Bool) : Nat → Bool := fun j => if j = i then x else f j
section
variable {w w' : World} {g n : Nat} {f : Nat → Bool}
theorem RowB.cell (h : RowB w g n f) {i : Nat} (hi : i < n) : w.cell? ⟨g, i, none⟩ = some (.bool (f i)) := World.rowIs.cell h hi
theorem RowB.frozen (h : RowB w g n f) (i : Nat) : w.frozen? ⟨g, i, none⟩ = false := World.rowIs.frozen h i
theorem RowB.lt (h : RowB w g n f) : g < w.heap.size := World.rowIs.lt h
theorem RowB.set (h : RowB w g n f) (i : Nat) (x : Bool) : RowB (w.setCell ⟨g, i, none⟩ (.bool x)) g n (updB f i x) :=
  World.rowIs.congr (World.rowIs.set h i (.bool x)) (fun j _ => by by_cases e : j = i <;> simp [updB, e])
theorem RowB.keep (h : RowB w g n f) (hb : Below w.heap.size w w') : RowB w' g n f := World.rowIs.of_block h (hb.block g h.lt)
theorem RowB.far (h : RowB w g n f) {a : Addr} (ha : g ≠ a.block) (v : Value) : RowB (w.setCell a v) g n f := World.rowIs.setOther h ha v
theorem RowB.dn (h : RowB w g n f) (hd : Dn w w') : RowB w' g n f := by
  obtain ⟨m, rfl⟩ := hd
  exact h
end
theorem RowB.made (w : World) (n : Nat) : RowB (w.alloc (.cells (madeCells #[.bool false] n) 4)) w.heap.size n (fun _ => false) := World.rowIs_made w _ n _
theorem mk_bools (n : Nat) (hn : n ≤ 100000) (w : World) :
    (Instr.makeSlice 41 (.int .i64 (n : Int)) (.int .i64 (n : Int))).run Try.prog w = .ok (.slice (some ⟨w.heap.size, 0, none⟩) n n) (w.alloc (.cells (madeCells #[.bool false] n) 4)) := by
  obtain ⟨i0, hi, hz0, hz1, hz2⟩ := info_parts infoBool
  have := run_make_rowN (P := Try.prog) 41 4 i0 (.bool false) Try.underlying41 hi hz0 .i64 .i64 n n (Nat.le_refl _) (by rw [hz2]; omega) (by omega) w
  rw [hz1, Nat.mul_one] at this
  exact this
set_option maxHeartbeats 1000000 in
set_option maxRecDepth 1000000 in
theorem indexB_all (g n : Nat) (F : Nat → Bool) (w : World) (h : RowB w g n F) (hall : ∀ j, j < n → F j = true) (hn : n ≤ 100000) :
    Calls Try.prog 60 #[.slice (some ⟨g, 0, none⟩) n n, .bool false] w fun e w' => e = .returned (.int .i64 (-1)) ∧ w = w' := by
  have H := Lib.hid h
  have HA := Lib.hid hall
  clear h hall
  go_enter Try.func60, Try.ntmps60
  go_wp2
  go_loop [8] (fun i => ∃ k : Nat, k ≤ n ∧ i = .int .i64 k) (fun i => n - (intOf i).toNat)
  case atStart => exact ⟨0, Nat.zero_le _, rfl⟩
  case round =>
    obtain ⟨k, hk, rfl⟩ := hrel
    by_cases hlt : k < n
    · have hc := H.out.cell hlt
      rw [HA.out k hlt] at hc
      have hki : (k : Int) < n := by omega
      go_wp2
      go_round
      case rel => exact ⟨k + 1, by omega, by go_num⟩
      case measure => simp [intOf]; omega
    · obtain rfl : n = k := by omega
      go_wp2
      go_ret
      exact ⟨rfl, rfl⟩
set_option maxHeartbeats 1000000 in
set_option maxRecDepth 1000000 in
theorem containsB_all (g n : Nat) (F : Nat → Bool) (w : World) (h : RowB w g n F) (hall : ∀ j, j < n → F j = true) (hn : n ≤ 100000) :
    Ro 27 #[.slice (some ⟨g, 0, none⟩) n n, .bool false] w (.bool false) := by
  refine Ro.of ?_
  have H := Lib.hid (indexB_all g n F w h hall hn)
  clear h hall
  go_enter Try.func27, Try.ntmps27
  go_wp2_with fail
  refine H.out.mono ?_
  rintro e w' ⟨rfl, rfl⟩
  go_wp2
  go_ret
  exact ⟨rfl, Dn.refl _⟩
/-- Shift s's list is another one now. -/
theorem PlanIn.putS {w : World} {AH AP A : Option Addr} {b L c s : Nat} {f : Nat → Int} {p : PlanD} (hp : PlanIn w AH (some ⟨b, 0, none⟩) AP p) (hs : s < p.nS) (hH : ∀ b' o', AH = some ⟨b', o', none⟩ → b' ≠ b) (hI : Ints w A L f) (hLc : L ≤ c) (hL : L ≤ 9) : PlanIn (w.setCell ⟨b, s, none⟩ (.slice A L c)) AH (some ⟨b, 0, none⟩) AP (setS p s L f) := by
  obtain ⟨b0, o0, A0, c0, e0, hc0, -, -⟩ := hp.shifts.at hs
  injection e0 with e0
  injection e0 with e1 e2
  subst e1 e2
  rw [Nat.zero_add] at hc0
  refine ⟨fun hn => ?_, fun hn => ⟨b, 0, rfl, fun i hi => ?_⟩, hp.places.setS hc0 _, hp.nH9, hp.nS9, hp.nP9, hp.sH, fun i hi => ?_⟩
  · obtain ⟨b1, o1, e1, hc1⟩ := hp.hands hn
    refine ⟨b1, o1, e1, fun i hi => ?_⟩
    obtain ⟨A1, c1, k1, k2, k3⟩ := hc1 i hi
    refine ⟨A1, c1, ?_, k2, k3.setS hc0 _⟩
    rw [World.cell?_setCell_far _ _ _ _ (fun e2 => hH b1 o1 e1 e2.symm)]
    exact k1
  · by_cases e : i = s
    · subst e
      rw [setS_Ls, setS_vs, Nat.zero_add]
      exact ⟨A, c, World.cell?_setCell_same _ _ _ hc0, hLc, hI.setS hc0 _⟩
    · obtain ⟨b1, o1, A1, c1, e1, hc1, h1, h2⟩ := hp.shifts.at hi
      injection e1 with e1
      injection e1 with e3 e4
      subst e3 e4
      rw [setS_L e, setS_v e]
      refine ⟨A1, c1, ?_, h1, h2.setS hc0 _⟩
      rw [World.cell?_setCell_other w _ _ _ (fun e2 => e (by injection e2 with _ e3 _; omega))]
      exact hc1
  · by_cases e : i = s
    · subst e
      rw [setS_Ls]
      exact hL
    · rw [setS_L e]
      exact hp.sS i hi
theorem prRow_mem {B : Nat → Nat → Bool} {i : Nat} {x : Int × Int} : ∀ {n : Nat}, x ∈ prRow B i n ↔ ∃ j, j < n ∧ B i j = true ∧ x = ((i : Int), (j : Int)) := by
  intro n
  induction n with
  | zero => simp [prRow]
  | succ n ih =>
    simp only [prRow]
    by_cases e : B i n = true
    · rw [if_pos e, List.mem_append, ih, List.mem_singleton]
      constructor
      · rintro (⟨j, h1, h2, h3⟩ | h)
        · exact ⟨j, by omega, h2, h3⟩
        · exact ⟨n, by omega, e, h⟩
      · rintro ⟨j, h1, h2, h3⟩
        rcases Nat.lt_succ_iff_lt_or_eq.1 h1 with g | g
        · exact .inl ⟨j, g, h2, h3⟩
        · subst g; exact .inr h3
    · rw [if_neg e, ih]
      constructor
      · rintro ⟨j, h1, h2, h3⟩
        exact ⟨j, by omega, h2, h3⟩
      · rintro ⟨j, h1, h2, h3⟩
        rcases Nat.lt_succ_iff_lt_or_eq.1 h1 with g | g
        · exact ⟨j, g, h2, h3⟩
        · subst g; exact absurd h2 e
theorem prAll_mem {B : Nat → Nat → Bool} {n : Nat} {x : Int × Int} : ∀ {k : Nat}, x ∈ prAll B n k ↔ ∃ i j, i < k ∧ j < n ∧ B i j = true ∧ x = ((i : Int), (j : Int)) := by
  intro k
  induction k with
  | zero => simp [prAll]
  | succ k ih =>
    simp only [prAll, List.mem_append, ih, prRow_mem]
    constructor
    · rintro (⟨i, j, h1, h2, h3, h4⟩ | ⟨j, h2, h3, h4⟩)
      · exact ⟨i, j, by omega, h2, h3, h4⟩
      · exact ⟨k, j, by omega, h2, h3, h4⟩
    · rintro ⟨i, j, h1, h2, h3, h4⟩
      rcases Nat.lt_succ_iff_lt_or_eq.1 h1 with g | g
      · exact .inl ⟨i, j, g, h2, h3, h4⟩
      · subst g; exact .inr ⟨j, h2, h3, h4⟩
theorem atF_lt {f : Nat → Int} {L : Nat} (hL : L ≤ 9) {x y : Int} (h : rkI f L x < rkI f L y) : atF f L x < atF f L y := by
  unfold atF
  have h1 := idxI_bd f x L
  have h2 := idxI_bd f y L
  have h5 := (rkI_bd f L y).2
  have hx : 0 ≤ idxI f x L := rkI_lt.1 (by omega)
  rw [if_pos hx]
  rw [(rkI_sm2 hx).1] at h
  by_cases e : 0 ≤ idxI f y L
  · rw [if_pos e]
    rw [(rkI_sm2 e).1] at h
    exact h
  · rw [if_neg e]
    omega
end Go.Proofs.Ytiigcjcolpmafaa

