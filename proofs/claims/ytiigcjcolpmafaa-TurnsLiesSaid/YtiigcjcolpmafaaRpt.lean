import Derived.Test.YtiigcjcolpmafaaVb
import Derived.Laws.CopyOwn
import Derived.Deep.RegionLaw
namespace Go.Proofs.Ytiigcjcolpmafaa
open Go.RowKit

set_option maxHeartbeats 1000000 in
set_option maxRecDepth 1000000 in
theorem mul64_any (n : Nat) (hn : n ≤ 6) (w : World) : Calls Try.prog 124 #[.int .u64 1, .int .u64 n] w fun e w' => e = .returned (.tuple #[.int .u64 0, .int .u64 n]) ∧ w = w' := by
  have h : n = 0 ∨ n = 1 ∨ n = 2 ∨ n = 3 ∨ n = 4 ∨ n = 5 ∨ n = 6 := by omega
  clear hn
  rcases h with rfl | rfl | rfl | rfl | rfl | rfl | rfl
  all_goals
    go_enter Try.func124, Try.ntmps124
    go_wp2
    go_ret2
    exact ⟨rfl, rfl⟩
theorem mul_any (n : Nat) (hn : n ≤ 6) (w : World) : Calls Try.prog 119 #[.int .u64 1, .int .u64 n] w fun e w' => e = .returned (.tuple #[.int .u64 0, .int .u64 n]) ∧ w = w' := by
  have HC := Lib.hid (mul64_any n hn w)
  go_enter Try.func119, Try.ntmps119
  go_wp2_with fail
  refine HC.out.mono ?_
  rintro e w' ⟨rfl, rfl⟩
  go_wp2
  go_ret2
  exact ⟨rfl, rfl⟩

/-- k cells of x, then zeros, n in all. -/
def rep (x : Int) (k n : Nat) : List Value := List.replicate k (.int .i64 x) ++ List.replicate (n - k) (.int .i64 0)
theorem rep_len (x : Int) {k n : Nat} (h : k ≤ n) : (rep x k n).length = n := by simp [rep]; omega
theorem rep_splice (x : Int) {k n c : Nat} (h : k + c ≤ n) : splice (rep x k n) k (List.replicate c (.int .i64 x)) = rep x (k + c) n := by
  unfold splice rep
  rw [List.length_replicate, List.take_left' (by simp), List.drop_append, List.drop_eq_nil_of_le (by simp), List.nil_append, List.length_replicate, List.drop_replicate, ← List.append_assoc, List.replicate_append_replicate]
  congr 2
  omega
def RowV (w : World) (g : Nat) (L : List Value) : Prop := w.heap[g]? = some (.cells L.toArray 3 (0, 0))
theorem RowV.rowI {w : World} {g n : Nat} {x : Int} (h : RowV w g (rep x n n)) : RowI w g n (fun _ => x) :=
  ⟨_, h, by simp [rep], fun i hi => by simp [rep, hi]⟩
theorem RowV.cell {w : World} {g n k : Nat} {x : Int} (h : RowV w g (rep x k n)) {j : Nat} (hj : j < k) : w.cell? ⟨g, j, none⟩ = some (.int .i64 x) := by
  have hr : w.rowIs g 3 (k + (n - k)) (fun i => (rep x k n).getD i (.int .i64 0)) := ⟨_, h, by simp [rep], fun i hi => by
    have : i < (rep x k n).length := by simp [rep]; omega
    simp [List.getD_eq_getElem?_getD, List.getElem?_eq_getElem this]⟩
  rw [World.rowIs.cell hr (by omega)]
  simp [rep, List.getD_eq_getElem?_getD, List.getElem?_append_left (show j < (List.replicate k (Value.int .i64 x)).length by simpa using hj), hj]

set_option maxHeartbeats 600000 in
set_option maxRecDepth 1000000 in
theorem repeat_one (bx cx n : Nat) (x : Int) (w : World) (hx : w.cell? ⟨bx, 0, none⟩ = some (.int .i64 x)) (h1 : 1 ≤ n) (hn : n ≤ 1) :
    Calls Try.prog 110 #[.slice (some ⟨bx, 0, none⟩) 1 cx, .int .i64 n] w fun e w' => e = .returned (.slice (some ⟨w.heap.size, 0, none⟩) n n) ∧ RowI w' w.heap.size n (fun _ => x) ∧ Below w.heap.size w w' := by
  have hmk := mk_ints n (by omega)
  have HM := Lib.hid (mul_any n (by omega) w)
  have hb0 := below_box w (.cells (madeCells #[.int .i64 0] n) 3)
  have hx0 := old_cell hx hb0
  have hV0 : RowV (w.alloc (.cells (madeCells #[.int .i64 0] n) 3)) w.heap.size (rep x 0 n) := by
    obtain ⟨cur, h1, h2, h3⟩ := RowI.made w n
    have e : cur = (rep x 0 n).toArray := by
      apply Array.ext
      · simp [rep, h2]
      · intro i hi1 hi2
        have := h3 i (by omega)
        simp [rep] at hi2 ⊢
        rw [Array.getElem?_eq_getElem hi1] at this
        injection this
    rw [e] at h1
    exact h1
  have hsrc : ∀ j v, (List.replicate 1 (Value.int .i64 x))[j]? = some v → (w.alloc (.cells (madeCells #[.int .i64 0] n) 3)).cell? ((⟨bx, 0, none⟩ : Addr).add j) = some v := fun j v hv => by
    rcases j with _ | j
    · simp at hv
      rw [← hv, Addr.add_lit]
      exact hx0
    · simp at hv
  have hmin : (List.replicate 1 (Value.int .i64 x)).length = Nat.min 1 n := by
    rw [List.length_replicate]
    exact (Nat.min_eq_left h1).symm
  have hfit : 0 + (List.replicate 1 (Value.int .i64 x)).length ≤ (rep x 0 n).length := by
    rw [rep_len x (Nat.zero_le _), List.length_replicate]
    omega
  have hone : ∀ v ∈ List.replicate 1 (Value.int .i64 x), v.oneCell' = true := fun v hv => by
    rw [List.eq_of_mem_replicate hv]
    rfl
  obtain ⟨C1, hC1⟩ : ∃ C1, C1 = List.replicate 1 (Value.int .i64 x) := ⟨_, rfl⟩
  obtain ⟨R0, hR0⟩ : ∃ R0, R0 = rep x 0 n := ⟨_, rfl⟩
  rw [← hC1] at hsrc hmin hfit hone
  rw [← hR0] at hfit hV0
  have HSrc := Lib.hid hsrc
  have HMin := Lib.hid hmin
  have HFit := Lib.hid hfit
  have HOne := Lib.hid hone
  have HC1 := Lib.hid hC1
  have HR0 := Lib.hid hR0
  clear hsrc hmin hfit hone hC1 hR0
  have HV0 := Lib.hid hV0
  have Hb0 := Lib.hid hb0
  have HX0 := Lib.hid hx0
  have hn0 : ¬ (n : Int) < 0 := by omega
  have hnn : ¬ (9223372036854775807 : Int) < (n : Int) := by omega
  clear hV0 hb0 hx
  go_enter Try.func110, Try.ntmps110
  go_wp2_with fail
  refine HM.out.mono ?_
  rintro e w' ⟨rfl, rfl⟩
  clear HM
  go_wp2_with ((refine wpList_copy_splice rfl (.tmp 31) (.tmp 32) 23 23 rfl 3 Try.underlying23 (by kernel_rfl) (some ⟨w.heap.size, 0, none⟩) (some ⟨bx, 0, none⟩) n n 1 cx rfl rfl w.heap.size 0 R0 3 HV0.out C1 HMin.out (fun _ => ⟨rfl, _, rfl, HSrc.out⟩) HFit.out HOne.out w.heap.size w Hb0.out (Nat.le_refl _) ?_))
  intro w1 hg1 hb1
  have hV1 : RowV w1 w.heap.size (rep x 1 n) := by
    have := hg1.out
    rw [HR0.out, HC1.out, rep_splice x (by omega)] at this
    exact this
  have HV1 := Lib.hid hV1
  have Hb1 := Lib.hid hb1
  have hlen1 : C1.length = 1 := by rw [HC1.out]; simp
  rw [hlen1]
  clear hV1 hb1 hg1 hlen1
  obtain ⟨g, hg⟩ : ∃ g, g = w.heap.size := ⟨_, rfl⟩
  have HG := Lib.hid hg
  rw [← hg] at HV1 ⊢
  clear hg HSrc HMin HFit HOne HC1 HR0 HV0 HX0 hx0 hn0 hnn
  go_wp2
  go_loopw [8] (fun y wr => ∃ k : Nat, 1 ≤ k ∧ k ≤ n ∧ y = .int .i64 k ∧ RowV wr g (rep x k n) ∧ Below w.heap.size w wr) (fun y _ => n - (intOf y).toNat)
  case atStart => exact ⟨1, Nat.le_refl _, h1, rfl, HV1.out, Hb1.out⟩
  case round =>
    obtain ⟨k, hk1, hk, rfl, hV, hbel⟩ := hrel
    have HV := Lib.hid hV
    have Hbel := Lib.hid hbel
    clear hV hbel
    by_cases hlt : k < n
    · omega
    · obtain rfl : k = n := by omega
      go_wp2
      go_ret
      exact ⟨by rw [← HG.out]; rfl, by rw [← HG.out]; exact HV.out.rowI, Hbel.out⟩

/-- What 'unmatched' hands back. -/
def UnmOk (n : Nat) : Prop := ∀ w : World, Calls Try.prog 83 #[.int .i64 n] w fun e w' => ∃ g, e = .returned (.slice (some ⟨g, 0, none⟩) n n) ∧ RowI w' g n (fun _ => -1) ∧ w.heap.size ≤ g ∧ Below w.heap.size w w'
theorem unm_one : UnmOk 1 := fun w => by
  have hb0 := below_box w (.cells #[.int .i64 (-1)] 3)
  have HR := Lib.hid (repeat_one w.heap.size 1 1 (-1) (w.alloc (.cells #[.int .i64 (-1)] 3)) (by simp [World.cell?_alloc_at]) (Nat.le_refl _) (Nat.le_refl _))
  have Hb0 := Lib.hid hb0
  clear hb0
  go_enter Try.func83, Try.ntmps83
  go_wp2_with fail
  refine HR.out.mono ?_
  rintro e w1 ⟨rfl, hR, hb1⟩
  have HR1 := Lib.hid hR
  have Hb1 := Lib.hid (Hb0.out.trans (hb1.mono Hb0.out.size))
  have Hsz := Lib.hid Hb0.out.size
  clear hR hb1
  go_wp2
  go_ret
  exact ⟨w.heap.size + 1, rfl, by have := HR1.out; simpa using this, by omega, Hb1.out⟩
end Go.Proofs.Ytiigcjcolpmafaa
