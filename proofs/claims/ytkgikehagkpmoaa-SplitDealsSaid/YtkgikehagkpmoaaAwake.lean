import Derived.Test.YtkgikehagkpmoaaNash
import Derived.Test.YtkgikehagkpmoaaEq
namespace Go.Proofs.Ytkgikehagkpmoaa
open Go.RowKit

def awF (a b : Int) : Nat → Int := fun k => if k = 0 then a else b
def awV : Nat → Nat → Int := fun i => if i = 0 then awF 3 1 else awF 1 3

theorem aw_row (w : World) (a b : Int) : RowI (w.alloc (.cells #[.int .i64 a, .int .i64 b] 3)) w.heap.size 2 (awF a b) := World.rowIs_alloc _ _ _ _ (fun i hi => by
  have : i = 0 ∨ i = 1 := by simp at hi; omega
  rcases this with rfl | rfl <;> simp [awF])

theorem aw_rows (w : World) (x y : Value) : (w.alloc (.cells #[x, y] 23)).cell? ⟨w.heap.size, 0, none⟩ = some x ∧ (w.alloc (.cells #[x, y] 23)).cell? ⟨w.heap.size, 1, none⟩ = some y := by
  constructor <;> simp [World.cell?_alloc_at]

def awW (w : World) : World := ((w.alloc (.cells #[.int .i64 3, .int .i64 1] 3)).alloc (.cells #[.int .i64 1, .int .i64 3] 3)).alloc (.cells #[.slice (some ⟨w.heap.size, 0, none⟩) 2 2, .slice (some ⟨w.heap.size + 1, 0, none⟩) 2 2] 23)

theorem aw_in (w : World) : Rows2 (awW w) (some ⟨w.heap.size + 2, 0, none⟩) 2 (fun _ => 2) awV := fun _ => by
  refine ⟨w.heap.size + 2, 0, rfl, fun i hi => ?_⟩
  have h1 := ((aw_row w 3 1).alloc (.cells #[.int .i64 1, .int .i64 3] 3)).alloc (.cells #[.slice (some ⟨w.heap.size, 0, none⟩) 2 2, .slice (some ⟨w.heap.size + 1, 0, none⟩) 2 2] 23)
  have h2 := (aw_row (w.alloc (.cells #[.int .i64 3, .int .i64 1] 3)) 1 3).alloc (.cells #[.slice (some ⟨w.heap.size, 0, none⟩) 2 2, .slice (some ⟨w.heap.size + 1, 0, none⟩) 2 2] 23)
  have h3 := aw_rows ((w.alloc (.cells #[.int .i64 3, .int .i64 1] 3)).alloc (.cells #[.int .i64 1, .int .i64 3] 3)) (.slice (some ⟨w.heap.size, 0, none⟩) 2 2) (.slice (some ⟨w.heap.size + 1, 0, none⟩) 2 2)
  simp only [World.size_alloc] at h2 h3
  have : i = 0 ∨ i = 1 := by omega
  rcases this with rfl | rfl
  · exact ⟨_, _, h3.1, h1.ints⟩
  · exact ⟨_, _, h3.2, h2.ints⟩

theorem aw_below (w : World) : Below w.heap.size w (awW w) :=
  (((Below.refl _ _).alloc (Nat.le_refl _) _).alloc (by simp) _).alloc (by simp; omega) _
theorem aw_size (w : World) : (awW w).heap.size = w.heap.size + 3 := by simp [awW]

theorem aw_nash (c : Nat) (w : World) : Calls Try.prog 26 #[.slice (some ⟨w.heap.size + 2, 0, none⟩) 2 c] (awW w) fun e w' => ∃ a cd, e = .returned (.tuple #[.slice a 2 cd, .int .i64 9, .int .i64 0]) ∧ Ints w' a 2 (dg 2 2 1) ∧ Below w.heap.size w w' := by
  refine (Nash_ok _ 2 c (fun _ => 2) awV (awW w) (aw_in w) (by omega) (fun _ _ => by show 2 ≤ 9; omega) (by decide +kernel)).mono ?_
  rintro e w' ⟨vb, rfl, ho, hb⟩
  have e1 : nashI awV 2 2 = 1 := by decide +kernel
  have e2 : nashS awV 2 2 1 1 = 9 := by decide +kernel
  simp only [e1, e2] at ho ⊢
  obtain ⟨a, cd, rfl, hI⟩ := ho.sl0
  exact ⟨a, cd, rfl, hI, (aw_below w).trans (hb.mono (by rw [aw_size]; omega))⟩

set_option maxRecDepth 1000000 in
set_option maxHeartbeats 1000000 in
theorem awake_any (w : World) : Calls Try.prog 16 #[] w fun e w' => e = .returned (.bool true) ∧ Below w.heap.size w w' := by
  obtain ⟨w3, hw3⟩ : ∃ w3, w3 = awW w := ⟨_, rfl⟩
  have hn := aw_nash 2 w
  rw [← hw3] at hn
  unfold awW at hw3
  have HN := Lib.hid hn
  have HW := Lib.hid hw3
  clear hn hw3
  go_enter Try.func16, Try.ntmps16
  go_wp2_with fail
  rw [← HW.out]
  refine HN.out.mono ?_
  rintro e w4 ⟨a, cd, rfl, hI, hb⟩
  have HI := Lib.hid hI
  have HB := Lib.hid hb
  have hsz := hb.size
  clear hI hb
  go_wp2_with fail
  refine Ro.use (equal_any _ _ 2 2 _ _ (dg 2 2 1) (awF 0 1) _ (HI.out.keep ((Below.refl _ _).alloc (Nat.le_refl _) _)) (aw_row w4 0 1).ints (by omega) (by omega)) ?_
  intro w5 hD
  have HE : Hid (eqB 2 2 (dg 2 2 1) (awF 0 1) = true) := Lib.hid (by decide +kernel)
  rw [HE.out]
  go_wp2
  go_ret
  exact ⟨rfl, (HB.out.alloc (by omega) _).trans (hD.below _)⟩
end Go.Proofs.Ytkgikehagkpmoaa
