/- The law's awake: a road is a way. -/
import Derived.Test.YtclhamemlpbpiaaWd
import Derived.Test.YtclhamemlpbpiaaEq
namespace Go.Proofs.Ytclhamemlpbpiaa
open Go.RowKit

def awF : Nat → Nat → Int := fun _ j => if j = 0 then 1 else if j = 1 then 0 else 3
theorem aw_ok : okM ((2 : Nat) : Int) 1 awF = true := by decide
theorem aw_T : dsT 2 1 awF (8 * 0 + 1) = 3 := by decide
theorem aw_way : wyF 2 (stT 2 1 awF) (dsT 2 1 awF) 1 3 [(0 : Nat)] 0 none = some [0, 1] := by decide
set_option maxHeartbeats 2000000 in
set_option maxRecDepth 1000000 in
theorem awake_any (w : World) : Lr 13 #[] w (.bool true) := by
  unfold Lr
  go_enter Try.func13, Try.ntmps13
  go_wp2_with fail
  have hR : Recs 3 (w.alloc (.cells #[.int .i64 1, .int .i64 0, .int .i64 3] 66)) (some ⟨w.heap.size, 0, none⟩) 1 awF := fun _ => ⟨w.heap.size, 0, rfl, fun k hk i hi => by
    obtain rfl : k = 0 := by omega
    match i, hi with
    | 0, _ => simp [World.cell?_alloc_at, awF]
    | 1, _ => simp [World.cell?_alloc_at, awF]
    | 2, _ => simp [World.cell?_alloc_at, awF]⟩
  have hb1 := (Below.refl w.heap.size w).alloc (Nat.le_refl _) (.cells #[.int .i64 1, .int .i64 0, .int .i64 3] 66)
  generalize w.alloc (.cells #[.int .i64 1, .int .i64 0, .int .i64 3] 66) = W1 at *
  refine (Way_ok (some ⟨w.heap.size, 0, none⟩) 1 1 2 0 1 awF W1 hR aw_ok (by omega) (by omega)).mono ?_
  rintro e w2 ⟨hor, hb2⟩
  have HB2 := Lib.hid (hb1.trans (hb2.mono hb1.size))
  rw [aw_T] at hor
  rcases hor with ⟨h1, -⟩ | ⟨-, v, L, rfl, hw, ho⟩
  · omega
  rw [show (3 : Int).toNat = 3 from rfl, aw_way] at hw
  injection hw with hw
  subst hw
  obtain ⟨A2, c2, rfl, -, hI2, -, -⟩ := ho.form
  have hI3 : Ints (w2.alloc (.cells #[.int .i64 0, .int .i64 1] 3)) (some ⟨w2.heap.size, 0, none⟩) 2 (fun k => [(0 : Int), 1].getD k 0) := fun _ => ⟨w2.heap.size, 0, rfl, fun k hk => by
    match k, hk with
    | 0, _ => simp [World.cell?_alloc_at]
    | 1, _ => simp [World.cell?_alloc_at]⟩
  have hb3 := (Below.refl w2.heap.size w2).alloc (Nat.le_refl _) (.cells #[.int .i64 0, .int .i64 1] 3)
  have HI2 := Lib.hid (hI2.keep hb3)
  have HI3 := Lib.hid hI3
  have HB3 := Lib.hid (HB2.out.trans (hb3.mono HB2.out.size))
  have HE := Lib.hid (fun w' c' h h2 => equal_any A2 (some ⟨w2.heap.size, 0, none⟩) 2 2 c' 2 (fun k => [(0 : Int), 1].getD k 0) (fun k => [(0 : Int), 1].getD k 0) w' h h2 (by omega) (by omega))
  clear hR hb1 hb2 ho hI2 hI3 hb3
  go_wp2_with fail
  refine Ro.use (HE.out _ _ HI2.out HI3.out) ?_
  intro w4 hd4
  rw [show eqB 2 2 (fun k => [(0 : Int), 1].getD k 0) (fun k => [(0 : Int), 1].getD k 0) = true by decide]
  have HB4 := Lib.hid (HB3.out.trans (hd4.below _))
  clear hd4
  go_wp2
  go_ret
  exact ⟨rfl, HB4.out⟩
end Go.Proofs.Ytclhamemlpbpiaa
