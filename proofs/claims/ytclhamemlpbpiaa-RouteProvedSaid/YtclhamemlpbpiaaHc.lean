/- The law's Of: a map with at most 18 of its roads. -/
import Derived.Test.YtclhamemlpbpiaaHb
import Derived.Maps.AppendAt
namespace Go.Proofs.Ytclhamemlpbpiaa
open Go.RowKit

/-- A map in two cells of a block of its own. -/
def MapB (w : World) (g : Nat) (N : Int) (v : Value) : Prop := w.rowIs g 31 2 (fun i => if i = 0 then .int .i64 N else v)
section
variable {w w' : World} {g : Nat} {N : Int} {v : Value}
theorem MapB.c0 (h : MapB w g N v) : w.cell? ⟨g, 0, none⟩ = some (.int .i64 N) := World.rowIs.cell h (show 0 < 2 by omega)
theorem MapB.c1 (h : MapB w g N v) : w.cell? ⟨g, 1, none⟩ = some v := World.rowIs.cell h (show 1 < 2 by omega)
theorem MapB.frozen (h : MapB w g N v) (i : Nat) : w.frozen? ⟨g, i, none⟩ = false := World.rowIs.frozen h i
theorem MapB.lt (h : MapB w g N v) : g < w.heap.size := World.rowIs.lt h
theorem MapB.set1 (h : MapB w g N v) (u : Value) : MapB (w.setCell ⟨g, 1, none⟩ u) g N u :=
  World.rowIs.congr (World.rowIs.set h 1 u) (fun j hj => by
    rcases j with _ | _ | j
    · simp
    · simp
    · omega)
theorem MapB.set0 (h : MapB w g N v) (M : Int) : MapB (w.setCell ⟨g, 0, none⟩ (.int .i64 M)) g M v :=
  World.rowIs.congr (World.rowIs.set h 0 (.int .i64 M)) (fun j hj => by
    rcases j with _ | _ | j
    · simp
    · simp
    · omega)
theorem MapB.other (h : MapB w g N v) {a : Addr} (ha : g ≠ a.block) (u : Value) : MapB (w.setCell a u) g N v := World.rowIs.setOther h ha u
theorem MapB.alloc (h : MapB w g N v) (o : Obj) : MapB (w.alloc o) g N v := World.rowIs.alloc h o
theorem MapB.below {B : Nat} (h : MapB w g N v) (hb : Below B w w') (hg : g < B) : MapB w' g N v := World.rowIs.of_block h (hb.block g hg)
theorem MapB.keep (h : MapB w g N v) (hb : Below w.heap.size w w') : MapB w' g N v := h.below hb h.lt
theorem MapB.new (w : World) (N : Int) (v : Value) : MapB (w.alloc (.cells #[.int .i64 N, v] 31)) w.heap.size N v :=
  World.rowIs_alloc w #[.int .i64 N, v] 31 _ (fun j hj => by
    rcases j with _ | _ | j
    · rfl
    · rfl
    · simp at hj; omega)
end
theorem ownK_exc {w w' : World} {base g s n : Nat} {e : TypeId} {x : Value} {F : Nat → Nat → Int} (h : OwnK s e w base x n F) (he : Exc g w w') (hg : g < base) : OwnK s e w' base x n F := by
  refine h.exc he ?_
  cases hb : x.ownBlock with
  | none => exact .inl rfl
  | some k =>
    refine .inr (fun e => ?_)
    injection e with e
    have := (World.ownsRow.lt h k hb).1
    omega
theorem infoRd : (Try.prog.info? 66).map (fun i => (i.zero, i.size, i.bytes)) = some (some (.agg #[.int .i64 0, .int .i64 0, .int .i64 0]), 3, 24) := by kernel_rfl
theorem newsR (w : World) (x y z : Value) (T : TypeId) : ∀ j v, [x, y, z][j]? = some v → (w.alloc (.cells #[x, y, z] T)).cell? ((⟨w.heap.size, 0, none⟩ : Addr).add j) = some v := by
  intro j v hu
  rcases j with _ | _ | _ | j
  · simp at hu; subst hu; rw [Addr.add_lit]; simp [World.cell?_alloc_at]
  · simp at hu; subst hu; rw [Addr.add_lit]; simp [World.cell?_alloc_at]
  · simp at hu; subst hu; rw [Addr.add_lit]; simp [World.cell?_alloc_at]
  · simp at hu

set_option maxHeartbeats 2000000 in
set_option maxRecDepth 1000000 in
theorem ofM_any (A : Option Addr) (m c : Nat) (N : Int) (F : Nat → Nat → Int) (w : World) (h : Recs 3 w A m F) (hmx : m ≤ maxLen) :
    Calls Try.prog 10 #[.agg #[.int .i64 N, .slice A m c]] w fun e w' => ∃ A' c', e = .returned (.agg #[.int .i64 N, .slice A' (min m 18) c']) ∧ OwnK 3 66 w' w.heap.size (.slice A' (min m 18) c') (min m 18) F ∧ Below w.heap.size w w' := by
  obtain ⟨i0, hi, hz0, hz1, hz2⟩ := info_parts infoRd
  have hsz : m ≤ 9223372036854775807 := by
    unfold maxLen at hmx
    omega
  have H := Lib.hid h
  clear h hmx
  have hs1 : (w.alloc (.cells #[.int .i64 N, .slice A m c] 24)).heap.size = w.heap.size + 1 := by simp
  have hs2 : ((w.alloc (.cells #[.int .i64 N, .slice A m c] 24)).alloc (.cells #[.int .i64 0, .slice none 0 0] 31)).heap.size = w.heap.size + 1 + 1 := by simp
  have hM2 := (MapB.new (w.alloc (.cells #[.int .i64 N, .slice A m c] 24)) 0 (.slice none 0 0)).alloc (.cells #[.int .i64 N, .slice none 0 0] 31)
  have hM3 := MapB.new ((w.alloc (.cells #[.int .i64 N, .slice A m c] 24)).alloc (.cells #[.int .i64 0, .slice none 0 0] 31)) N (.slice none 0 0)
  rw [hs1] at hM2
  rw [hs2] at hM3
  have hB0 := (((Below.refl w.heap.size w).alloc (Nat.le_refl _) (.cells #[.int .i64 N, .slice A m c] 24)).alloc (by simp) (.cells #[.int .i64 0, .slice none 0 0] 31)).alloc (by simp; omega) (.cells #[.int .i64 N, .slice none 0 0] 31)
  have hs3 : w.heap.size + 1 + 1 + 1 ≤ (((w.alloc (.cells #[.int .i64 N, .slice A m c] 24)).alloc (.cells #[.int .i64 0, .slice none 0 0] 31)).alloc (.cells #[.int .i64 N, .slice none 0 0] 31)).heap.size := by simp
  have HM2 := Lib.hid hM2
  have HM3 := Lib.hid hM3
  have HB0 := Lib.hid hB0
  have HS3 := Lib.hid hs3
  clear hs1 hs2 hM2 hM3 hB0 hs3
  go_enter Try.func10, Try.ntmps10
  go_wp2
  go_loopw [12] (fun i wr => ∃ (k : Nat) (v : Value), k ≤ m ∧ i = .int .i64 k ∧ MapB wr (w.heap.size + 1 + 1) N v ∧ OwnK 3 66 wr (w.heap.size + 1 + 1 + 1) v (min k 18) F ∧ MapB wr (w.heap.size + 1) 0 (.slice none 0 0) ∧ Below w.heap.size w wr ∧ w.heap.size + 1 + 1 + 1 ≤ wr.heap.size) (fun i _ => m - (intOf i).toNat)
  case atStart => exact ⟨0, _, Nat.zero_le _, rfl, HM3.out, OwnK.nil_ _ _ _ _ _, HM2.out, HB0.out, HS3.out⟩
  case round =>
    obtain ⟨k, v, hk, rfl, hM, hown, hT, hbel, hsz3⟩ := hrel
    obtain ⟨A1, c1, rfl, -⟩ := hown.form
    have HM := Lib.hid hM
    have HO := Lib.hid hown
    have HT := Lib.hid hT
    have HZ := Lib.hid hsz3
    have HB := Lib.hid hbel
    have q0 := hM.c0
    have q1 := hM.c1
    clear hown hM hT
    by_cases hlt : k < m
    · obtain ⟨b, o, rfl, c0, c1', c2⟩ := (H.out.keep hbel).three hlt
      have hs0 : w.heap.size ≤ wr.heap.size := hbel.size
      have r1 := (HM.out.alloc (.cells #[.int .i64 (F k 0), .int .i64 (F k 1), .int .i64 (F k 2)] 65)).c1
      clear hbel
      by_cases h18 : k < 18
      · have e18 : min k 18 = k := by omega
        rw [e18] at HO HM q1 r1
        clear e18
        go_wp2_with (at_builtin; go_loud (refine wpList_append_own _ rfl _ _ 29 rfl (w.heap.size + 1 + 1 + 1) 66 i0 (.agg #[.int .i64 0, .int .i64 0, .int .i64 0]) 3 24 Try.underlying29 hi hz0 hz1 hz2 rfl (by decide) _ _ _ rfl (World.ownsRow.alloc (World.ownsRow.alloc HO.out _) _) ⟨wr.heap.size + 1, 0, none⟩ 1 1 [.int .i64 (F k 0), .int .i64 (F k 1), .int .i64 (F k 2)] rfl rfl (fun a u hu => by have h := newsR (wr.alloc (.cells #[.int .i64 (F k 0), .int .i64 (F k 1), .int .i64 (F k 2)] 65)) _ _ _ 66 a u hu; rw [World.size_alloc] at h; exact h) (by intro u hu; simp at hu; rcases hu with rfl | rfl | rfl <;> rfl) (by unfold maxLen; omega) (by omega) (by simp; omega) ?_))
        intro v' w5 hown hgrow _
        have hO5 : OwnK 3 66 w5 (w.heap.size + 1 + 1 + 1) v' (k + 1) F := by
          unfold OwnK
          exact hown
        have hb5 : Below (w.heap.size + 1 + 1 + 1) wr w5 := (((Below.refl (w.heap.size + 1 + 1 + 1) wr).alloc hsz3 _).alloc (by simp; omega) _).grown hgrow (by simp; omega) (fun g hg => (World.ownsRow.lt HO.out g hg).1)
        have hM5 := HM.out.below hb5 (by omega)
        have f5 := hM5.frozen 1
        have q5 := hM5.c1
        obtain ⟨A5, c5, rfl, -⟩ := hO5.form
        have HO5 := Lib.hid hO5
        have HB5 := Lib.hid hb5
        have HM5 := Lib.hid hM5
        have E1 := Lib.hid (show min (k + 1) 18 = k + 1 by omega)
        clear hown hgrow hO5 hb5 hM5 q0 q1 r1
        go_wp2
        go_roundw
        case rel =>
          refine ⟨k + 1, .slice A5 (k + 1) c5, by omega, by go_num, HM5.out.set1 _, ?_, (HT.out.below HB5.out (by omega)).other (by simp) _, ?_, ?_⟩
          · rw [E1.out]
            exact ownK_exc HO5.out ((Exc.refl _ _).set 1 _) (by omega)
          · exact (HB.out.trans (HB5.out.mono (by omega))).setCell (p := ⟨w.heap.size + 1 + 1, 1, none⟩) (by show w.heap.size ≤ w.heap.size + 1 + 1; omega) _
          · have := HB5.out.size
            simp
            omega
        case measure => simp [intOf]; omega
      · have E18 := Lib.hid (show min (k + 1) 18 = min k 18 by omega)
        go_wp2
        go_roundw
        case rel => exact ⟨k + 1, _, by omega, by go_num, HM.out.alloc _, by rw [E18.out]; exact OwnK.below HO.out ((Below.refl _ _).alloc (Nat.le_refl _) _), HT.out.alloc _, HB.out.alloc hs0 _, by have := HZ.out; rw [World.size_alloc]; omega⟩
        case measure => simp [intOf]; omega
    · obtain rfl : k = m := by omega
      have t0 := HT.out.c0
      have t1 := HT.out.c1
      have f0 := HT.out.frozen 0
      have f1 := HT.out.frozen 1
      go_wp2
      have hW1 := (HT.out.set0 N).set1 (.slice A1 (min k 18) c1)
      obtain ⟨WF, hWF⟩ : ∃ WF, WF = (wr.setCell ⟨w.heap.size + 1, 0, none⟩ (.int .i64 N)).setCell ⟨w.heap.size + 1, 1, none⟩ (.slice A1 (min k 18) c1) := ⟨_, rfl⟩
      have hO2 : OwnK 3 66 WF (w.heap.size + 1 + 1 + 1) (.slice A1 (min k 18) c1) (min k 18) F := by
        rw [hWF]
        exact ownK_exc HO.out (((Exc.refl _ _).set 0 _).set 1 _) (by omega)
      have hB2 : Below w.heap.size w WF := by
        rw [hWF]
        exact (HB.out.setCell (p := ⟨w.heap.size + 1, 0, none⟩) (by show w.heap.size ≤ w.heap.size + 1; omega) _).setCell (p := ⟨w.heap.size + 1, 1, none⟩) (by show w.heap.size ≤ w.heap.size + 1; omega) _
      rw [← hWF] at hW1 ⊢
      have z0 := hW1.c0
      have z1 := hW1.c1
      refine bodyPost_ret (v := .agg #[.int .i64 N, .slice A1 (min k 18) c1]) (by simp [results, Try.results10, go_sem, z0, z1]) rfl ?_
      exact ⟨A1, c1, rfl, hO2.rebase (by omega), hB2⟩
end Go.Proofs.Ytclhamemlpbpiaa
