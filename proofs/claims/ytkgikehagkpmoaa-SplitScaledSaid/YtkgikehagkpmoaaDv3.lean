import Derived.Test.YtkgikehagkpmoaaDv2
import Derived.Deep.DeepCutAuto
import Derived.RegionTactic
import Derived.Laws.EntriesVeiled
namespace Go.Proofs.Ytkgikehagkpmoaa
open Go.RowKit

theorem Box.new_ {w : World} {t : TypeId} {x : Value} {b : Nat} (h : w.heap.size = b) : Box (w.alloc (.cells #[x] t)) b t x := by
  subst h
  exact Box.new w t x
theorem RowI.made_ {w : World} {n b : Nat} (h : w.heap.size = b) : RowI (w.alloc (.cells (madeCells #[.int .i64 0] n) 3)) b n (fun _ => 0) := by
  subst h
  exact RowI.made w n

/-- What the two makes and the two boxes leave, in whatever order. -/
def DvM (w4 wx : World) (m n : Nat) (s8 s9 s13 s15 : Value) : Prop :=
  ∃ gd gs bd bs : Nat, s8 = .pointer (some ⟨bd, 0, none⟩) ∧ s9 = .pointer (some ⟨bs, 0, none⟩) ∧ s13 = .slice (some ⟨gd, 0, none⟩) m m ∧ s15 = .slice (some ⟨gs, 0, none⟩) (n + 1) (n + 1) ∧ w4.heap.size ≤ gd ∧ gd < w4.heap.size + 4 ∧ w4.heap.size ≤ gs ∧ gs < w4.heap.size + 4 ∧ w4.heap.size ≤ bd ∧ bd < w4.heap.size + 4 ∧ w4.heap.size ≤ bs ∧ bs < w4.heap.size + 4 ∧ gd ≠ gs ∧ gd ≠ bd ∧ gd ≠ bs ∧ gs ≠ bd ∧ gs ≠ bs ∧ bd ≠ bs ∧
    wx.heap.size = w4.heap.size + 4 ∧ Below w4.heap.size w4 wx ∧ Box wx bd 23 (.slice (some ⟨gd, 0, none⟩) m m) ∧ Box wx bs 23 (.slice (some ⟨gs, 0, none⟩) (n + 1) (n + 1)) ∧ RowI wx gd m (fun _ => 0) ∧ RowI wx gs (n + 1) (fun _ => 0)

set_option maxHeartbeats 4000000 in
set_option maxRecDepth 1000000 in
theorem divide_any (A : Option Addr) (c m n : Nat) (f : Nat → Int) (w : World) (hf : Ints w A m f) (hb : Bd m f 100) (hm0 : 0 < m) (hm : m ≤ 7) (hn : n ≤ 6) :
    Calls Try.prog 45 #[.slice A m c, .int .i64 ((n + 1 : Nat) : Int)] w fun e w' => ∃ x D, e = .returned (.tuple #[.int .i64 (shR n m f (fun _ => 0) 0), x]) ∧ Below w.heap.size w w' ∧ OwnL w' w.heap.size x (lst m D) ∧ Own (n + 1) m D ∧ lowT (wOf f D m) n = shR n m f (fun _ => 0) 0 := by
  obtain ⟨b, o, rfl, -⟩ := hf.at hm0
  have HF := Lib.hid hf
  have HB := Lib.hid hb
  have hmk1 := fun w => mk_ints m (by omega) w
  have hmk2 : ∀ w : World, (Instr.makeSlice 23 (.int .i64 ((n : Int) + 1)) (.int .i64 ((n : Int) + 1))).run Try.prog w = .ok (.slice (some ⟨w.heap.size, 0, none⟩) (n + 1) (n + 1)) (w.alloc (.cells (madeCells #[.int .i64 0] (n + 1)) 3)) := fun w => mk_ints (n + 1) (by omega) w
  have Hm1 := Lib.hid hmk1
  have Hm2 := Lib.hid hmk2
  clear hf hb hmk1 hmk2
  go_enter Try.func45, Try.ntmps45
  go_upto_region 2 with fail
  obtain ⟨w4, hw4⟩ : ∃ w4 : World, w4 = (((w.alloc (.cells #[.slice (some ⟨b, o, none⟩) m c] 23)).alloc (.cells #[.int .i64 ((n : Int) + 1)] 3)).alloc (.cells #[.int .i64 (-1)] 3)).alloc (.cells #[.slice none 0 0] 23) := ⟨_, rfl⟩
  rw [← hw4]
  have hsz : w4.heap.size = w.heap.size + 4 := by rw [hw4]; simp
  have hbel : Below w.heap.size w w4 := by
    rw [hw4]
    exact ((((Below.refl _ _).alloc (Nat.le_refl _) _).alloc (by simp) _).alloc (by simp; omega) _).alloc (by simp; omega) _
  have b0 : Box w4 w.heap.size 23 (.slice (some ⟨b, o, none⟩) m c) := by
    rw [hw4]
    exact (((Box.new_ rfl).alloc _).alloc _).alloc _
  have b1 : Box w4 (w.heap.size + 1) 3 (.int .i64 ((n + 1 : Nat) : Int)) := by
    rw [hw4]
    exact ((Box.new_ (by simp)).alloc _).alloc _
  have b2 : Box w4 (w.heap.size + 2) 3 (.int .i64 (-1)) := by
    rw [hw4]
    exact (Box.new_ (by simp)).alloc _
  have b3 : Box w4 (w.heap.size + 3) 23 (.slice none 0 0) := by
    rw [hw4]
    exact Box.new_ (by simp)
  have HS := Lib.hid hsz
  have HBel := Lib.hid hbel
  have B0 := Lib.hid b0
  have B1 := Lib.hid b1
  have B2 := Lib.hid b2
  have B3 := Lib.hid b3
  clear hw4 hsz hbel b0 b1 b2 b3
  go_cut [8, 9, 13, 15] (fun s8 s9 s13 s15 wx => ∃ wy, Dn wy wx ∧ DvM w4 wy m n s8 s9 s13 s15)
  case first =>
    have c0 := B0.out.cell
    have c1 : w4.cell? ⟨w.heap.size + 1, 0, none⟩ = some (.int .i64 ((n : Int) + 1)) := B1.out.cell
    have hmk1 := Hm1.out
    have hmk2 := Hm2.out
    have q0 : w.heap.size < w4.heap.size := by have := HS.out; omega
    have q1 : w.heap.size + 1 < w4.heap.size := by have := HS.out; omega
    have q2 : ∀ k, w.heap.size < w4.heap.size + k := fun k => by omega
    have q3 : ∀ k, w.heap.size + 1 < w4.heap.size + k := fun k => by omega
    go_region
    all_goals
      go_wp2_with fail
      go_meet
      refine ⟨_, (Dn.refl _).drew, _, _, _, _, rfl, rfl, rfl, rfl, by omega, by omega, by omega, by omega, by omega, by omega, by omega, by omega, by omega, by omega, by omega, by omega, by omega, by omega, by simp, ?_, ?_, ?_, ?_, ?_⟩
      · exact ((((Below.refl _ _).alloc (Nat.le_refl _) _).alloc (by simp) _).alloc (by simp; omega) _).alloc (by simp; omega) _
      · repeat' (first | exact Box.new_ (by simp) | refine Box.alloc ?_ _)
      · repeat' (first | exact Box.new_ (by simp) | refine Box.alloc ?_ _)
      · repeat' (first | exact RowI.made_ (by simp) | refine RowI.alloc ?_ _)
      · repeat' (first | exact RowI.made_ (by simp) | refine RowI.alloc ?_ _)
  case rest =>
    obtain ⟨wy, hdn, gd, gs, bd, bs, rfl, rfl, rfl, rfl, l1, l2, l3, l4, l5, l6, l7, l8, l9, l10, l11, l12, l13, l14, hsz, hby, y1, y2, y3, y4⟩ := hcut
    have hszw := HS.out
    have hL : Lay w.heap.size gd gs bd bs := ⟨by omega, by omega, by omega, by omega, by omega, by omega, by omega, by omega, l9, l10, l11, l12, l13, l14⟩
    have hbw := hdn.below wy.heap.size
    have hszc : wc.heap.size = w.heap.size + 8 := by
      obtain ⟨k, rfl⟩ := hdn
      show wy.heap.size = _
      omega
    have hbc : Below w4.heap.size w4 wc := hby.trans (hdn.below _)
    have hwS : wOf f (fun _ => 0) 0 = fun _ => 0 := by funext q; rfl
    obtain ⟨w5, hw5⟩ : ∃ w5 : World, w5 = wc.alloc (.cells #[.func (.func 68) #[] (dvCaps w.heap.size bd bs)] 71) := ⟨_, rfl⟩
    have hb5 : Below wc.heap.size wc w5 := by rw [hw5]; exact (Below.refl _ _).alloc (Nat.le_refl _) _
    have hI : DvI w gd gs bd bs (some ⟨b, o, none⟩) c m n f (-1) 0 (fun _ => 0) w5 := by
      refine ⟨(HBel.out.trans (hbc.mono (by omega))).trans (hb5.mono (by omega)), (B0.out.keep hbc).keep hb5, (B1.out.keep hbc).keep hb5, (B2.out.keep hbc).keep hb5, ?_, ?_, ?_, ?_, ?_, _, (B3.out.keep hbc).keep hb5, .inl ⟨rfl, rfl⟩⟩
      · exact ((y3.dn hdn).keep hb5)
      · rw [hwS]
        exact ((y4.dn hdn).keep hb5)
      · obtain ⟨k, rfl⟩ := hdn
        exact Box.keep (w := wy.drewN k) y1 hb5
      · obtain ⟨k, rfl⟩ := hdn
        exact Box.keep (w := wy.drewN k) y2 hb5
      · rw [hw5]
        exact Box.new_ hszc
    have hcall := place_any w gd gs bd bs hL ⟨b, o, none⟩ c m n f HF.out HB.out hm hn m 0 0 (fun _ => 0) (-1) w5 (by omega) (by omega) (fun i hi => absurd hi (by omega)) hI
    have hSh : dvS m n f (fun _ => 0) 0 0 = shR n m f (fun _ => 0) 0 := shR_congr n _ _ _ _ _ _ (fun j _ => by simp) (fun p _ => rfl)
    have hS0 : 0 ≤ shR n m f (fun _ => 0) 0 := shR_nn n m f _ 0 (fun j hj => (HB.out j hj).1) (fun p _ => Int.le_refl _)
    rw [hSh, show max (-1) (shR n m f (fun _ => 0) 0) = shR n m f (fun _ => 0) 0 by omega] at hcall
    simp only [dvCaps, List.append_toArray, List.cons_append, List.nil_append] at hcall hw5
    have HCall := Lib.hid hcall
    have HW5 := Lib.hid hw5
    have HS0 := Lib.hid hS0
    have HSz := Lib.hid hszc
    have hmf : ∀ (fn : Fn) (first cap : Array Value) (w : World), (Instr.makeFunc fn first cap).run Try.prog w = .ok (.func fn first cap) w := fun _ _ _ _ => rfl
    clear hL hbw hbc hwS hw5 hb5 hI hcall hSh y1 y2 y3 y4 hby hsz hszw hdn hS0 hszc
    go_wp2_with fail
    rw [HSz.out, ← HW5.out]
    refine HCall.out.mono ?_
    rintro e w6 ⟨rfl, D', -, hI6⟩
    obtain ⟨hbel6, -, -, k2, -, -, -, -, -, vb, k3, hbest⟩ := hI6
    rcases hbest with ⟨e1, -⟩ | ⟨-, D2, hown, hOwn, hlow⟩
    · have := HS0.out
      omega
    · have c2 := k2.cell
      have c3 := k3.cell
      obtain ⟨Ab, cb, rfl, -⟩ := hown.sl0
      have HOwn := Lib.hid (hown.rebase (show w.heap.size ≤ w.heap.size + 9 by omega))
      have HBel6 := Lib.hid hbel6
      have HLow := Lib.hid hlow
      clear hown hbel6 hlow k2 k3
      go_wp2
      go_quiet (fail)
      go_wp2
      go_ret2
      exact ⟨_, D2, rfl, HBel6.out.trans (Dn.below ⟨nq, rfl⟩ _), HOwn.out.below (Dn.below ⟨nq, rfl⟩ _), hOwn, HLow.out⟩
end Go.Proofs.Ytkgikehagkpmoaa
