import Derived.Test.YtkgikehagkpmoaaGr2
import Derived.Test.YtkgikehagkpmoaaT3
namespace Go.Proofs.Ytkgikehagkpmoaa
open Go.RowKit

set_option maxHeartbeats 2000000 in
set_option maxRecDepth 1000000 in
theorem greatest_any (w0 : World) (ks : FuncId) (hcall : ∀ (args : Array Value) (w : World), (callFunc ks args).run Try.prog w = .ok (.enter ks args) w) (sc : (Nat → Int) → Nat → Int) (len : Nat) (A : Option Addr) (c n m : Nat) (v : Nat → Nat → Int)
    (hs : ScoreOk ks n len sc) (h : Mat w0 A n m v) (hb : BdM n m v 100) (hn : 0 < n) (hn4 : n ≤ 4) (hm : m ≤ 7) (hlen0 : 0 < len) (hlen : len ≤ 9) :
    Calls Try.prog 50 #[.slice A n c, .func (.func ks) #[] #[]] w0 fun e w' => ∃ vb vt, e = .returned (.tuple #[vb, vt]) ∧
      OwnL w' w0.heap.size vb (lst m (dg n m (bst (sco sc v n m) len (n ^ m)))) ∧ OwnL w' w0.heap.size vt (lst len (sco sc v n m (bst (sco sc v n m) len (n ^ m)))) ∧ Below w0.heap.size w0 w' := by
  have hmf : ∀ (fn : Fn) (first cap : Array Value) (w : World), (Instr.makeFunc fn first cap).run Try.prog w = .ok (.func fn first cap) w := fun _ _ _ _ => rfl
  have hv := greatest1_any w0 ks hcall sc len A c n m v hs h hb hn hn4 hm hlen0 hlen
  have HV := Lib.hid hv
  have hpow : 0 < n ^ m := Nat.pow_pos hn
  have HP := Lib.hid hpow
  obtain ⟨b, o, R, cR, rfl, -, -⟩ := h.at hn
  obtain ⟨w4, hw4⟩ : ∃ w4 : World, w4 = (((w0.alloc (.cells #[.slice (some ⟨b, o, none⟩) n c] 22)).alloc (.cells #[.func (.func ks) #[] #[]] 34)).alloc (.cells #[.slice none 0 0] 23)).alloc (.cells #[.slice none 0 0] 23) := ⟨_, rfl⟩
  have hsz : w4.heap.size = w0.heap.size + 4 := by rw [hw4]; simp
  have hbel : Below w0.heap.size w0 w4 := by
    rw [hw4]
    exact ((((Below.refl _ _).alloc (Nat.le_refl _) _).alloc (by simp) _).alloc (by simp; omega) _).alloc (by simp; omega) _
  have b0 : Box w4 w0.heap.size 22 (.slice (some ⟨b, o, none⟩) n c) := by rw [hw4]; exact (((Box.new _ _ _).alloc _).alloc _).alloc _
  have b1 : Box w4 (w0.heap.size + 1) 34 (.func (.func ks) #[] #[]) := by
    rw [hw4]
    have := Box.new (w0.alloc (.cells #[.slice (some ⟨b, o, none⟩) n c] 22)) 34 (.func (.func ks) #[] #[])
    simp only [World.size_alloc] at this
    exact (this.alloc _).alloc _
  have b2 : Box w4 (w0.heap.size + 2) 23 (.slice none 0 0) := by
    rw [hw4]
    have := Box.new ((w0.alloc (.cells #[.slice (some ⟨b, o, none⟩) n c] 22)).alloc (.cells #[.func (.func ks) #[] #[]] 34)) 23 (.slice none 0 0)
    simp only [World.size_alloc] at this
    exact this.alloc _
  have b3 : Box w4 (w0.heap.size + 3) 23 (.slice none 0 0) := by
    rw [hw4]
    have := Box.new (((w0.alloc (.cells #[.slice (some ⟨b, o, none⟩) n c] 22)).alloc (.cells #[.func (.func ks) #[] #[]] 34)).alloc (.cells #[.slice none 0 0] 23)) 23 (.slice none 0 0)
    simp only [World.size_alloc] at this
    exact this
  obtain ⟨R0, c0, hc0, -⟩ := (h.keep hbel).cell0 hn
  have k0 := b0.cell
  have hI : GrI w0 ks (some ⟨b, o, none⟩) c n m len (sco sc v n m) 0 w4 := ⟨hbel, b0, b1, _, _, b2, b3, .inl ⟨rfl, rfl, rfl⟩⟩
  have HI := Lib.hid hI
  have HS := Lib.hid hsz
  have HW := Lib.hid hw4
  have HB := Lib.hid hbel
  clear hI hsz hw4 hv hpow hb hs b0 b1 b2 b3 hbel h
  go_enter Try.func50, Try.ntmps50
  go_wp2_with fail
  rw [← HW.out]
  have hmixed := HV.out
  clear hmixed
  have HG0 : Hid (GrI w0 ks (some ⟨b, o, none⟩) c n m len (sco sc v n m) 0 (w4.drew.alloc (.cells (madeCells #[.int .i64 0] m) 3))) :=
    Lib.hid (HI.out.exc (Exc.of_below (((Below.refl _ _).drew).alloc (Nat.le_refl _) _)))
  go_region_with (first
    | (go_at_call 70; refine (eachDivision_any n m 71 _ (GrI w0 ks (some ⟨b, o, none⟩) c n m len (sco sc v n m)) (fun _ _ => False) _ hn (by omega) (by omega) HG0.out (fun i w1 w2 h he => GrI.exc h (by rw [← HS.out]; exact he)) (by rw [show w4.drew.heap.size = _ from HS.out]; exact HV.out) (fun _ _ => rfl)).mono ?_; rintro e w5 ⟨rfl, hpost⟩))
  all_goals
    have hG : GrI w0 ks (some ⟨b, o, none⟩) c n m len (sco sc v n m) (n ^ m) w5 := by
      rcases hpost with h | ⟨i, _, h⟩
      · exact h
      · exact h.elim
    obtain ⟨hbel, -, -, vb, vt, hB2, hB3, hS⟩ := hG
    rcases hS with ⟨h0, -, -⟩ | ⟨-, hvb, hvt⟩
    · have := HP.out; omega
    have c2 : w5.cell? ⟨w0.heap.size + 1 + 1, 0, none⟩ = some vb := hB2.cell
    have c3 : w5.cell? ⟨w0.heap.size + 1 + 1 + 1, 0, none⟩ = some vt := hB3.cell
    obtain ⟨ab, cb, rfl, -⟩ := hvb.sl0
    obtain ⟨at_, ct, rfl, -⟩ := hvt.sl0
    have HVb := Lib.hid hvb
    have HVt := Lib.hid hvt
    clear hvb hvt hpost
    go_wp2
    go_quiet (fail)
    go_wp2
    go_ret2
    exact ⟨_, _, rfl, HVb.out.rebase (by omega), HVt.out.rebase (by omega), hbel.trans (Dn.below ⟨nq, rfl⟩ _)⟩
end Go.Proofs.Ytkgikehagkpmoaa
