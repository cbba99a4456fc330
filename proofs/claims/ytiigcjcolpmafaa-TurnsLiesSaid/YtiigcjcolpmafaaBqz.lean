/- A part of the proof: Bqz. -/
import Derived.Test.YtiigcjcolpmafaaTwz
namespace Go.Proofs.Ytiigcjcolpmafaa
open Go.RowKit

set_option maxHeartbeats 2000000 in
set_option maxRecDepth 1000000 in
theorem Blocks_ok (AH AS AP D : Option Addr) (cH cS cP n c : Nat) (p : PlanD) (m : Nat → Int) (w : World) (hp : PlanIn w AH AS AP p) (hd : Ints w D n m) (hn : n = p.nH) (hok : okPlan p = true) (hmat : okMat p n m = true) :
    Calls Try.prog 38 #[.agg #[.slice AH p.nH cH, .slice AS p.nS cS, .slice AP p.nP cP], .slice D n c] w fun e w' => ∃ x, e = .returned (.tuple #[x, .int .i64 0]) ∧ OwnP w' w.heap.size x (prAll (blkB p m) p.nS p.nH) ∧ Below w.heap.size w w' := by
  obtain ⟨i0, hi, hz0, hz1, hz2⟩ := info_parts infoPair
  have Hb0 := Lib.hid (below_box w (.cells #[.slice AH p.nH cH, .slice AS p.nS cS, .slice AP p.nP cP] 29))
  have HB0 := Lib.hid (BoxP.new w AH AS AP p.nH p.nS p.nP cH cS cP)
  have HBl : Hid (∀ (w' : World) (h s : Nat), Below w.heap.size w w' → h < p.nH → s < p.nS → Lr 69 #[.agg #[.slice AH p.nH cH, .slice AS p.nS cS, .slice AP p.nP cP], .slice D n c, .int .i64 h, .int .i64 s] w' (.bool (blkB p m h s))) := Lib.hid (fun w' h s hb hh hs =>
    blocks_any AH AS AP D cH cS cP n c p m h s w' (hp.keep hb) (hd.keep hb) hn hok (okMat_lstd hmat) hh hs)
  obtain ⟨⟨a1, a2, a3, a4, -⟩, -, -, -⟩ := okPlan_of hok
  have hM := matches_any AH AS AP D cH cS cP n c p m _ (hp.keep Hb0.out) (hd.keep Hb0.out) (by omega)
  rw [hmat] at hM
  have HM := Lib.hid hM
  clear hp hd hn hok hmat hM
  go_enter Try.func38, Try.ntmps38
  go_wp2_with fail
  refine Lr.use HM.out ?_
  intro w1 hb1
  have Hb1 := Lib.hid (Hb0.out.trans (hb1.mono Hb0.out.size))
  have HB1 := Lib.hid (HB0.out.keep hb1)
  have hsz1 : w.heap.size + 1 ≤ w1.heap.size := World.block_lt_of_cell? _ _ HB1.out.1
  obtain ⟨z0, z1, z2⟩ := HB1.out
  clear hb1
  go_wp2
  clear z0 z1 z2
  go_loopw [6, 16] (fun s x wr => ∃ k : Nat, k ≤ p.nH ∧ x = .int .i64 k ∧ OwnP wr (w.heap.size + 1) s (prAll (blkB p m) p.nS k) ∧ Below w.heap.size w wr ∧ BoxP wr w.heap.size AH AS AP p.nH p.nS p.nP cH cS cP) (fun _ x _ => p.nH - (intOf x).toNat)
  case atStart => exact ⟨0, Nat.zero_le _, rfl, World.ownsRow_nil _ _ _ _, Hb1.out, HB1.out⟩
  case round =>
    obtain ⟨i, hk, rfl, hown, hbel, hbox⟩ := hrel
    have HOwn := Lib.hid hown
    have Hbel := Lib.hid hbel
    have HBox := Lib.hid hbox
    obtain ⟨q0, q1, q2⟩ := hbox
    clear hown hbel
    by_cases hlt : i < p.nH
    · go_wp2
      obtain ⟨wo, hwo⟩ : ∃ wo : World, wo = wr := ⟨_, rfl⟩
      have HWo := Lib.hid hwo
      clear hwo q0 q1 q2
      go_loopw [6, 22] (fun s x wi => ∃ k : Nat, k ≤ p.nS ∧ x = .int .i64 k ∧ OwnP wi (w.heap.size + 1) s (prAll (blkB p m) p.nS i ++ prRow (blkB p m) i k) ∧ Below w.heap.size w wi ∧ BoxP wi w.heap.size AH AS AP p.nH p.nS p.nP cH cS cP) (fun _ x _ => p.nS - (intOf x).toNat)
      case atStart => exact ⟨0, Nat.zero_le _, rfl, by simpa [prRow] using HOwn.out, Hbel.out, HBox.out⟩
      case round =>
        obtain ⟨k, hk2, rfl, hown2, hbel2, hbox2⟩ := hrel
        have HOwn2 := Lib.hid hown2
        have Hbel2 := Lib.hid hbel2
        have HBox2 := Lib.hid hbox2
        obtain ⟨q0, q1, q2⟩ := hbox2
        clear hown2 hbel2
        by_cases hlt2 : k < p.nS
        · have HC := Lib.hid (HBl.out wr i k Hbel2.out hlt hlt2)
          go_wp2_with fail
          refine Lr.use HC.out ?_
          intro w2 hb2
          have HOwn3 := Lib.hid (HOwn2.out.below hb2)
          have Hb2 := Lib.hid (Hbel2.out.trans (hb2.mono Hbel2.out.size))
          have HBx2 := Lib.hid (HBox2.out.keep hb2)
          have hsz : w.heap.size + 1 ≤ w2.heap.size := World.block_lt_of_cell? _ _ HBx2.out.1
          clear hb2 q0 q1 q2 HC
          cases he : blkB p m i k with
          | false =>
            have HE := Lib.hid he
            clear he
            go_wp2
            go_roundw
            case rel => exact ⟨k + 1, by omega, by go_num, by simpa [prRow, HE.out] using HOwn3.out, Hb2.out, HBx2.out⟩
            case measure => simp [intOf]; omega
          | true =>
            have HE := Lib.hid he
            clear he
            have hlen : (prAll (blkB p m) p.nS i ++ prRow (blkB p m) i k).length + 1 ≤ 1000 := by
              have e1 := prAll_len (blkB p m) p.nS i
              have e2 := prRow_len (blkB p m) i k
              have e3 : i * p.nS ≤ 6 * 4 := Nat.mul_le_mul (by omega) (by omega)
              simp only [List.length_append]
              omega
            have HLen := Lib.hid hlen
            clear hlen
            go_wp2_with (at_builtin; go_loud (refine wpList_append_own _ rfl _ _ 38 rfl (w.heap.size + 1) 43 i0 (.agg #[.int .i64 0, .int .i64 0]) 2 16 Try.underlying38 hi hz0 hz1 hz2 rfl (by decide) _ _ _ rfl (World.ownsRow.alloc HOwn3.out _) ⟨w2.heap.size, 0, none⟩ 1 1 [.int .i64 i, .int .i64 k] rfl rfl (newsP _ _ _ _) (oneP2 _ _) (by have := HLen.out; unfold maxLen; omega) (by have := HLen.out; omega) (by simp; omega) ?_))
            intro v' w3 hown3 hgrow3 _
            have HO3 := Lib.hid hown3
            have HG3 := Lib.hid hgrow3
            have Hb3 : Hid (Below w.heap.size w w3) := Lib.hid ((Hb2.out.alloc (by omega) _).grown HG3.out (by simp; omega) (fun g hg => by have := (World.ownsRow.lt HOwn3.out g hg).1; omega))
            have HBx3 : Hid (BoxP w3 w.heap.size AH AS AP p.nH p.nS p.nP cH cS cP) := Lib.hid (by
              obtain ⟨z0, z1, z2⟩ := HBx2.out
              have hk : ∀ {i : Nat} {v : Value}, w2.cell? ⟨w.heap.size, i, none⟩ = some v → w3.cell? ⟨w.heap.size, i, none⟩ = some v := fun {i v} hc => by
                refine World.grownBy.cell HG3.out (old_cell hc (below_box w2 _)) (fun e => ?_)
                have hlt3 := (World.ownsRow.lt HOwn3.out w.heap.size e.symm).1
                omega
              exact ⟨hk z0, hk z1, hk z2⟩)
            clear hown3 hgrow3
            go_wp2
            go_roundw
            case rel =>
              refine ⟨k + 1, by omega, by go_num, ?_, Hb3.out, HBx3.out⟩
              unfold OwnP
              simp only [prRow, HE.out, if_true]
              rw [← List.append_assoc, cellsP_snoc]
              simpa [Nat.add_assoc] using HO3.out
            case measure => simp [intOf]; omega
        · obtain rfl : k = p.nS := by omega
          go_wp2
          go_roundw
          case rel => exact ⟨i + 1, by omega, by go_num, by simpa [prAll] using HOwn2.out, Hbel2.out, HBox2.out⟩
          case measure => simp [intOf]; omega
    · obtain rfl : i = p.nH := by omega
      go_wp2
      go_ret2
      exact ⟨_, rfl, HOwn.out.base (by omega), Hbel.out⟩

set_option maxHeartbeats 1000000 in
set_option maxRecDepth 1000000 in
theorem Blocks_bad (AH AS AP D : Option Addr) (cH cS cP n c : Nat) (p : PlanD) (m : Nat → Int) (w : World) (hp : PlanIn w AH AS AP p) (hd : Ints w D n m) (hn : n ≤ 9) (hmat : okMat p n m = false) :
    Lr 38 #[.agg #[.slice AH p.nH cH, .slice AS p.nS cS, .slice AP p.nP cP], .slice D n c] w (.tuple #[.slice none 0 0, .int .i64 2]) := by
  have Hb0 := Lib.hid (below_box w (.cells #[.slice AH p.nH cH, .slice AS p.nS cS, .slice AP p.nP cP] 29))
  have hM := matches_any AH AS AP D cH cS cP n c p m _ (hp.keep Hb0.out) (hd.keep Hb0.out) hn
  rw [hmat] at hM
  have HM := Lib.hid hM
  clear hp hd hn hmat hM
  show Calls _ _ _ _ _
  go_enter Try.func38, Try.ntmps38
  go_wp2_with fail
  refine Lr.use HM.out ?_
  intro w1 hb1
  have Hb1 := Lib.hid (Hb0.out.trans (hb1.mono Hb0.out.size))
  clear hb1
  go_wp2
  go_ret2
  exact ⟨rfl, Hb1.out⟩
end Go.Proofs.Ytiigcjcolpmafaa

