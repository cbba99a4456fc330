/- The law TopSingle, walked. -/
import Derived.Test.YtjomkbdelgnkcaaTs
import Derived.Test.YtjomkbdelgnkcaaTa
import Derived.Test.YtjomkbdelgnkcaaRv
import Derived.Test.YtjomkbdelgnkcaaLl
namespace Go.Proofs.Ytjomkbdelgnkcaa
open Go.RowKit

theorem ballotsF (A : Option Addr) (n c : Nat) (L : Nat → Nat) (v : Nat → Nat → Int) (w : World) (h : ArgR w A n c L v) :
    Calls Try.prog 7 #[.slice A n c] w fun e w' => ∃ A' k c', e = .returned (.slice A' k c') ∧ k = min n 11 ∧ RowsK w' A' k (fun i => min (L i) 11) v ∧ k ≤ c' ∧ Below w.heap.size w w' := by
  refine (ballots_any A n c L v w h).mono ?_
  rintro e w' ⟨x, rfl, hx, hb⟩
  obtain ⟨A', c', rfl, h1, h2⟩ := hx.own.rowsKc
  exact ⟨A', _, c', rfl, rfl, h1, h2, hb⟩
theorem fpN_few {n : Nat} (v : Nat → Nat → Int) (x : Nat) : fpN v x n = fpN v x n := rfl
theorem WinFirstF {n k0 : Nat} {L : Nat → Nat} {v : Nat → Nat → Int} {A : Option Addr} {k cA : Nat} {w : World} (h : RowsK w A k (fun i => min (L i) 11) v) (hk : k = min n 11) (hA : k ≤ cA) (hok : okBal n L v = true) (hk0 : IsTop (fun x => (fpN v x n : Int)) (L 0) k0) :
    Lr 12 #[.slice A k cA, .int .i64 0] w (.tuple #[.int .i64 k0, .int .i64 0]) := by
  subst hk
  obtain ⟨e1, e2, e3⟩ := bal_few hok
  exact Win_first A (min n 11) cA k0 (fun i => min (L i) 11) v w h (by rw [okBal_few]; exact hok) hA (by simp only [e1, e2]; exact hk0)

set_option maxHeartbeats 2000000 in
set_option maxRecDepth 1000000 in
theorem topSingle_bad (A : Option Addr) (n c : Nat) (L : Nat → Nat) (v : Nat → Nat → Int) (w : World) (h : ArgR w A n c L v) (hok : okBal n L v = false) :
    Calls Try.prog 4 #[.slice A n c] w fun e w' => e = .returned (.bool true) ∧ Below w.heap.size w w' := by
  have HV : Hid (Ro 8 #[.slice A n c] w (.bool false)) := Lib.hid (by
    have := validR_any A n c L v w h
    rwa [hok] at this)
  clear h hok
  go_enter Try.func4, Try.ntmps4
  go_wp2_with fail
  refine Ro.use HV.out ?_
  intro w1 hd1
  have HB1 := Lib.hid (hd1.below w.heap.size)
  clear hd1 HV
  go_wp2_with fail
  refine Lr.use (counts_any _) ?_
  intro w6 hb6
  have Hb6 := Lib.hid (HB1.out.trans (hb6.mono HB1.out.size))
  clear hb6
  go_wp2
  go_ret
  exact ⟨rfl, Hb6.out⟩

set_option maxHeartbeats 4000000 in
set_option maxRecDepth 1000000 in
theorem topSingle_fine (A : Option Addr) (n c : Nat) (L : Nat → Nat) (v : Nat → Nat → Int) (w : World) (h : ArgR w A n c L v) (hok : okBal n L v = true) :
    Calls Try.prog 4 #[.slice A n c] w fun e w' => e = .returned (.bool true) ∧ Below w.heap.size w w' := by
  have HV : Hid (Ro 8 #[.slice A n c] w (.bool true)) := Lib.hid (by
    have := validR_any A n c L v w h
    rwa [hok] at this)
  obtain ⟨⟨hn1, hn9⟩, ⟨hc1, hc5⟩, hO⟩ := okBal_iff.1 hok
  obtain ⟨k0, hk0⟩ := top_exists (fun x => (fpN v x n : Int)) (L 0) hc1
  have hv5 : ∀ i, i < n → 0 ≤ v i 0 ∧ v i 0 < (L 0 : Int) := fun i hi => (hO i hi).2.rng 0 hc1
  have HCm := Lib.hid (cm_first (n := n) hc5 (fun i hi => by have := hv5 i hi; omega) hk0)
  have HAp := Lib.hid (okAp_first hn1 hn9 hc1 hc5 hv5)
  have hk0c := hk0.1
  have HKt := Lib.hid hk0
  have H := Lib.hid h
  have HK := Lib.hid hok
  have HO := Lib.hid hO
  have HV5 := Lib.hid hv5
  clear h hok hO hk0 hv5
  go_enter Try.func4, Try.ntmps4
  go_wp2_with fail
  refine Ro.use HV.out ?_
  intro w1 hd1
  have HB1 := Lib.hid (hd1.below w.heap.size)
  clear hd1 HV
  go_wp2_with fail
  go_loopw [3, 16] (fun s i wr => ∃ k : Nat, k ≤ n ∧ i = .int .i64 k ∧ OwnL wr w1.heap.size s (lst k (fun i => ((fsG v i : Nat) : Int))) ∧ Below w1.heap.size w1 wr) (fun _ i _ => n - (intOf i).toNat)
  case atStart => exact ⟨0, Nat.zero_le _, rfl, OwnL.nil_ _ _, Below.refl _ _⟩
  case round =>
    obtain ⟨k, hk, rfl, hO, hB⟩ := hrel
    have HO1 := Lib.hid hO
    have HB := Lib.hid hB
    have HBw := Lib.hid (HB1.out.trans (hB.mono HB1.out.size))
    have hsb := hB.size
    clear hO hB
    by_cases hlt : k < n
    · obtain ⟨b, o, A', c', eA, hcell, hArg⟩ := (H.out.below HBw.out).at hlt
      subst eA
      have hLk := (HO.out k hlt).1
      rw [hLk] at hcell hArg
      obtain ⟨b2, o2, rfl, hci⟩ := hArg.2.2.2.at (show 0 < L 0 from hc1)
      have hv := HV5.out k hlt
      obtain ⟨y, hy, hy5⟩ : ∃ y : Nat, v k 0 = (y : Int) ∧ y < 62 := ⟨(v k 0).toNat, by omega, by omega⟩
      rw [hy, Nat.add_zero] at hci
      have hpw := wrap_pow y hy5
      have hfs : fsG v k = 2 ^ y := by unfold fsG; rw [hy]; rfl
      rw [← hfs] at hpw
      have HE : Hid (lst (k + 1) (fun i => ((fsG v i : Nat) : Int)) = lst k (fun i => ((fsG v i : Nat) : Int)) ++ lst 1 (fun _ => ((fsG v k : Nat) : Int))) := Lib.hid (by rw [lst_succ]; simp [lst])
      clear hArg hv hy hfs hLk
      generalize fsG v k = z at *
      go_wp2_with (at_builtin; go_loud (refine wpList_append_ints rfl (.tmp 20) (.tmp 25) rfl w1.heap.size u3 (lst k (fun i => ((fsG v i : Nat) : Int))) rfl (World.ownsRow.alloc HO1.out _) (some ⟨wr.heap.size, 0, none⟩) 1 1 (fun _ => (z : Int)) rfl (row1 rfl _).ints (by simp [lst_len]; omega) (by simp; omega) ?_))
      intro v5 w5 hv5 hg5 _
      have hb5 : Below w1.heap.size w1 w5 := (HB.out.alloc hsb _).grown hg5 (by simp; omega) (fun g hg => (World.ownsRow.lt HO1.out g hg).1)
      have HV5b := Lib.hid hv5
      have HB5 := Lib.hid hb5
      clear hv5 hg5 hb5
      go_wp2
      go_roundw
      case rel => exact ⟨k + 1, by omega, by go_num, by rw [HE.out]; exact HV5b.out, HB5.out⟩
      case measure => simp [intOf]; omega
    · have hkn : k = n := by omega
      rw [hkn] at HO1 ⊢
      clear hkn hlt hk
      obtain ⟨A3, c3, e3, hI3⟩ := HO1.out.sl0
      subst e3
      have HI3 := Lib.hid hI3
      clear hI3 HO1
      obtain ⟨bb, oo, A0, c0, eA, hcell, -⟩ := (H.out).at (show 0 < n by omega)
      subst eA
      have HC0 : Hid (∀ W : World, Below w.heap.size w W → W.cell? ⟨bb, oo, none⟩ = some (.slice A0 (L 0) c0)) := Lib.hid (fun W hW => (hW.cell (World.block_lt_of_cell? _ _ hcell)).trans hcell)
      clear hcell
      have hnI : (0 : Int) < (n : Int) := by omega
      go_wp2_with fail
      refine (ballotsF (some ⟨bb, oo, none⟩) n c L v _ (H.out.below HBw.out)).mono ?_
      rintro e w3 ⟨A4, k4, c4, rfl, hk4, hr4, hc4, hb3⟩
      have HM := Lib.hid (WinFirstF (cA := c4) hr4 hk4 hc4 HK.out HKt.out)
      have HI4 := Lib.hid (HI3.out.keep hb3)
      have HB3 := Lib.hid (HBw.out.trans (hb3.mono HBw.out.size))
      clear hk4 hr4 hc4 hb3 HI3
      go_wp2_with fail
      refine Lr.use HM.out ?_
      intro w4 hb4
      have HI5 := Lib.hid (HI4.out.keep hb4)
      have HB4 := Lib.hid (HB3.out.trans (hb4.mono HB3.out.size))
      have hc4' := HC0.out _ HB4.out
      clear hb4 HM HI4
      have HCo : Hid (Ro 15 #[.int .i64 (L 0), .int .i64 1, .slice A3 n c3] w4 (.tuple #[.int .i64 ((2 ^ k0 : Nat) : Int), .int .i64 0])) := Lib.hid (by
        have := Committee_ok (L 0) 1 A3 n c3 (fun i => ((fsG v i : Nat) : Int)) (fsG v) w4 HI5.out hn9 (fun i hi => ⟨rfl, by
          have h1 := HV5.out i hi
          have h2 : fsG v i < 2 ^ 5 := Nat.pow_lt_pow_right (by omega) (by omega)
          omega⟩) (by omega) HAp.out
        rw [HCm.out] at this
        exact this)
      have hpw := wrap_pow k0 (by omega)
      clear HCm
      generalize ((2 ^ k0 : Nat) : Int) = s0 at *
      have hself := beq_t (rfl : s0 = s0)
      go_wp2_with fail
      refine Ro.use HCo.out ?_
      intro w5 hd5
      have HB5 := Lib.hid (HB4.out.trans (hd5.below _))
      clear hd5 HCo hc4'
      go_wp2_with fail
      refine Lr.use (counts_any _) ?_
      intro w6 hb6
      have Hb6 := Lib.hid (HB5.out.trans (hb6.mono HB5.out.size))
      clear hb6
      go_wp2
      go_ret
      exact ⟨rfl, Hb6.out⟩
theorem topSingle_walk (A : Option Addr) (n c : Nat) (L : Nat → Nat) (v : Nat → Nat → Int) (w : World) (h : ArgR w A n c L v) :
    Calls Try.prog 4 #[.slice A n c] w fun e w' => e = .returned (.bool true) ∧ Below w.heap.size w w' := by
  cases hok : okBal n L v with
  | false => exact topSingle_bad A n c L v w h hok
  | true => exact topSingle_fine A n c L v w h hok
end Go.Proofs.Ytjomkbdelgnkcaa
