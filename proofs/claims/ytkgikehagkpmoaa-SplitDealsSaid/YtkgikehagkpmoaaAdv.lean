import Derived.Test.YtkgikehagkpmoaaExc
import Derived.Test.YtkgikehagkpmoaaDig
import Derived.Deep.LoopGhost
namespace Go.Proofs.Ytkgikehagkpmoaa
open Go.RowKit

/-- While the goods behind g have been set back. -/
def advF (n m i g : Nat) : Nat → Int := fun j => if j < g then dg n m i j else 0

set_option maxHeartbeats 1000000 in
theorem advance_any (G n m i : Nat) (w : World) (h : RowI w G m (dg n m i)) (hn : 0 < n) (hn9 : n ≤ 9) (hm : m ≤ 9) (hi : i < n ^ m) :
    Calls Try.prog 84 #[.slice (some ⟨G, 0, none⟩) m m, .int .i64 n] w fun e w' => e = .returned (.bool (decide (i + 1 < n ^ m))) ∧ RowI w' G m (dg n m (i + 1)) ∧ Exc G w w' := by
  have H := Lib.hid h
  have HI := Lib.hid hi
  clear h hi
  go_enter Try.func84, Try.ntmps84
  go_wp2
  go_loopg [5] m (fun gk gv wr => gk ≤ m ∧ gv = .int .i64 ((gk : Int) - 1) ∧ RowI wr G m (advF n m i gk) ∧ (∀ j, gk ≤ j → j < m → dgN n m i j = n - 1) ∧ Exc G w wr)
  case atStart =>
    refine ⟨Nat.le_refl _, rfl, H.out.congr (fun j hj => by simp [advF, hj]), fun j h1 h2 => by omega, Exc.refl _ _⟩
  case round =>
    obtain ⟨hk, rfl, hR, hfull, hE⟩ := hrel
    have HF := Lib.hid hfull
    clear hfull
    rcases gk with _ | g
    · have hL : Hid (i + 1 = n ^ m) := Lib.hid (dg_last hn (fun j hj => HF.out j (by omega) hj) HI.out)
      have hB : Hid (decide (i + 1 < n ^ m) = false) := Lib.hid (by simp [hL.out])
      go_wp2
      go_ret
      refine ⟨ret_bool hB.out.symm, hR.congr (fun j hj => ?_), hE⟩
      rw [hL.out]
      simp [advF, dg, dg_end hn hj]
    · have hg : g < m := by omega
      have e0 : ((g + 1 : Nat) : Int) - 1 = (g : Int) := by omega
      rw [e0]
      have hc := hR.cell hg
      have e1 : advF n m i (g + 1) g = (dgN n m i g : Nat) := by simp [advF, dg]
      rw [e1] at hc
      have hfz := hR.frozen g
      have hlt := dg_lt (m := m) (i := i) (g := g) hn
      have HR := Lib.hid hR
      clear hR
      by_cases hl : dgN n m i g + 1 < n
      · have hB : Hid (decide (i + 1 < n ^ m) = true) := Lib.hid (by simpa using dg_more hn hg hl HI.out)
        generalize hx : dgN n m i g = x at *
        have HX := Lib.hid hx
        clear hx
        go_wp2
        go_ret
        refine ⟨ret_bool hB.out.symm, (HR.out.set g _).congr (fun j hj => ?_), hE.set g _⟩
        have := dg_next (i := i) hn hg (fun j h1 h2 => HF.out j (by omega) h2) (by rw [HX.out]; exact hl) j hj
        simp only [dg, this, upd, advF]
        by_cases c1 : j < g
        · rw [if_pos c1, if_neg (by omega), if_pos (by omega)]
        · by_cases c2 : j = g
          · subst c2
            simp [HX.out]
          · rw [if_neg c1, if_neg c2, if_neg c2, if_neg (by omega)]
            rfl
      · generalize hx : dgN n m i g = x at *
        have HX := Lib.hid hx
        clear hx
        go_wp2
        go_roundg g
        case rel =>
          refine ⟨by omega, by go_num, (HR.out.set g _).congr (fun j hj => ?_), fun j h1 h2 => ?_, hE.set g _⟩
          · simp only [upd, advF]
            by_cases c2 : j = g
            · subst c2
              simp
            · rw [if_neg c2]
              by_cases c1 : j < g
              · rw [if_pos (by omega), if_pos c1]
              · rw [if_neg (by omega), if_neg c1]
          · rcases Nat.lt_or_ge g j with h3 | h3
            · exact HF.out j (by omega) h2
            · obtain rfl : j = g := by omega
              rw [HX.out]
              omega
        case measure => omega
end Go.Proofs.Ytkgikehagkpmoaa
