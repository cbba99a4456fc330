/- The reference: Objects. -/
import Derived.Test.YtocfbafcplhmiaaUzu
namespace Go.Proofs.Ytocfbafcplhmiaa
open Go.RowKit

theorem obR_first {ob : Nat → Bool} {n m : Nat} (hn : n ≤ 5) (hm : m < 2 ^ n) (ho : ob m = true) (h1 : ∀ s, s < 2 ^ n → pc5 s < pc5 m → ob s = false) (h2 : ∀ s, s < m → pc5 s = pc5 m → ob s = false) : ∀ M, M ≤ 2 ^ n → (M ≤ m → pc5 m < (obR ob n M).2) ∧ (m < M → obR ob n M = (m, pc5 m)) := by
  intro M
  induction M with
  | zero => intro _; exact ⟨fun _ => by have := pc5_top n (by omega) m hm; show pc5 m < n + 1; omega, fun h => absurd h (by omega)⟩
  | succ M ih =>
    intro hM
    obtain ⟨i1, i2⟩ := ih (by omega)
    refine ⟨fun hle => ?_, fun hlt => ?_⟩
    · rw [obR]
      split
      · rename_i hc
        show pc5 m < pc5 M
        rcases Nat.lt_trichotomy (pc5 M) (pc5 m) with e | e | e
        · rw [h1 M (by omega) e] at hc; cases hc.2
        · rw [h2 M (by omega) e] at hc; cases hc.2
        · exact e
      · exact i1 (by omega)
    · rw [obR]
      by_cases e : M = m
      · subst e
        rw [if_pos ⟨i1 (Nat.le_refl _), ho⟩]
      · have e3 := i2 (by omega)
        rw [e3, if_neg]
        rintro ⟨hc1, hc2⟩
        rw [h1 M (by omega) hc1] at hc2
        cases hc2
theorem obV_first {t : Nat → Nat → Nat} {n m : Nat} {h : Nat → Nat} (hn : n ≤ 5) (hm : m < 2 ^ n) (ho : obB t n m h = true) (h1 : ∀ s, s < 2 ^ n → pc5 s < pc5 m → obB t n s h = false) (h2 : ∀ s, s < m → pc5 s = pc5 m → obB t n s h = false) : obV t n h = .tuple #[.int .i64 m, .int .i64 0] := by
  have := (obR_first (ob := fun s => obB t n s h) hn hm ho h1 h2 (2 ^ n) (Nat.le_refl _)).2 hm
  unfold obV
  rw [this, if_neg]
  show m ≠ 0
  rintro rfl
  rw [obB_zero] at ho
  cases ho
set_option maxHeartbeats 4000000 in
set_option maxRecDepth 1000000 in
theorem refObjects_any (A : Option Addr) (n c : Nat) (t : Nat → Nat → Nat) (G : Option Addr) (cG : Nat) (h : Nat → Nat) (w : World) (hw : Wis w A n t) (hG : Ints w G n (fun k => (h k : Int))) (hn : n ≤ 5) (ht : ∀ i, i < n → Pm n (t i)) (hh : ∀ k, k < n → h k < n) :
    Lr 45 #[.slice A n c, .slice G n cG] w (obV t n h) := by
  unfold Lr
  have hp2 := pow_only n (by omega)
  obtain ⟨N, hN⟩ : ∃ N, N = 2 ^ n := ⟨_, rfl⟩
  rw [← hN] at hp2
  have HK := Lib.hid hp2
  have hN32 : N ≤ 32 := by
    rw [hN]
    exact Nat.pow_le_pow_right (n := 2) (by omega) hn
  have HOb := Lib.hid (fun (w' : World) (s : Nat) (hb : Below w.heap.size w w') => refobjects_any A n c t G cG h s w' (hw.keep hb) (hG.keep hb) hn ht hh)
  have HV1 : Hid (∀ m, m < N → obB t n m h = true → (∀ s, s < N → pc5 s < pc5 m → obB t n s h = false) → (∀ s, s < m → pc5 s = pc5 m → obB t n s h = false) → obV t n h = .tuple #[.int .i64 m, .int .i64 0]) := Lib.hid (fun m hm ho h1 h2 => obV_first hn (by omega) ho (fun s hs => h1 s (by omega)) h2)
  have HV0 : Hid ((∀ s, s < N → obB t n s h = false) → obV t n h = .tuple #[.int .i64 0, .int .i64 4]) := Lib.hid (fun hall => obV_none hn (fun s hs => hall s (by omega)))
  have HTop : Hid (∀ s, s < N → pc5 s ≤ n) := Lib.hid (fun s hs => pc5_top n (by omega) s (by omega))
  have HZ : Hid (∀ s, s < N → pc5 s < 1 → obB t n s h = false) := Lib.hid (fun s hs e => by
    rw [pc5_zero s (by omega) (by omega)]
    exact obB_zero t n h)
  generalize obV t n h = ov at *
  generalize (fun s => obB t n s h) = ob at *
  have HN := Lib.hid hN
  clear hw hG ht hh hp2 hN
  go_enter Try.func45, Try.ntmps45
  go_wp2
  go_loopw [6] (fun i wr => ∃ k : Nat, 1 ≤ k ∧ k ≤ n + 1 ∧ i = .int .i64 k ∧ (∀ s, s < N → pc5 s < k → obB t n s h = false) ∧ Below w.heap.size w wr) (fun i _ => n + 1 - (intOf i).toNat)
  case atStart => exact ⟨1, Nat.le_refl _, by omega, rfl, HZ.out, Below.refl _ _⟩
  case round =>
    obtain ⟨k, hk1, hk, rfl, hno, hD⟩ := hrel
    have HNo := Lib.hid hno
    have HD := Lib.hid hD
    clear hno hD
    by_cases hlt : k ≤ n
    · obtain ⟨w1, hw1⟩ : ∃ w1, w1 = wr := ⟨_, rfl⟩
      go_wp2_with fail
      rw [HK.out]
      rw [← hw1] at HD ⊢
      clear hw1
      go_loopw [17] (fun i wr => ∃ m : Nat, m ≤ N ∧ i = .int .i64 m ∧ (∀ s, s < m → pc5 s = k → obB t n s h = false) ∧ Below w.heap.size w wr) (fun i _ => N - (intOf i).toNat)
      case atStart => exact ⟨0, Nat.zero_le _, rfl, fun s hs => absurd hs (by omega), HD.out⟩
      case round =>
        obtain ⟨m, hm, rfl, hno, hD⟩ := hrel
        have HNm := Lib.hid hno
        have HDm := Lib.hid hD
        clear hno hD
        by_cases hmn : m < N
        · have HSz := Lib.hid (fun w => refsize_any m (by omega) w)
          have hp5 := pc5_le m (by omega)
          have HObm := Lib.hid (HOb.out wr m HDm.out)
          have HY : Hid (pc5 m = k → obB t n m h = true → ov = .tuple #[.int .i64 m, .int .i64 0]) := Lib.hid (fun e1 e2 => HV1.out m hmn e2 (fun s hs hl => HNo.out s hs (by omega)) (fun s hs hl => HNm.out s hs (by omega)))
          have HN2 : Hid ((pc5 m = k → obB t n m h = false) → ∀ s, s < m + 1 → pc5 s = k → obB t n s h = false) := Lib.hid (fun hf s hs e => by
            by_cases e2 : s = m
            · rw [e2] at e ⊢; exact hf e
            · exact HNm.out s (by omega) e)
          generalize pc5 m = pm at *
          go_wp2_with fail
          refine (HSz.out _).mono ?_
          rintro e w' ⟨rfl, rfl⟩
          by_cases he : pm = k
          · have hq := beq_t (a := (pm : Int)) (b := (k : Int)) (by omega)
            cases hob : obB t n m h with
            | false =>
              have HX := Lib.hid (HN2.out (fun _ => hob))
              rw [hob] at HObm
              clear hob he
              go_wp2_with fail
              refine HObm.out.use fun w5 hb5 => ?_
              have HD5 := Lib.hid (HDm.out.trans (hb5.mono HDm.out.size))
              clear hb5
              go_wp2
              go_roundw
              case rel => exact ⟨m + 1, by omega, by go_num, HX.out, HD5.out⟩
              case measure => simp [intOf]; omega
            | true =>
              have HX := Lib.hid (HY.out he hob)
              rw [hob] at HObm
              clear hob he
              go_wp2_with fail
              refine HObm.out.use fun w5 hb5 => ?_
              have HD5 := Lib.hid (HDm.out.trans (hb5.mono HDm.out.size))
              clear hb5
              go_wp2
              go_ret2
              exact ⟨by rw [HX.out]; rfl, HD5.out⟩
          · have hq := beq_f (a := (pm : Int)) (b := (k : Int)) (by omega)
            have HX := Lib.hid (HN2.out (fun e => absurd e he))
            clear he
            go_wp2
            go_roundw
            case rel => exact ⟨m + 1, by omega, by go_num, HX.out, HDm.out⟩
            case measure => simp [intOf]; omega
        · have HX : Hid (∀ s, s < N → pc5 s < k + 1 → obB t n s h = false) := Lib.hid (fun s hs hl => by
            by_cases e : pc5 s = k
            · exact HNm.out s (by omega) e
            · exact HNo.out s hs (by omega))
          go_wp2
          go_roundw
          case rel => exact ⟨k + 1, by omega, by omega, by go_num, HX.out, HDm.out⟩
          case measure => simp [intOf]; omega
    · have HX := Lib.hid (HV0.out (fun s hs => HNo.out s hs (by have := HTop.out s hs; omega)))
      go_wp2
      go_ret2
      exact ⟨by rw [HX.out]; rfl, HD.out⟩
end Go.Proofs.Ytocfbafcplhmiaa
