/- The law's list and fracs; Equal on fractions; the reference's Players; awake. -/
import Derived.Test.YtoeimngbpagegaaDoorGg
import Derived.Test.YtoeimngbpagegaaDoorGlg
namespace Go.Proofs.YtoeimngbpagegaaDoor
open Go.RowKit

theorem list_any (A : Option Addr) (n c : Nat) (f : Nat → Int) (w : World) (h : ArgI w A n c f) :
    Calls Tryd.prog 19 #[.slice A n c] w fun e w' => ∃ v', e = .returned v' ∧ OwnL w' w.heap.size v' (lst (min n 18) f) ∧ Below w.heap.size w w' := by
  obtain ⟨h1, h2, h3, h4⟩ := h
  have H4 := Lib.hid h4
  clear h4
  by_cases hn : n ≤ 18
  · have hm := Lib.hid (Nat.min_eq_left hn)
    rcases A with _ | a
    · obtain rfl := H4.out.none_
      obtain rfl := h3 rfl
      go_enter Tryd.func19, Tryd.ntmps19
      go_wp2_with fail
      refine (clone_any _ _ _ f _ H4.out (by omega)).mono ?_
      rintro e w' ⟨v', rfl, ho, -, hb⟩
      go_wp2
      go_ret
      exact ⟨_, rfl, ho, hb⟩
    · clear h3
      go_enter Tryd.func19, Tryd.ntmps19
      go_wp2_with fail
      refine (clone_any _ _ _ f _ H4.out (by omega)).mono ?_
      rintro e w' ⟨v', rfl, ho, -, hb⟩
      go_wp2
      go_ret
      exact ⟨_, rfl, by rw [hm.out]; exact ho, hb⟩
  · have hm := Lib.hid (Nat.min_eq_right (show 18 ≤ n by omega))
    have h10 : 19 ≤ n := by omega
    rcases A with _ | a
    · obtain rfl := H4.out.none_
      omega
    · clear h3
      go_enter Tryd.func19, Tryd.ntmps19
      go_wp2_with fail
      refine (clone_any (some a) 18 c f _ (fun _ => by
        obtain ⟨b, o, e, hc⟩ := H4.out (by omega)
        exact ⟨b, o, e, fun k hk => hc k (by omega)⟩) (by omega)).mono ?_
      rintro e w' ⟨v', rfl, ho, -, hb⟩
      go_wp2
      go_ret
      exact ⟨_, rfl, by rw [hm.out]; exact ho, hb⟩
theorem OwnL.ints {w : World} {base n : Nat} {v : Value} {f : Nat → Int} (h : OwnL w base v (lst n f)) : ∃ A c, v = .slice A n c ∧ ArgI w A n c f := by
  obtain ⟨A, c, rfl, h1, h2, h3, h4⟩ := h.form
  rw [lst_len] at h2 h4 ⊢
  have h5 : c ≤ maxLen ∧ (A = none → c = 0) := by
    rcases h.2 with ⟨e, hn⟩ | ⟨g, cap, cur, e, hg, hh, hnc, hcm, hcs, ht⟩
    · injection e with e1 e2 e3
      subst e3
      exact ⟨by unfold maxLen; omega, fun _ => rfl⟩
    · injection e with e1 e2 e3
      subst e1 e3
      exact ⟨hcm, fun h => by cases h⟩
  exact ⟨A, c, rfl, h4, h5.1, h5.2, h2.congr (fun k hk => lst_getD _ _ _ hk)⟩

def eqFP (F G : Nat → Nat → Int) (k : Nat) : Bool := decide (F k 0 = G k 0) && decide (F k 1 = G k 1)
/-- Two lists of fractions are the same. -/
def eqFB (n m : Nat) (F G : Nat → Nat → Int) : Bool := decide (n = m) && allB (eqFP F G) n
theorem eqFB_self (n : Nat) (F : Nat → Nat → Int) : eqFB n n F F = true := by
  unfold eqFB
  rw [allB_t (fun g _ => by simp [eqFP])]
  simp
theorem cmpF (a b d e : Int) (w : World) : (binOp .neq 48 (.agg #[.int .i64 a, .int .i64 b]) (.agg #[.int .i64 d, .int .i64 e])).run Tryd.prog w = .ok (.bool (!(decide (a = d) && decide (b = e)))) w := by
  simp [go_sem]
  by_cases h1 : a = d
  · by_cases h2 : b = e
    · simp [h1, h2]
    · simp [h1, h2]
  · simp [h1]
theorem Recs.two {w : World} {A : Option Addr} {n : Nat} {F : Nat → Nat → Int} (h : Recs 2 w A n F) {k : Nat} (hk : k < n) : ∃ b o, A = some ⟨b, o, none⟩ ∧ w.cell? ⟨b, o + k * 2, none⟩ = some (.int .i64 (F k 0)) ∧ w.cell? ⟨b, o + k * 2 + 1, none⟩ = some (.int .i64 (F k 1)) := by
  obtain ⟨b, o, hA, hc⟩ := h.at hk
  exact ⟨b, o, hA, hc 0 (by omega), hc 1 (by omega)⟩
set_option maxHeartbeats 1000000 in
set_option maxRecDepth 1000000 in
theorem equalF_any (A B : Option Addr) (n m c c' : Nat) (F G : Nat → Nat → Int) (w : World) (hf : Recs 2 w A n F) (hg : Recs 2 w B m G) (hn : n ≤ 10000) (hm : m ≤ 10000) :
    Lr 32 #[.slice A n c, .slice B m c'] w (.bool (eqFB n m F G)) := by
  unfold Lr
  have H := Lib.hid hf
  have H2 := Lib.hid hg
  clear hf hg
  go_enter Tryd.func32, Tryd.ntmps32
  by_cases e : n = m
  · subst e
    have hB := bne_f (a := (n : Int)) rfl
    go_wp2
    go_loopw [13] (fun i wr => ∃ k : Nat, k ≤ n ∧ i = .int .i64 k ∧ AllLt (eqFP F G) k ∧ Dn w wr) (fun i _ => n - (intOf i).toNat)
    case atStart => exact ⟨0, Nat.zero_le _, rfl, AllLt.zero, Dn.refl _⟩
    case round =>
      obtain ⟨k, hk, rfl, hA, hD⟩ := hrel
      have HA := Lib.hid hA
      clear hA
      by_cases hlt : k < n
      · obtain ⟨b, o, rfl, c0, c1⟩ := (H.out.dn hD).two hlt
        obtain ⟨b', o', rfl, c0', c1'⟩ := (H2.out.dn hD).two hlt
        have hcmp := fun w => cmpF (F k 0) (F k 1) (G k 0) (G k 1) w
        have he : eqFP F G k = (decide (F k 0 = G k 0) && decide (F k 1 = G k 1)) := rfl
        rw [← he] at hcmp
        have HE := Lib.hid he
        clear he
        cases hq : eqFP F G k with
        | true =>
          rw [hq] at hcmp
          have HQ := Lib.hid hq
          clear hq
          go_wp2_with fail
          go_quiet (fail)
          go_wp2
          go_roundw
          case rel => exact ⟨k + 1, by omega, by go_num, HA.out.succ HQ.out, hD.drewN _⟩
          case measure => simp [intOf]; omega
        | false =>
          rw [hq] at hcmp
          have HQ := Lib.hid (show eqFB n n F G = false by unfold eqFB; rw [allB_f hlt hq, Bool.and_false])
          clear hq
          go_wp2_with fail
          go_quiet (fail)
          go_wp2
          go_ret
          exact ⟨ret_bool HQ.out.symm, (hD.drewN _).below _⟩
      · obtain rfl : k = n := by omega
        go_wp2
        go_ret
        exact ⟨ret_bool (by simp [eqFB, allB_t HA.out]), hD.below _⟩
  · have hB := bne_t (a := (n : Int)) (b := (m : Int)) (by omega)
    have HE : Hid (eqFB n m F G = false) := Lib.hid (by simp [eqFB, e])
    clear e
    go_wp2
    go_ret
    exact ⟨ret_bool HE.out.symm, Below.refl _ _⟩

/-- The number of players, 0: they are no costs. -/
def plN (L : Nat) (C : Nat → Int) : Nat := if okC L C = true then tzN L else 0
theorem pl_n0 (L : Nat) : ∃ n0, 1 ≤ n0 ∧ n0 ≤ 5 ∧ (n0 ≤ 4 → L = 2 ^ n0 ∧ tzN L = n0) ∧ (n0 = 5 → ¬ (L = 2 ∨ L = 4 ∨ L = 8 ∨ L = 16)) ∧ ∀ j, 1 ≤ j → j ≤ 4 → j ≠ n0 → L ≠ 2 ^ j := by
  by_cases h1 : L = 2
  · exact ⟨1, by omega, by omega, fun _ => by subst h1; decide, fun h => by omega, fun j a b c => by
      subst h1
      have : j = 2 ∨ j = 3 ∨ j = 4 := by omega
      rcases this with rfl | rfl | rfl <;> decide⟩
  by_cases h2 : L = 4
  · exact ⟨2, by omega, by omega, fun _ => by subst h2; decide, fun h => by omega, fun j a b c => by
      subst h2
      have : j = 1 ∨ j = 3 ∨ j = 4 := by omega
      rcases this with rfl | rfl | rfl <;> decide⟩
  by_cases h3 : L = 8
  · exact ⟨3, by omega, by omega, fun _ => by subst h3; decide, fun h => by omega, fun j a b c => by
      subst h3
      have : j = 1 ∨ j = 2 ∨ j = 4 := by omega
      rcases this with rfl | rfl | rfl <;> decide⟩
  by_cases h4 : L = 16
  · exact ⟨4, by omega, by omega, fun _ => by subst h4; decide, fun h => by omega, fun j a b c => by
      subst h4
      have : j = 1 ∨ j = 2 ∨ j = 3 := by omega
      rcases this with rfl | rfl | rfl <;> decide⟩
  · refine ⟨5, by omega, by omega, fun h => by omega, fun _ => by omega, fun j a b c => ?_⟩
    have : j = 1 ∨ j = 2 ∨ j = 3 ∨ j = 4 := by omega
    rcases this with rfl | rfl | rfl | rfl <;> assumption
theorem okC_bad {L : Nat} {C : Nat → Int} {k : Nat} (hk : k < L) (h : wtB (C k) 0 1000 = false) : okC L C = false := by
  cases h2 : okC L C with
  | false => rfl
  | true =>
    have := (okC_iff.1 h2).2.2 k hk
    rw [← wtB_iff, h] at this
    cases this
set_option maxHeartbeats 1000000 in
set_option maxRecDepth 1000000 in
theorem refPlayers_any (A : Option Addr) (L c : Nat) (C : Nat → Int) (w : World) (h : Ints w A L C) (hm : L ≤ maxLen) :
    Calls Tryd.prog 21 #[.slice A L c] w fun e w' => e = .returned (.int .i64 (plN L C : Nat)) ∧ w = w' := by
  have hm' : L ≤ 9223372036854775807 := by unfold maxLen at hm; omega
  obtain ⟨n0, h1, h5, hL, hno, hne⟩ := pl_n0 L
  have H := Lib.hid h
  have HL := Lib.hid hL
  have HNo := Lib.hid hno
  have HNe := Lib.hid hne
  have HR : Hid (okC L C = false → plN L C = 0) := Lib.hid (fun h => by unfold plN; rw [h]; simp)
  have HR2 : Hid (okC L C = true → plN L C = tzN L) := Lib.hid (fun h => by unfold plN; rw [h]; simp)
  have HBad : Hid (∀ k, k < L → wtB (C k) 0 1000 = false → okC L C = false) := Lib.hid (fun k hk h => okC_bad hk h)
  have HNo2 : Hid (n0 = 5 → okC L C = false) := Lib.hid (fun h => by unfold okC; rw [decide_eq_false (hno h), Bool.false_and])
  have HP : Hid (∀ k : Nat, k ≤ 4 → wrap64 (2 ^ k) = ((2 ^ k : Nat) : Int)) := Lib.hid (by decide +kernel)
  have HP1 : Hid (∀ k : Nat, 1 ≤ k → 0 < 2 ^ k) := Lib.hid (fun k _ => Nat.pos_of_ne_zero (by simp))
  clear h hL hno hne hm
  go_enter Tryd.func21, Tryd.ntmps21
  go_wp2_with fail
  go_loop [3] (fun i => ∃ k : Nat, 1 ≤ k ∧ k ≤ 5 ∧ i = .int .i64 k ∧ (n0 < k → okC L C = false)) (fun i => 6 - (intOf i).toNat)
  case atStart => exact ⟨1, by omega, by omega, rfl, fun h => by omega⟩
  case round =>
    obtain ⟨k, hk1, hk5, rfl, hf⟩ := hrel
    have HF := Lib.hid hf
    clear hf
    by_cases hk : k ≤ 4
    · have hp := HP.out k hk
      by_cases hkn : k = n0
      · subst hkn
        obtain ⟨hLk, htz⟩ := HL.out hk
        have HLk := Lib.hid hLk
        have HTz := Lib.hid htz
        rw [← hLk] at hp
        have hb := bne_f (a := (L : Int)) rfl
        have hLp : 0 < L := by rw [hLk]; exact HP1.out k hk1
        clear hLk htz
        go_wp2_with fail
        go_loop [17] (fun i => ∃ m : Nat, m ≤ L ∧ i = .int .i64 m ∧ AllLt (fun j => wtB (C j) 0 1000) m) (fun i => L - (intOf i).toNat)
        case atStart => exact ⟨0, Nat.zero_le _, rfl, AllLt.zero⟩
        case round =>
          obtain ⟨m, hmL, rfl, hA⟩ := hrel
          have HA := Lib.hid hA
          clear hA
          by_cases hlt : m < L
          · obtain ⟨b, o, rfl, hc⟩ := H.out.at hlt
            have HB := Lib.hid (HBad.out m hlt)
            have HS := Lib.hid (fun h => HA.out.succ (p := fun j => wtB (C j) 0 1000) h)
            have HW : Hid (wtB (C m) 0 1000 = (decide (0 ≤ C m) && decide (C m ≤ 1000))) := Lib.hid rfl
            generalize C m = x at *
            by_cases hx0 : x < 0
            · have HZ := Lib.hid (HR.out (HB.out (by rw [HW.out, decide_eq_false (by omega)]; rfl)))
              go_wp2
              go_ret
              exact ⟨ret_int (by rw [HZ.out]; rfl), rfl⟩
            · by_cases hx1 : 1000 < x
              · have HZ := Lib.hid (HR.out (HB.out (by rw [HW.out, decide_eq_false (show ¬ x ≤ 1000 by omega), Bool.and_false])))
                have hd := decide_eq_true hx1
                have hd0 : ¬ x < 0 := hx0
                go_wp2
                go_ret
                exact ⟨ret_int (by rw [HZ.out]; rfl), rfl⟩
              · have HZ := Lib.hid (HS.out (by rw [HW.out, decide_eq_true (show (0:Int) ≤ x by omega), decide_eq_true (show x ≤ 1000 by omega)]; rfl))
                have hd : x ≤ 1000 := by omega
                go_wp2
                go_round
                case rel => exact ⟨m + 1, by omega, by go_num, HZ.out⟩
                case measure => simp [intOf]; omega
          · obtain rfl : m = L := by omega
            obtain ⟨b, o, rfl, hc⟩ := H.out.at hLp
            simp only [Nat.add_zero] at hc
            have HA2 : Hid (C 0 = 0 → okC m C = true) := Lib.hid (fun h0 => okC_iff.2 ⟨by
              rw [HLk.out]
              have : k = 1 ∨ k = 2 ∨ k = 3 ∨ k = 4 := by omega
              rcases this with rfl | rfl | rfl | rfl <;> simp, h0, fun j hj => wtB_iff.1 (HA.out j hj)⟩)
            by_cases h0 : C 0 = 0
            · have hz := beq_t h0
              have HZ := Lib.hid (HR2.out (HA2.out h0))
              clear h0
              go_wp2
              go_ret
              exact ⟨ret_int (by rw [HZ.out, HTz.out]), rfl⟩
            · have hz := beq_f h0
              have HZ : Hid (okC m C = false) := Lib.hid (by
                cases h2 : okC m C with
                | false => rfl
                | true => exact absurd (okC_iff.1 h2).2.1 h0)
              clear h0
              go_wp2
              go_round
              case rel => exact ⟨k + 1, by omega, by omega, by go_num, fun _ => HZ.out⟩
              case measure => simp [intOf]; omega
      · have hb := bne_t (a := (L : Int)) (b := ((2 ^ k : Nat) : Int)) (by have := HNe.out k hk1 hk hkn; omega)
        generalize ((2 ^ k : Nat) : Int) = q at *
        go_wp2
        go_round
        case rel => exact ⟨k + 1, by omega, by omega, by go_num, fun h => HF.out (by omega)⟩
        case measure => simp [intOf]; omega
    · have hz : okC L C = false := by
        by_cases h : n0 < k
        · exact HF.out h
        · exact HNo2.out (by omega)
      have HZ := Lib.hid (HR.out hz)
      obtain rfl : k = 5 := by omega
      clear hz
      go_wp2
      go_ret
      exact ⟨ret_int (by rw [HZ.out]; rfl), rfl⟩

def awF : Nat → Nat → Int := fun _ i => if i = 0 then 5 else 1
def awC : Nat → Int := fun k => if k = 0 then 0 else 5
theorem awF_eq : ∀ i, i < 2 → shF 1 2 awC 0 i = awF 0 i := by decide +kernel
theorem awC_ok : okC 2 awC = true := by decide +kernel
theorem shapley_aw (A : Option Addr) (c : Nat) (W : World) (h : Ints W A 2 awC) (ht : Tab W) :
    Calls Tryd.prog 31 #[.slice A 2 c] W fun e w' => e = .returned (.tuple #[.slice (some ⟨W.heap.size, 0, none⟩) 1 1, .int .i64 0]) ∧ FrI w' W.heap.size 1 awF ∧ Below W.heap.size W w' :=
  (shapley_ok A 2 c 1 awC W h ht awC_ok rfl).mono fun _ _ ⟨h1, h2, h3⟩ => ⟨h1, h2.congr (fun k hk i hi => by
    obtain rfl : k = 0 := by omega
    exact awF_eq i hi), h3⟩
set_option maxHeartbeats 1000000 in
set_option maxRecDepth 1000000 in
theorem awake_any (w : World) (ht : Tab w) : Lr 22 #[] w (.bool true) := by
  unfold Lr
  have hR : Ints (w.alloc (.cells #[.int .i64 0, .int .i64 5] 3)) (some ⟨w.heap.size, 0, none⟩) 2 awC := fun _ => ⟨_, 0, rfl, fun k hk => by
    have : k = 0 ∨ k = 1 := by omega
    rcases this with rfl | rfl <;> simp [World.cell?_alloc_at, awC]⟩
  have hb1 := (Below.refl w.heap.size w).alloc (Nat.le_refl _) (.cells #[.int .i64 0, .int .i64 5] 3)
  have HR := Lib.hid hR
  have HB := Lib.hid hb1
  have HT := Lib.hid (ht.keep hb1)
  clear hR hb1 ht
  go_enter Tryd.func22, Tryd.ntmps22
  go_wp2_with fail
  refine (shapley_aw _ 2 _ HR.out HT.out).mono ?_
  rintro e w2 ⟨rfl, hF, hb2⟩
  rw [World.size_alloc] at hF
  have HB2 := Lib.hid (HB.out.trans (hb2.mono HB.out.size))
  have HV := Lib.hid hF.recs
  have hR2 : Recs 2 (w2.alloc (.cells #[.int .i64 5, .int .i64 1] 48)) (some ⟨w2.heap.size, 0, none⟩) 1 awF := fun _ => ⟨_, 0, rfl, fun k hk i hi => by
    obtain rfl : k = 0 := by omega
    have : i = 0 ∨ i = 1 := by omega
    rcases this with rfl | rfl <;> simp [World.cell?_alloc_at, awF]⟩
  have hb3 := (Below.refl w2.heap.size w2).alloc (Nat.le_refl _) (.cells #[.int .i64 5, .int .i64 1] 48)
  have HR2 := Lib.hid hR2
  have HV2 := Lib.hid (HV.out.keep hb3)
  have HB3 := Lib.hid (HB2.out.trans (hb3.mono HB2.out.size))
  clear hb2 hF hR2 hb3
  go_wp2_with fail
  refine (equalF_any _ _ 1 1 1 1 awF awF _ HV2.out HR2.out (by omega) (by omega)).use fun w4 hb4 => ?_
  have HB4 := Lib.hid (HB3.out.trans (hb4.mono HB3.out.size))
  rw [eqFB_self]
  clear hb4
  go_wp2
  go_ret
  exact ⟨rfl, HB4.out⟩
end Go.Proofs.YtoeimngbpagegaaDoor
