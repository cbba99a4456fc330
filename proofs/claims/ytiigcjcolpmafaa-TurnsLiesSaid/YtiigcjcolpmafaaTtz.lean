/- A part of the proof: Ttz. -/
import Derived.Test.YtiigcjcolpmafaaTstz
namespace Go.Proofs.Ytiigcjcolpmafaa
open Go.RowKit

theorem poss_rng {p : PlanD} {h : Nat} {s : Int} (hok : okPlan p = true) (hh : h < p.nH) (hp : possB p h s = true) : 0 ≤ s ∧ s < (p.nS : Int) := by
  obtain ⟨-, -, h7, -⟩ := okPlan_of hok
  unfold possB at hp
  rw [Bool.and_eq_true] at hp
  exact (h7 h hh).rng (of_decide_eq_true hp.1)
theorem cnt_pos {m : Nat → Int} {s : Int} {n : Nat} (h : 0 < cnt m s n) : ∃ x, x < n ∧ m x = s := by
  induction n with
  | zero => simp [cnt] at h
  | succ n ih =>
    simp only [cnt] at h
    by_cases e : m n = s
    · exact ⟨n, by omega, e⟩
    · rw [if_neg e] at h
      obtain ⟨x, h1, h2⟩ := ih h
      exact ⟨x, by omega, h2⟩

set_option maxHeartbeats 4000000 in
set_option maxRecDepth 1000000 in
theorem rMatching_any (AH AS AP D : Option Addr) (cH cS cP n c : Nat) (p : PlanD) (m : Nat → Int) (w : World) (h : PlanArg w AH AS AP cH cS cP p) (hd : ArgI w D n c m) (hok : okPlan p = true) :
    Lr 44 #[.agg #[.slice AH p.nH cH, .slice AS p.nS cS, .slice AP p.nP cP], .slice D n c] w (.bool (okMat p n m)) := by
  obtain ⟨⟨a1, a2, a3, a4, a5⟩, a6, -, -⟩ := okPlan_of hok
  obtain ⟨W, hW⟩ : ∃ W, W = w.alloc (.cells #[.slice AH p.nH cH, .slice AS p.nS cS, .slice AP p.nP cP] 25) := ⟨_, rfl⟩
  have Hb0 : Hid (Below w.heap.size w W) := Lib.hid (by rw [hW]; exact below_box _ _)
  have HB0 : Hid (BoxP W w.heap.size AH AS AP p.nH p.nS p.nP cH cS cP) := Lib.hid (by rw [hW]; exact BoxP.newR w AH AS AP p.nH p.nS p.nP cH cS cP)
  have HA := Lib.hid (h.keep Hb0.out)
  have HD := Lib.hid (hd.2.2.2.keep Hb0.out)
  have hn63 : n ≤ 9223372036854775807 := by
    have h0 := Nat.le_trans hd.1 hd.2.1
    unfold maxLen at h0
    omega
  have HOk := Lib.hid hok
  have HP6 := Lib.hid a6
  have hWs : W.heap.size = w.heap.size + 1 := by rw [hW]; simp
  clear h hd hok a6
  show Calls _ _ _ _ _
  by_cases hlen : n = p.nH
  · have HN := Lib.hid hlen
    have hlB := bne_f (a := (n : Int)) (b := (p.nH : Int)) (by omega)
    have hmk := mk_ints p.nS (by omega)
    obtain ⟨gc, hgc⟩ : ∃ gc, gc = w.heap.size + 1 := ⟨_, rfl⟩
    have hbm := below_box W (.cells (madeCells #[.int .i64 0] p.nS) 3)
    have hr0 : RowI (W.alloc (.cells (madeCells #[.int .i64 0] p.nS) 3)) gc p.nS (fun s => (cnt m (s : Int) 0 : Int)) := by
      rw [hgc, ← hWs]
      exact (RowI.made W p.nS).congr fun s _ => rfl
    have HR0 := Lib.hid hr0
    have Hbm := Lib.hid hbm
    have HGc : Hid (gc = W.heap.size) := Lib.hid (by rw [hgc, hWs])
    have hn6 : n ≤ 6 := by omega
    have hmkc : (p.nS : Int) ≤ 4 := by omega
    clear hr0 hbm hlen hWs a5 hn63
    go_enter Try.func44, Try.ntmps44
    go_wp2
    rw [← hW, ← hgc]
    clear hmk hW hgc
    go_loopw [22] (fun x wr => ∃ k : Nat, k ≤ n ∧ x = .int .i64 k ∧ (∀ h, h < k → m h = -1 ∨ (0 ≤ m h ∧ m h < (p.nS : Int) ∧ possB p h (m h) = true)) ∧ RowI wr gc p.nS (fun s => (cnt m (s : Int) k : Int)) ∧ Below W.heap.size W wr) (fun x _ => n - (intOf x).toNat)
    case atStart => exact ⟨0, Nat.zero_le _, rfl, fun h hh => absurd hh (by omega), HR0.out, Hbm.out⟩
    case round =>
      obtain ⟨k, hk, rfl, hall, hR, hbel⟩ := hrel
      have HAll := Lib.hid hall
      have HR := Lib.hid hR
      have Hbel := Lib.hid hbel
      clear hall hR hbel
      by_cases hlt : k < n
      · obtain ⟨bD, oD, rfl, hck⟩ := (HD.out.keep Hbel.out).at hlt
        have hkH : k < p.nH := by have := HN.out; omega
        have hcl := cnt_le m (m k) k
        by_cases e1 : m k = -1
        · have hB := beq_t e1
          have HN2 : Hid (∀ h, h < k + 1 → m h = -1 ∨ (0 ≤ m h ∧ m h < (p.nS : Int) ∧ possB p h (m h) = true)) := Lib.hid (fun h hh => by
            rcases Nat.lt_or_ge h k with hl | hl
            · exact HAll.out h hl
            · obtain rfl : h = k := by omega
              exact .inl e1)
          have HR2 : Hid (RowI wr gc p.nS (fun s => (cnt m (s : Int) (k + 1) : Int))) := Lib.hid (HR.out.congr (fun s _ => by
            simp only [cnt]
            rw [if_neg (by omega)]))
          clear e1
          go_wp2
          go_roundw
          case rel => exact ⟨k + 1, by omega, by go_num, HN2.out, HR2.out, Hbel.out⟩
          case measure => simp [intOf]; omega
        · have hB := beq_f e1
          have HPos := Lib.hid (rpossible_any AH AS AP cH cS cP p k (m k) wr (HA.out.keep Hbel.out).hands.rows (HA.out.keep Hbel.out).shifts.rows HOk.out hkH)
          have HFl : Hid (possB p k (m k) = false → okMat p n m = false) := Lib.hid (fun hf => by
            unfold okMat
            rw [allB_f hkH (by unfold matP; rw [decide_eq_false e1, hf]; rfl)]
            simp)
          have hrng : possB p k (m k) = true → 0 ≤ m k ∧ m k < (p.nS : Int) := fun h => poss_rng HOk.out hkH h
          obtain ⟨q0, q1, q2⟩ := HB0.out.keep Hbel.out
          by_cases e2 : m k < 0
          · have HE := Lib.hid (HFl.out (by
              cases hp : possB p k (m k) with
              | false => rfl
              | true => have := hrng hp; omega))
            clear hrng
            go_wp2
            go_ret
            exact ⟨ret_bool HE.out.symm, Hb0.out.trans (Hbel.out.mono Hb0.out.size)⟩
          · by_cases e3 : m k < (p.nS : Int)
            · have e3' : ¬ (p.nS : Int) ≤ m k := by omega
              clear hrng
              cases hpo : possB p k (m k) with
              | false =>
                have HE := Lib.hid (HFl.out hpo)
                rw [hpo] at HPos
                clear hpo
                go_wp2_with fail
                refine Lr.use HPos.out ?_
                intro w2 hb2
                have Hb2 := Lib.hid (Hbel.out.trans (hb2.mono Hbel.out.size))
                clear hb2
                go_wp2
                go_ret
                exact ⟨ret_bool HE.out.symm, Hb0.out.trans (Hb2.out.mono Hb0.out.size)⟩
              | true =>
                rw [hpo] at HPos
                obtain ⟨t, ht⟩ : ∃ t : Nat, m k = t := ⟨(m k).toNat, by omega⟩
                have htS : t < p.nS := by omega
                have HN2 : Hid (∀ h, h < k + 1 → m h = -1 ∨ (0 ≤ m h ∧ m h < (p.nS : Int) ∧ possB p h (m h) = true)) := Lib.hid (fun h hh => by
                  rcases Nat.lt_or_ge h k with hl | hl
                  · exact HAll.out h hl
                  · obtain rfl : h = k := by omega
                    exact .inr ⟨by omega, e3, hpo⟩)
                have HMk := Lib.hid ht
                rw [ht] at hck HPos hB e2 e3 e3' hcl
                have ht0 : (0 : Int) ≤ t := by omega
                clear hpo ht e1
                go_wp2_with fail
                refine Lr.use HPos.out ?_
                intro w2 hb2
                have hR2 := HR.out.keep (hb2.mono (Nat.le_refl _))
                have hcc := hR2.cell htS
                have hfz := hR2.frozen t
                have HR3 := Lib.hid ((hR2.set t ((cnt m (t : Int) k : Int) + 1)).congr (f' := fun s => (cnt m (s : Int) (k + 1) : Int)) (fun s hs => by
                  simp only [upd, cnt]
                  rw [HMk.out]
                  by_cases e : s = t
                  · rw [if_pos e, if_pos (by omega), e]
                    omega
                  · rw [if_neg e, if_neg (by omega)]))
                have hgW : W.heap.size ≤ gc := by rw [HGc.out]; exact Nat.le_refl _
                have Hb3 := Lib.hid ((Hbel.out.trans (hb2.mono Hbel.out.size)).setCell (p := ⟨gc, t, none⟩) hgW (.int .i64 ((cnt m (t : Int) k : Int) + 1)))
                clear hR2 hb2 hgW
                generalize cnt m (t : Int) k = ct at *
                go_wp2
                go_roundw
                case rel => exact ⟨k + 1, by omega, by go_num, HN2.out, HR3.out, Hb3.out⟩
                case measure => simp [intOf]; omega
            · have e3' : (p.nS : Int) ≤ m k := by omega
              have HE := Lib.hid (HFl.out (by
                cases hp : possB p k (m k) with
                | false => rfl
                | true => have := hrng hp; omega))
              clear hrng
              go_wp2
              go_ret
              exact ⟨ret_bool HE.out.symm, Hb0.out.trans (Hbel.out.mono Hb0.out.size)⟩
      · obtain rfl : k = n := by omega
        obtain ⟨q0, q1, q2⟩ := HB0.out.keep Hbel.out
        have Hbw := Lib.hid (Hb0.out.trans (Hbel.out.mono Hb0.out.size))
        go_wp2
        go_loop [54] (fun x => ∃ j : Nat, j ≤ p.nS ∧ x = .int .i64 j ∧ ∀ s, s < j → (cnt m (s : Int) k : Int) ≤ p.pl s) (fun x => p.nS - (intOf x).toNat)
        case atStart => exact ⟨0, Nat.zero_le _, rfl, fun s hs => absurd hs (by omega)⟩
        case round =>
          obtain ⟨j, hj, rfl, hcn⟩ := hrel
          have HCn := Lib.hid hcn
          clear hcn
          by_cases hlt2 : j < p.nS
          · have hcc := HR.out.cell hlt2
            have hjP : j < p.nP := by
              obtain ⟨⟨-, -, -, -, e⟩, -⟩ := okPlan_of HOk.out
              omega
            obtain ⟨bP, oP, hAP, hcp⟩ := ((HA.out.keep Hbel.out).places.2.2.2).at hjP
            subst hAP
            have hjP' : (j : Int) < (p.nP : Int) := by omega
            have hj0 : (0 : Int) ≤ j := by omega
            have h61 := (HP6.out j hjP).1
            by_cases hgt : p.pl j < (cnt m (j : Int) k : Int)
            · have HE : Hid (okMat p k m = false) := Lib.hid (by
                obtain ⟨x, hx, hmx⟩ := cnt_pos (m := m) (s := (j : Int)) (n := k) (by omega)
                unfold okMat
                rw [allB_f (g := x) (by have := HN.out; omega) (by
                  unfold matP
                  rw [decide_eq_false (show ¬ m x = -1 by omega), hmx, Int.toNat_natCast, ← HN.out, decide_eq_false (by omega)]
                  simp)]
                simp)
              generalize cnt m (j : Int) k = ct at *
              go_wp2
              go_ret
              exact ⟨ret_bool HE.out.symm, Hbw.out⟩
            · have HN2 : Hid (∀ s, s < j + 1 → (cnt m (s : Int) k : Int) ≤ p.pl s) := Lib.hid (fun s hs => by
                rcases Nat.lt_or_ge s j with hl | hl
                · exact HCn.out s hl
                · obtain rfl : s = j := by omega
                  omega)
              generalize cnt m (j : Int) k = ct at *
              go_wp2
              go_round
              case rel => exact ⟨j + 1, by omega, by go_num, HN2.out⟩
              case measure => simp [intOf]; omega
          · obtain rfl : j = p.nS := by omega
            have HE : Hid (okMat p k m = true) := Lib.hid (by
              unfold okMat
              rw [HOk.out, decide_eq_true HN.out, allB_t (fun h hh => ?_)]
              · rfl
              · unfold matP
                rcases HAll.out h (by have := HN.out; omega) with e | ⟨e1, e2, e3⟩
                · rw [decide_eq_true e]; rfl
                · obtain ⟨t, ht⟩ : ∃ t : Nat, m h = t := ⟨(m h).toNat, by omega⟩
                  have := HCn.out t (by omega)
                  rw [ht] at e3
                  rw [ht, e3, Int.toNat_natCast, ← HN.out, decide_eq_true this]
                  simp)
            go_wp2
            go_ret
            exact ⟨ret_bool HE.out.symm, Hbw.out⟩
  · have hlB := bne_t (a := (n : Int)) (b := (p.nH : Int)) (by omega)
    have HE : Hid (okMat p n m = false) := Lib.hid (by unfold okMat; rw [decide_eq_false hlen]; simp)
    clear hlen hWs a5
    go_enter Try.func44, Try.ntmps44
    go_wp2
    go_ret
    exact ⟨ret_bool HE.out.symm, by rw [← hW]; exact Hb0.out⟩
end Go.Proofs.Ytiigcjcolpmafaa

