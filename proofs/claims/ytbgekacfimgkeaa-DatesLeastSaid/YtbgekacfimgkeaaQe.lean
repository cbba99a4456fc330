/- planBy: the plan by a priority. -/
import Derived.Test.YtbgekacfimgkeaaQd
namespace Go.Proofs.Ytbgekacfimgkeaa
open Go.RowKit

theorem recL_set (s : Nat) (F : Nat → Nat → Int) (x : Int) : ∀ (n k i : Nat), k < n → i < s → (recL s F n).set (k * s + i) (.int .i64 x) = recL s (updK F k i x) n := by
  intro n
  induction n with
  | zero => intro k i h; omega
  | succ n ih =>
    intro k i hk hi
    rw [recL, recL]
    rcases Nat.lt_or_ge k n with hl | hl
    · have hlt : k * s + i < n * s := by
        have := Nat.mul_le_mul_right s (show k + 1 ≤ n by omega)
        rw [Nat.succ_mul] at this
        omega
      rw [List.set_append_left _ _ (by rw [recL_len]; exact hlt), ih k i hl hi]
      congr 1
      exact List.map_congr_left fun b _ => by rw [updK_ne _ _ (.inl (by omega))]
    · obtain rfl : k = n := by omega
      rw [List.set_append_right _ _ (by rw [recL_len]; omega), recL_len]
      congr 1
      · exact recL_congr (fun a ha b _ => by rw [updK_ne _ _ (.inl (by omega))])
      · apply List.ext_getElem?
        intro b
        rw [show k * s + i - k * s = i by omega, List.getElem?_set]
        by_cases e : i = b
        · subst e
          simp [hi, updK_at]
        · rw [if_neg e]
          by_cases hb : b < s
          · simp [hb, updK_ne F x (show k ≠ k ∨ b ≠ i from .inr (fun h => e h.symm))]
          · simp [hb]
theorem OwnK.put {s : Nat} {e : TypeId} {w : World} {base n : Nat} {v : Value} {F : Nat → Nat → Int} (h : OwnK s e w base v n F) {k i : Nat} (hk : k < n) (hi : i < s) (x : Int) :
    ∃ G c, v = .slice (some ⟨G, 0, none⟩) n c ∧ (∀ j, j < s → w.cell? ⟨G, k * s + j, none⟩ = some (.int .i64 (F k j))) ∧ w.frozen? ⟨G, k * s + i, none⟩ = false ∧ base ≤ G ∧ G < w.heap.size ∧ n ≤ c ∧ OwnK s e (w.setCell ⟨G, k * s + i, none⟩ (.int .i64 x)) base v n (updK F k i x) ∧ Exc G w (w.setCell ⟨G, k * s + i, none⟩ (.int .i64 x)) := by
  have h0 := h
  rcases h0.2 with ⟨-, h1⟩ | ⟨G, c, cur, rfl, hb, hh, hnc, -⟩
  · omega
  obtain ⟨hst, hg⟩ := World.ownsRow.stored h (k * s + i) (.int .i64 x)
  refine ⟨G, c, rfl, fun j hj => ?_, World.ownsRow.frozenAt h _, hb, (Array.getElem?_eq_some_iff.1 hh).1, hnc, ?_, hg⟩
  · have hlt : k * s + j < n * s := by
      have := Nat.mul_le_mul_right s (show k + 1 ≤ n by omega)
      rw [Nat.succ_mul] at this
      omega
    rw [World.ownsRow.cellAt h _ hlt]
    exact recL_get s F n k j hk hj
  · unfold OwnK
    rw [← recL_set s F x n k i hk hi]
    exact hst
theorem recL_pc (F : Nat → Nat → Int) (m : Nat) (x y z : Int) : recL 3 F m ++ [.int .i64 x, .int .i64 y, .int .i64 z] = recL 3 (pcK F m x y z) (m + 1) := by
  rw [recL]
  congr 1
  · exact recL_congr (fun a ha b _ => by simp [pcK]; omega)
  · simp [List.range_succ, pcK]
theorem infoPc : (Try.prog.info? 84).map (fun i => (i.zero, i.size, i.bytes)) = some (some (.agg #[.int .i64 0, .int .i64 0, .int .i64 0]), 3, 24) := by kernel_rfl
theorem news3 (w : World) (x y z : Value) (T : TypeId) : ∀ j u, [x, y, z][j]? = some u → (w.alloc (.cells #[x, y, z] T)).cell? ((⟨w.heap.size, 0, none⟩ : Addr).add j) = some u := by
  intro j u hu
  rcases j with _ | _ | _ | j
  · simp at hu; subst hu; rw [Addr.add_lit]; simp [World.cell?_alloc_at]
  · simp at hu; subst hu; rw [Addr.add_lit]; simp [World.cell?_alloc_at]
  · simp at hu; subst hu; rw [Addr.add_lit]; simp [World.cell?_alloc_at]
  · simp at hu
theorem stF_succ (ru n : Nat) (J : Nat → Nat → Int) (t : Nat) : stF ru n J (t + 1) = stp ru n J (stF ru n J t) t := rfl

set_option maxHeartbeats 4000000 in
set_option maxRecDepth 1000000 in
theorem planByD_any (A : Option Addr) (n c : Nat) (J : Nat → Nat → Int) (w : World) (h : Recs 4 w A n J) (hok : okJ n J = true) :
    Calls Try.prog 66 #[.iface 102 (.agg #[]), .slice A n c] w fun e w' => ∃ v, e = .returned v ∧ OwnK 3 84 w' w.heap.size v (plS 0 n J).m (plS 0 n J).p ∧ Below w.heap.size w w' := by
  have H := Lib.hid h
  have HO := Lib.hid hok
  obtain ⟨hn1, hn8⟩ := (okJ_iff.1 hok).1
  obtain ⟨i0, hi, hz0, hz1, hz2⟩ := info_parts infoPc
  clear h hok
  go_enter Try.func66, Try.ntmps66
  go_wp2_with fail
  refine (timesOf_any A n c J w H.out (by omega)).mono ?_
  rintro e w1 ⟨c', rfl, hc', hR, hB⟩
  go_wp2
  go_loopw [6, 7] (fun v i wr => ∃ k : Nat, k ≤ 260 ∧ i = .int .i64 k ∧ OwnK 3 84 wr (w.heap.size + 1) v (stF 0 n J k).m (stF 0 n J k).p ∧ RowI wr w.heap.size n (stF 0 n J k).left ∧ Below w.heap.size w wr) (fun _ i _ => 261 - (intOf i).toNat)
  case atStart => exact ⟨0, Nat.zero_le _, rfl, OwnK.nil_ _ _ _ _ _, hR, hB⟩
  case round =>
    obtain ⟨k, hk, rfl, hO, hL, hD⟩ := hrel
    have hleft := (stF_left (ru := 0) HO.out k).1
    have HInv := Lib.hid (stF_inv (ru := 0) HO.out k)
    have HS := Lib.hid (stF_succ 0 n J k)
    have HLt := Lib.hid (fun hp => stF_lt (ru := 0) (t := k) HO.out hp)
    have HEnd := Lib.hid (fun hz => stF_end (ru := 0) (n := n) (J := J) hk hz)
    generalize hst : stF 0 n J k = s at *
    have HOw := Lib.hid hO
    have HL := Lib.hid hL
    have HLe := Lib.hid hleft
    have HD := Lib.hid hD
    obtain ⟨Av, cv, rfl, hnil, hRp, hbk, hmc, hcm⟩ := hO.form
    have hm260 : s.m ≤ 260 := Nat.le_trans HInv.out.m_le hk
    clear hO hL hD hleft hnil hRp hbk hR hB hst
    go_wp2_with fail
    refine (max_any _ n c' s.left wr HL.out.ints hn1 (by omega)).mono ?_
    rintro e w2 ⟨x, rfl, hmx, hex, hd2⟩
    obtain ⟨q2, rfl⟩ := hd2
    have HM := Lib.hid hmx
    have HE := Lib.hid hex
    clear hmx hex
    by_cases hpos : 0 < x
    · have hk2 : k < 260 := by
        obtain ⟨a, ha, hax⟩ := HE.out
        exact HLt.out (smT_pos (fun k hk => (HLe.out k hk).1) ha (by omega))
      go_wp2_with fail
      refine (chosenD_any A _ n c c' J s.left (k : Int) (wr.drewN q2) (H.out.keep (HD.out.trans ((Dn.refl _).drewN q2 |>.below _))) (HL.out.dn ((Dn.refl _).drewN q2)).ints hn8).mono ?_
      rintro e w3 ⟨rfl, hb3⟩
      have HB3 := Lib.hid (((Dn.refl wr).drewN q2 |>.below wr.heap.size).trans (hb3.mono (Nat.le_refl _)))
      have HD3 := Lib.hid (HD.out.trans (HB3.out.mono HD.out.size))
      have HO3 := Lib.hid (HOw.out.below HB3.out)
      have HL3 := Lib.hid (HL.out.keep HB3.out)
      clear hb3
      rcases chF_spec (left := s.left) (r := fun k => J k 1) (rk := rkF 0 J s.left) (now := (k : Int)) n with ⟨ec, hno⟩ | ⟨j, hj, ec, ha, -, -⟩
      · have HN : Hid (stF 0 n J (k + 1) = s) := Lib.hid (by rw [HS.out]; unfold stp; rw [ec, if_pos (by omega)])
        rw [ec]
        clear ec hno
        go_wp2
        go_roundw
        case rel => exact ⟨k + 1, by omega, by go_num, by rw [HN.out]; exact HO3.out, by rw [HN.out]; exact HL3.out, HD3.out⟩
        case measure => simp [intOf]; omega
      · have HN : Hid (stF 0 n J (k + 1) = pushS s (j : Int) (k : Int)) := Lib.hid (by rw [HS.out]; unfold stp; rw [ec, if_neg (by omega)])
        rw [ec]
        clear ec ha
        have hlj := HLe.out j hj
        have hJ := (okJ_iff.1 HO.out).2 j hj
        have hx20 : s.left j ≤ 20 := by omega
        have hx0 : 0 ≤ s.left j := hlj.1
        have hcl := HL3.out.cell hj
        have hfl := HL3.out.frozen j
        have HLs := Lib.hid (HL3.out.set j (s.left j - 1))
        have HDs := Lib.hid (HD3.out.setCell (p := ⟨w.heap.size, j, none⟩) (Nat.le_refl _) (.int .i64 (s.left j - 1)))
        have HOs : Hid (OwnK 3 84 (w3.setCell ⟨w.heap.size, j, none⟩ (.int .i64 (s.left j - 1))) (w.heap.size + 1) (.slice Av s.m cv) s.m s.p) := Lib.hid (HO3.out.exc ((Exc.refl w.heap.size w3).set j _) (by
          rcases HO3.out.2 with ⟨e, -⟩ | ⟨g, cap, cur, e, hg, -⟩
          · rw [e]; exact .inl rfl
          · rw [e]
            refine .inr (fun h => ?_)
            injection h with h
            have h : g = w.heap.size := h
            omega))
        clear hlj hJ HO3 HL3
        have hj8 : (j : Int) < n := by omega
        generalize hy : s.left j = y at *
        have HY := Lib.hid hy
        clear hy
        have hszs : (w3.setCell ⟨w.heap.size, j, none⟩ (.int .i64 (y - 1))).heap.size = w3.heap.size := by simp
        have HSZ := Lib.hid hszs
        have hbs : w.heap.size + 1 ≤ w3.heap.size := by
          have := HDs.out.size
          have h1 := HLs.out.lt
          omega
        have HX : Hid (∀ X, X = x → True) := Lib.hid (fun _ _ => trivial)
        clear hszs
        by_cases hm : s.m = 0
        · have HP : Hid (pushS s (j : Int) (k : Int) = ⟨upd s.left j (y - 1), s.m + 1, pcK s.p s.m j k (k + 1)⟩) := Lib.hid (by unfold pushS; rw [if_neg (by omega)]; simp [HY.out])
          clear hmc
          generalize s.m = mm at *
          subst hm
          rcases Av with _ | av
          · obtain rfl : cv = 0 := by
              rcases HOs.out.2 with ⟨e, -⟩ | ⟨g, cap, cur, e, -⟩
              · injection e
              · injection e with e
                cases e
            go_wp2_with (at_builtin; go_loud (refine wpList_append_own _ rfl _ _ 49 rfl (w.heap.size + 1) 84 i0 (.agg #[.int .i64 0, .int .i64 0, .int .i64 0]) 3 24 Try.underlying49 hi hz0 hz1 hz2 rfl (by decide) _ _ _ rfl (World.ownsRow.alloc HOs.out _) ⟨w3.heap.size, 0, none⟩ 1 1 [.int .i64 j, .int .i64 k, .int .i64 (k + 1)] rfl rfl (fun a u hu => by have h := news3 (w3.setCell ⟨w.heap.size, j, none⟩ (.int .i64 (y - 1))) _ _ _ 84 a u hu; rw [HSZ.out] at h; exact h) (by intro u hu; simp at hu; rcases hu with rfl | rfl | rfl <;> rfl) (by unfold maxLen; omega) (by omega) (by simp; omega) ?_))
            intro v' w5 hown hgrow _
            have HO5 := Lib.hid hown
            have HG5 := Lib.hid hgrow
            clear hown hgrow
            go_wp2
            go_roundw
            case rel =>
              refine ⟨k + 1, by omega, by go_num, ?_, ?_, ?_⟩
              · rw [HN.out, HP.out]
                unfold OwnK
                rw [← recL_pc]
                exact HO5.out
              · rw [HN.out, HP.out]
                refine World.rowIs.of_block (HLs.out.alloc (.cells #[.int .i64 j, .int .i64 k, .int .i64 (k + 1)] 84)) (HG5.out.block w.heap.size (by simp; omega) ?_)
                rcases HOs.out.2 with ⟨e, -⟩ | ⟨g, cap, cur, e, hg, -⟩
                · rw [e]; simp [Value.ownBlock]
                · rw [e]
                  intro h
                  injection h with h
                  have h : w.heap.size = g := h
                  omega
              · refine (HDs.out.alloc (by have := HDs.out.size; exact this) _).grown HG5.out (by simp; omega) ?_
                intro g hg
                have := (World.ownsRow.lt HOs.out g hg).1
                omega
            case measure => simp [intOf]; omega
          · have H0 := trivial
            go_wp2_with (at_builtin; go_loud (refine wpList_append_own _ rfl _ _ 49 rfl (w.heap.size + 1) 84 i0 (.agg #[.int .i64 0, .int .i64 0, .int .i64 0]) 3 24 Try.underlying49 hi hz0 hz1 hz2 rfl (by decide) _ _ _ rfl (World.ownsRow.alloc HOs.out _) ⟨w3.heap.size, 0, none⟩ 1 1 [.int .i64 j, .int .i64 k, .int .i64 (k + 1)] rfl rfl (fun a u hu => by have h := news3 (w3.setCell ⟨w.heap.size, j, none⟩ (.int .i64 (y - 1))) _ _ _ 84 a u hu; rw [HSZ.out] at h; exact h) (by intro u hu; simp at hu; rcases hu with rfl | rfl | rfl <;> rfl) (by unfold maxLen; omega) (by omega) (by simp; omega) ?_))
            intro v' w5 hown hgrow _
            have HO5 := Lib.hid hown
            have HG5 := Lib.hid hgrow
            clear hown hgrow
            go_wp2
            go_roundw
            case rel =>
              refine ⟨k + 1, by omega, by go_num, ?_, ?_, ?_⟩
              · rw [HN.out, HP.out]
                unfold OwnK
                rw [← recL_pc]
                exact HO5.out
              · rw [HN.out, HP.out]
                refine World.rowIs.of_block (HLs.out.alloc (.cells #[.int .i64 j, .int .i64 k, .int .i64 (k + 1)] 84)) (HG5.out.block w.heap.size (by simp; omega) ?_)
                rcases HOs.out.2 with ⟨e, -⟩ | ⟨g, cap, cur, e, hg, -⟩
                · rw [e]; simp [Value.ownBlock]
                · rw [e]
                  intro h
                  injection h with h
                  have h : w.heap.size = g := h
                  omega
              · refine (HDs.out.alloc (by have := HDs.out.size; exact this) _).grown HG5.out (by simp; omega) ?_
                intro g hg
                have := (World.ownsRow.lt HOs.out g hg).1
                omega
            case measure => simp [intOf]; omega
        · obtain ⟨M, hM⟩ : ∃ M, s.m = M + 1 := ⟨s.m - 1, by omega⟩
          have hMM : s.m - 1 = M := by omega
          obtain ⟨G, cG, ev, hcs, hfr, hbG, hGl, hmc2, HPut, HExc⟩ := HOs.out.put (k := M) (i := 2) (by omega) (by omega) (s.p M 2 + 1)
          injection ev with ev1 ev2 ev3
          subst ev1
          have g0 : (w3.setCell ⟨w.heap.size, j, none⟩ (.int .i64 (y - 1))).cell? ⟨G, M * 3, none⟩ = some (.int .i64 (s.p M 0)) := hcs 0 (by omega)
          have g2 := hcs 2 (by omega)
          have hpM := HInv.out.rng M (by omega)
          have u1 : IntKind.i64.wrap ((s.m : Int) - 1) = (s.m : Int) - 1 := IntWalk.i64_in _ ⟨by omega, by omega⟩
          have u2 : ((s.m : Int) - 1).toNat = M := by omega
          have u3 : (0 : Int) ≤ (s.m : Int) - 1 := by omega
          have u4 : (s.m : Int) - 1 < (s.m : Int) := by omega
          have HPut := Lib.hid HPut
          have HExc := Lib.hid HExc
          have HhM := Lib.hid hM
          have HMM := Lib.hid hMM
          clear hcs hM hMM ev2 ev3
          by_cases hpj : s.p M 0 = (j : Int)
          · have HP : Hid (pushS s (j : Int) (k : Int) = ⟨upd s.left j (y - 1), s.m, updK s.p M 2 (s.p M 2 + 1)⟩) := Lib.hid (by unfold pushS; rw [HMM.out, if_pos ⟨by omega, hpj⟩]; simp [HY.out])
            rw [hpj] at g0
            have hp2 : -1 ≤ s.p M 2 ∧ s.p M 2 ≤ 260 := by omega
            obtain ⟨hp21, hp22⟩ := hp2
            clear hpj hpM
            generalize hpm : s.p M 2 = z at *
            go_wp2
            go_roundw
            case rel => exact ⟨k + 1, by omega, by go_num, by rw [HN.out, HP.out]; exact HPut.out, by rw [HN.out, HP.out]; exact HLs.out.setOther (by show w.heap.size ≠ G; omega) _, HDs.out.setCell (p := ⟨G, M * 3 + 2, none⟩) (by show w.heap.size ≤ G; omega) _⟩
            case measure => simp [intOf]; omega
          · have HP : Hid (pushS s (j : Int) (k : Int) = ⟨upd s.left j (y - 1), s.m + 1, pcK s.p s.m j k (k + 1)⟩) := Lib.hid (by unfold pushS; rw [HMM.out, if_neg (fun h => hpj h.2)]; simp [HY.out])
            have hB := beq_f hpj
            clear hpM
            generalize hpm : s.p M 0 = z at *
            clear hpm hpj
            go_wp2_with (at_builtin; go_loud (refine wpList_append_own _ rfl _ _ 49 rfl (w.heap.size + 1) 84 i0 (.agg #[.int .i64 0, .int .i64 0, .int .i64 0]) 3 24 Try.underlying49 hi hz0 hz1 hz2 rfl (by decide) _ _ _ rfl (World.ownsRow.alloc HOs.out _) ⟨w3.heap.size, 0, none⟩ 1 1 [.int .i64 j, .int .i64 k, .int .i64 (k + 1)] rfl rfl (fun a u hu => by have h := news3 (w3.setCell ⟨w.heap.size, j, none⟩ (.int .i64 (y - 1))) _ _ _ 84 a u hu; rw [HSZ.out] at h; exact h) (by intro u hu; simp at hu; rcases hu with rfl | rfl | rfl <;> rfl) (by unfold maxLen; omega) (by omega) (by simp; omega) ?_))
            intro v' w5 hown hgrow _
            have HO5 := Lib.hid hown
            have HG5 := Lib.hid hgrow
            clear hown hgrow
            go_wp2
            go_roundw
            case rel =>
              refine ⟨k + 1, by omega, by go_num, ?_, ?_, ?_⟩
              · rw [HN.out, HP.out]
                unfold OwnK
                rw [← recL_pc]
                exact HO5.out
              · rw [HN.out, HP.out]
                refine World.rowIs.of_block (HLs.out.alloc (.cells #[.int .i64 j, .int .i64 k, .int .i64 (k + 1)] 84)) (HG5.out.block w.heap.size (by simp; omega) ?_)
                rcases HOs.out.2 with ⟨e, -⟩ | ⟨g, cap, cur, e, hg, -⟩
                · rw [e]; simp [Value.ownBlock]
                · rw [e]
                  intro h
                  injection h with h
                  have h : w.heap.size = g := h
                  omega
              · refine (HDs.out.alloc (by have := HDs.out.size; exact this) _).grown HG5.out (by simp; omega) ?_
                intro g hg
                have := (World.ownsRow.lt HOs.out g hg).1
                omega
            case measure => simp [intOf]; omega
    · have hz : ∀ a, a < n → s.left a = 0 := fun a ha => by
        have h1 := (HLe.out a ha).1
        have h2 := HM.out a ha
        omega
      have HZ := Lib.hid (HEnd.out hz)
      clear hz
      go_wp2
      go_ret
      refine ⟨_, rfl, ?_, HD.out.trans (((Dn.refl _).drewN q2).below _)⟩
      rw [← HZ.out]
      exact (HOw.out.dn ((Dn.refl _).drewN q2)).rebase (by omega)

set_option maxHeartbeats 4000000 in
set_option maxRecDepth 1000000 in
theorem planByS_any (A : Option Addr) (n c : Nat) (J : Nat → Nat → Int) (w : World) (h : Recs 4 w A n J) (hok : okJ n J = true) :
    Calls Try.prog 66 #[.iface 109 (.agg #[]), .slice A n c] w fun e w' => ∃ v, e = .returned v ∧ OwnK 3 84 w' w.heap.size v (plS 1 n J).m (plS 1 n J).p ∧ Below w.heap.size w w' := by
  have H := Lib.hid h
  have HO := Lib.hid hok
  obtain ⟨hn1, hn8⟩ := (okJ_iff.1 hok).1
  obtain ⟨i0, hi, hz0, hz1, hz2⟩ := info_parts infoPc
  clear h hok
  go_enter Try.func66, Try.ntmps66
  go_wp2_with fail
  refine (timesOf_any A n c J w H.out (by omega)).mono ?_
  rintro e w1 ⟨c', rfl, hc', hR, hB⟩
  go_wp2
  go_loopw [6, 7] (fun v i wr => ∃ k : Nat, k ≤ 260 ∧ i = .int .i64 k ∧ OwnK 3 84 wr (w.heap.size + 1) v (stF 1 n J k).m (stF 1 n J k).p ∧ RowI wr w.heap.size n (stF 1 n J k).left ∧ Below w.heap.size w wr) (fun _ i _ => 261 - (intOf i).toNat)
  case atStart => exact ⟨0, Nat.zero_le _, rfl, OwnK.nil_ _ _ _ _ _, hR, hB⟩
  case round =>
    obtain ⟨k, hk, rfl, hO, hL, hD⟩ := hrel
    have hleft := (stF_left (ru := 1) HO.out k).1
    have HInv := Lib.hid (stF_inv (ru := 1) HO.out k)
    have HS := Lib.hid (stF_succ 1 n J k)
    have HLt := Lib.hid (fun hp => stF_lt (ru := 1) (t := k) HO.out hp)
    have HEnd := Lib.hid (fun hz => stF_end (ru := 1) (n := n) (J := J) hk hz)
    generalize hst : stF 1 n J k = s at *
    have HOw := Lib.hid hO
    have HL := Lib.hid hL
    have HLe := Lib.hid hleft
    have HD := Lib.hid hD
    obtain ⟨Av, cv, rfl, hnil, hRp, hbk, hmc, hcm⟩ := hO.form
    have hm260 : s.m ≤ 260 := Nat.le_trans HInv.out.m_le hk
    clear hO hL hD hleft hnil hRp hbk hR hB hst
    go_wp2_with fail
    refine (max_any _ n c' s.left wr HL.out.ints hn1 (by omega)).mono ?_
    rintro e w2 ⟨x, rfl, hmx, hex, hd2⟩
    obtain ⟨q2, rfl⟩ := hd2
    have HM := Lib.hid hmx
    have HE := Lib.hid hex
    clear hmx hex
    by_cases hpos : 0 < x
    · have hk2 : k < 260 := by
        obtain ⟨a, ha, hax⟩ := HE.out
        exact HLt.out (smT_pos (fun k hk => (HLe.out k hk).1) ha (by omega))
      go_wp2_with fail
      refine (chosenS_any A _ n c c' J s.left (k : Int) (wr.drewN q2) (H.out.keep (HD.out.trans ((Dn.refl _).drewN q2 |>.below _))) (HL.out.dn ((Dn.refl _).drewN q2)).ints hn8).mono ?_
      rintro e w3 ⟨rfl, hb3⟩
      have HB3 := Lib.hid (((Dn.refl wr).drewN q2 |>.below wr.heap.size).trans (hb3.mono (Nat.le_refl _)))
      have HD3 := Lib.hid (HD.out.trans (HB3.out.mono HD.out.size))
      have HO3 := Lib.hid (HOw.out.below HB3.out)
      have HL3 := Lib.hid (HL.out.keep HB3.out)
      clear hb3
      rcases chF_spec (left := s.left) (r := fun k => J k 1) (rk := rkF 1 J s.left) (now := (k : Int)) n with ⟨ec, hno⟩ | ⟨j, hj, ec, ha, -, -⟩
      · have HN : Hid (stF 1 n J (k + 1) = s) := Lib.hid (by rw [HS.out]; unfold stp; rw [ec, if_pos (by omega)])
        rw [ec]
        clear ec hno
        go_wp2
        go_roundw
        case rel => exact ⟨k + 1, by omega, by go_num, by rw [HN.out]; exact HO3.out, by rw [HN.out]; exact HL3.out, HD3.out⟩
        case measure => simp [intOf]; omega
      · have HN : Hid (stF 1 n J (k + 1) = pushS s (j : Int) (k : Int)) := Lib.hid (by rw [HS.out]; unfold stp; rw [ec, if_neg (by omega)])
        rw [ec]
        clear ec ha
        have hlj := HLe.out j hj
        have hJ := (okJ_iff.1 HO.out).2 j hj
        have hx20 : s.left j ≤ 20 := by omega
        have hx0 : 0 ≤ s.left j := hlj.1
        have hcl := HL3.out.cell hj
        have hfl := HL3.out.frozen j
        have HLs := Lib.hid (HL3.out.set j (s.left j - 1))
        have HDs := Lib.hid (HD3.out.setCell (p := ⟨w.heap.size, j, none⟩) (Nat.le_refl _) (.int .i64 (s.left j - 1)))
        have HOs : Hid (OwnK 3 84 (w3.setCell ⟨w.heap.size, j, none⟩ (.int .i64 (s.left j - 1))) (w.heap.size + 1) (.slice Av s.m cv) s.m s.p) := Lib.hid (HO3.out.exc ((Exc.refl w.heap.size w3).set j _) (by
          rcases HO3.out.2 with ⟨e, -⟩ | ⟨g, cap, cur, e, hg, -⟩
          · rw [e]; exact .inl rfl
          · rw [e]
            refine .inr (fun h => ?_)
            injection h with h
            have h : g = w.heap.size := h
            omega))
        clear hlj hJ HO3 HL3
        have hj8 : (j : Int) < n := by omega
        generalize hy : s.left j = y at *
        have HY := Lib.hid hy
        clear hy
        have hszs : (w3.setCell ⟨w.heap.size, j, none⟩ (.int .i64 (y - 1))).heap.size = w3.heap.size := by simp
        have HSZ := Lib.hid hszs
        have hbs : w.heap.size + 1 ≤ w3.heap.size := by
          have := HDs.out.size
          have h1 := HLs.out.lt
          omega
        have HX : Hid (∀ X, X = x → True) := Lib.hid (fun _ _ => trivial)
        clear hszs
        by_cases hm : s.m = 0
        · have HP : Hid (pushS s (j : Int) (k : Int) = ⟨upd s.left j (y - 1), s.m + 1, pcK s.p s.m j k (k + 1)⟩) := Lib.hid (by unfold pushS; rw [if_neg (by omega)]; simp [HY.out])
          clear hmc
          generalize s.m = mm at *
          subst hm
          rcases Av with _ | av
          · obtain rfl : cv = 0 := by
              rcases HOs.out.2 with ⟨e, -⟩ | ⟨g, cap, cur, e, -⟩
              · injection e
              · injection e with e
                cases e
            go_wp2_with (at_builtin; go_loud (refine wpList_append_own _ rfl _ _ 49 rfl (w.heap.size + 1) 84 i0 (.agg #[.int .i64 0, .int .i64 0, .int .i64 0]) 3 24 Try.underlying49 hi hz0 hz1 hz2 rfl (by decide) _ _ _ rfl (World.ownsRow.alloc HOs.out _) ⟨w3.heap.size, 0, none⟩ 1 1 [.int .i64 j, .int .i64 k, .int .i64 (k + 1)] rfl rfl (fun a u hu => by have h := news3 (w3.setCell ⟨w.heap.size, j, none⟩ (.int .i64 (y - 1))) _ _ _ 84 a u hu; rw [HSZ.out] at h; exact h) (by intro u hu; simp at hu; rcases hu with rfl | rfl | rfl <;> rfl) (by unfold maxLen; omega) (by omega) (by simp; omega) ?_))
            intro v' w5 hown hgrow _
            have HO5 := Lib.hid hown
            have HG5 := Lib.hid hgrow
            clear hown hgrow
            go_wp2
            go_roundw
            case rel =>
              refine ⟨k + 1, by omega, by go_num, ?_, ?_, ?_⟩
              · rw [HN.out, HP.out]
                unfold OwnK
                rw [← recL_pc]
                exact HO5.out
              · rw [HN.out, HP.out]
                refine World.rowIs.of_block (HLs.out.alloc (.cells #[.int .i64 j, .int .i64 k, .int .i64 (k + 1)] 84)) (HG5.out.block w.heap.size (by simp; omega) ?_)
                rcases HOs.out.2 with ⟨e, -⟩ | ⟨g, cap, cur, e, hg, -⟩
                · rw [e]; simp [Value.ownBlock]
                · rw [e]
                  intro h
                  injection h with h
                  have h : w.heap.size = g := h
                  omega
              · refine (HDs.out.alloc (by have := HDs.out.size; exact this) _).grown HG5.out (by simp; omega) ?_
                intro g hg
                have := (World.ownsRow.lt HOs.out g hg).1
                omega
            case measure => simp [intOf]; omega
          · have H0 := trivial
            go_wp2_with (at_builtin; go_loud (refine wpList_append_own _ rfl _ _ 49 rfl (w.heap.size + 1) 84 i0 (.agg #[.int .i64 0, .int .i64 0, .int .i64 0]) 3 24 Try.underlying49 hi hz0 hz1 hz2 rfl (by decide) _ _ _ rfl (World.ownsRow.alloc HOs.out _) ⟨w3.heap.size, 0, none⟩ 1 1 [.int .i64 j, .int .i64 k, .int .i64 (k + 1)] rfl rfl (fun a u hu => by have h := news3 (w3.setCell ⟨w.heap.size, j, none⟩ (.int .i64 (y - 1))) _ _ _ 84 a u hu; rw [HSZ.out] at h; exact h) (by intro u hu; simp at hu; rcases hu with rfl | rfl | rfl <;> rfl) (by unfold maxLen; omega) (by omega) (by simp; omega) ?_))
            intro v' w5 hown hgrow _
            have HO5 := Lib.hid hown
            have HG5 := Lib.hid hgrow
            clear hown hgrow
            go_wp2
            go_roundw
            case rel =>
              refine ⟨k + 1, by omega, by go_num, ?_, ?_, ?_⟩
              · rw [HN.out, HP.out]
                unfold OwnK
                rw [← recL_pc]
                exact HO5.out
              · rw [HN.out, HP.out]
                refine World.rowIs.of_block (HLs.out.alloc (.cells #[.int .i64 j, .int .i64 k, .int .i64 (k + 1)] 84)) (HG5.out.block w.heap.size (by simp; omega) ?_)
                rcases HOs.out.2 with ⟨e, -⟩ | ⟨g, cap, cur, e, hg, -⟩
                · rw [e]; simp [Value.ownBlock]
                · rw [e]
                  intro h
                  injection h with h
                  have h : w.heap.size = g := h
                  omega
              · refine (HDs.out.alloc (by have := HDs.out.size; exact this) _).grown HG5.out (by simp; omega) ?_
                intro g hg
                have := (World.ownsRow.lt HOs.out g hg).1
                omega
            case measure => simp [intOf]; omega
        · obtain ⟨M, hM⟩ : ∃ M, s.m = M + 1 := ⟨s.m - 1, by omega⟩
          have hMM : s.m - 1 = M := by omega
          obtain ⟨G, cG, ev, hcs, hfr, hbG, hGl, hmc2, HPut, HExc⟩ := HOs.out.put (k := M) (i := 2) (by omega) (by omega) (s.p M 2 + 1)
          injection ev with ev1 ev2 ev3
          subst ev1
          have g0 : (w3.setCell ⟨w.heap.size, j, none⟩ (.int .i64 (y - 1))).cell? ⟨G, M * 3, none⟩ = some (.int .i64 (s.p M 0)) := hcs 0 (by omega)
          have g2 := hcs 2 (by omega)
          have hpM := HInv.out.rng M (by omega)
          have u1 : IntKind.i64.wrap ((s.m : Int) - 1) = (s.m : Int) - 1 := IntWalk.i64_in _ ⟨by omega, by omega⟩
          have u2 : ((s.m : Int) - 1).toNat = M := by omega
          have u3 : (0 : Int) ≤ (s.m : Int) - 1 := by omega
          have u4 : (s.m : Int) - 1 < (s.m : Int) := by omega
          have HPut := Lib.hid HPut
          have HExc := Lib.hid HExc
          have HhM := Lib.hid hM
          have HMM := Lib.hid hMM
          clear hcs hM hMM ev2 ev3
          by_cases hpj : s.p M 0 = (j : Int)
          · have HP : Hid (pushS s (j : Int) (k : Int) = ⟨upd s.left j (y - 1), s.m, updK s.p M 2 (s.p M 2 + 1)⟩) := Lib.hid (by unfold pushS; rw [HMM.out, if_pos ⟨by omega, hpj⟩]; simp [HY.out])
            rw [hpj] at g0
            have hp2 : -1 ≤ s.p M 2 ∧ s.p M 2 ≤ 260 := by omega
            obtain ⟨hp21, hp22⟩ := hp2
            clear hpj hpM
            generalize hpm : s.p M 2 = z at *
            go_wp2
            go_roundw
            case rel => exact ⟨k + 1, by omega, by go_num, by rw [HN.out, HP.out]; exact HPut.out, by rw [HN.out, HP.out]; exact HLs.out.setOther (by show w.heap.size ≠ G; omega) _, HDs.out.setCell (p := ⟨G, M * 3 + 2, none⟩) (by show w.heap.size ≤ G; omega) _⟩
            case measure => simp [intOf]; omega
          · have HP : Hid (pushS s (j : Int) (k : Int) = ⟨upd s.left j (y - 1), s.m + 1, pcK s.p s.m j k (k + 1)⟩) := Lib.hid (by unfold pushS; rw [HMM.out, if_neg (fun h => hpj h.2)]; simp [HY.out])
            have hB := beq_f hpj
            clear hpM
            generalize hpm : s.p M 0 = z at *
            clear hpm hpj
            go_wp2_with (at_builtin; go_loud (refine wpList_append_own _ rfl _ _ 49 rfl (w.heap.size + 1) 84 i0 (.agg #[.int .i64 0, .int .i64 0, .int .i64 0]) 3 24 Try.underlying49 hi hz0 hz1 hz2 rfl (by decide) _ _ _ rfl (World.ownsRow.alloc HOs.out _) ⟨w3.heap.size, 0, none⟩ 1 1 [.int .i64 j, .int .i64 k, .int .i64 (k + 1)] rfl rfl (fun a u hu => by have h := news3 (w3.setCell ⟨w.heap.size, j, none⟩ (.int .i64 (y - 1))) _ _ _ 84 a u hu; rw [HSZ.out] at h; exact h) (by intro u hu; simp at hu; rcases hu with rfl | rfl | rfl <;> rfl) (by unfold maxLen; omega) (by omega) (by simp; omega) ?_))
            intro v' w5 hown hgrow _
            have HO5 := Lib.hid hown
            have HG5 := Lib.hid hgrow
            clear hown hgrow
            go_wp2
            go_roundw
            case rel =>
              refine ⟨k + 1, by omega, by go_num, ?_, ?_, ?_⟩
              · rw [HN.out, HP.out]
                unfold OwnK
                rw [← recL_pc]
                exact HO5.out
              · rw [HN.out, HP.out]
                refine World.rowIs.of_block (HLs.out.alloc (.cells #[.int .i64 j, .int .i64 k, .int .i64 (k + 1)] 84)) (HG5.out.block w.heap.size (by simp; omega) ?_)
                rcases HOs.out.2 with ⟨e, -⟩ | ⟨g, cap, cur, e, hg, -⟩
                · rw [e]; simp [Value.ownBlock]
                · rw [e]
                  intro h
                  injection h with h
                  have h : w.heap.size = g := h
                  omega
              · refine (HDs.out.alloc (by have := HDs.out.size; exact this) _).grown HG5.out (by simp; omega) ?_
                intro g hg
                have := (World.ownsRow.lt HOs.out g hg).1
                omega
            case measure => simp [intOf]; omega
    · have hz : ∀ a, a < n → s.left a = 0 := fun a ha => by
        have h1 := (HLe.out a ha).1
        have h2 := HM.out a ha
        omega
      have HZ := Lib.hid (HEnd.out hz)
      clear hz
      go_wp2
      go_ret
      refine ⟨_, rfl, ?_, HD.out.trans (((Dn.refl _).drewN q2).below _)⟩
      rw [← HZ.out]
      exact (HOw.out.dn ((Dn.refl _).drewN q2)).rebase (by omega)
end Go.Proofs.Ytbgekacfimgkeaa
