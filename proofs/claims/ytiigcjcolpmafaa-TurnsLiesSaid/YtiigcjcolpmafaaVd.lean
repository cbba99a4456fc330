import Derived.Test.YtiigcjcolpmafaaVc
namespace Go.Proofs.Ytiigcjcolpmafaa
open Go.RowKit

/-- Listed numbers with one rank are one. -/
theorem rkI_inj {f : Nat → Int} {L : Nat} {x y : Int} (hx : 0 ≤ idxI f x L) (hy : 0 ≤ idxI f y L) (e : rkI f L x = rkI f L y) : x = y := by
  rcases idxI_cases f x L with ⟨e1, -⟩ | ⟨a, ha, e1, h1, -⟩
  · omega
  · rcases idxI_cases f y L with ⟨e2, -⟩ | ⟨b, hb, e2, h2, -⟩
    · omega
    · unfold rkI at e
      rw [if_neg (by omega), if_neg (by omega)] at e
      have : a = b := by omega
      rw [← h1, ← h2, this]
theorem max_ex (r : Int → Int) : ∀ l : List Int, l ≠ [] → ∃ x, x ∈ l ∧ ∀ y, y ∈ l → r y ≤ r x := by
  intro l
  induction l with
  | nil => intro h; exact absurd rfl h
  | cons a l ih =>
    intro _
    by_cases hl : l = []
    · subst hl
      exact ⟨a, by simp, fun y hy => by simp at hy; rw [hy]; exact Int.le_refl _⟩
    · obtain ⟨x, hx, hm⟩ := ih hl
      rcases Int.lt_or_le (r x) (r a) with h | h
      · exact ⟨a, by simp, fun y hy => by
          rcases List.mem_cons.1 hy with rfl | hy
          · exact Int.le_refl _
          · have := hm y hy; omega⟩
      · exact ⟨x, by simp [hx], fun y hy => by
          rcases List.mem_cons.1 hy with rfl | hy
          · exact h
          · exact hm y hy⟩
/-- The last of a sorted row is the greatest. -/
theorem srt_last {r : Int → Int} {F o : Nat → Int} {k : Nat} {x0 : Int} (hp : (lst (k + 1) F).Perm (lst (k + 1) o)) (hs : Srt r F (k + 1)) (hx : x0 ∈ lst (k + 1) o) (hm : ∀ y, y ∈ lst (k + 1) o → r y ≤ r x0)
    (hi : ∀ y, y ∈ lst (k + 1) o → r y = r x0 → y = x0) : F k = x0 := by
  have h1 : F k ∈ lst (k + 1) o := hp.mem_iff.1 (lst_getF (k + 1) F k (by omega))
  refine hi _ h1 ?_
  have h2 := hm _ h1
  have h3 : x0 ∈ lst (k + 1) F := hp.mem_iff.2 hx
  obtain ⟨j, hj, e⟩ := List.mem_iff_getElem.1 h3
  simp only [lst_len] at hj
  have e2 : F j = x0 := by
    have := lst_get (k + 1) F j hj
    rw [List.getElem?_eq_getElem (by rw [lst_len]; exact hj), e] at this
    injection this with this
    exact this.symm
  rcases Nat.lt_or_ge j k with hl | hl
  · have := hs j k hl (by omega)
    rw [e2] at this
    omega
  · obtain rfl : j = k := by omega
    rw [e2]
/-- Whoever has a shift is on its list. -/
def Lstd (p : PlanD) (m : Nat → Int) : Prop := ∀ x s : Nat, x < p.nH → m x = (s : Int) → 0 ≤ idxI (p.vS s) (x : Int) (p.LS s)
theorem okMat_lstd {p : PlanD} {n : Nat} {m : Nat → Int} (h : okMat p n m = true) : Lstd p m := by
  unfold okMat at h
  rw [Bool.and_eq_true, Bool.and_eq_true] at h
  intro x s hx e
  have h1 := (allB_iff.1 h.2) x hx
  unfold matP at h1
  rw [decide_eq_false (show ¬ m x = -1 by omega), Bool.false_or, Bool.and_eq_true] at h1
  have h2 := h1.1
  unfold possB at h2
  rw [Bool.and_eq_true, e, Int.toNat_natCast] at h2
  exact of_decide_eq_true h2.2

set_option maxHeartbeats 2000000 in
set_option maxRecDepth 1000000 in
theorem blocks_any (AH AS AP D : Option Addr) (cH cS cP n c : Nat) (p : PlanD) (m : Nat → Int) (h s : Nat) (w : World) (hp : PlanIn w AH AS AP p) (hd : Ints w D n m) (hn : n = p.nH) (hok : okPlan p = true) (hl : Lstd p m) (hh : h < p.nH) (hs : s < p.nS) :
    Lr 69 #[.agg #[.slice AH p.nH cH, .slice AS p.nS cS, .slice AP p.nP cP], .slice D n c, .int .i64 h, .int .i64 s] w (.bool (blkB p m h s)) := by
  obtain ⟨⟨a1, a2, a3, a4, a5⟩, a6, a7, a8⟩ := okPlan_of hok
  obtain ⟨W, hW⟩ : ∃ W, W = w.alloc (.cells #[.slice AH p.nH cH, .slice AS p.nS cS, .slice AP p.nP cP] 29) := ⟨_, rfl⟩
  have hb0 : Below w.heap.size w W := by rw [hW]; exact below_box _ _
  have hB0 : BoxP W w.heap.size AH AS AP p.nH p.nS p.nP cH cS cP := by rw [hW]; exact BoxP.new w AH AS AP p.nH p.nS p.nP cH cS cP
  have hPl := hp.keep hb0
  have hD := hd.keep hb0
  obtain ⟨bH, oH, RH, kH, rfl, hcH, -, hIH⟩ := hPl.hands.at hh
  obtain ⟨bS, oS, RS, kS, rfl, hcS, -, hIS⟩ := hPl.shifts.at hs
  obtain ⟨bP, oP, rfl, hcP⟩ := hPl.places.at (show s < p.nP by omega)
  obtain ⟨bD, oD, rfl, hcD⟩ := hD.at (show h < n by omega)
  have hLH := (a7 h hh).1
  have hLS := (a8 s hs).1
  have hpl1 := (a6 s (by omega)).1
  have hhn : (h : Int) < (n : Int) := by omega
  have hsP : (s : Int) < (p.nP : Int) := by omega
  have HPos : ∀ q : Later W, Hid (Lr 89 #[.agg #[.slice (some ⟨bH, oH, none⟩) p.nH cH, .slice (some ⟨bS, oS, none⟩) p.nS cS, .slice (some ⟨bP, oP, none⟩) p.nP cP], .int .i64 h, .int .i64 (s : Int)] q.to (.bool (possB p h (s : Int)))) := fun q => Lib.hid
    (possible_any _ _ _ cH cS cP p h (s : Int) q.to (hPl.keep q.below).hands.rows (hPl.keep q.below).shifts.rows hok hh)
  have HR1 : ∀ q : Later W, Hid (Lr 91 #[.slice RH (p.LH h) kH, .int .i64 (s : Int)] q.to (.int .i64 (rkI (p.vH h) (p.LH h) (s : Int)))) := fun q => Lib.hid (Lr.same (rank_any RH _ kH (p.vH h) (s : Int) q.to (hIH.keep q.below) (by omega)))
  have HR2 : ∀ q : Later W, Hid (Lr 91 #[.slice RH (p.LH h) kH, .int .i64 (m h)] q.to (.int .i64 (rkI (p.vH h) (p.LH h) (m h)))) := fun q => Lib.hid (Lr.same (rank_any RH _ kH (p.vH h) (m h) q.to (hIH.keep q.below) (by omega)))
  have HB0 := Lib.hid hB0
  have Hb0 := Lib.hid hb0
  have HcH := Lib.hid hcH
  have HcS := Lib.hid hcS
  have HcP := Lib.hid hcP
  have HcD := Lib.hid hcD
  have HIS := Lib.hid hIS
  have HD := Lib.hid hD
  have HLst := Lib.hid hl
  have HN := Lib.hid hn
  have HDef : Hid (blkB p m h s = (possB p h (s : Int) && decide (rkI (p.vH h) (p.LH h) (s : Int) < rkI (p.vH h) (p.LH h) (m h)) && (decide ((cnt m (s : Int) n : Int) < p.pl s) || anyB (lessP p m h s) n))) := Lib.hid (by rw [hn]; rfl)
  have hn9 : n ≤ 9 := by omega
  clear hp hd hb0 hB0 hPl hD hcH hcS hcP hcD hIH hIS hl a5 a6 a7 a8 hn hok
  show Calls _ _ _ _ _
  go_enter Try.func69, Try.ntmps69
  go_wp2_with fail
  rw [← hW]
  have k0 : ∀ q : Later W, q.to.cell? ⟨w.heap.size, 0, none⟩ = some (.slice (some ⟨bH, oH, none⟩) p.nH cH) := fun q => q.cell HB0.out.1
  have k1 : ∀ q : Later W, q.to.cell? ⟨w.heap.size, 1, none⟩ = some (.slice (some ⟨bS, oS, none⟩) p.nS cS) := fun q => q.cell HB0.out.2.1
  have k2 : ∀ q : Later W, q.to.cell? ⟨w.heap.size, 2, none⟩ = some (.slice (some ⟨bP, oP, none⟩) p.nP cP) := fun q => q.cell HB0.out.2.2
  have k3 : ∀ q : Later W, q.to.cell? ⟨bH, oH + h, none⟩ = some (.slice RH (p.LH h) kH) := fun q => q.cell HcH.out
  have k4 : ∀ q : Later W, q.to.cell? ⟨bD, oD + h, none⟩ = some (.int .i64 (m h)) := fun q => q.cell HcD.out
  generalize hpo : possB p h (s : Int) = po at *
  have hr1 := rkI_bd (p.vH h) (p.LH h) (s : Int)
  have hr2 := rkI_bd (p.vH h) (p.LH h) (m h)
  generalize rkI (p.vH h) (p.LH h) (s : Int) = r1 at *
  generalize rkI (p.vH h) (p.LH h) (m h) = r2 at *
  cases po with
  | false =>
    refine wp_region_later (by kernel_rfl) (by kernel_rfl) ?_
    repeat
      (with_reducible refine wpQuiet_step ?_
       intro K hK
       go_simp
       first
         | (refine hK _ ?_; clear hK K)
         | (apply Exists.intro
            refine ⟨fun _ => ?_, hK _ ?_⟩
            (go_at_call 89; exact Lr.later (HPos _).out)
            clear hK K))
    with_reducible refine wpQuiet_nil ?_
    intro _ hw'
    obtain ⟨q, hw''⟩ := hw'
    subst hw''
    have Hq := Lib.hid (Hb0.out.trans (q.below.mono Hb0.out.size))
    clear k0 k1 k2 k3 k4
    go_wp2
    go_ret
    exact ⟨ret_bool (by rw [HDef.out]; rfl), Hq.out⟩
  | true =>
    by_cases hrr : r1 < r2
    · have hge : decide (r2 ≤ r1) = false := decide_eq_false (by omega)
      have HDef2 : Hid (blkB p m h s = (decide ((cnt m (s : Int) n : Int) < p.pl s) || anyB (lessP p m h s) n)) := Lib.hid (by rw [HDef.out, decide_eq_true hrr]; rfl)
      refine wp_region_later (by kernel_rfl) (by kernel_rfl) ?_
      repeat
        (with_reducible refine wpQuiet_step ?_
         intro K hK
         go_simp
         first
           | (refine hK _ ?_; clear hK K)
           | (apply Exists.intro
              refine ⟨fun _ => ?_, hK _ ?_⟩
              (first
                | (go_at_call 89; exact Lr.later (HPos _).out)
                | (go_at_call_of 91 (m h); exact Lr.later (HR2 _).out)
                | (go_at_call 91; exact Lr.later (HR1 _).out))
              clear hK K))
      with_reducible refine wpQuiet_nil ?_
      intro _ hw'
      obtain ⟨q, hw''⟩ := hw'
      subst hw''
      have hb2 := q.below
      clear k0 k1 k2 k3 k4 HPos HR1 HR2
      generalize q.to = w2 at hb2 ⊢
      clear q hge
      have HHo := Lib.hid (handsOf_any (some ⟨bD, oD, none⟩) n c m (s : Int) w2 (HD.out.keep hb2) (by omega))
      have Hb2 := Lib.hid hb2
      clear hb2
      go_wp2_with fail
      refine HHo.out.mono ?_
      rintro e w3 ⟨x, rfl, hx, hb3⟩
      obtain ⟨A3, c3, rfl, hI3⟩ := hx.shp (hndL_len m (s : Int) n)
      have hb3' := Hb2.out.trans (hb3.mono Hb2.out.size)
      have Hb3 := Lib.hid hb3'
      have HI3 := Lib.hid hI3
      obtain ⟨g0, g1, g2⟩ := HB0.out.keep hb3'
      have g3 := old_cell HcP.out hb3'
      have hct := cnt_le m (s : Int) n
      have Hbw := Lib.hid (Hb0.out.trans (hb3'.mono Hb0.out.size))
      clear hx hI3 hb3 hb3' g0 HHo
      by_cases hlt : (cnt m (s : Int) n : Int) < p.pl s
      · have HE : Hid (blkB p m h s = true) := Lib.hid (by rw [HDef2.out, decide_eq_true hlt]; rfl)
        generalize cnt m (s : Int) n = ct at *
        go_wp2
        go_ret
        exact ⟨ret_bool HE.out.symm, Hbw.out⟩
      · have HE0 : Hid (blkB p m h s = anyB (lessP p m h s) n) := Lib.hid (by rw [HDef2.out, decide_eq_false hlt]; rfl)
        have hlen := hndL_len m (s : Int) n
        obtain ⟨k, hk⟩ : ∃ k, cnt m (s : Int) n = k + 1 := ⟨cnt m (s : Int) n - 1, by omega⟩
        have hof : lst (k + 1) (fun j => (hndL m (s : Int) n).getD j 0) = hndL m (s : Int) n := by
          have := lst_of (hndL m (s : Int) n)
          rw [hlen, hk] at this
          exact this
        obtain ⟨x0, hx0, hm0⟩ := max_ex (rkI (p.vS s) (p.LS s)) (hndL m (s : Int) n) (by
          intro e
          rw [e] at hlen
          simp at hlen
          omega)
        have hinj : ∀ y, y ∈ hndL m (s : Int) n → rkI (p.vS s) (p.LS s) y = rkI (p.vS s) (p.LS s) x0 → y = x0 := fun y hy e => by
          obtain ⟨a, ha, ha2, rfl⟩ := hndL_mem.1 hy
          obtain ⟨b, hb, hb2, rfl⟩ := hndL_mem.1 hx0
          exact rkI_inj (HLst.out a s (by rw [← HN.out]; exact ha) ha2) (HLst.out b s (by rw [← HN.out]; exact hb) hb2) e
        have HAny : Hid (anyB (lessP p m h s) n = decide (rkI (p.vS s) (p.LS s) (h : Int) < rkI (p.vS s) (p.LS s) x0)) := Lib.hid (by
          rw [Bool.eq_iff_iff, decide_eq_true_eq, anyB_iff]
          constructor
          · rintro ⟨a, ha, ha2⟩
            unfold lessP at ha2
            rw [Bool.and_eq_true] at ha2
            have h1 := of_decide_eq_true ha2.1
            have h2 := of_decide_eq_true ha2.2
            have h3 := hm0 (a : Int) (hndL_mem.2 ⟨a, ha, h1, rfl⟩)
            omega
          · intro hlt2
            obtain ⟨b, hb, hb2, rfl⟩ := hndL_mem.1 hx0
            refine ⟨b, hb, ?_⟩
            unfold lessP
            rw [decide_eq_true hb2, decide_eq_true hlt2]
            rfl)
        have HCh : ∀ q : Later w3, Hid (Lr 90 #[.slice RS (p.LS s) kS, .int .i64 ((k + 1 : Nat) : Int), .slice A3 (k + 1) c3] q.to (.int .i64 x0)) := fun q => Lib.hid
          (choice_any RS A3 (p.LS s) kS (k + 1) c3 k (p.vS s) _ x0 q.to ((HIS.out.keep Hb3.out).keep q.below) (by have := HI3.out.keep q.below; rw [hk] at this; exact this) (by omega) (by omega) (by omega) (fun F hp hs => srt_last hp hs (by rw [hof]; exact hx0) (fun y hy => hm0 y (by rw [hof] at hy; exact hy)) (fun y hy => hinj y (by rw [hof] at hy; exact hy))))
        have HQ1 : ∀ q : Later w3, Hid (Lr 91 #[.slice RS (p.LS s) kS, .int .i64 (h : Int)] q.to (.int .i64 (rkI (p.vS s) (p.LS s) (h : Int)))) := fun q => Lib.hid (Lr.same (rank_any RS _ kS (p.vS s) (h : Int) q.to ((HIS.out.keep Hb3.out).keep q.below) (by omega)))
        have HQ2 : ∀ q : Later w3, Hid (Lr 91 #[.slice RS (p.LS s) kS, .int .i64 x0] q.to (.int .i64 (rkI (p.vS s) (p.LS s) x0))) := fun q => Lib.hid (Lr.same (rank_any RS _ kS (p.vS s) x0 q.to ((HIS.out.keep Hb3.out).keep q.below) (by omega)))
        have hk2 := hk
        rw [hk] at hlt hct
        clear hx0 hm0 hinj hof hlen
        generalize rkI (p.vS s) (p.LS s) (h : Int) = r3 at *
        generalize rkI (p.vS s) (p.LS s) x0 = r4 at *
        rw [hk]
        generalize k + 1 = ct at *
        clear hk hk2
        go_wp2_with fail
        have k1 : ∀ q : Later w3, q.to.cell? ⟨w.heap.size, 1, none⟩ = some (.slice (some ⟨bS, oS, none⟩) p.nS cS) := fun q => q.cell g1
        have k5 : ∀ q : Later w3, q.to.cell? ⟨bS, oS + s, none⟩ = some (.slice RS (p.LS s) kS) := fun q => q.cell (old_cell HcS.out Hb3.out)
        refine wp_region_later (by kernel_rfl) (by kernel_rfl) ?_
        repeat
          (with_reducible refine wpQuiet_step ?_
           intro K hK
           go_simp
           first
             | (refine hK _ ?_; clear hK K)
             | (apply Exists.intro
                refine ⟨fun _ => ?_, hK _ ?_⟩
                (first
                  | (go_at_call 90; exact Lr.later (HCh _).out)
                  | (go_at_call_of 91 x0; exact Lr.later (HQ2 _).out)
                  | (go_at_call 91; exact Lr.later (HQ1 _).out))
                clear hK K))
        with_reducible refine wpQuiet_nil ?_
        intro _ hw'
        obtain ⟨q, hw''⟩ := hw'
        subst hw''
        have Hq := Lib.hid (Hbw.out.trans (q.below.mono Hbw.out.size))
        clear k1 k5
        go_wp2
        go_ret
        exact ⟨ret_bool (by rw [HE0.out, HAny.out]), Hq.out⟩
    · have hge : decide (r2 ≤ r1) = true := decide_eq_true (by omega)
      have HDef3 : Hid (blkB p m h s = false) := Lib.hid (by rw [HDef.out, decide_eq_false hrr]; rfl)
      refine wp_region_later (by kernel_rfl) (by kernel_rfl) ?_
      repeat
        (with_reducible refine wpQuiet_step ?_
         intro K hK
         go_simp
         first
           | (refine hK _ ?_; clear hK K)
           | (apply Exists.intro
              refine ⟨fun _ => ?_, hK _ ?_⟩
              (first
                | (go_at_call 89; exact Lr.later (HPos _).out)
                | (go_at_call_of 91 (m h); exact Lr.later (HR2 _).out)
                | (go_at_call 91; exact Lr.later (HR1 _).out))
              clear hK K))
      with_reducible refine wpQuiet_nil ?_
      intro _ hw'
      obtain ⟨q, hw''⟩ := hw'
      subst hw''
      have Hq := Lib.hid (Hb0.out.trans (q.below.mono Hb0.out.size))
      clear k0 k1 k2 k3 k4
      go_wp2
      go_ret
      exact ⟨ret_bool HDef3.out.symm, Hq.out⟩
end Go.Proofs.Ytiigcjcolpmafaa
