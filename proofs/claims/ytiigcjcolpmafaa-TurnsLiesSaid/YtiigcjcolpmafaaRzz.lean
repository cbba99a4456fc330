/- A part of the proof: Rzz. -/
import Derived.Test.YtiigcjcolpmafaaRbz
import Derived.Test.YtiigcjcolpmafaaAuz
import Derived.Deep.RegionLawGrows
namespace Go.Proofs.Ytiigcjcolpmafaa
open Go.RowKit

/-- What the reference's j-th way on brings: none, then each shift. -/
def stE (p : PlanD) (d h : Nat) (m : Nat → Int) : Nat → List (List Int)
  | 0 => stL p d (h + 1) (upd m h (-1))
  | s + 1 => if possB p h (s : Int) then stL p d (h + 1) (upd m h (s : Int)) else []
theorem fmTo_head {α : Type} (F : Nat → List α) (n : Nat) : fmTo F (n + 1) = F 0 ++ fmTo (fun s => F (s + 1)) n := by
  induction n with
  | zero => simp [fmTo]
  | succ n ih =>
    rw [fmTo, ih, List.append_assoc]
    rfl
theorem stL_succ (p : PlanD) (d h : Nat) (m : Nat → Int) : stL p (d + 1) h m = fmTo (stE p d h m) (p.nS + 1) := by
  rw [fmTo_head]
  rfl
theorem stL_len (p : PlanD) (hS : p.nS ≤ 4) : ∀ d h m, (stL p d h m).length ≤ 5 ^ d := by
  intro d
  induction d with
  | zero =>
    intro h m
    simp only [stL]
    split <;> simp
  | succ d ih =>
    intro h m
    have h2 := fmTo_len (F := stE p d h m) (B := 5 ^ d) (fun k => by
      rcases k with _ | k
      · exact ih _ _
      · show (if _ then _ else _ : List (List Int)).length ≤ _
        split
        · exact ih _ _
        · simp) (p.nS + 1)
    have h3 : (p.nS + 1) * 5 ^ d ≤ 5 * 5 ^ d := Nat.mul_le_mul_right _ (by omega)
    rw [stL_succ, Nat.pow_succ]
    omega

theorem ints_olds {w : World} {A : Option Addr} {n : Nat} {f : Nat → Int} (h : Ints w A n f) : ∀ bb, A = some bb → ∀ (j : Nat) (u : Value), ((lst n f).map (Value.int .i64))[j]? = some u → w.cell? (bb.add j) = some u := by
  intro bb e j u hu
  have hj : j < n := by
    have := (List.getElem?_eq_some_iff.1 hu).1
    simpa [lst] using this
  obtain ⟨b, o, e2, -⟩ := h.at hj
  rw [e] at e2
  injection e2 with e2
  subst e2
  subst e
  exact cells_of_ints h j u hu
theorem OwnL.arg {w : World} {base n : Nat} {v : Value} {f : Nat → Int} (h : OwnL w base v (lst n f)) : ∃ A c, v = .slice A n c ∧ ArgI w A n c f := by
  rcases h.2 with ⟨rfl, hn⟩ | ⟨g, cap, cur, rfl, hg, hh, hnc, hcm, hcs, ht⟩
  · rw [lst_len] at hn
    subst hn
    exact ⟨none, 0, rfl, Nat.le_refl _, Nat.zero_le _, fun _ => rfl, Ints.zero⟩
  · rw [lst_len] at hnc
    refine ⟨some ⟨g, 0, none⟩, cap, by rw [lst_len], hnc, hcm, fun e => by (cases e), ?_⟩
    exact OwnL.toI (c := cap) (base := base) (by rw [lst_len] at h; exact h)

theorem OwnLL.own_lt {w : World} {base : Nat} {x : Value} {ls : List (List Int)} (h : OwnLL w base x ls) : ∀ g, x.ownBlock = some g → base ≤ g := by
  obtain ⟨vals, h1, h2, h3⟩ := h
  exact fun g hg => (World.ownsRow.lt h2 g hg).1
theorem box_grown {w w' : World} {bx base : Nat} {AH AS AP : Option Addr} {nH nS nP cH cS cP : Nat} {v : Value} {ls : List (List Int)} (h : BoxP w bx AH AS AP nH nS nP cH cS cP) (hb : bx < base) (ho : OwnLL w base v ls) (hg : w.grownBy w' v.ownBlock) : BoxP w' bx AH AS AP nH nS nP cH cS cP := by
  obtain ⟨z0, z1, z2⟩ := h
  have hk : ∀ {i : Nat} {u : Value}, w.cell? ⟨bx, i, none⟩ = some u → w'.cell? ⟨bx, i, none⟩ = some u := fun {i u} hc => by
    refine World.grownBy.cell hg hc (fun e => ?_)
    have := ho.own_lt bx e.symm
    omega
  exact ⟨hk z0, hk z1, hk z2⟩
theorem lst_put {h : Nat} {m : Nat → Int} {x : Int} : lst (h + 1) (upd m h x) = lst h m ++ [x] := by
  rw [lst_succ, upd_at]
  congr 1
  exact lst_congr (fun k hk => upd_ne m x (by omega))
theorem own_put {w : World} {base h : Nat} {m : Nat → Int} {x : Int} {v : Value} (hv : w.ownsRow base 3 1 v (h + 1) ((lst h m).map (Value.int .i64) ++ [.int .i64 x])) : OwnL w base v (lst (h + 1) (upd m h x)) := by
  unfold OwnL
  rw [lst_put]
  simpa [lst_len] using hv

set_option maxHeartbeats 2000000 in
set_option maxRecDepth 1000000 in
theorem rstable_any (AH AS AP : Option Addr) (cH cS cP : Nat) (p : PlanD) (hok : okPlan p = true) :
    ∀ (d h : Nat) (m : Nat → Int) (A : Option Addr) (c : Nat) (w : World), h + d = p.nH → PlanArg w AH AS AP cH cS cP p → ArgI w A h c m →
    Calls Try.prog 75 #[.agg #[.slice AH p.nH cH, .slice AS p.nS cS, .slice AP p.nP cP], .slice A h c] w fun e w' => ∃ x, e = .returned x ∧ OwnLL w' w.heap.size x (stL p d h m) ∧ Below w.heap.size w w' := by
  intro d
  induction d with
  | zero =>
    intro h m A c w hd hp hA
    obtain rfl : h = p.nH := by omega
    exact rstable_leaf AH AS AP A cH cS cP p.nH c p m w hp hA hok rfl
  | succ d ih =>
    intro h m A c w hd hp hA
    obtain ⟨⟨a1, a2, a3, a4, -⟩, -, -, -⟩ := okPlan_of hok
    obtain ⟨i0, hi, hz0, hz1, hz2⟩ := info_parts infoInt
    have Hb0 := Lib.hid (below_box w (.cells #[.slice AH p.nH cH, .slice AS p.nS cS, .slice AP p.nP cP] 25))
    have hB0 := BoxP.newR w AH AS AP p.nH p.nS p.nP cH cS cP
    have HB0 := Lib.hid hB0
    obtain ⟨z0, z1, z2⟩ := hB0
    have HIh := Lib.hid ih
    have HPp := Lib.hid hp
    have HA := Lib.hid hA
    have HOk := Lib.hid hok
    have Hd := Lib.hid hd
    have hhn : h < p.nH := by omega
    have hne := beq_f (a := (h : Int)) (b := (p.nH : Int)) (by omega)
    have H5 : Hid (5 ^ d ≤ 3125) := Lib.hid (by
      have : 5 ^ d ≤ 5 ^ 5 := Nat.pow_le_pow_right (by omega) (by omega)
      omega)
    clear ih hp hA hok hd
    go_enter Try.func75, Try.ntmps75
    go_wp2_with fail
    clear z0 z1 z2
    go_loopw [5, 7] (fun y x wr => ∃ (j : Nat) (s : Int), j ≤ p.nS + 1 ∧ s = (j : Int) - 1 ∧ x = .int .i64 s ∧ OwnLL wr (w.heap.size + 1) y (fmTo (stE p d h m) j) ∧ Below w.heap.size w wr ∧ BoxP wr w.heap.size AH AS AP p.nH p.nS p.nP cH cS cP) (fun _ x _ => p.nS - (intOf x).toNat + (if intOf x = -1 then 1 else 0))
    case atStart => exact ⟨0, -1, by omega, by omega, rfl, OwnLL.nil_ _ _, Hb0.out, HB0.out⟩
    case round =>
      obtain ⟨j, s, hj, hs, rfl, hO, hbel, hbox⟩ := hrel
      obtain ⟨q0, q1, q2⟩ := hbox
      have HO := Lib.hid hO
      have Hbel := Lib.hid hbel
      clear hO hbel
      by_cases hlt : s < (p.nS : Int)
      · have hhc := HA.out.1
        have HBq : Hid (BoxP wr w.heap.size AH AS AP p.nH p.nS p.nP cH cS cP) := Lib.hid ⟨q0, q1, q2⟩
        have HLen : Hid (∀ z, (fmTo (stE p d h m) j).length + (stL p d (h + 1) z).length ≤ 100000) := Lib.hid (fun z => by
          have h1 := stL_len p a4 d (h + 1) z
          have h2 := fmTo_len (F := stE p d h m) (B := 5 ^ d) (fun k => by
            rcases k with _ | k
            · exact stL_len p a4 _ _ _
            · show (if _ then _ else _ : List (List Int)).length ≤ _
              split
              · exact stL_len p a4 _ _ _
              · simp) j
          have h3 : j * 5 ^ d ≤ 5 * 5 ^ d := Nat.mul_le_mul_right _ (by omega)
          have h4 := H5.out
          omega)
        obtain ⟨Ay, cy, ey⟩ := HO.out.form
        subst ey
        rcases j with _ | t
        · obtain rfl : s = -1 := by omega
          clear hs
          have HbD := Lib.hid ((show Below w.heap.size w wr from Hbel.out).trans (((Dn.refl wr).drew.below _).mono Hbel.out.size))
          have Hbx : Hid (BoxP wr.drew w.heap.size AH AS AP p.nH p.nS p.nP cH cS cP) := Lib.hid (show BoxP wr _ _ _ _ _ _ _ _ _ _ from HBq.out)
          have HSz : Hid (w.heap.size + 1 ≤ wr.heap.size) := Lib.hid (World.block_lt_of_cell? _ _ HBq.out.1)
          rcases A with _ | a
          · have hc0 := HA.out.2.2.1 rfl
            obtain rfl : h = 0 := by omega
            subst hc0
            go_wp2_with fail
            obtain ⟨y0, y1, y2⟩ := (show BoxP wr w.heap.size AH AS AP p.nH p.nS p.nP cH cS cP from Hbx.out).keep (below_box wr (.cells #[.int .i64 (-1)] 3))
            go_region_law
              (first
                | (refine step_append_grows (by rfl) (.tmp 50) (.tmp 52) 23 (by rfl) 3 i0 (.int .i64 0) 1 8 Try.underlying23 hi hz0 hz1 hz2 rfl (by decide) none 0 0 ((lst 0 m).map (Value.int .i64)) ?hd (fun _ => ⟨rfl, rfl⟩) (by simp [lst_len]) (ints_olds ((HA.out.below HbD.out).below (below_box _ _)).2.2.2) ⟨wr.heap.size, 0, none⟩ 1 1 [.int .i64 (-1)] ?hs rfl (news1 wr.drew _ _) (one1 rfl) (by omega) (by unfold maxLen; omega) (by omega) ?_; (case hd => go_simp); (case hs => go_simp); intro v3 w3 hv3 hg3; obtain ⟨A3, c3, rfl, hA3⟩ := (own_put hv3).arg; have hb3 : Below wr.drew.heap.size wr.drew w3 := (below_box wr.drew _).grown hg3 (by simp) (by intro k hk; cases hk); obtain ⟨g0, g1, g2⟩ := Hbx.out.keep hb3)
                | (go_simp; go_at_call 75; refine (HIh.out (0 + 1) (upd m 0 (-1)) _ _ _ (by have := Hd.out; omega) (HPp.out.keep (HbD.out.trans (hb3.mono HbD.out.size))) hA3).mono ?_; rintro e w4 ⟨x4, rfl, hx4, hb4⟩; obtain ⟨A4, c4, rfl⟩ := hx4.form)
                | (refine step_append_lls (by rfl) (.tmp 45) (.tmp 54) (by rfl) (w.heap.size + 1) w3.heap.size _ _ (fmTo (stE p d 0 m) (0)) (stL p d (0 + 1) (upd m 0 (-1))) ?hd (((OwnLL.below (w := wr.drew) HO.out hb3).below hb4)) ?hs hx4 (by have := hb3.size; have := HSz.out; simp at *; omega) (HLen.out _) (by have := hb3.size; have := hb4.size; have := HSz.out; simp at *; omega) ?_; (case hd => go_simp); (case hs => go_simp); intro v5 w5 hv5 hg5; obtain ⟨A5, c5, rfl⟩ := hv5.form)
                | fail)
            all_goals
              have hbA : Below w.heap.size w w4 := (HbD.out.trans (hb3.mono HbD.out.size)).trans (hb4.mono (by have := HbD.out.size; have := hb3.size; omega))
              have hO4 := ((OwnLL.below (w := wr.drew) HO.out hb3).below hb4)
              have HB5 := Lib.hid (box_grown (((Hbx.out.keep hb3).keep hb4)) (by omega) hO4 hg5)
              have Hb5 : Hid (Below w.heap.size w w5) := Lib.hid (hbA.grown hg5 hbA.size (fun k hk => by have := hO4.own_lt k hk; omega))
              have HO5 := Lib.hid hv5
              clear hbA hO4 hg5 hv5 hb3 hb4 hx4 hA3 hg3 hv3 g0 g1 g2 y0 y1 y2
              go_wp2
              go_roundw
              case rel =>
                first
                  | exact ⟨0 + 1, 0, by omega, by omega, by go_num, (by have h5 := HO5.out; simp only [List.length_append] at h5;  exact h5), Hb5.out, HB5.out⟩
                  | exact ⟨0 + 1, by omega, by omega, (by have h5 := HO5.out; simp only [List.length_append] at h5;  exact h5), Hb5.out, HB5.out⟩
              case measure => simp [intOf] <;> (repeat' split) <;> omega
          · obtain ⟨b, o, nn⟩ := a
            go_wp2_with fail
            obtain ⟨y0, y1, y2⟩ := (show BoxP wr w.heap.size AH AS AP p.nH p.nS p.nP cH cS cP from Hbx.out).keep (below_box wr (.cells #[.int .i64 (-1)] 3))
            go_region_law
              (first
                | (refine step_append_grows (by rfl) (.tmp 50) (.tmp 52) 23 (by rfl) 3 i0 (.int .i64 0) 1 8 Try.underlying23 hi hz0 hz1 hz2 rfl (by decide) (some ⟨b, o, nn⟩) h h ((lst h m).map (Value.int .i64)) ?hd (fun e => by cases e) (by simp [lst_len]) (ints_olds ((HA.out.below HbD.out).below (below_box _ _)).2.2.2) ⟨wr.heap.size, 0, none⟩ 1 1 [.int .i64 (-1)] ?hs rfl (news1 wr.drew _ _) (one1 rfl) (by omega) (by unfold maxLen; omega) (by omega) ?_; (case hd => go_simp); (case hs => go_simp); intro v3 w3 hv3 hg3; obtain ⟨A3, c3, rfl, hA3⟩ := (own_put hv3).arg; have hb3 : Below wr.drew.heap.size wr.drew w3 := (below_box wr.drew _).grown hg3 (by simp) (by intro k hk; cases hk); obtain ⟨g0, g1, g2⟩ := Hbx.out.keep hb3)
                | (go_simp; go_at_call 75; refine (HIh.out (h + 1) (upd m h (-1)) _ _ _ (by have := Hd.out; omega) (HPp.out.keep (HbD.out.trans (hb3.mono HbD.out.size))) hA3).mono ?_; rintro e w4 ⟨x4, rfl, hx4, hb4⟩; obtain ⟨A4, c4, rfl⟩ := hx4.form)
                | (refine step_append_lls (by rfl) (.tmp 45) (.tmp 54) (by rfl) (w.heap.size + 1) w3.heap.size _ _ (fmTo (stE p d h m) (0)) (stL p d (h + 1) (upd m h (-1))) ?hd (((OwnLL.below (w := wr.drew) HO.out hb3).below hb4)) ?hs hx4 (by have := hb3.size; have := HSz.out; simp at *; omega) (HLen.out _) (by have := hb3.size; have := hb4.size; have := HSz.out; simp at *; omega) ?_; (case hd => go_simp); (case hs => go_simp); intro v5 w5 hv5 hg5; obtain ⟨A5, c5, rfl⟩ := hv5.form)
                | fail)
            all_goals
              have hbA : Below w.heap.size w w4 := (HbD.out.trans (hb3.mono HbD.out.size)).trans (hb4.mono (by have := HbD.out.size; have := hb3.size; omega))
              have hO4 := ((OwnLL.below (w := wr.drew) HO.out hb3).below hb4)
              have HB5 := Lib.hid (box_grown (((Hbx.out.keep hb3).keep hb4)) (by omega) hO4 hg5)
              have Hb5 : Hid (Below w.heap.size w w5) := Lib.hid (hbA.grown hg5 hbA.size (fun k hk => by have := hO4.own_lt k hk; omega))
              have HO5 := Lib.hid hv5
              clear hbA hO4 hg5 hv5 hb3 hb4 hx4 hA3 hg3 hv3 g0 g1 g2 y0 y1 y2
              go_wp2
              go_roundw
              case rel =>
                first
                  | exact ⟨0 + 1, 0, by omega, by omega, by go_num, (by have h5 := HO5.out; simp only [List.length_append] at h5;  exact h5), Hb5.out, HB5.out⟩
                  | exact ⟨0 + 1, by omega, by omega, (by have h5 := HO5.out; simp only [List.length_append] at h5;  exact h5), Hb5.out, HB5.out⟩
              case measure => simp [intOf] <;> (repeat' split) <;> omega
        · obtain rfl : s = (t : Int) := by omega
          have hn1 : ¬ (t : Int) = -1 := by omega
          have hn2 := beq_f hn1
          have htn : t < p.nS := by omega
          have hpos := rpossible_any AH AS AP cH cS cP p h (t : Int) wr (HPp.out.keep Hbel.out).hands.rows (HPp.out.keep Hbel.out).shifts.rows HOk.out hhn
          clear hs hn1
          cases hpo : possB p h (t : Int) with
          | false =>
            rw [hpo] at hpos
            have HPos := Lib.hid hpos
            have HE : Hid (fmTo (stE p d h m) (t + 1 + 1) = fmTo (stE p d h m) (t + 1)) := Lib.hid (by show _ ++ (if _ then _ else _ : List (List Int)) = _; rw [hpo]; exact List.append_nil _)
            clear hpo hpos
            go_wp2_with fail
            refine Lr.use HPos.out ?_
            intro w2 hb2
            have HO2 := Lib.hid (HO.out.below hb2)
            have HB2 := Lib.hid (HBq.out.keep hb2)
            have Hb2 := Lib.hid (Hbel.out.trans (hb2.mono Hbel.out.size))
            clear hb2 q0 q1 q2 HPos
            go_wp2
            go_roundw
            case rel => exact ⟨t + 1 + 1, (t : Int) + 1, by omega, by omega, by go_num, by rw [HE.out]; exact HO2.out, Hb2.out, HB2.out⟩
            case measure =>
              first
                | (simp [intOf] <;> (repeat' split) <;> omega)
                | (simp [intOf, show ¬ (t : Int) = -1 by omega, show ¬ (t : Int) + 1 = -1 by omega]; omega)
                | (simp only [intOf]; rw [if_neg (show ¬ (t : Int) + 1 = -1 by omega), if_neg (show ¬ (t : Int) = -1 by omega)]; omega)
                | (simp only [intOf]; rw [if_neg (show ¬ (t : Int) = -1 by omega)]; omega)
          | true =>
            rw [hpo] at hpos
            have HPos := Lib.hid hpos
            have HE : Hid (fmTo (stE p d h m) (t + 1 + 1) = fmTo (stE p d h m) (t + 1) ++ stL p d (h + 1) (upd m h (t : Int))) := Lib.hid (by show _ ++ (if _ then _ else _ : List (List Int)) = _; rw [hpo]; rfl)
            clear hpo hpos
            go_wp2_with fail
            refine Lr.use HPos.out ?_
            intro w2 hb2
            have HO := Lib.hid (HO.out.below hb2)
            have HBq := Lib.hid (HBq.out.keep hb2)
            have Hbel := Lib.hid (Hbel.out.trans (hb2.mono Hbel.out.size))
            clear hb2 q0 q1 q2 HPos
            obtain ⟨q0, q1, q2⟩ := HBq.out
            have HbD := Lib.hid ((show Below w.heap.size w w2 from Hbel.out).trans (((Dn.refl w2).drew.below _).mono Hbel.out.size))
            have Hbx : Hid (BoxP w2.drew w.heap.size AH AS AP p.nH p.nS p.nP cH cS cP) := Lib.hid (show BoxP w2 _ _ _ _ _ _ _ _ _ _ from HBq.out)
            have HSz : Hid (w.heap.size + 1 ≤ w2.heap.size) := Lib.hid (World.block_lt_of_cell? _ _ HBq.out.1)
            rcases A with _ | a
            · have hc0 := HA.out.2.2.1 rfl
              obtain rfl : h = 0 := by omega
              subst hc0
              go_wp2_with fail
              obtain ⟨y0, y1, y2⟩ := (show BoxP w2 w.heap.size AH AS AP p.nH p.nS p.nP cH cS cP from Hbx.out).keep (below_box w2 (.cells #[.int .i64 (t : Int)] 3))
              go_region_law
                (first
                  | (refine step_append_grows (by rfl) (.tmp 50) (.tmp 52) 23 (by rfl) 3 i0 (.int .i64 0) 1 8 Try.underlying23 hi hz0 hz1 hz2 rfl (by decide) none 0 0 ((lst 0 m).map (Value.int .i64)) ?hd (fun _ => ⟨rfl, rfl⟩) (by simp [lst_len]) (ints_olds ((HA.out.below HbD.out).below (below_box _ _)).2.2.2) ⟨w2.heap.size, 0, none⟩ 1 1 [.int .i64 (t : Int)] ?hs rfl (news1 w2.drew _ _) (one1 rfl) (by omega) (by unfold maxLen; omega) (by omega) ?_; (case hd => go_simp); (case hs => go_simp); intro v3 w3 hv3 hg3; obtain ⟨A3, c3, rfl, hA3⟩ := (own_put hv3).arg; have hb3 : Below w2.drew.heap.size w2.drew w3 := (below_box w2.drew _).grown hg3 (by simp) (by intro k hk; cases hk); obtain ⟨g0, g1, g2⟩ := Hbx.out.keep hb3)
                  | (go_simp; go_at_call 75; refine (HIh.out (0 + 1) (upd m 0 (t : Int)) _ _ _ (by have := Hd.out; omega) (HPp.out.keep (HbD.out.trans (hb3.mono HbD.out.size))) hA3).mono ?_; rintro e w4 ⟨x4, rfl, hx4, hb4⟩; obtain ⟨A4, c4, rfl⟩ := hx4.form)
                  | (refine step_append_lls (by rfl) (.tmp 45) (.tmp 54) (by rfl) (w.heap.size + 1) w3.heap.size _ _ (fmTo (stE p d 0 m) (t + 1)) (stL p d (0 + 1) (upd m 0 (t : Int))) ?hd (((OwnLL.below (w := w2.drew) HO.out hb3).below hb4)) ?hs hx4 (by have := hb3.size; have := HSz.out; simp at *; omega) (HLen.out _) (by have := hb3.size; have := hb4.size; have := HSz.out; simp at *; omega) ?_; (case hd => go_simp); (case hs => go_simp); intro v5 w5 hv5 hg5; obtain ⟨A5, c5, rfl⟩ := hv5.form)
                  | fail)
              all_goals
                have hbA : Below w.heap.size w w4 := (HbD.out.trans (hb3.mono HbD.out.size)).trans (hb4.mono (by have := HbD.out.size; have := hb3.size; omega))
                have hO4 := ((OwnLL.below (w := w2.drew) HO.out hb3).below hb4)
                have HB5 := Lib.hid (box_grown (((Hbx.out.keep hb3).keep hb4)) (by omega) hO4 hg5)
                have Hb5 : Hid (Below w.heap.size w w5) := Lib.hid (hbA.grown hg5 hbA.size (fun k hk => by have := hO4.own_lt k hk; omega))
                have HO5 := Lib.hid hv5
                clear hbA hO4 hg5 hv5 hb3 hb4 hx4 hA3 hg3 hv3 g0 g1 g2 y0 y1 y2
                go_wp2
                go_roundw
                case rel =>
                  first
                    | exact ⟨t + 1 + 1, (t : Int) + 1, by omega, by omega, by go_num, (by have h5 := HO5.out; simp only [List.length_append] at h5; rw [HE.out]; exact h5), Hb5.out, HB5.out⟩
                    | exact ⟨t + 1 + 1, by omega, by omega, (by have h5 := HO5.out; simp only [List.length_append] at h5; rw [HE.out]; exact h5), Hb5.out, HB5.out⟩
                case measure =>
                  first
                    | (simp [intOf] <;> (repeat' split) <;> omega)
                    | (simp [intOf, show ¬ (t : Int) = -1 by omega, show ¬ (t : Int) + 1 = -1 by omega]; omega)
                    | (simp only [intOf]; rw [if_neg (show ¬ (t : Int) + 1 = -1 by omega), if_neg (show ¬ (t : Int) = -1 by omega)]; omega)
                    | (simp only [intOf]; rw [if_neg (show ¬ (t : Int) = -1 by omega)]; omega)
            · obtain ⟨b, o, nn⟩ := a
              go_wp2_with fail
              obtain ⟨y0, y1, y2⟩ := (show BoxP w2 w.heap.size AH AS AP p.nH p.nS p.nP cH cS cP from Hbx.out).keep (below_box w2 (.cells #[.int .i64 (t : Int)] 3))
              go_region_law
                (first
                  | (refine step_append_grows (by rfl) (.tmp 50) (.tmp 52) 23 (by rfl) 3 i0 (.int .i64 0) 1 8 Try.underlying23 hi hz0 hz1 hz2 rfl (by decide) (some ⟨b, o, nn⟩) h h ((lst h m).map (Value.int .i64)) ?hd (fun e => by cases e) (by simp [lst_len]) (ints_olds ((HA.out.below HbD.out).below (below_box _ _)).2.2.2) ⟨w2.heap.size, 0, none⟩ 1 1 [.int .i64 (t : Int)] ?hs rfl (news1 w2.drew _ _) (one1 rfl) (by omega) (by unfold maxLen; omega) (by omega) ?_; (case hd => go_simp); (case hs => go_simp); intro v3 w3 hv3 hg3; obtain ⟨A3, c3, rfl, hA3⟩ := (own_put hv3).arg; have hb3 : Below w2.drew.heap.size w2.drew w3 := (below_box w2.drew _).grown hg3 (by simp) (by intro k hk; cases hk); obtain ⟨g0, g1, g2⟩ := Hbx.out.keep hb3)
                  | (go_simp; go_at_call 75; refine (HIh.out (h + 1) (upd m h (t : Int)) _ _ _ (by have := Hd.out; omega) (HPp.out.keep (HbD.out.trans (hb3.mono HbD.out.size))) hA3).mono ?_; rintro e w4 ⟨x4, rfl, hx4, hb4⟩; obtain ⟨A4, c4, rfl⟩ := hx4.form)
                  | (refine step_append_lls (by rfl) (.tmp 45) (.tmp 54) (by rfl) (w.heap.size + 1) w3.heap.size _ _ (fmTo (stE p d h m) (t + 1)) (stL p d (h + 1) (upd m h (t : Int))) ?hd (((OwnLL.below (w := w2.drew) HO.out hb3).below hb4)) ?hs hx4 (by have := hb3.size; have := HSz.out; simp at *; omega) (HLen.out _) (by have := hb3.size; have := hb4.size; have := HSz.out; simp at *; omega) ?_; (case hd => go_simp); (case hs => go_simp); intro v5 w5 hv5 hg5; obtain ⟨A5, c5, rfl⟩ := hv5.form)
                  | fail)
              all_goals
                have hbA : Below w.heap.size w w4 := (HbD.out.trans (hb3.mono HbD.out.size)).trans (hb4.mono (by have := HbD.out.size; have := hb3.size; omega))
                have hO4 := ((OwnLL.below (w := w2.drew) HO.out hb3).below hb4)
                have HB5 := Lib.hid (box_grown (((Hbx.out.keep hb3).keep hb4)) (by omega) hO4 hg5)
                have Hb5 : Hid (Below w.heap.size w w5) := Lib.hid (hbA.grown hg5 hbA.size (fun k hk => by have := hO4.own_lt k hk; omega))
                have HO5 := Lib.hid hv5
                clear hbA hO4 hg5 hv5 hb3 hb4 hx4 hA3 hg3 hv3 g0 g1 g2 y0 y1 y2
                go_wp2
                go_roundw
                case rel =>
                  first
                    | exact ⟨t + 1 + 1, (t : Int) + 1, by omega, by omega, by go_num, (by have h5 := HO5.out; simp only [List.length_append] at h5; rw [HE.out]; exact h5), Hb5.out, HB5.out⟩
                    | exact ⟨t + 1 + 1, by omega, by omega, (by have h5 := HO5.out; simp only [List.length_append] at h5; rw [HE.out]; exact h5), Hb5.out, HB5.out⟩
                case measure =>
                  first
                    | (simp [intOf] <;> (repeat' split) <;> omega)
                    | (simp [intOf, show ¬ (t : Int) = -1 by omega, show ¬ (t : Int) + 1 = -1 by omega]; omega)
                    | (simp only [intOf]; rw [if_neg (show ¬ (t : Int) + 1 = -1 by omega), if_neg (show ¬ (t : Int) = -1 by omega)]; omega)
                    | (simp only [intOf]; rw [if_neg (show ¬ (t : Int) = -1 by omega)]; omega)
      · obtain rfl : j = p.nS + 1 := by omega
        go_wp2
        go_ret
        refine ⟨_, rfl, ?_, Hbel.out⟩
        rw [stL_succ]
        exact HO.out.rebase (by omega)
end Go.Proofs.Ytiigcjcolpmafaa

