/- A part of the proof: Auz. -/
import Derived.Test.YtiigcjcolpmafaaAtz
import Derived.Deep.CutRange
namespace Go.Proofs.Ytiigcjcolpmafaa
open Go.RowKit

theorem fmTo_len {α : Type} {F : Nat → List α} {B : Nat} (h : ∀ k, (F k).length ≤ B) (n : Nat) : (fmTo F n).length ≤ n * B := by
  induction n with
  | zero => simp [fmTo]
  | succ n ih =>
    have := h n
    simp only [fmTo, List.length_append, Nat.add_mul, Nat.one_mul]
    omega
theorem gvL_len (p : PlanD) (hS : p.nS ≤ 4) : ∀ d h m, (gvL p d h m).length ≤ 5 ^ d := by
  intro d
  induction d with
  | zero =>
    intro h m
    simp only [gvL]
    split <;> simp
  | succ d ih =>
    intro h m
    have h1 := ih (h + 1) m
    have h2 := fmTo_len (F := fun s => if possB p h (s : Int) && decide ((cnt m (s : Int) p.nH : Int) < p.pl s) then gvL p d (h + 1) (upd m h (s : Int)) else []) (B := 5 ^ d) (fun k => by
      show (if _ then _ else _ : List (List Int)).length ≤ _
      split
      · exact ih _ _
      · simp) p.nS
    have h3 : p.nS * 5 ^ d ≤ 4 * 5 ^ d := Nat.mul_le_mul_right _ hS
    simp only [gvL, List.length_append]
    rw [Nat.pow_succ]
    omega
/-- What one shift brings. -/
def gvS (p : PlanD) (d h : Nat) (m : Nat → Int) (s : Nat) : List (List Int) := if possB p h (s : Int) && decide ((cnt m (s : Int) p.nH : Int) < p.pl s) then gvL p d (h + 1) (upd m h (s : Int)) else []
theorem gvL_succ (p : PlanD) (d h : Nat) (m : Nat → Int) : gvL p (d + 1) h m = gvL p d (h + 1) m ++ fmTo (gvS p d h m) p.nS := rfl
theorem PreM.put {p : PlanD} {h s : Nat} {m : Nat → Int} (hP : PreM p h m) (hh : h < p.nH) (hpo : possB p h (s : Int) = true) (hc : (cnt m (s : Int) p.nH : Int) < p.pl s) : PreM p (h + 1) (upd m h (s : Int)) := by
  have hmh : m h = -1 := hP.1 h (Nat.le_refl _)
  refine ⟨fun x hx => by rw [upd_ne m _ (by omega)]; exact hP.1 x (by omega), fun x hx => ?_⟩
  by_cases e : x = h
  · subst e
    unfold matP
    rw [upd_at, hpo, Int.toNat_natCast, cnt_upd hx (by rw [hmh]; omega), if_pos rfl, decide_eq_true (show (((cnt m (s : Int) p.nH + 1 : Nat)) : Int) ≤ p.pl s by omega)]
    simp
  · have hx2 := hP.2 x hx
    unfold matP at hx2 ⊢
    rw [upd_ne m _ e]
    by_cases e1 : m x = -1
    · rw [decide_eq_true e1]; rfl
    · rw [decide_eq_false e1, Bool.false_or] at hx2 ⊢
      rw [cnt_upd (by omega) (by rw [hmh]; exact fun e => e1 e.symm)]
      by_cases e2 : (s : Int) = m x
      · rw [if_pos e2, ← e2]
        rw [← e2, Bool.and_eq_true] at hx2
        rw [hx2.1, Int.toNat_natCast, decide_eq_true (show (((cnt m (s : Int) p.nH + 1 : Nat)) : Int) ≤ p.pl s by omega)]
        rfl
      · rw [if_neg e2]
        exact hx2

set_option maxHeartbeats 1000000 in
set_option maxRecDepth 1000000 in
theorem give_any (w0 : World) (F bm bp bf bg gm : Nat) (hL : LayG w0.heap.size F bm bp bf bg gm) (AH AS AP : Option Addr) (cH cS cP : Nat) (p : PlanD) (hp : PlanIn w0 AH AS AP p) (hok : okPlan p = true) :
    ∀ (d h : Nat) (m : Nat → Int) (ls : List (List Int)) (w : World), h + d = p.nH → PreM p h m → ls.length + 5 ^ d ≤ 100000 → AsI w0 F bm bp bf bg gm AH AS AP cH cS cP p m ls w →
    Calls Try.prog 87 (#[.int .i64 h] ++ gvCaps bm bp bf bg) w fun e w' => e = .returned (.tuple #[]) ∧ AsI w0 F bm bp bf bg gm AH AS AP cH cS cP p m (ls ++ gvL p d h m) w' := by
  intro d
  induction d with
  | zero =>
    intro h m ls w hd hP hlen hI
    obtain rfl : h = p.nH := by omega
    exact give_leaf w0 F bm bp bf bg gm hL AH AS AP cH cS cP p hp hok m ls w hP (by omega) hI
  | succ d ih =>
    intro h m ls w hd hP hlen hI
    obtain ⟨⟨a1, a2, a3, a4, a5⟩, -, -, -⟩ := okPlan_of hok
    have HIh : Hid (∀ (m : Nat → Int) (ls : List (List Int)) (w : World) (x : Int), x = ((h + 1 : Nat) : Int) → PreM p (h + 1) m → ls.length + 5 ^ d ≤ 100000 → AsI w0 F bm bp bf bg gm AH AS AP cH cS cP p m ls w →
        Calls Try.prog 87 #[.int .i64 x, .pointer (some ⟨bm, 0, none⟩), .pointer (some ⟨bp, 0, none⟩), .pointer (some ⟨bf, 0, none⟩), .pointer (some ⟨bg, 0, none⟩)] w fun e w' => e = .returned (.tuple #[]) ∧ AsI w0 F bm bp bf bg gm AH AS AP cH cS cP p m (ls ++ gvL p d (h + 1) m) w') := Lib.hid (fun m ls w x hx hP hl hI => by
      have hc := ih (h + 1) m ls w (by omega) hP hl hI
      rw [hx]
      simp only [gvCaps, List.append_toArray, List.cons_append, List.nil_append] at hc
      exact hc)
    have HL := Lib.hid hL
    have HI := Lib.hid hI
    have HP := Lib.hid hP
    have HPp := Lib.hid hp
    have HOk := Lib.hid hok
    have Hlen := Lib.hid hlen
    have Hd := Lib.hid hd
    have hP1 : PreM p (h + 1) m := ⟨fun x hx => hP.1 x (by omega), hP.2⟩
    have HP1 := Lib.hid hP1
    obtain ⟨-, -, ⟨p0, p1, p2⟩, hmb, hgb, -, -⟩ := hI
    have c1 := hmb.cell
    have c4 := hgb.cell
    unfold gvCaps at c4
    have hhn : h < p.nH := by omega
    have hne : ¬ (h : Int) = (p.nH : Int) := by omega
    clear ih hL hP hp hok hlen hmb hgb hP1 hd
    simp only [gvCaps, List.append_toArray, List.cons_append, List.nil_append]
    go_enter Try.func87, Try.ntmps87
    go_wp2_with fail
    refine (HIh.out m ls _ _ (by first | rfl | (simp; done) | omega) HP1.out (by have := Hlen.out; rw [Nat.pow_succ] at this; omega) (by exact HI.out)).mono ?_
    rintro e w1 ⟨rfl, hI1⟩
    have HI1 := Lib.hid hI1
    obtain ⟨-, -, ⟨q0, q1, q2⟩, -, -, -, -⟩ := hI1
    clear p0 p1 p2 c1 c4
    go_wp2_with fail
    clear q0 q1 q2
    go_loopw [26] (fun x wr => ∃ k : Nat, k ≤ p.nS ∧ x = .int .i64 k ∧ AsI w0 F bm bp bf bg gm AH AS AP cH cS cP p m (ls ++ gvL p d (h + 1) m ++ fmTo (gvS p d h m) k) wr) (fun x _ => p.nS - (intOf x).toNat)
    case atStart => exact ⟨0, Nat.zero_le _, rfl, by simpa [fmTo] using HI1.out⟩
    case round =>
      obtain ⟨k, hk, rfl, hIk⟩ := hrel
      have HIk := Lib.hid hIk
      clear hIk
      by_cases hlt : k < p.nS
      · obtain ⟨bP, oP, rfl, hcP⟩ := (HPp.out.places.keep HIk.out.bel).at (show k < p.nP by omega)
        have HS : Hid (∀ w', Below wr.heap.size wr w' → w'.cell? ⟨bm, 0, none⟩ = some (.slice (some ⟨gm, 0, none⟩) p.nH p.nH) ∧ w'.cell? ⟨bp, 0, none⟩ = some (.slice AH p.nH cH) ∧ w'.cell? ⟨bp, 1, none⟩ = some (.slice AS p.nS cS) ∧ w'.cell? ⟨bp, 2, none⟩ = some (.slice (some ⟨bP, oP, none⟩) p.nP cP) ∧ w'.cell? ⟨bP, oP + k, none⟩ = some (.int .i64 (p.pl k))) := Lib.hid (fun w' hb =>
          ⟨(HIk.out.keep hb).mb.cell, (HIk.out.keep hb).plan.1, (HIk.out.keep hb).plan.2.1, (HIk.out.keep hb).plan.2.2, old_cell hcP hb⟩)
        have HPos : Hid (∀ w', Below wr.heap.size wr w' → Lr 89 #[.agg #[.slice AH p.nH cH, .slice AS p.nS cS, .slice (some ⟨bP, oP, none⟩) p.nP cP], .int .i64 h, .int .i64 k] w' (.bool (possB p h (k : Int)))) := Lib.hid (fun w' hb =>
          possible_any AH AS (some ⟨bP, oP, none⟩) cH cS cP p h k w' (HPp.out.keep (HIk.out.keep hb).bel).hands.rows (HPp.out.keep (HIk.out.keep hb).bel).shifts.rows HOk.out hhn)
        have hPn : k < p.nP := by omega
        have hB0 : Below wr.heap.size wr wr.drew := (Below.refl _ _).drew
        have hpl3 : 1 ≤ p.pl k ∧ p.pl k ≤ 3 := (okPlan_of HOk.out).2.1 k hPn
        clear hcP a5
        obtain ⟨po, hpo⟩ : ∃ po, po = possB p h (k : Int) := ⟨_, rfl⟩
        have HPo := Lib.hid hpo
        rw [← hpo] at HPos
        obtain ⟨ct, hct⟩ : ∃ ct, ct = cnt m (k : Int) p.nH := ⟨_, rfl⟩
        have HCt := Lib.hid hct
        have hct6 : ct ≤ 6 := by have := cnt_le m (k : Int) p.nH; omega
        clear hpo hct
        go_upto_region 7 with fail
        go_cut [26, 44] from 26 to 56 (fun s26 s44 wx => s26 = .int .i64 (k : Int) ∧ s44 = .bool (po && decide ((ct : Int) < p.pl k)) ∧ Below wr.heap.size wr wx)
        case first =>
          obtain ⟨e1, e2, e3, e4, e5⟩ := HS.out _ hB0
          cases po with
          | false =>
            refine wp_region_later (by kernel_rfl) (by kernel_rfl) ?_
            have k0 : ∀ q : Later wr, q.to.cell? ⟨bp, 0, none⟩ = some (.slice AH p.nH cH) := fun q => q.cell (HS.out _ (Below.refl _ _)).2.1
            have k1 : ∀ q : Later wr, q.to.cell? ⟨bp, 1, none⟩ = some (.slice AS p.nS cS) := fun q => q.cell (HS.out _ (Below.refl _ _)).2.2.1
            have k2 : ∀ q : Later wr, q.to.cell? ⟨bp, 2, none⟩ = some (.slice (some ⟨bP, oP, none⟩) p.nP cP) := fun q => q.cell (HS.out _ (Below.refl _ _)).2.2.2.1
            clear e1 e2 e3 e4 e5
            repeat
              (with_reducible refine wpQuiet_step ?_
               intro K hK
               go_simp
               first
                 | (refine hK _ ?_; clear hK K)
                 | (apply Exists.intro
                    refine ⟨fun _ => ?_, hK _ ?_⟩
                    (go_at_call 89; exact Lr.later (HPos.out _ (by first | assumption | exact Later.below _)))
                    clear hK K))
            with_reducible refine wpQuiet_nil ?_
            intro _ hw'
            obtain ⟨q, hw''⟩ := hw'
            subst hw''
            have hB2 := q.below
            go_wp2_with fail
            go_meet
            exact ⟨rfl, rfl, hB2⟩
          | true =>
            first
              | go_region_with
                  (first
                    | (go_at_call 89; refine Lr.use (HPos.out _ hB0) ?_; intro w2 hb2; have hB2 := hB0.trans (hb2.mono hB0.size); obtain ⟨f1, f2, f3, f4, f5⟩ := HS.out _ hB2; have hr2 := (HIk.out.keep hB2).row.ints; clear hb2)
                    | (go_at_call 62; refine (handsOf_any _ p.nH p.nH m (k : Int) _ hr2 (by omega)).mono ?_; rintro e w3 ⟨x, rfl, hx, hb3⟩; obtain ⟨Ah, ch, rfl, -⟩ := hx.shp ((hndL_len m (k : Int) p.nH).trans HCt.out.symm); have hB3 := hB2.trans (hb3.mono hB2.size); obtain ⟨g1, g2, g3, g4, g5⟩ := HS.out _ hB3; clear hx hb3)
                    | fail)
              | fail
            all_goals
              go_wp2_with fail
              go_meet
              exact ⟨rfl, by first | rfl | simp, hB3⟩
        case rest =>
          obtain ⟨rfl, rfl, hBc⟩ := hcut
          have HIc := Lib.hid (HIk.out.keep hBc)
          have hlenk : (ls ++ gvL p d (h + 1) m ++ fmTo (gvS p d h m) k).length + 5 ^ d ≤ 100000 := by
            have h1 := gvL_len p a4 d (h + 1) m
            have h2 := fmTo_len (F := gvS p d h m) (B := 5 ^ d) (fun k => by
              unfold gvS
              split
              · exact gvL_len p a4 _ _ _
              · simp) k
            have h3 : k * 5 ^ d ≤ 3 * 5 ^ d := Nat.mul_le_mul_right _ (by omega)
            have h4 := Hlen.out
            rw [Nat.pow_succ] at h4
            simp only [List.length_append]
            omega
          have Hlk := Lib.hid hlenk
          clear hlenk
          by_cases hg : po = true ∧ (ct : Int) < p.pl k
          · obtain ⟨rfl, hc⟩ := hg
            have hpo := HPo.out.symm
            have HG : Hid (gvS p d h m k = gvL p d (h + 1) (upd m h (k : Int))) := Lib.hid (by unfold gvS; rw [hpo, ← HCt.out, decide_eq_true hc]; rfl)
            have HPre := Lib.hid (HP.out.put hhn hpo (by rw [← HCt.out]; exact hc))
            have hdc : (true && decide ((ct : Int) < p.pl k)) = true := by rw [decide_eq_true hc]; rfl
            rw [hdc]
            have HPut := Lib.hid (HIc.out.put HL.out h (k : Int))
            have d1 := HIc.out.mb.cell
            have d2 := HIc.out.row.cell hhn
            have d3 := HIc.out.row.frozen h
            have d4 := HPut.out.gb.cell
            unfold gvCaps at d4
            clear hdc hpo hc
            go_wp2_with fail
            refine (HIh.out (upd m h (k : Int)) _ _ _ (by first | rfl | (simp; done) | omega) HPre.out Hlk.out (by exact HPut.out)).mono ?_
            rintro e w5 ⟨rfl, hI5⟩
            have HI5 := Lib.hid hI5
            have hum : upd (upd m h (k : Int)) h (-1) = m := by
              funext x
              unfold upd
              split
              · rename_i e; rw [e]; exact (HP.out.1 h (Nat.le_refl _)).symm
              · rfl
            have hp5 := HI5.out.put HL.out h (-1)
            rw [hum] at hp5
            have HP5 := Lib.hid hp5
            have e1 := HI5.out.mb.cell
            have e2 := HI5.out.row.cell hhn
            have e3 := HI5.out.row.frozen h
            clear d1 d2 d3 d4 hI5 hum hp5
            go_wp2
            go_roundw
            case rel => exact ⟨k + 1, by omega, by go_num, by rw [fmTo, HG.out, ← List.append_assoc]; exact HP5.out⟩
            case measure => simp [intOf]; omega
          · have hdc : (po && decide ((ct : Int) < p.pl k)) = false := by
              cases po with
              | false => rfl
              | true => rw [decide_eq_false (fun h => hg ⟨rfl, h⟩)]; rfl
            rw [hdc]
            have HG : Hid (gvS p d h m k = []) := Lib.hid (by
              unfold gvS
              rw [← HPo.out, ← HCt.out, hdc]
              rfl)
            clear hdc hg
            go_wp2
            go_roundw
            case rel => exact ⟨k + 1, by omega, by go_num, by rw [fmTo, HG.out, List.append_nil]; exact HIc.out⟩
            case measure => simp [intOf]; omega
      · obtain rfl : k = p.nS := by omega
        go_wp2
        go_returns
        refine ⟨rfl, ?_⟩
        rw [gvL_succ, ← List.append_assoc]
        exact HIk.out
end Go.Proofs.Ytiigcjcolpmafaa

