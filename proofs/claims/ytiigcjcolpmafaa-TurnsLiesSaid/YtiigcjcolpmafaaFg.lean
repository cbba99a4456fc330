import Derived.Test.YtiigcjcolpmafaaFi
namespace Go.Proofs.Ytiigcjcolpmafaa
open Go.RowKit

/-- How far hands have asked, and who has whom: what comes by asking in turn. -/
inductive DaR (p : PlanD) : (Nat → Int) → (Nat → Int) → Prop
  | start : DaR p (fun _ => -1) (fun _ => 0)
  | skip {m a : Nat → Int} {h : Nat} : DaR p m a → h < p.nH → m h = -1 → a h < (p.LH h : Int) → possB p h (p.vH h (a h).toNat) = false → DaR p m (upd a h (a h + 1))
  | take {m a : Nat → Int} {h s : Nat} : DaR p m a → h < p.nH → m h = -1 → a h < (p.LH h : Int) → p.vH h (a h).toNat = (s : Int) → possB p h (s : Int) = true → (cnt (upd m h (s : Int)) (s : Int) p.nH : Int) ≤ p.pl s → DaR p (upd m h (s : Int)) (upd a h (a h + 1))
  | swap {m a : Nat → Int} {h s x : Nat} : DaR p m a → h < p.nH → m h = -1 → a h < (p.LH h : Int) → p.vH h (a h).toNat = (s : Int) → possB p h (s : Int) = true → p.pl s < (cnt (upd m h (s : Int)) (s : Int) p.nH : Int) → x < p.nH → upd m h (s : Int) x = (s : Int) →
      (∀ y, y < p.nH → upd m h (s : Int) y = (s : Int) → rkI (p.vS s) (p.LS s) (y : Int) ≤ rkI (p.vS s) (p.LS s) (x : Int)) → DaR p (upd (upd m h (s : Int)) x (-1)) (upd a h (a h + 1))
/-- Nobody without a shift has one left to ask. -/
def DaEnd (p : PlanD) (m a : Nat → Int) : Prop := NoneLt (wtP p m a) p.nH
/-- What holds all the way: who has a shift is on its list, and it on theirs. -/
theorem DaR.inv {p : PlanD} {m a : Nat → Int} (h : DaR p m a) : (∀ x, 0 ≤ a x) ∧ (∀ x, m x = -1 ∨ (possB p x (m x) = true ∧ 0 ≤ m x)) := by
  induction h with
  | start => exact ⟨fun _ => Int.le_refl _, fun _ => .inl rfl⟩
  | @skip m a h h1 h2 h3 h4 h5 ih =>
    refine ⟨fun x => ?_, ih.2⟩
    have := ih.1 x
    unfold upd
    split
    · have := ih.1 h; omega
    · exact this
  | @take m a h s h1 h2 h3 h4 h5 h6 h7 ih =>
    refine ⟨fun x => ?_, fun x => ?_⟩
    · have := ih.1 x
      unfold upd
      split
      · have := ih.1 h; omega
      · exact this
    · unfold upd
      split
      · rename_i e
        rw [e]
        exact .inr ⟨h6, by omega⟩
      · exact ih.2 x
  | @swap m a h s x h1 h2 h3 h4 h5 h6 h7 h8 h9 h10 ih =>
    refine ⟨fun y => ?_, fun y => ?_⟩
    · have := ih.1 y
      unfold upd
      split
      · have := ih.1 h; omega
      · exact this
    · unfold upd
      split
      · exact .inl rfl
      · split
        · rename_i e
          rw [e]
          exact .inr ⟨h6, by omega⟩
        · exact ih.2 y
theorem DaR.lstd {p : PlanD} {m a : Nat → Int} (h : DaR p m a) : Lstd p m := by
  intro x s hx e
  rcases h.inv.2 x with h1 | ⟨h1, -⟩
  · omega
  · rw [e] at h1
    unfold possB at h1
    rw [Bool.and_eq_true, Int.toNat_natCast] at h1
    exact of_decide_eq_true h1.2

set_option maxHeartbeats 2000000 in
set_option maxRecDepth 1000000 in
theorem admit_skip (AH AS AP : Option Addr) (cH cS cP n gm h : Nat) (s : Int) (p : PlanD) (m : Nat → Int) (w : World) (hp : PlanIn w AH AS AP p) (hR : RowI w gm n m) (hok : okPlan p = true) (hh : h < p.nH) (hpo : possB p h s = false) :
    Calls Try.prog 85 #[.agg #[.slice AH p.nH cH, .slice AS p.nS cS, .slice AP p.nP cP], .slice (some ⟨gm, 0, none⟩) n n, .int .i64 h, .int .i64 s] w fun e w' => e = .returned (.tuple #[]) ∧ RowI w' gm n m ∧ Exc gm w w' := by
  have Hb0 := Lib.hid (below_box w (.cells #[.slice AH p.nH cH, .slice AS p.nS cS, .slice AP p.nP cP] 29))
  have hpos := possible_any AH AS AP cH cS cP p h s _ (hp.keep Hb0.out).hands.rows (hp.keep Hb0.out).shifts.rows hok hh
  rw [hpo] at hpos
  have HPos := Lib.hid hpos
  have HR := Lib.hid hR
  clear hp hR hpos hpo hok
  go_enter Try.func85, Try.ntmps85
  go_wp2_with fail
  refine Lr.use HPos.out ?_
  intro w1 hb1
  have Hbw := Lib.hid (Hb0.out.trans (hb1.mono Hb0.out.size))
  have HR1 := Lib.hid (HR.out.keep Hbw.out)
  have HE1 := Lib.hid (Exc.of_below (G := gm) Hbw.out)
  clear hb1
  go_wp2
  go_returns
  exact ⟨rfl, HR1.out, HE1.out⟩
end Go.Proofs.Ytiigcjcolpmafaa
