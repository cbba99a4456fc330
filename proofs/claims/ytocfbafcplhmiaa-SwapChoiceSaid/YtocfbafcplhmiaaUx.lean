/- swap: choose, Choose. -/
import Derived.Test.YtocfbafcplhmiaaUr
namespace Go.Proofs.Ytocfbafcplhmiaa
open Go.RowKit

/-- Choosing in the order f: what is left behind the first k, as a set; what everyone has then. -/
def chL (t : Nat → Nat → Nat) (n : Nat) (f : Nat → Nat) : Nat → Nat
  | 0 => 2 ^ n - 1
  | k + 1 => adN (chL t n f k) (2 ^ (bsB t n (chL t n f k) (f k)))
def chO (t : Nat → Nat → Nat) (n : Nat) (f : Nat → Nat) : Nat → Nat → Nat
  | 0 => fun _ => 0
  | k + 1 => fun p => if p = f k then bsB t n (chL t n f k) (f k) else chO t n f k p
/-- The outcome of choosing. -/
def chF (t : Nat → Nat → Nat) (n : Nat) (f : Nat → Nat) : Nat → Nat := chO t n f n
theorem two_in : ∀ p : Nat, p < 5 → 2 ^ p < 32 ∧ ∀ x : Nat, x < 5 → inS (2 ^ p) x = decide (x = p) := by decide
section
variable {t : Nat → Nat → Nat} {n : Nat} {f : Nat → Nat}
theorem chO_succ (k p : Nat) : chO t n f (k + 1) p = if p = f k then bsB t n (chL t n f k) (f k) else chO t n f k p := rfl
theorem chO_at (hf : Pm n f) {j : Nat} : ∀ k, k ≤ n → j < k → chO t n f k (f j) = bsB t n (chL t n f j) (f j) := by
  intro k
  induction k with
  | zero => intro _ h; omega
  | succ k ih =>
    intro hk hj
    rw [chO_succ]
    by_cases e : j = k
    · rw [e, if_pos rfl]
    · rw [if_neg (fun h => e (hf.inj _ _ (by omega) (by omega) h))]
      exact ih (by omega) (by omega)
/-- Of the first k choices: the things are different, and what is left are the others. -/
theorem ch_inv (hn : n ≤ 5) (ht : ∀ i, i < n → Pm n (t i)) (hf : Pm n f) : ∀ k, k ≤ n → chL t n f k < 32 ∧ (∀ x, x < 5 → inS (chL t n f k) x = (decide (x < n) && !anyB (fun j => decide (bsB t n (chL t n f j) (f j) = x)) k)) ∧
    (∀ j, j < k → bsB t n (chL t n f j) (f j) < n) ∧ (∀ i j, i < k → j < k → bsB t n (chL t n f i) (f i) = bsB t n (chL t n f j) (f j) → i = j) ∧ (k < n → ∃ x, x < n ∧ inS (chL t n f k) x = true) := by
  intro k
  induction k with
  | zero =>
    intro _
    refine ⟨full_lt n (by omega), fun x hx => ?_, fun j hj => absurd hj (by omega), fun i j hi => absurd hi (by omega), fun hp => ⟨0, hp, ?_⟩⟩
    · show inS (2 ^ n - 1) x = _
      rw [inS_full n (by omega) x hx]
      show _ = (decide (x < n) && !false)
      simp
    · show inS (2 ^ n - 1) 0 = true
      rw [inS_full n (by omega) 0 (by omega), decide_eq_true hp]
  | succ k ih =>
    intro hk
    obtain ⟨h1, h2, h3, h4, h5⟩ := ih (by omega)
    have hfk := hf.lt k (by omega)
    obtain ⟨hbl, hbi⟩ := bsB_lt (t := t) (ht _ hfk) (h5 (by omega))
    obtain ⟨q1, q2⟩ := two_in (bsB t n (chL t n f k) (f k)) (by omega)
    have hL : chL t n f (k + 1) = adN (chL t n f k) (2 ^ (bsB t n (chL t n f k) (f k))) := rfl
    have hin : ∀ x, x < 5 → inS (chL t n f (k + 1)) x = (decide (x < n) && !anyB (fun j => decide (bsB t n (chL t n f j) (f j) = x)) (k + 1)) := fun x hx => by
      rw [hL, adN_in _ h1 _ q1 x hx, q2 x hx, h2 x hx]
      show _ = (decide (x < n) && !(anyB _ k || decide (bsB t n (chL t n f k) (f k) = x)))
      rw [Bool.not_or, ← Bool.and_assoc]
      congr 2
      rw [decide_eq_decide]
      constructor <;> exact Eq.symm
    have hne : ∀ j, j < k → bsB t n (chL t n f j) (f j) ≠ bsB t n (chL t n f k) (f k) := fun j hj e => by
      have := h2 (bsB t n (chL t n f k) (f k)) (by omega)
      rw [hbi, anyB_t hj (by rw [e]; simp)] at this
      simp at this
    have hlt3 : ∀ j, j < k + 1 → bsB t n (chL t n f j) (f j) < n := fun j hj => by
      by_cases e : j = k
      · rw [e]; exact hbl
      · exact h3 j (by omega)
    have hinj : ∀ i j, i < k + 1 → j < k + 1 → bsB t n (chL t n f i) (f i) = bsB t n (chL t n f j) (f j) → i = j := fun i j hi hj e => by
      by_cases e1 : i = k
      · by_cases e2 : j = k
        · omega
        · rw [e1] at e
          exact absurd e.symm (hne j (by omega))
      · by_cases e2 : j = k
        · rw [e2] at e
          exact absurd e (hne i (by omega))
        · exact h4 i j (by omega) (by omega) e
    refine ⟨by rw [hL]; exact adN_lt _ h1 _ q1, hin, hlt3, hinj, fun hkn => ?_⟩
    apply Classical.byContradiction
    intro hno
    have hall : ∀ x, x < n → ∃ j, j < k + 1 ∧ bsB t n (chL t n f j) (f j) = x := fun x hx => by
      apply Classical.byContradiction
      intro hno2
      refine hno ⟨x, hx, ?_⟩
      rw [hin x (by omega), decide_eq_true hx, anyB_f (fun j hj => by rw [decide_eq_false_iff_not]; exact fun e => hno2 ⟨j, hj, e⟩)]
      rfl
    have hp : ∃ p : Nat → Nat, ∀ x, x < n → p x < k + 1 ∧ bsB t n (chL t n f (p x)) (f (p x)) = x := by
      refine ⟨fun x => if hx : x < n then Classical.choose (hall x hx) else 0, fun x hx => ?_⟩
      have := Classical.choose_spec (hall x hx)
      simpa [hx] using this
    obtain ⟨p, hp⟩ := hp
    obtain ⟨i, j, hij, hj, e⟩ := pig (k + 1) p (fun x hx => (hp x (by omega)).1)
    have e1 := (hp i (by omega)).2
    have e2 := (hp j (by omega)).2
    rw [e] at e1
    omega
theorem chF_at (hf : Pm n f) {j : Nat} (hj : j < n) : chF t n f (f j) = bsB t n (chL t n f j) (f j) := chO_at hf n (Nat.le_refl _) hj
theorem chF_pm (hn : n ≤ 5) (ht : ∀ i, i < n → Pm n (t i)) (hf : Pm n f) : Pm n (chF t n f) := by
  obtain ⟨-, -, h3, h4, -⟩ := ch_inv hn ht hf n (Nat.le_refl _)
  refine ⟨fun k hk => ?_, fun a b ha hb e => ?_⟩
  · obtain ⟨j, hj, rfl⟩ := hf.surj hk
    rw [chF_at hf hj]
    exact h3 j hj
  · obtain ⟨i, hi, rfl⟩ := hf.surj ha
    obtain ⟨j, hj, rfl⟩ := hf.surj hb
    rw [chF_at hf hi, chF_at hf hj] at e
    rw [h4 i j hi hj e]
end
set_option maxHeartbeats 2000000 in
set_option maxRecDepth 1000000 in
theorem choose_any (A : Option Addr) (n c : Nat) (t : Nat → Nat → Nat) (G : Option Addr) (cG : Nat) (f : Nat → Nat) (w : World) (h : Wis w A n t) (hG : Ints w G n (fun k => (f k : Int))) (hn : n ≤ 5) (ht : ∀ i, i < n → Pm n (t i)) (hf : Pm n f) :
    Calls Try.prog 53 #[.agg #[.int .i64 n, .slice A n c], .slice G n cG] w fun e w' => ∃ B, e = .returned (.slice (some ⟨B, 0, none⟩) n n) ∧ w.heap.size ≤ B ∧ RowI w' B n (fun p => (chF t n f p : Int)) ∧ Below w.heap.size w w' := by
  have H := Lib.hid h
  have HG := Lib.hid hG
  have HT := Lib.hid ht
  have HF := Lib.hid hf
  have HInv := Lib.hid (fun k hk => ch_inv hn ht hf k hk)
  have HS : Hid (∀ k, chL t n f (k + 1) = adN (chL t n f k) (2 ^ (bsB t n (chL t n f k) (f k)))) := Lib.hid (fun _ => rfl)
  have HO : Hid (∀ k p, chO t n f (k + 1) p = if p = f k then bsB t n (chL t n f k) (f k) else chO t n f k p) := Lib.hid (fun _ _ => rfl)
  have HZ : Hid (chL t n f 0 = 2 ^ n - 1) := Lib.hid rfl
  have HC : Hid (∀ p, chF t n f p = chO t n f n p) := Lib.hid (fun _ => rfl)
  have HOz : Hid (∀ p, chO t n f 0 p = 0) := Lib.hid (fun _ => rfl)
  have hbx := box2_at w (.int .i64 n) (.slice A n c) 50
  have hbb := box_bel w (.cells #[.int .i64 n, .slice A n c] 50)
  have hs1 : (w.alloc (.cells #[.int .i64 n, .slice A n c] 50)).heap.size = w.heap.size + 1 := by simp
  obtain ⟨W1, hW1⟩ : ∃ W1, W1 = w.alloc (.cells #[.int .i64 n, .slice A n c] 50) := ⟨_, rfl⟩
  rw [← hW1] at hbx hbb hs1
  have hmk := mk_ints n (by omega) W1
  have hr := RowI.made W1 n
  have hb2 := box_bel W1 (.cells (madeCells #[.int .i64 0] n) 3)
  have e0 := hbx.1
  have e1 := (hbx.keep hb2).1
  have e2 := (hbx.keep hb2).2
  rw [hs1] at hmk hr
  have HX := Lib.hid (hbx.keep hb2)
  have HB := Lib.hid (hbb.trans (hb2.mono hbb.size))
  have HR := Lib.hid hr
  have HEv := Lib.hid (fun w => everyone_any A n c hn w)
  have HW1 := Lib.hid hW1
  rw [hW1] at HR HB HX e0 e1 e2 hmk
  clear h hG ht hf hbx hbb hr hb2 hs1 hW1
  rw [← HZ.out] at HEv
  generalize chL t n f = cl at *
  generalize chO t n f = co at *
  go_enter Try.func53, Try.ntmps53
  go_wp2_with fail
  refine (HEv.out _).use fun w3 hb3 => ?_
  have HX3 := Lib.hid (HX.out.keep hb3)
  have HR3 := Lib.hid (HR.out.keep hb3)
  have HB3 := Lib.hid (HB.out.trans (hb3.mono HB.out.size))
  clear hb3 e0 e1 e2 hmk HX HR HB HEv HW1
  go_wp2_with fail
  go_loopw [6, 16] (fun l i wr => ∃ k : Nat, k ≤ n ∧ i = .int .i64 k ∧ l = .int .i64 (cl k) ∧ RowI wr (w.heap.size + 1) n (fun p => (co k p : Int)) ∧ Bx2 wr w.heap.size (.int .i64 n) (.slice A n c) ∧ Below w.heap.size w wr) (fun _ i _ => n - (intOf i).toNat)
  case atStart => exact ⟨0, Nat.zero_le _, rfl, rfl, HR3.out.congr (fun p _ => by rw [HOz.out]; rfl), HX3.out, HB3.out⟩
  case round =>
    obtain ⟨k, hk, rfl, rfl, hr, hx, hb⟩ := hrel
    clear HX3 HR3 HB3
    have HR := Lib.hid hr
    have HX := Lib.hid hx
    have HB := Lib.hid hb
    clear hr hx hb
    by_cases hlt : k < n
    · obtain ⟨b, o, rfl, hcf⟩ := (HG.out.keep HB.out).at hlt
      have hfk := HF.out.lt k hlt
      obtain ⟨i1, -, -, -, i5⟩ := HInv.out k hk
      have hex := i5 hlt
      have hbl := (bsB_lt (t := t) (HT.out _ hfk) hex).1
      have HBe := Lib.hid (best_any A n c t (f k) (cl k) wr (H.out.keep HB.out) hn hfk (HT.out _ hfk).lt (best_ex (HT.out _ hfk) hex))
      have HSk := Lib.hid (HS.out k)
      have HOk := Lib.hid (HO.out k)
      have c0 := HX.out.1
      have c1 := HX.out.2
      clear i5 hex
      generalize bsB t n (cl k) (f k) = bv at *
      generalize f k = fk at *
      generalize hcl : cl k = S at *
      have HCl := Lib.hid hcl
      clear hcl
      obtain ⟨q1, -⟩ := two_in bv (by omega)
      have hand := adN_eq S i1 (2 ^ bv) q1
      have hand2 : bits .andNot .i64 (S : Int) (wrap64 (2 ^ bv)) = ((adN S (2 ^ bv) : Nat) : Int) := by
        have hw2 : wrap64 ((2 : Int) ^ bv) = ((2 ^ bv : Nat) : Int) := by
          have h1 : (2 : Int) ^ bv = ((2 ^ bv : Nat) : Int) := by push_cast; rfl
          rw [h1]
          have hq : ∀ P : Nat, P < 32 → wrap64 (P : Int) = (P : Int) := fun P hP => IntWalk.wrap64_in _ (by omega)
          exact hq _ q1
        rw [hw2]
        exact hand
      go_wp2_with fail
      refine HBe.out.use fun w4 hb4 => ?_
      have HR4 := Lib.hid (HR.out.keep hb4)
      have HX4 := Lib.hid (HX.out.keep hb4)
      have HB4 := Lib.hid (HB.out.trans (hb4.mono HB.out.size))
      clear hb4 c0 c1
      have d1 := HR4.out.cell hfk
      have z1 := HR4.out.frozen fk
      have HS1 := Lib.hid (HR4.out.set fk (bv : Int))
      have d3 := HS1.out.cell hfk
      rw [upd_at] at d3
      have HXs : Hid (Bx2 (w4.setCell ⟨w.heap.size + 1, fk, none⟩ (.int .i64 (bv : Int))) w.heap.size (.int .i64 n) (.slice A n c)) := Lib.hid ⟨by rw [World.cell?_setCell_other _ _ _ _ (by intro e; injection e with e1; omega)]; exact HX4.out.1, by rw [World.cell?_setCell_other _ _ _ _ (by intro e; injection e with e1; omega)]; exact HX4.out.2⟩
      have HBs := Lib.hid (HB4.out.setCell (p := ⟨w.heap.size + 1, fk, none⟩) (by show _ ≤ w.heap.size + 1; omega) (.int .i64 (bv : Int)))
      go_wp2
      go_roundw
      case rel =>
        refine ⟨k + 1, by omega, by go_num, by first | (rw [HSk.out]; done) | (rw [HSk.out]; exact val_int hand2) | (rw [HSk.out]; exact val_int hand), HS1.out.congr (fun p _ => ?_), HXs.out, HBs.out⟩
        rw [HOk.out]
        unfold upd
        by_cases e : p = fk
        · rw [if_pos e, if_pos e]
        · rw [if_neg e, if_neg e]
      case measure => simp [intOf]; omega
    · obtain rfl : k = n := by omega
      go_wp2
      go_ret
      exact ⟨_, rfl, by omega, HR.out.congr (fun p _ => by rw [HC.out]), HB.out⟩
end Go.Proofs.Ytocfbafcplhmiaa
