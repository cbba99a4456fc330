/- Slices of fractions in a block; Shapley. -/
import Derived.Test.YtoeimngbpagegaaDoorGf
namespace Go.Proofs.YtoeimngbpagegaaDoor
open Go.RowKit

/-- Block g holds n fractions. -/
def FrI (w : World) (g n : Nat) (F : Nat → Nat → Int) : Prop := w.rowIs g 48 (n * 2) (fun i => .int .i64 (F (i / 2) (i % 2)))
section
variable {w w' : World} {g n : Nat} {F : Nat → Nat → Int}
theorem FrI.cell0 (h : FrI w g n F) {k : Nat} (hk : k < n) : w.cell? ⟨g, k * 2, none⟩ = some (.int .i64 (F k 0)) := by
  have := World.rowIs.cell h (i := k * 2) (by omega)
  rwa [show k * 2 / 2 = k by omega, show k * 2 % 2 = 0 by omega] at this
theorem FrI.cell1 (h : FrI w g n F) {k : Nat} (hk : k < n) : w.cell? ⟨g, k * 2 + 1, none⟩ = some (.int .i64 (F k 1)) := by
  have := World.rowIs.cell h (i := k * 2 + 1) (by omega)
  rwa [show (k * 2 + 1) / 2 = k by omega, show (k * 2 + 1) % 2 = 1 by omega] at this
theorem FrI.frozen (h : FrI w g n F) (i : Nat) : w.frozen? ⟨g, i, none⟩ = false := World.rowIs.frozen h i
theorem FrI.lt (h : FrI w g n F) : g < w.heap.size := World.rowIs.lt h
theorem FrI.recs (h : FrI w g n F) : Recs 2 w (some ⟨g, 0, none⟩) n F := fun _ => ⟨g, 0, rfl, fun k hk i hi => by
  have : i = 0 ∨ i = 1 := by omega
  rcases this with rfl | rfl
  · rw [Nat.zero_add]; exact h.cell0 hk
  · rw [Nat.zero_add]; exact h.cell1 hk⟩
theorem FrI.keep (h : FrI w g n F) (hb : Below w.heap.size w w') : FrI w' g n F := World.rowIs.of_block h (hb.block g h.lt)
theorem FrI.below {B : Nat} (h : FrI w g n F) (hb : Below B w w') (hg : g < B) : FrI w' g n F := World.rowIs.of_block h (hb.block g hg)
theorem FrI.dn (h : FrI w g n F) (hd : Dn w w') : FrI w' g n F := by
  obtain ⟨m, rfl⟩ := hd
  exact h
theorem FrI.congr {G : Nat → Nat → Int} (h : FrI w g n F) (e : ∀ k, k < n → ∀ i, i < 2 → F k i = G k i) : FrI w g n G :=
  World.rowIs.congr h (fun i hi => by rw [e (i / 2) (by omega) (i % 2) (by omega)])
/-- One more fraction. -/
def upF (F : Nat → Nat → Int) (k : Nat) (a b : Int) : Nat → Nat → Int := fun j i => if j = k then (if i = 0 then a else b) else F j i
theorem FrI.set (h : FrI w g n F) (k : Nat) (a b : Int) : FrI ((w.setCell ⟨g, k * 2, none⟩ (.int .i64 a)).setCell ⟨g, k * 2 + 1, none⟩ (.int .i64 b)) g n (upF F k a b) :=
  World.rowIs.congr (World.rowIs.set (World.rowIs.set h (k * 2) (.int .i64 a)) (k * 2 + 1) (.int .i64 b)) (fun i _ => by
    unfold upF
    by_cases h1 : i = k * 2 + 1
    · subst h1
      rw [if_pos rfl, if_pos (by omega), if_neg (by omega)]
    · rw [if_neg h1]
      by_cases h2 : i = k * 2
      · subst h2
        rw [if_pos rfl, if_pos (by omega), if_pos (by omega)]
      · rw [if_neg h2, if_neg (by omega)])
end
theorem infoFr : (Tryd.prog.info? 48).map (fun i => (i.zero, i.size, i.bytes)) = some (some (.agg #[.int .i64 0, .int .i64 0]), 2, 16) := by kernel_rfl
theorem FrI.made (w : World) (n : Nat) : FrI (w.alloc (.cells (madeCells #[.int .i64 0, .int .i64 0] (n * 2)) 48)) w.heap.size n (fun _ _ => 0) := by
  have h := World.rowIs_alloc w (madeCells #[.int .i64 0, .int .i64 0] (n * 2)) 48 (fun _ => .int .i64 0) (fun i hi => by
    rw [size_madeCells] at hi
    have h2 : i % 2 = 0 ∨ i % 2 = 1 := by omega
    rcases h2 with h2 | h2 <;> simp [madeCells, hi, h2])
  rw [size_madeCells] at h
  exact h
theorem mk_fracs (n : Nat) (hn : n ≤ 4) (w : World) :
    (Instr.makeSlice 23 (.int .i64 (n : Int)) (.int .i64 (n : Int))).run Tryd.prog w = .ok (.slice (some ⟨w.heap.size, 0, none⟩) n n) (w.alloc (.cells (madeCells #[.int .i64 0, .int .i64 0] (n * 2)) 48)) := by
  obtain ⟨i0, hi, hz0, hz1, hz2⟩ := info_parts infoFr
  have := run_make_rowN (P := Tryd.prog) 23 48 i0 (.agg #[.int .i64 0, .int .i64 0]) Tryd.underlying23 hi hz0 .i64 .i64 n n (Nat.le_refl _) (by rw [hz2]; omega) (by omega) w
  rw [hz1] at this
  exact this

/-- The sum over the first m sets: each before the player in so many orders. -/
def shP (n : Nat) (C : Nat → Int) (p : Nat) : Nat → Int
  | 0 => 0
  | m + 1 => shP n C p m + if inS m p = true then 0 else ((facN (pcS m) * facN (n - 1 - pcS m) : Nat) : Int) * riF C m p
/-- The Shapley payments. -/
def shF (n L : Nat) (C : Nat → Int) : Nat → Nat → Int := fun p i => if i = 0 then rN (shP n C p L) (facN n : Nat) else rD (shP n C p L) (facN n : Nat)

theorem okC_n {L : Nat} {C : Nat → Int} (h : okC L C = true) : ∃ n, tzN L = n ∧ 1 ≤ n ∧ n ≤ 4 ∧ L = 2 ^ n ∧ 2 ≤ L ∧ L ≤ 16 := by
  rcases (okC_iff.1 h).1 with rfl | rfl | rfl | rfl
  · exact ⟨1, by decide⟩
  · exact ⟨2, by decide⟩
  · exact ⟨3, by decide⟩
  · exact ⟨4, by decide⟩
theorem or_lt : ∀ n, n ≤ 4 → ∀ s, s < 2 ^ n → ∀ p, p < n → s ||| 2 ^ p < 2 ^ n := by decide
theorem pcS_lt : ∀ n, n ≤ 4 → ∀ s, s < 2 ^ n → ∀ p, p < n → inS s p = false → pcS s < n := by decide
theorem shw_le : ∀ n, n ≤ 4 → ∀ m, m < n → facN m * facN (n - 1 - m) ≤ 6 := by decide
theorem facN_pos : ∀ n, n ≤ 4 → 0 < facN n ∧ facN n ≤ 24 := by decide
theorem shP_bd (n : Nat) (hn : n ≤ 4) (C : Nat → Int) (hC : ∀ k, k < 2 ^ n → 0 ≤ C k ∧ C k ≤ 1000) (p : Nat) (hp : p < n) : ∀ m : Nat, m ≤ 2 ^ n → -(6000 * (m : Int)) ≤ shP n C p m ∧ shP n C p m ≤ 6000 * m := by
  intro m
  induction m with
  | zero => intro _; simp [shP]
  | succ m ih =>
    intro hm
    have ih := ih (by omega)
    rw [shP]
    cases hb : inS m p with
    | true => simp only [if_true]; omega
    | false =>
      have h1 := shw_le n hn _ (pcS_lt n hn m (by omega) p hp hb)
      have h2 := hC m (by omega)
      have h3 := hC _ (or_lt n hn m (by omega) p hp)
      have h4 : -1000 ≤ riF C m p ∧ riF C m p ≤ 1000 := by unfold riF; omega
      generalize facN (pcS m) * facN (n - 1 - pcS m) = k at *
      generalize riF C m p = r at *
      have a1 : (k : Int) * r ≤ (k : Int) * 1000 := Int.mul_le_mul_of_nonneg_left h4.2 (by omega)
      have a2 : (k : Int) * (-1000) ≤ (k : Int) * r := Int.mul_le_mul_of_nonneg_left h4.1 (by omega)
      simp only [Bool.false_eq_true, if_false]
      omega

theorem sh_wrap0 (f1 f2 : Nat) (h : f1 * f2 ≤ 6) : wrap64 ((f1 : Int) * (f2 : Int)) = ((f1 * f2 : Nat) : Int) := by
  have e0 : ((f1 * f2 : Nat) : Int) = (f1 : Int) * (f2 : Int) := by push_cast; rfl
  rw [← e0]
  exact IntWalk.wrap64_in _ (by omega)
theorem sh_mul (k : Nat) (r : Int) (hk : k ≤ 6) (h1 : -1000 ≤ r) (h2 : r ≤ 1000) : -6000 ≤ (k : Int) * r ∧ (k : Int) * r ≤ 6000 := by
  have a1 : (k : Int) * r ≤ (k : Int) * 1000 := Int.mul_le_mul_of_nonneg_left h2 (by omega)
  have a2 : (k : Int) * (-1000) ≤ (k : Int) * r := Int.mul_le_mul_of_nonneg_left h1 (by omega)
  omega
theorem sh_wrap1 (k : Nat) (r : Int) (hk : k ≤ 6) (h1 : -1000 ≤ r) (h2 : r ≤ 1000) : wrap64 ((k : Int) * r) = (k : Int) * r := IntWalk.wrap64_in _ (by have := sh_mul k r hk h1 h2; omega)
theorem sh_wrap2 (k : Nat) (r s : Int) (m : Nat) (hk : k ≤ 6) (h1 : -1000 ≤ r) (h2 : r ≤ 1000) (hm : m ≤ 16) (h3 : -(6000 * (m : Int)) ≤ s) (h4 : s ≤ 6000 * m) : wrap64 (s + (k : Int) * r) = s + (k : Int) * r := IntWalk.wrap64_in _ (by have := sh_mul k r hk h1 h2; omega)
set_option maxHeartbeats 400000 in
set_option maxRecDepth 1000000 in
theorem shapley_bad (A : Option Addr) (L c : Nat) (C : Nat → Int) (w : World) (h : Ints w A L C) (hL : L ≤ 18) (ht : Tab w) (hok : okC L C = false) :
    Calls Tryd.prog 31 #[.slice A L c] w fun e w' => e = .returned (.tuple #[.slice none 0 0, .int .i64 2]) ∧ w = w' := by
  have H := Lib.hid (valid_any A L c C w h hL ht)
  have HO := Lib.hid hok
  clear h ht hok
  go_enter Tryd.func31, Tryd.ntmps31
  go_wp2_with fail
  refine H.out.mono ?_
  rintro e w' ⟨rfl, rfl⟩
  rw [HO.out]
  go_wp2
  go_returns
  exact ⟨rfl, rfl⟩

set_option maxHeartbeats 400000 in
set_option maxRecDepth 1000000 in
theorem shapley_ok (A : Option Addr) (L c n : Nat) (C : Nat → Int) (w : World) (h : Ints w A L C) (ht : Tab w) (hok : okC L C = true) (hn : tzN L = n) :
    Calls Tryd.prog 31 #[.slice A L c] w fun e w' => e = .returned (.tuple #[.slice (some ⟨w.heap.size, 0, none⟩) n n, .int .i64 0]) ∧ FrI w' w.heap.size n (shF n L C) ∧ Below w.heap.size w w' := by
  obtain ⟨n', hn', hn1, hn4, hLn, hL2, hL16⟩ := okC_n hok
  rw [hn] at hn'
  subst hn'
  have HI := Lib.hid h
  have HT := Lib.hid ht
  have H := Lib.hid (valid_any A L c C w h (by omega) ht)
  have HP := Lib.hid (players_at A L c n hn (by omega) w ht)
  have HO := Lib.hid hok
  have hC := (okC_iff.1 hok).2.2
  have HC := Lib.hid hC
  have HBd : Hid (∀ p, p < n → ∀ m : Nat, m ≤ L → -(6000 * (m : Int)) ≤ shP n C p m ∧ shP n C p m ≤ 6000 * m) := Lib.hid (fun p hp m hm => shP_bd n hn4 C (by rw [← hLn]; exact hC) p hp m (by omega))
  have HOr : Hid (∀ s, s < L → ∀ p, p < n → s ||| 2 ^ p < L) := Lib.hid (by rw [hLn]; exact or_lt n hn4)
  have HPc : Hid (∀ s, s < L → ∀ p, p < n → inS s p = false → pcS s < n) := Lib.hid (by rw [hLn]; exact pcS_lt n hn4)
  have HW := Lib.hid (shw_le n hn4)
  have HFp := Lib.hid (facN_pos n hn4)
  have HS : Hid (∀ p m, shP n C p (m + 1) = shP n C p m + if inS m p = true then 0 else ((facN (pcS m) * facN (n - 1 - pcS m) : Nat) : Int) * riF C m p) := Lib.hid (fun _ _ => rfl)
  have HS0 : Hid (∀ p, shP n C p 0 = 0) := Lib.hid (fun _ => rfl)
  have hmk := mk_fracs n hn4 w
  have hM := Lib.hid (FrI.made w n)
  have hB0 := Lib.hid ((Below.refl w.heap.size w).alloc (Nat.le_refl _) (.cells (madeCells #[.int .i64 0, .int .i64 0] (n * 2)) 48))
  have HLn := Lib.hid hLn
  clear h ht hok hC hn hLn
  go_enter Tryd.func31, Tryd.ntmps31
  go_wp2_with fail
  refine H.out.mono ?_
  rintro e w' ⟨rfl, rfl⟩
  rw [HO.out]
  go_wp2_with fail
  refine HP.out.mono ?_
  rintro e w' ⟨rfl, rfl⟩
  go_wp2_with fail
  clear hmk
  generalize w.alloc (.cells (madeCells #[.int .i64 0, .int .i64 0] (n * 2)) 48) = W0 at *
  go_loopw [19] (fun i wr => ∃ (k : Nat) (F : Nat → Nat → Int), k ≤ n ∧ i = .int .i64 k ∧ FrI wr w.heap.size n F ∧ (∀ a, a < k → ∀ j, j < 2 → F a j = shF n L C a j) ∧ Below w.heap.size w wr) (fun i _ => n - (intOf i).toNat)
  case atStart => exact ⟨0, _, Nat.zero_le _, rfl, hM.out, fun a h => absurd h (by omega), hB0.out⟩
  case round =>
    obtain ⟨p, F, hp, rfl, hF, hFe, hD⟩ := hrel
    have HF := Lib.hid hF
    have HFe := Lib.hid hFe
    have HD := Lib.hid hD
    clear hF hFe hD
    by_cases hlt : p < n
    · go_wp2_with fail
      go_loopw [7, 24] (fun su i wi => ∃ m : Nat, m ≤ L ∧ i = .int .i64 m ∧ su = .int .i64 (shP n C p m) ∧ Dn wr wi) (fun _ i _ => L - (intOf i).toNat)
      case atStart => exact ⟨0, Nat.zero_le _, rfl, by rw [HS0.out], Dn.refl _⟩
      case round =>
        obtain ⟨m, hm, rfl, rfl, hE⟩ := hrel
        have HE := Lib.hid hE
        clear hE
        by_cases hmL : m < L
        · have hbd := HBd.out p hlt m hm
          obtain ⟨hbd1, hbd2⟩ := hbd
          have HS2 := Lib.hid (HS.out p m)
          go_wp2_with fail
          refine (has_any m p (by omega) wr).mono ?_
          rintro e w' ⟨rfl, rfl⟩
          cases hb : inS m p with
          | true =>
            have HS3 := Lib.hid (show shP n C p (m + 1) = shP n C p m by rw [HS2.out, hb]; simp)
            clear hb
            generalize shP n C p m = sm at *
            go_wp2
            go_roundw
            case rel => exact ⟨m + 1, by omega, by go_num, by rw [HS3.out], HE.out⟩
            case measure => simp [intOf]; omega
          | false =>
            have HS3 := Lib.hid (show shP n C p (m + 1) = shP n C p m + ((facN (pcS m) * facN (n - 1 - pcS m) : Nat) : Int) * riF C m p by rw [HS2.out, hb]; simp)
            have hpc := HPc.out m hmL p hlt hb
            have hww := HW.out (pcS m) hpc
            have HRi := Lib.hid (rise_any A L c C m p wr (HI.out.keep (HD.out.trans (HE.out.below _))) hL16 hmL (by omega) (HOr.out m hmL p hlt) HC.out)
            have hrb : -1000 ≤ riF C m p ∧ riF C m p ≤ 1000 := by
              have h1 := HC.out m hmL
              have h2 := HC.out _ (HOr.out m hmL p hlt)
              unfold riF
              omega
            obtain ⟨hr1, hr2⟩ := hrb
            have HOn := Lib.hid (onesG_any m (by omega) wr)
            obtain ⟨q, hq⟩ : ∃ q, pcS m = q := ⟨_, rfl⟩
            rw [hq] at HS3 hpc hww HOn
            obtain ⟨q', hq'⟩ : ∃ q', n - 1 - q = q' := ⟨_, rfl⟩
            rw [hq'] at HS3 hww
            have hsub : ((n : Int) - 1) - q = (q' : Int) := by omega
            have HF1 := Lib.hid (fun w => factorial_any q (by omega) w)
            have HF2 := Lib.hid (fun w => factorial_any q' (by omega) w)
            generalize facN q = f1 at *
            generalize facN q' = f2 at *
            generalize riF C m p = ri at *
            generalize shP n C p m = sm at *
            have hm1 := sh_wrap0 f1 f2 hww
            generalize f1 * f2 = fw at *
            have hm2 := sh_wrap1 fw ri hww hr1 hr2
            have hm3 := sh_wrap2 fw ri sm m hww hr1 hr2 (by omega) hbd1 hbd2
            clear hb hq hq'
            go_wp2_with fail
            refine HOn.out.mono ?_
            rintro e w' ⟨rfl, rfl⟩
            go_wp2_with fail
            refine (HF1.out wr).mono ?_
            rintro e w' ⟨rfl, rfl⟩
            go_wp2_with fail
            refine (HF2.out wr).mono ?_
            rintro e w' ⟨rfl, rfl⟩
            go_wp2_with fail
            refine HRi.out.mono ?_
            rintro e w' ⟨rfl, hd⟩
            have HE2 := Lib.hid (HE.out.trans hd)
            clear hd
            go_wp2
            go_roundw
            case rel => exact ⟨m + 1, by omega, by go_num, by rw [HS3.out]; first | rfl | rw [hm3], HE2.out⟩
            case measure => simp [intOf]; omega
        · obtain rfl : m = L := by omega
          have hbd := HBd.out p hlt m hm
          obtain ⟨hbd1, hbd2⟩ := hbd
          have hfp := HFp.out
          have HFn := Lib.hid (fun w => factorial_any n hn4 w)
          have HX0 : Hid (rN (shP n C p m) (facN n : Nat) = shF n m C p 0) := Lib.hid rfl
          have HX1 : Hid (rD (shP n C p m) (facN n : Nat) = shF n m C p 1) := Lib.hid rfl
          generalize shP n C p m = sm at *
          generalize facN n = fn at *
          have HRe := Lib.hid (fun w => reduced_any sm (fn : Int) (by omega) (by omega) (by omega) w)
          clear hfp
          rw [HX0.out, HX1.out] at HRe
          go_wp2_with fail
          refine (HFn.out wr).mono ?_
          rintro e w' ⟨rfl, rfl⟩
          go_wp2_with fail
          refine (HRe.out wr).mono ?_
          rintro e w2 ⟨rfl, hb2⟩
          have HF2 := Lib.hid ((HF.out.dn HE.out).keep hb2)
          have HB2 := Lib.hid ((HD.out.trans (HE.out.below _)).trans (hb2.mono (HD.out.trans (HE.out.below _)).size))
          have hc0 := HF2.out.cell0 hlt
          have hc1 := HF2.out.cell1 hlt
          have hf0 := HF2.out.frozen (p * 2)
          have hf1 := HF2.out.frozen (p * 2 + 1)
          obtain ⟨x0, hx0⟩ : ∃ x0, shF n m C p 0 = x0 := ⟨_, rfl⟩
          obtain ⟨x1, hx1⟩ : ∃ x1, shF n m C p 1 = x1 := ⟨_, rfl⟩
          have HG0 := Lib.hid hx0
          have HG1 := Lib.hid hx1
          rw [hx0, hx1]
          clear hx0 hx1
          clear hb2
          go_wp2
          go_roundw
          case rel => exact ⟨p + 1, _, by omega, by go_num, HF2.out.set p x0 x1, fun a ha j hj => by
            unfold upF
            by_cases e : a = p
            · subst e
              rw [if_pos rfl]
              have hj2 : j = 0 ∨ j = 1 := by omega
              rcases hj2 with rfl | rfl
              · rw [if_pos rfl, HG0.out]
              · rw [if_neg (by omega), HG1.out]
            · rw [if_neg e]
              exact HFe.out a (by omega) j hj, (HB2.out.setCell (p := ⟨w.heap.size, p * 2, none⟩) (Nat.le_refl _) _).setCell (p := ⟨w.heap.size, p * 2 + 1, none⟩) (Nat.le_refl _) _⟩
          case measure => simp [intOf]; omega
    · obtain rfl : p = n := by omega
      go_wp2
      go_returns
      exact ⟨rfl, HF.out.congr (fun k hk i hi => HFe.out k hk i hi), HD.out⟩
end Go.Proofs.YtoeimngbpagegaaDoor
