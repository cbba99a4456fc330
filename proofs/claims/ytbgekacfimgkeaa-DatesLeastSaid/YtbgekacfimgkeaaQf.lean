/- endsOf, Plan, Delay, Short; what they refuse. -/
import Derived.Test.YtbgekacfimgkeaaQe
namespace Go.Proofs.Ytbgekacfimgkeaa
open Go.RowKit

/-- When the jobs end, by the first m pieces. -/
def enF (p : Nat → Nat → Int) : Nat → Nat → Int
  | 0 => fun _ => 0
  | m + 1 => upd (enF p m) (p m 0).toNat (p m 2)

set_option maxHeartbeats 1000000 in
set_option maxRecDepth 1000000 in
theorem endsOf_any (A : Option Addr) (m c n : Nat) (p : Nat → Nat → Int) (w : World) (h : Recs 3 w A m p) (hp : ∀ a, a < m → 0 ≤ p a 0 ∧ p a 0 < n) (hm : m ≤ 10000) (hn : n ≤ 8) :
    Calls Try.prog 68 #[.slice A m c, .int .i64 n] w fun e w' => e = .returned (.slice (some ⟨w.heap.size, 0, none⟩) n n) ∧ RowI w' w.heap.size n (enF p m) ∧ Below w.heap.size w w' := by
  have H := Lib.hid h
  have HP := Lib.hid hp
  clear h hp
  have hmk := mk_ints n (by omega) w
  go_enter Try.func68, Try.ntmps68
  go_wp2
  have hM := RowI.made w n
  have hB0 := (Below.refl w.heap.size w).alloc (Nat.le_refl _) (.cells (madeCells #[.int .i64 0] n) 3)
  clear hmk
  generalize w.alloc (.cells (madeCells #[.int .i64 0] n) 3) = W0 at *
  go_loopw [12] (fun i wr => ∃ k : Nat, k ≤ m ∧ i = .int .i64 k ∧ RowI wr w.heap.size n (enF p k) ∧ Below w.heap.size w wr) (fun i _ => m - (intOf i).toNat)
  case atStart => exact ⟨0, Nat.zero_le _, rfl, hM, hB0⟩
  case round =>
    obtain ⟨k, hk, rfl, hR, hD⟩ := hrel
    have HR := Lib.hid hR
    have HD := Lib.hid hD
    clear hR hM hB0
    by_cases hlt : k < m
    · obtain ⟨b, o, rfl, c0, c1, c2⟩ := (H.out.keep hD).three hlt
      have hpk := HP.out k hlt
      obtain ⟨j, hj, hjn⟩ : ∃ j : Nat, p k 0 = (j : Int) ∧ j < n := ⟨(p k 0).toNat, by omega, by omega⟩
      have HJ : Hid (enF p (k + 1) = upd (enF p k) j (p k 2)) := Lib.hid (by rw [enF, hj]; rfl)
      rw [hj] at c0
      have hA1 := HR.out.alloc (.cells #[.int .i64 (j : Int), .int .i64 (p k 1), .int .i64 (p k 2)] 84)
      have hcell := hA1.cell hjn
      have hfr := hA1.frozen j
      have HS := Lib.hid (hA1.set j (p k 2))
      have hB1 : Below w.heap.size w (wr.alloc (.cells #[.int .i64 (j : Int), .int .i64 (p k 1), .int .i64 (p k 2)] 84)) := hD.alloc hD.size _
      have HB := Lib.hid (hB1.setCell (p := ⟨w.heap.size, j, none⟩) (Nat.le_refl _) (.int .i64 (p k 2)))
      clear hA1 hB1 hpk hj hD
      go_wp2
      go_roundw
      case rel => exact ⟨k + 1, by omega, by go_num, by rw [HJ.out]; exact HS.out, HB.out⟩
      case measure => simp [intOf]; omega
    · obtain rfl : k = m := by omega
      go_wp2
      go_ret
      exact ⟨rfl, HR.out, HD.out⟩

/-- The first piece's job is in range: all are. -/
theorem plS_rng (ru : Nat) {n : Nat} {J : Nat → Nat → Int} (h : okJ n J = true) : ∀ a, a < (plS ru n J).m → 0 ≤ (plS ru n J).p a 0 ∧ (plS ru n J).p a 0 < n := fun a ha => by
  have := (stF_inv (ru := ru) h 260).rng a ha
  exact ⟨this.1, this.2.1⟩
theorem plS_rng2 (ru : Nat) {n : Nat} {J : Nat → Nat → Int} (h : okJ n J = true) : ∀ a, a < (plS ru n J).m → 0 ≤ (plS ru n J).p a 2 ∧ (plS ru n J).p a 2 ≤ (260 : Nat) := fun a ha => by
  have := (stF_inv (ru := ru) h 260).rng a ha
  exact ⟨Int.le_of_lt (Int.lt_of_le_of_lt this.2.2.1 this.2.2.2.1), this.2.2.2.2⟩
theorem plS_m (ru : Nat) {n : Nat} {J : Nat → Nat → Int} (h : okJ n J = true) : (plS ru n J).m ≤ 260 := (stF_inv (ru := ru) h 260).m_le
theorem enF_rng (p : Nat → Nat → Int) : ∀ m, (∀ a, a < m → 0 ≤ p a 2 ∧ p a 2 ≤ (260 : Nat)) → ∀ k, 0 ≤ enF p m k ∧ enF p m k ≤ 260 := by
  intro m
  induction m with
  | zero => intro _ k; exact ⟨Int.le_refl _, by show (0 : Int) ≤ 260; omega⟩
  | succ m ih =>
    intro h k
    have := h m (by omega)
    rw [enF]
    unfold upd
    split
    · omega
    · exact ih (fun a ha => h a (by omega)) k
/-- The greatest delay. -/
def IsDl (n : Nat) (J : Nat → Nat → Int) (e : Nat → Int) (x : Int) : Prop := (∀ k, k < n → e k - J k 2 ≤ x) ∧ ∃ k, k < n ∧ e k - J k 2 = x
theorem IsDl.uniq {n : Nat} {J : Nat → Nat → Int} {e : Nat → Int} {x y : Int} (h : IsDl n J e x) (h' : IsDl n J e y) : x = y := by
  obtain ⟨h1, a, ha, h2⟩ := h
  obtain ⟨h3, b, hb, h4⟩ := h'
  have := h1 b hb
  have := h3 a ha
  omega

set_option maxHeartbeats 1000000 in
set_option maxRecDepth 1000000 in
theorem plan_ok (A : Option Addr) (n c : Nat) (J : Nat → Nat → Int) (w : World) (h : Recs 4 w A n J) (hok : okJ n J = true) :
    Calls Try.prog 33 #[.slice A n c] w fun e w' => ∃ v, e = .returned (.tuple #[v, .int .i64 0]) ∧ OwnK 3 84 w' w.heap.size v (plS 0 n J).m (plS 0 n J).p ∧ Below w.heap.size w w' := by
  have H := Lib.hid h
  have HO := Lib.hid hok
  have hn := (okJ_iff.1 hok).1.2
  clear h hok
  go_enter Try.func33, Try.ntmps33
  go_wp2_with fail
  refine (valid_any A n c J w H.out (by unfold maxLen; omega)).use fun w1 hb1 => ?_
  rw [HO.out]
  have HB := Lib.hid hb1
  clear hb1
  go_wp2_with fail
  refine (planByD_any A n c J w1 (H.out.keep HB.out) HO.out).mono ?_
  rintro e w2 ⟨v, rfl, hv, hb2⟩
  have HV := Lib.hid (hv.rebase HB.out.size)
  have HB2 := Lib.hid (HB.out.trans (hb2.mono HB.out.size))
  clear hv hb2
  go_wp2
  go_returns
  exact ⟨v, rfl, HV.out, HB2.out⟩
set_option maxHeartbeats 1000000 in
set_option maxRecDepth 1000000 in
theorem plan_bad (A : Option Addr) (n c : Nat) (J : Nat → Nat → Int) (w : World) (h : Recs 4 w A n J) (hn : n ≤ maxLen) (hok : okJ n J = false) :
    Lr 33 #[.slice A n c] w (.tuple #[.slice none 0 0, .int .i64 2]) := by
  unfold Lr
  have H := Lib.hid h
  have HO := Lib.hid hok
  have hmm := Lib.hid hn
  clear h hok hn
  go_enter Try.func33, Try.ntmps33
  go_wp2_with fail
  refine (valid_any A n c J w H.out hmm.out).use fun w1 hb1 => ?_
  rw [HO.out]
  have HB := Lib.hid hb1
  clear hb1
  go_wp2
  go_returns
  exact ⟨rfl, HB.out⟩

set_option maxHeartbeats 1000000 in
set_option maxRecDepth 1000000 in
theorem delay_bad (A : Option Addr) (n c : Nat) (J : Nat → Nat → Int) (w : World) (h : Recs 4 w A n J) (hn : n ≤ maxLen) (hok : okJ n J = false) :
    Lr 35 #[.slice A n c] w (.tuple #[.int .i64 0, .int .i64 2]) := by
  unfold Lr
  have H := Lib.hid h
  have HO := Lib.hid hok
  have hmm := Lib.hid hn
  clear h hok hn
  go_enter Try.func35, Try.ntmps35
  go_wp2_with fail
  refine (valid_any A n c J w H.out hmm.out).use fun w1 hb1 => ?_
  rw [HO.out]
  have HB := Lib.hid hb1
  clear hb1
  go_wp2
  go_returns
  exact ⟨rfl, HB.out⟩
set_option maxHeartbeats 1000000 in
set_option maxRecDepth 1000000 in
theorem short_bad (A : Option Addr) (n c : Nat) (J : Nat → Nat → Int) (w : World) (h : Recs 4 w A n J) (hn : n ≤ maxLen) (hok : okJ n J = false) :
    Lr 41 #[.slice A n c] w (.tuple #[.slice none 0 0, .int .i64 0, .int .i64 2]) := by
  unfold Lr
  have H := Lib.hid h
  have HO := Lib.hid hok
  have hmm := Lib.hid hn
  clear h hok hn
  go_enter Try.func41, Try.ntmps41
  go_wp2_with fail
  refine (valid_any A n c J w H.out hmm.out).use fun w1 hb1 => ?_
  rw [HO.out]
  have HB := Lib.hid hb1
  clear hb1
  go_wp2
  go_returns
  exact ⟨rfl, HB.out⟩

set_option maxHeartbeats 1000000 in
set_option maxRecDepth 1000000 in
theorem short_ok (A : Option Addr) (n c : Nat) (J : Nat → Nat → Int) (w : World) (h : Recs 4 w A n J) (hok : okJ n J = true) :
    Calls Try.prog 41 #[.slice A n c] w fun e w' => ∃ v, e = .returned (.tuple #[v, .int .i64 (smT (enF (plS 1 n J).p (plS 1 n J).m) n), .int .i64 0]) ∧ OwnK 3 84 w' w.heap.size v (plS 1 n J).m (plS 1 n J).p ∧ Below w.heap.size w w' := by
  have H := Lib.hid h
  have HO := Lib.hid hok
  have hn := (okJ_iff.1 hok).1.2
  clear h hok
  go_enter Try.func41, Try.ntmps41
  go_wp2_with fail
  refine (valid_any A n c J w H.out (by unfold maxLen; omega)).use fun w1 hb1 => ?_
  rw [HO.out]
  have HB := Lib.hid hb1
  clear hb1
  go_wp2_with fail
  refine (planByS_any A n c J w1 (H.out.keep HB.out) HO.out).mono ?_
  rintro e w2 ⟨v, rfl, hv, hb2⟩
  have HV := Lib.hid (hv.rebase HB.out.size)
  have HB2 := Lib.hid (HB.out.trans (hb2.mono HB.out.size))
  have hm := plS_m 1 HO.out
  have HRg := Lib.hid (plS_rng 1 HO.out)
  obtain ⟨Av, cv, rfl, -, hRv, -⟩ := hv.form
  have HRv := Lib.hid hRv
  clear hv hb2 hRv
  go_wp2_with fail
  refine (endsOf_any Av (plS 1 n J).m cv n (plS 1 n J).p w2 HRv.out HRg.out (by omega) hn).mono ?_
  rintro e w3 ⟨rfl, hE, hb3⟩
  have HE := Lib.hid hE
  have HV3 := Lib.hid (HV.out.below hb3)
  have HB3 := Lib.hid (HB2.out.trans (hb3.mono HB2.out.size))
  clear hE hb3
  go_wp2
  have HN := Lib.hid (enF_rng (plS 1 n J).p (plS 1 n J).m (plS_rng2 1 HO.out))
  generalize heq : enF (plS 1 n J).p (plS 1 n J).m = e at *
  have HQ := Lib.hid heq
  clear heq
  go_loopw [6, 21] (fun s i wr => ∃ k : Nat, k ≤ n ∧ i = .int .i64 k ∧ s = .int .i64 (smT e k) ∧ 0 ≤ smT e k ∧ smT e k ≤ 260 * k ∧ Dn w3 wr) (fun _ i _ => n - (intOf i).toNat)
  case atStart => exact ⟨0, Nat.zero_le _, rfl, rfl, Int.le_refl _, by simp [smT], Dn.refl _⟩
  case round =>
    obtain ⟨k, hk, rfl, rfl, h0, h1, hD⟩ := hrel
    by_cases hlt : k < n
    · have hc := (HE.out.dn hD).cell hlt
      have hek := HN.out k
      have HS : Hid (smT e (k + 1) = smT e k + e k) := Lib.hid rfl
      generalize smT e k = sm at *
      have hk8 : (k : Int) ≤ 8 := by omega
      obtain ⟨hek1, hek2⟩ := hek
      go_wp2
      go_roundw
      case rel => exact ⟨k + 1, by omega, by go_num, by rw [HS.out], by rw [HS.out]; omega, by rw [HS.out]; push_cast; omega, hD⟩
      case measure => simp [intOf]; omega
    · obtain rfl : k = n := by omega
      go_wp2
      go_returns
      exact ⟨_, by rw [HQ.out]; rfl, HV3.out.dn hD, HB3.out.trans (hD.below _)⟩

set_option maxHeartbeats 1000000 in
set_option maxRecDepth 1000000 in
theorem delay_ok (A : Option Addr) (n c : Nat) (J : Nat → Nat → Int) (w : World) (h : Recs 4 w A n J) (hok : okJ n J = true) :
    Calls Try.prog 35 #[.slice A n c] w fun e w' => ∃ x, e = .returned (.tuple #[.int .i64 x, .int .i64 0]) ∧ IsDl n J (enF (plS 0 n J).p (plS 0 n J).m) x ∧ Below w.heap.size w w' := by
  have H := Lib.hid h
  have HO := Lib.hid hok
  have hn := (okJ_iff.1 hok).1.2
  clear h hok
  go_enter Try.func35, Try.ntmps35
  go_wp2_with fail
  refine (valid_any A n c J w H.out (by unfold maxLen; omega)).use fun w1 hb1 => ?_
  rw [HO.out]
  have HB := Lib.hid hb1
  clear hb1
  go_wp2_with fail
  refine (planByD_any A n c J w1 (H.out.keep HB.out) HO.out).mono ?_
  rintro e w2 ⟨v, rfl, hv, hb2⟩
  have HB2 := Lib.hid (HB.out.trans (hb2.mono HB.out.size))
  have hm := plS_m 0 HO.out
  have HRg := Lib.hid (plS_rng 0 HO.out)
  obtain ⟨Av, cv, rfl, -, hRv, -⟩ := hv.form
  have HRv := Lib.hid hRv
  clear hv hb2 hRv
  go_wp2_with fail
  refine (endsOf_any Av (plS 0 n J).m cv n (plS 0 n J).p w2 HRv.out HRg.out (by omega) hn).mono ?_
  rintro e w3 ⟨rfl, hE, hb3⟩
  have HE := Lib.hid hE
  have HB3 := Lib.hid (HB2.out.trans (hb3.mono HB2.out.size))
  clear hE hb3
  go_wp2
  have HN := Lib.hid (enF_rng (plS 0 n J).p (plS 0 n J).m (plS_rng2 0 HO.out))
  generalize heq : enF (plS 0 n J).p (plS 0 n J).m = e at *
  have HQ := Lib.hid heq
  clear heq
  have hs2 : w.heap.size ≤ w2.heap.size := HB2.out.size
  go_loopw [19] (fun i wr => ∃ k : Nat, k ≤ n ∧ i = .int .i64 k ∧ RowI wr w2.heap.size n (fun a => if a < k then e a - J a 2 else e a) ∧ Below w.heap.size w wr) (fun i _ => n - (intOf i).toNat)
  case atStart => exact ⟨0, Nat.zero_le _, rfl, HE.out.congr (fun a _ => by rw [if_neg (by omega)]), HB3.out⟩
  case round =>
    obtain ⟨k, hk, rfl, hR, hD⟩ := hrel
    have HR := Lib.hid hR
    clear hR
    by_cases hlt : k < n
    · obtain ⟨b, o, rfl, c0, c1, c2, c3⟩ := (H.out.keep hD).four hlt
      have hek := HN.out k
      have hJ := (okJ_iff.1 HO.out).2 k hlt
      have hA1 := HR.out.alloc (.cells #[.int .i64 (J k 0), .int .i64 (J k 1), .int .i64 (J k 2), .int .i64 (J k 3)] 83)
      have hcell := hA1.cell hlt
      have hfr := hA1.frozen k
      rw [if_neg (Nat.lt_irrefl k)] at hcell
      have HS := Lib.hid (hA1.set k (e k - J k 2))
      have hB1 : Below w.heap.size w (wr.alloc (.cells #[.int .i64 (J k 0), .int .i64 (J k 1), .int .i64 (J k 2), .int .i64 (J k 3)] 83)) := hD.alloc hD.size _
      have HB := Lib.hid (hB1.setCell (p := ⟨w2.heap.size, k, none⟩) hs2 (.int .i64 (e k - J k 2)))
      obtain ⟨-, -, ⟨hJ1, hJ2⟩, -⟩ := hJ
      obtain ⟨hek1, hek2⟩ := hek
      clear hA1 hB1
      have HC : Hid (∀ a, a < n → upd (fun a => if a < k then e a - J a 2 else e a) k (e k - J k 2) a = if a < k + 1 then e a - J a 2 else e a) := Lib.hid (fun a _ => by
        unfold upd
        by_cases h1 : a = k
        · subst h1
          rw [if_pos rfl, if_pos (by omega)]
        · rw [if_neg h1]
          by_cases h2 : a < k
          · simp only [if_pos h2, if_pos (show a < k + 1 by omega)]
          · simp only [if_neg h2, if_neg (show ¬ a < k + 1 by omega)])
      generalize e k = ek at *
      generalize J k 2 = j2 at *
      go_wp2
      go_region
      go_wp2
      go_roundw
      case rel => exact ⟨k + 1, by omega, by go_num, (RowI.congr HS.out HC.out).dn ((Dn.refl _).drew), HB.out.trans (((Dn.refl _).drew).below _)⟩
      case measure => simp [intOf]; omega
    · obtain rfl : k = n := by omega
      have HF := Lib.hid (HR.out.congr (f' := fun a => e a - J a 2) (fun a ha => by simp only [if_pos ha]))
      clear hlt HR
      go_wp2_with fail
      refine (max_any _ k k _ wr HF.out.ints (okJ_iff.1 HO.out).1.1 (by omega)).mono ?_
      rintro e4 w4 ⟨x, rfl, hx1, hx2, hd⟩
      have HX := Lib.hid hx1
      have HX2 := Lib.hid hx2
      have HB4 := Lib.hid (hD.trans (hd.below _))
      clear hx1 hx2 hd
      go_wp2
      go_returns
      exact ⟨x, rfl, by rw [HQ.out]; exact ⟨HX.out, HX2.out⟩, HB4.out⟩
end Go.Proofs.Ytbgekacfimgkeaa
