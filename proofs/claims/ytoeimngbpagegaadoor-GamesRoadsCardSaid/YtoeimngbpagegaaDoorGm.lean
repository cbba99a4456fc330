/- objector, sharesAll, CheckCore, Objects. -/
import Derived.Test.YtoeimngbpagegaaDoorGk
import Derived.Test.YtoeimngbpagegaaDoorGi
namespace Go.Proofs.YtoeimngbpagegaaDoor
open Go.RowKit

/-- The first of the first m sets with the greatest that is above 0, and that. -/
def obF (ex : Nat → Int) : Nat → Int × Int
  | 0 => (0, 0)
  | m + 1 => if (obF ex m).2 < ex m then ((m : Int), ex m) else obF ex m
theorem obF_inv (ex : Nat → Int) : ∀ m, 0 ≤ (obF ex m).2 ∧ 0 ≤ (obF ex m).1 ∧ (obF ex m).1 ≤ m ∧ ((obF ex m).2 = 0 → (obF ex m).1 = 0) ∧ (0 < (obF ex m).2 → ∃ s : Nat, s < m ∧ (obF ex m).1 = s ∧ ex s = (obF ex m).2) ∧ ∀ s, s < m → ex s ≤ (obF ex m).2 := by
  intro m
  induction m with
  | zero => exact ⟨Int.le_refl _, Int.le_refl _, Int.le_refl _, fun _ => rfl, fun h => absurd h (Int.lt_irrefl 0), fun s hs => absurd hs (by omega)⟩
  | succ m ih =>
    obtain ⟨h1, h2, h3, h4, h5, h6⟩ := ih
    rw [obF]
    split
    · rename_i h
      refine ⟨by show 0 ≤ ex m; omega, by show (0:Int) ≤ m; omega, by show (m:Int) ≤ _; push_cast; omega, fun h0 => by have h0 : ex m = 0 := h0; omega, fun _ => ⟨m, by omega, rfl, rfl⟩, fun s hs => ?_⟩
      show ex s ≤ ex m
      rcases Nat.lt_or_ge s m with hl | hl
      · have := h6 s hl; omega
      · obtain rfl : s = m := by omega
        exact Int.le_refl _
    · rename_i h
      refine ⟨h1, h2, by push_cast; omega, h4, fun h0 => ?_, fun s hs => ?_⟩
      · obtain ⟨s, q1, q2, q3⟩ := h5 h0
        exact ⟨s, by omega, q2, q3⟩
      · rcases Nat.lt_or_ge s m with hl | hl
        · exact h6 s hl
        · obtain rfl : s = m := by omega
          omega
/-- Nobody objects: no set pays more. The empty set never does. -/
theorem obF_zero {ex : Nat → Int} (h0 : ex 0 ≤ 0) (m : Nat) : (obF ex m).1 = 0 ↔ ∀ s, s < m → ex s ≤ 0 := by
  obtain ⟨h1, h2, h3, h4, h5, h6⟩ := obF_inv ex m
  constructor
  · intro h s hs
    have := h6 s hs
    rcases Int.lt_or_eq_of_le h1 with hp | hp
    · obtain ⟨t, q1, q2, q3⟩ := h5 hp
      have : t = 0 := by omega
      subst this
      omega
    · omega
  · intro h
    apply h4
    rcases Int.lt_or_eq_of_le h1 with hp | hp
    · obtain ⟨t, q1, q2, q3⟩ := h5 hp
      have := h t q1
      omega
    · omega

set_option maxHeartbeats 1000000 in
set_option maxRecDepth 1000000 in
theorem objector_any (A B : Option Addr) (L c n c' : Nat) (C : Nat → Int) (F : Nat → Nat → Int) (w : World) (h : Ints w A L C) (hf : Recs 2 w B n F) (hn : n ≤ 4) (hok : okC L C = true) (hp : pyAll F n = true) :
    Lr 62 #[.slice A L c, .slice B n c'] w (.int .i64 (obF (exS n C F) L).1) := by
  unfold Lr
  have H := Lib.hid h
  have HF := Lib.hid hf
  have HP := Lib.hid hp
  have hL16 : L ≤ 16 := by have := (okC_iff.1 hok).1; omega
  have HC := Lib.hid (okC_iff.1 hok).2.2
  have HO : Hid (∀ m, obF (exS n C F) (m + 1) = if (obF (exS n C F) m).2 < exS n C F m then ((m : Int), exS n C F m) else obF (exS n C F) m) := Lib.hid (fun _ => rfl)
  clear h hf hp hok
  go_enter Tryd.func62, Tryd.ntmps62
  go_wp2
  go_loopw [5, 6, 11] (fun be mo i wr => ∃ m : Nat, m ≤ L ∧ i = .int .i64 m ∧ be = .int .i64 (obF (exS n C F) m).1 ∧ mo = .int .i64 (obF (exS n C F) m).2 ∧ Below w.heap.size w wr) (fun _ _ i _ => L - (intOf i).toNat)
  case atStart => exact ⟨0, Nat.zero_le _, rfl, rfl, rfl, Below.refl _ _⟩
  case round =>
    obtain ⟨m, hm, rfl, rfl, rfl, hD⟩ := hrel
    have HD := Lib.hid hD
    by_cases hlt : m < L
    · have HOm := Lib.hid (HO.out m)
      have HEx := Lib.hid (excess_any A B L c n c' m C F wr (H.out.keep hD) (HF.out.keep hD) hn hlt (HC.out m hlt) HP.out)
      clear hD
      generalize exS n C F m = x at *
      obtain ⟨y, hy⟩ : ∃ y, y = (obF (exS n C F) m).2 := ⟨_, rfl⟩
      obtain ⟨z, hz⟩ : ∃ z, z = (obF (exS n C F) m).1 := ⟨_, rfl⟩
      have HY := Lib.hid hy
      have HZ := Lib.hid hz
      rw [← hy, ← hz]
      clear hy hz
      go_wp2_with fail
      refine HEx.out.use fun w2 hb2 => ?_
      have HD2 := Lib.hid (HD.out.trans (hb2.mono HD.out.size))
      clear hb2
      by_cases hlt2 : y < x
      · have HR : Hid (obF (exS n C F) (m + 1) = ((m : Int), x)) := Lib.hid (by rw [HOm.out, ← HY.out, if_pos hlt2])
        go_wp2
        go_roundw
        case rel => exact ⟨m + 1, by omega, by go_num, by rw [HR.out], by rw [HR.out], HD2.out⟩
        case measure => simp [intOf]; omega
      · have HR : Hid (obF (exS n C F) (m + 1) = obF (exS n C F) m) := Lib.hid (by rw [HOm.out, ← HY.out, if_neg hlt2])
        go_wp2
        go_roundw
        case rel => exact ⟨m + 1, by omega, by go_num, by rw [HR.out, HZ.out], by rw [HR.out, HY.out], HD2.out⟩
        case measure => simp [intOf]; omega
    · obtain rfl : m = L := by omega
      go_wp2
      go_ret
      exact ⟨rfl, HD.out⟩

/-- Payments that sum to the cost of all. -/
def shB (L n : Nat) (C : Nat → Int) (F : Nat → Nat → Int) : Bool := decide (n = tzN L) && (pyAll F n && decide (exS n C F (L - 1) = 0))
set_option maxHeartbeats 1000000 in
set_option maxRecDepth 1000000 in
theorem sharesAll_any (A B : Option Addr) (L c n c' : Nat) (C : Nat → Int) (F : Nat → Nat → Int) (w : World) (h : Ints w A L C) (hf : Recs 2 w B n F) (hn : n ≤ 10000) (hok : okC L C = true) (ht : Tab w) :
    Lr 61 #[.slice A L c, .slice B n c'] w (.bool (shB L n C F)) := by
  unfold Lr
  obtain ⟨k, hk, hk1, hk4, hLk, hL2, hL16⟩ := okC_n hok
  have H := Lib.hid h
  have HF := Lib.hid hf
  have HPl := Lib.hid (players_at A L c k hk (by omega) w ht)
  have HC := Lib.hid (okC_iff.1 hok).2.2
  have HS : Hid (shB L n C F = (decide (n = k) && (pyAll F n && decide (exS n C F (L - 1) = 0)))) := Lib.hid (by unfold shB; rw [hk])
  have HPy := Lib.hid (arePay_any B n c' F w hf hn)
  clear h hf ht hok hLk hk
  by_cases e : n = k
  · subst e
    have hq := beq_t (a := (n : Int)) rfl
    have HS1 : Hid (shB L n C F = (pyAll F n && decide (exS n C F (L - 1) = 0))) := Lib.hid (by rw [HS.out]; simp)
    cases hp : pyAll F n with
    | false =>
      have HS2 : Hid (shB L n C F = false) := Lib.hid (by rw [HS1.out, hp]; rfl)
      rw [hp] at HPy
      go_enter Tryd.func61, Tryd.ntmps61
      go_wp2_with fail
      refine HPl.out.mono ?_
      rintro e w' ⟨rfl, rfl⟩
      go_wp2_with fail
      refine HPy.out.use fun w2 hb => ?_
      go_wp2
      go_ret
      exact ⟨ret_bool HS2.out.symm, hb⟩
    | true =>
      have HP := Lib.hid hp
      rw [hp] at HPy
      have HEv := Lib.hid (fun w => everyone_any A L c (by omega) (by omega) w)
      have HEx := Lib.hid (fun (w2 : World) (hb : Below w.heap.size w w2) => excess_any A B L c n c' (L - 1) C F w2 (H.out.keep hb) (HF.out.keep hb) hk4 (by omega) (HC.out _ (by omega)) HP.out)
      have HS2 : Hid (shB L n C F = decide (exS n C F (L - 1) = 0)) := Lib.hid (by rw [HS1.out, hp]; rfl)
      clear hp
      generalize exS n C F (L - 1) = x at *
      generalize L - 1 = L1 at *
      go_enter Tryd.func61, Tryd.ntmps61
      go_wp2_with fail
      refine HPl.out.mono ?_
      rintro e w' ⟨rfl, rfl⟩
      go_wp2_with fail
      refine HPy.out.use fun w2 hb => ?_
      have HB := Lib.hid hb
      clear hb
      go_wp2_with fail
      refine (HEv.out w2).mono ?_
      rintro e w' ⟨rfl, rfl⟩
      go_wp2_with fail
      refine (HEx.out w2 HB.out).use fun w3 hb3 => ?_
      have HB3 := Lib.hid (HB.out.trans (hb3.mono HB.out.size))
      clear hb3
      by_cases hx : x = 0
      · have HS3 : Hid (shB L n C F = true) := Lib.hid (by rw [HS2.out, decide_eq_true hx])
        have hz := beq_t hx
        clear hx
        go_wp2
        go_ret
        exact ⟨ret_bool HS3.out.symm, HB3.out⟩
      · have HS3 : Hid (shB L n C F = false) := Lib.hid (by rw [HS2.out, decide_eq_false hx])
        have hz := beq_f hx
        clear hx
        go_wp2
        go_ret
        exact ⟨ret_bool HS3.out.symm, HB3.out⟩
  · have hq := beq_f (a := (n : Int)) (b := (k : Int)) (by omega)
    have HS1 : Hid (shB L n C F = false) := Lib.hid (by rw [HS.out, decide_eq_false e]; rfl)
    clear e
    go_enter Tryd.func61, Tryd.ntmps61
    go_wp2_with fail
    refine HPl.out.mono ?_
    rintro e w' ⟨rfl, rfl⟩
    go_wp2
    go_ret
    exact ⟨ret_bool HS1.out.symm, Below.refl _ _⟩
theorem shB_py {L n : Nat} {C : Nat → Int} {F : Nat → Nat → Int} (h : shB L n C F = true) : n = tzN L ∧ pyAll F n = true ∧ exS n C F (L - 1) = 0 := by
  unfold shB at h
  simp only [Bool.and_eq_true, decide_eq_true_eq] at h
  exact ⟨h.1, h.2.1, h.2.2⟩
/-- In the core. -/
def coB (L n : Nat) (C : Nat → Int) (F : Nat → Nat → Int) : Bool := shB L n C F && decide ((obF (exS n C F) L).1 = 0)
set_option maxHeartbeats 1000000 in
set_option maxRecDepth 1000000 in
theorem checkCore_ok (A B : Option Addr) (L c n c' : Nat) (C : Nat → Int) (F : Nat → Nat → Int) (w : World) (h : Ints w A L C) (hf : Recs 2 w B n F) (hn : n ≤ 10000) (hok : okC L C = true) (ht : Tab w) :
    Lr 26 #[.slice A L c, .slice B n c'] w (.tuple #[.bool (coB L n C F), .int .i64 0]) := by
  unfold Lr
  obtain ⟨k, hk, hk1, hk4, hLk, hL2, hL16⟩ := okC_n hok
  have H := Lib.hid h
  have HF := Lib.hid hf
  have HO := Lib.hid hok
  have HV := Lib.hid (valid_any A L c C w h (by omega) ht)
  have HSh := Lib.hid (sharesAll_any A B L c n c' C F w h hf hn hok ht)
  have HS : Hid (coB L n C F = (shB L n C F && decide ((obF (exS n C F) L).1 = 0))) := Lib.hid rfl
  have HPy := Lib.hid (@shB_py L n C F)
  clear h hf ht hok hLk
  cases hsh : shB L n C F with
  | false =>
    have HS2 : Hid (coB L n C F = false) := Lib.hid (by rw [HS.out, hsh]; rfl)
    rw [hsh] at HSh
    clear hsh
    go_enter Tryd.func26, Tryd.ntmps26
    go_wp2_with fail
    refine HV.out.mono ?_
    rintro e w' ⟨rfl, rfl⟩
    rw [HO.out]
    go_wp2_with fail
    refine HSh.out.use fun w2 hb => ?_
    go_wp2
    go_returns
    exact ⟨by rw [HS2.out]; rfl, hb⟩
  | true =>
    have hpy := HPy.out hsh
    have hn4 : n ≤ 4 := by omega
    have HOb := Lib.hid (fun (w2 : World) (hb : Below w.heap.size w w2) => objector_any A B L c n c' C F w2 (H.out.keep hb) (HF.out.keep hb) hn4 HO.out hpy.2.1)
    have HS2 : Hid (coB L n C F = decide ((obF (exS n C F) L).1 = 0)) := Lib.hid (by rw [HS.out, hsh]; rfl)
    rw [hsh] at HSh
    clear hsh hpy
    generalize (obF (exS n C F) L).1 = x at *
    go_enter Tryd.func26, Tryd.ntmps26
    go_wp2_with fail
    refine HV.out.mono ?_
    rintro e w' ⟨rfl, rfl⟩
    rw [HO.out]
    go_wp2_with fail
    refine HSh.out.use fun w2 hb => ?_
    have HB := Lib.hid hb
    clear hb
    go_wp2_with fail
    refine (HOb.out w2 HB.out).use fun w3 hb3 => ?_
    have HB3 := Lib.hid (HB.out.trans (hb3.mono HB.out.size))
    clear hb3
    by_cases hx : x = 0
    · have HS3 : Hid (coB L n C F = true) := Lib.hid (by rw [HS2.out, decide_eq_true hx])
      have hz := beq_t hx
      clear hx
      go_wp2
      go_returns
      exact ⟨by rw [HS3.out]; rfl, HB3.out⟩
    · have HS3 : Hid (coB L n C F = false) := Lib.hid (by rw [HS2.out, decide_eq_false hx])
      have hz := beq_f hx
      clear hx
      go_wp2
      go_returns
      exact ⟨by rw [HS3.out]; rfl, HB3.out⟩
set_option maxHeartbeats 1000000 in
theorem checkCore_bad (A B : Option Addr) (L c n c' : Nat) (C : Nat → Int) (w : World) (h : Ints w A L C) (hL : L ≤ 18) (hok : okC L C = false) (ht : Tab w) :
    Lr 26 #[.slice A L c, .slice B n c'] w (.tuple #[.bool false, .int .i64 2]) := by
  unfold Lr
  have HV := Lib.hid (valid_any A L c C w h hL ht)
  have HO := Lib.hid hok
  clear h ht hok
  go_enter Tryd.func26, Tryd.ntmps26
  go_wp2_with fail
  refine HV.out.mono ?_
  rintro e w' ⟨rfl, rfl⟩
  rw [HO.out]
  go_wp2
  go_returns
  exact ⟨rfl, Below.refl _ _⟩
/-- What Objects returns. -/
def obV (L n : Nat) (C : Nat → Int) (F : Nat → Nat → Int) : Value := if shB L n C F = true then (if (obF (exS n C F) L).1 = 0 then .tuple #[.int .i64 0, .int .i64 4] else .tuple #[.int .i64 (obF (exS n C F) L).1, .int .i64 0]) else .tuple #[.int .i64 0, .int .i64 2]
set_option maxHeartbeats 1000000 in
set_option maxRecDepth 1000000 in
theorem objects_ok (A B : Option Addr) (L c n c' : Nat) (C : Nat → Int) (F : Nat → Nat → Int) (w : World) (h : Ints w A L C) (hf : Recs 2 w B n F) (hn : n ≤ 10000) (hok : okC L C = true) (ht : Tab w) :
    Lr 44 #[.slice A L c, .slice B n c'] w (obV L n C F) := by
  unfold Lr
  obtain ⟨k, hk, hk1, hk4, hLk, hL2, hL16⟩ := okC_n hok
  have H := Lib.hid h
  have HF := Lib.hid hf
  have HO := Lib.hid hok
  have HV := Lib.hid (valid_any A L c C w h (by omega) ht)
  have HSh := Lib.hid (sharesAll_any A B L c n c' C F w h hf hn hok ht)
  have HS : Hid (obV L n C F = if shB L n C F = true then (if (obF (exS n C F) L).1 = 0 then .tuple #[.int .i64 0, .int .i64 4] else .tuple #[.int .i64 (obF (exS n C F) L).1, .int .i64 0]) else .tuple #[.int .i64 0, .int .i64 2]) := Lib.hid rfl
  have HPy := Lib.hid (@shB_py L n C F)
  clear h hf ht hok hLk
  cases hsh : shB L n C F with
  | false =>
    have HS2 : Hid (obV L n C F = .tuple #[.int .i64 0, .int .i64 2]) := Lib.hid (by rw [HS.out, hsh]; rfl)
    rw [hsh] at HSh
    clear hsh
    go_enter Tryd.func44, Tryd.ntmps44
    go_wp2_with fail
    refine HV.out.mono ?_
    rintro e w' ⟨rfl, rfl⟩
    rw [HO.out]
    go_wp2_with fail
    refine HSh.out.use fun w2 hb => ?_
    go_wp2
    go_returns
    exact ⟨by rw [HS2.out]; rfl, hb⟩
  | true =>
    have hpy := HPy.out hsh
    have hn4 : n ≤ 4 := by omega
    have HOb := Lib.hid (fun (w2 : World) (hb : Below w.heap.size w w2) => objector_any A B L c n c' C F w2 (H.out.keep hb) (HF.out.keep hb) hn4 HO.out hpy.2.1)
    have HS2 : Hid (obV L n C F = if (obF (exS n C F) L).1 = 0 then .tuple #[.int .i64 0, .int .i64 4] else .tuple #[.int .i64 (obF (exS n C F) L).1, .int .i64 0]) := Lib.hid (by rw [HS.out, hsh]; rfl)
    rw [hsh] at HSh
    clear hsh hpy
    generalize (obF (exS n C F) L).1 = x at *
    go_enter Tryd.func44, Tryd.ntmps44
    go_wp2_with fail
    refine HV.out.mono ?_
    rintro e w' ⟨rfl, rfl⟩
    rw [HO.out]
    go_wp2_with fail
    refine HSh.out.use fun w2 hb => ?_
    have HB := Lib.hid hb
    clear hb
    go_wp2_with fail
    refine (HOb.out w2 HB.out).use fun w3 hb3 => ?_
    have HB3 := Lib.hid (HB.out.trans (hb3.mono HB.out.size))
    clear hb3
    by_cases hx : x = 0
    · have HS3 : Hid (obV L n C F = .tuple #[.int .i64 0, .int .i64 4]) := Lib.hid (by rw [HS2.out, if_pos hx])
      have hz := beq_t hx
      clear hx
      go_wp2
      go_returns
      exact ⟨by rw [HS3.out]; rfl, HB3.out⟩
    · have HS3 : Hid (obV L n C F = .tuple #[.int .i64 x, .int .i64 0]) := Lib.hid (by rw [HS2.out, if_neg hx])
      have hz := beq_f hx
      clear hx
      go_wp2
      go_returns
      exact ⟨by rw [HS3.out]; rfl, HB3.out⟩
set_option maxHeartbeats 1000000 in
theorem objects_bad (A B : Option Addr) (L c n c' : Nat) (C : Nat → Int) (w : World) (h : Ints w A L C) (hL : L ≤ 18) (hok : okC L C = false) (ht : Tab w) :
    Lr 44 #[.slice A L c, .slice B n c'] w (.tuple #[.int .i64 0, .int .i64 2]) := by
  unfold Lr
  have HV := Lib.hid (valid_any A L c C w h hL ht)
  have HO := Lib.hid hok
  clear h ht hok
  go_enter Tryd.func44, Tryd.ntmps44
  go_wp2_with fail
  refine HV.out.mono ?_
  rintro e w' ⟨rfl, rfl⟩
  rw [HO.out]
  go_wp2
  go_returns
  exact ⟨rfl, Below.refl _ _⟩
end Go.Proofs.YtoeimngbpagegaaDoor
