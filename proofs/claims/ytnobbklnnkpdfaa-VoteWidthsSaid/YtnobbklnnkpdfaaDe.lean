/- slices.DeleteFunc with the closure of Path. -/
import Derived.Test.YtnobbklnnkpdfaaWz
import Derived.Test.YtnobbklnnkpdfaaUp
import Derived.Lib.LazyBuf
import Derived.Lib.SliceRun
namespace Go.Proofs.Ytnobbklnnkpdfaa
open Go.RowKit

set_option maxHeartbeats 1000000 in
set_option maxRecDepth 1000000 in
theorem path1_any (x a b : Int) (pa pb : Nat) (w : World) (ha : w.cell? ⟨pa, 0, none⟩ = some (.int .i64 a)) (hb : w.cell? ⟨pb, 0, none⟩ = some (.int .i64 b)) :
    Ro 48 #[.int .i64 x, .pointer (some ⟨pa, 0, none⟩), .pointer (some ⟨pb, 0, none⟩)] w (.bool (decide (x = a) || decide (x = b))) := by
  refine Ro.of ?_
  by_cases h1 : x = a
  · have q1 := beq_t h1
    have e : (decide (x = a) || decide (x = b)) = true := by simp [h1]
    rw [e]
    clear h1 e
    go_enter Try.func48, Try.ntmps48
    go_wp2
    go_ret
    exact ⟨rfl, Dn.refl _⟩
  · have q1 := beq_f h1
    by_cases h2 : x = b
    · have q2 := beq_t h2
      have e : (decide (x = a) || decide (x = b)) = true := by simp [h2]
      rw [e]
      clear h1 h2 e
      go_enter Try.func48, Try.ntmps48
      go_wp2
      go_ret
      exact ⟨rfl, Dn.refl _⟩
    · have q2 := beq_f h2
      have e : (decide (x = a) || decide (x = b)) = false := by simp [h1, h2]
      rw [e]
      clear h1 h2 e
      go_enter Try.func48, Try.ntmps48
      go_wp2
      go_ret
      exact ⟨rfl, Dn.refl _⟩
/-- The numbers below c, but for a and b, in order: the t-th. -/
def kfN (m M t : Nat) : Nat := if t < m then t else if t + 1 < M then t + 1 else t + 2
theorem kfN_list : ∀ c, c < 6 → ∀ a, a < c → ∀ b, b < c → a ≠ b → (((List.range c).filter (fun x => !(x == a))).filter (fun x => !(x == b))).length = c - 2 ∧ ∀ t, t < c - 2 → (((List.range c).filter (fun x => !(x == a))).filter (fun x => !(x == b))).getD t 0 = kfN (min a b) (max a b) t := by decide +kernel

set_option maxHeartbeats 1000000 in
set_option maxRecDepth 1000000 in
theorem indexFunc_any (g n a b : Nat) (pa pb : Nat) (w : World) (h : RowI w g n (fun j => (j : Int))) (hn : n ≤ 9) (hab : min a b < n) (ha : w.cell? ⟨pa, 0, none⟩ = some (.int .i64 (a : Int))) (hb : w.cell? ⟨pb, 0, none⟩ = some (.int .i64 (b : Int))) :
    Ro 70 #[.slice (some ⟨g, 0, none⟩) n n, .func (.func 48) #[] #[.pointer (some ⟨pa, 0, none⟩), .pointer (some ⟨pb, 0, none⟩)]] w (.int .i64 ((min a b : Nat) : Int)) := by
  refine Ro.of ?_
  have H := Lib.hid h
  have HA := Lib.hid ha
  have HB := Lib.hid hb
  obtain ⟨m, hm⟩ : ∃ m, m = min a b := ⟨_, rfl⟩
  rw [← hm] at hab ⊢
  have HMn := Lib.hid hm
  clear h ha hb hm
  go_enter Try.func70, Try.ntmps70
  go_wp2_with fail
  go_loopw [8] (fun i wr => ∃ k : Nat, k ≤ m ∧ i = .int .i64 k ∧ Dn w wr) (fun i _ => n - (intOf i).toNat)
  case atStart => exact ⟨0, Nat.zero_le _, rfl, Dn.refl _⟩
  case round =>
    obtain ⟨k, hk, rfl, hD⟩ := hrel
    have HD := Lib.hid hD
    clear hD
    have hkn : k < n := by omega
    have hc := (H.out.dn HD.out).cell hkn
    have HP := Lib.hid (path1_any (k : Int) (a : Int) (b : Int) pa pb wr (by obtain ⟨z, rfl⟩ := HD.out; exact HA.out) (by obtain ⟨z, rfl⟩ := HD.out; exact HB.out))
    go_wp2_with fail
    refine Ro.use HP.out ?_
    intro w2 hd2
    have HD2 := Lib.hid (HD.out.trans hd2)
    clear hd2 HP hc
    by_cases hkm : k = m
    · have e : (decide ((k : Int) = (a : Int)) || decide ((k : Int) = (b : Int))) = true := by
        have := HMn.out
        simp only [Bool.or_eq_true, decide_eq_true_eq]
        omega
      rw [e]
      have HK := Lib.hid hkm
      clear e hkm
      go_wp2
      go_ret
      exact ⟨ret_int (by rw [HK.out]), HD2.out⟩
    · have e : (decide ((k : Int) = (a : Int)) || decide ((k : Int) = (b : Int))) = false := by
        have := HMn.out
        simp only [Bool.or_eq_false_iff, decide_eq_false_iff_not]
        omega
      rw [e]
      clear e
      go_wp2
      go_roundw
      case rel => exact ⟨k + 1, by omega, by go_num, HD2.out⟩
      case measure => simp [intOf]; omega

set_option maxHeartbeats 1000000 in
set_option maxRecDepth 1000000 in
theorem deleteFunc_any (g n a b : Nat) (pa pb : Nat) (w : World) (h : RowI w g n (fun j => (j : Int))) (hn : n ≤ 9) (ha' : a < n) (hb' : b < n) (hab : a ≠ b) (hpa : pa ≠ g) (hpb : pb ≠ g) (ha : w.cell? ⟨pa, 0, none⟩ = some (.int .i64 (a : Int))) (hb : w.cell? ⟨pb, 0, none⟩ = some (.int .i64 (b : Int))) :
    Calls Try.prog 47 #[.slice (some ⟨g, 0, none⟩) n n, .func (.func 48) #[] #[.pointer (some ⟨pa, 0, none⟩), .pointer (some ⟨pb, 0, none⟩)]] w fun e w' =>
      e = .returned (.slice (some ⟨g, 0, none⟩) (n - 2) n) ∧ (∃ D, RowI w' g n D ∧ ∀ t, t < n - 2 → D t = ((kfN (min a b) (max a b) t : Nat) : Int)) ∧ Exc g w w' := by
  have H := Lib.hid h
  have HA := Lib.hid ha
  have HB := Lib.hid hb
  have HI := Lib.hid (indexFunc_any g n a b pa pb w h hn (by omega) ha hb)
  obtain ⟨m, hm⟩ : ∃ m, m = min a b := ⟨_, rfl⟩
  obtain ⟨M, hM⟩ : ∃ M, M = max a b := ⟨_, rfl⟩
  rw [← hm] at HI ⊢
  rw [← hM]
  have HMn := Lib.hid hm
  have HMx := Lib.hid hM
  have hmM : m < M := by omega
  have hMn : M < n := by omega
  clear h ha hb hm hM
  have hm1 := beq_f (fun e => by omega : ¬ (m : Int) = -1)
  go_enter Try.func47, Try.ntmps47
  go_wp2_with fail
  refine Ro.use HI.out ?_
  intro w1 hd1
  have H1 := Lib.hid (H.out.dn hd1)
  have HA1 : Hid (w1.cell? ⟨pa, 0, none⟩ = some (.int .i64 (a : Int))) := Lib.hid (by obtain ⟨z, rfl⟩ := hd1; exact HA.out)
  have HB1 : Hid (w1.cell? ⟨pb, 0, none⟩ = some (.int .i64 (b : Int))) := Lib.hid (by obtain ⟨z, rfl⟩ := hd1; exact HB.out)
  have HD1 := Lib.hid hd1
  clear hd1 HI
  go_wp2_with fail
  have hnI : (m : Int) < (n : Int) := by omega
  go_loopw [5, 6] (fun i j wr => ∃ I J : Nat, m + 1 ≤ J ∧ J ≤ n ∧ I = (if J ≤ M then J - 1 else J - 2) ∧ i = .int .i64 I ∧ j = .int .i64 J ∧ (∃ D, RowI wr g n D ∧ (∀ t, t < I → D t = ((kfN m M t : Nat) : Int)) ∧ ∀ t, J ≤ t → t < n → D t = (t : Int)) ∧ Exc g w wr) (fun _ j _ => n - (intOf j).toNat)
  case atStart =>
    refine ⟨m, m + 1, by omega, by omega, by rw [if_pos (by omega)]; omega, rfl, by go_num, ⟨_, H1.out, fun t ht => ?_, fun t _ _ => rfl⟩, Exc.of_below (HD1.out.below _)⟩
    unfold kfN
    rw [if_pos ht]
  case round =>
    obtain ⟨I, J, h1, h2, hI, rfl, rfl, ⟨D, hR, hD1, hD2⟩, hE⟩ := hrel
    have HR := Lib.hid hR
    have HDa := Lib.hid hD1
    have HDb := Lib.hid hD2
    have HE := Lib.hid hE
    have HIe := Lib.hid hI
    have hIJ : I < J := by rw [hI]; split <;> omega
    clear hR hD1 hD2 hE hI
    by_cases hlt : J < n
    · have hcJ := HR.out.cell hlt
      rw [HDb.out J (Nat.le_refl _) hlt] at hcJ
      have hcI : ∃ z, wr.cell? ⟨g, I, none⟩ = some (.int .i64 z) := ⟨_, HR.out.cell (show I < n by omega)⟩
      obtain ⟨z, hcI⟩ := hcI
      have hfz := HR.out.frozen I
      have HP := Lib.hid (path1_any (J : Int) (a : Int) (b : Int) pa pb wr (HE.out.cell HA.out hpa) (HE.out.cell HB.out hpb))
      go_wp2_with fail
      refine Ro.use HP.out ?_
      intro w2 hd2
      have HE2 := Lib.hid (HE.out.trans (Exc.of_below (hd2.below wr.heap.size)))
      have HR2 := Lib.hid (HR.out.dn hd2)
      have hcI2 : w2.cell? ⟨g, I, none⟩ = some (.int .i64 z) := by obtain ⟨q, rfl⟩ := hd2; exact hcI
      have hfz2 := HR2.out.frozen I
      clear hd2 HP hcJ hcI hfz
      by_cases hJM : J = M
      · have e : (decide ((J : Int) = (a : Int)) || decide ((J : Int) = (b : Int))) = true := by
          have := HMn.out
          have := HMx.out
          simp only [Bool.or_eq_true, decide_eq_true_eq]
          omega
        have HI2 : Hid (I = if J + 1 ≤ M then J + 1 - 1 else J + 1 - 2) := Lib.hid (by rw [HIe.out, if_pos (by omega), if_neg (by omega)]; omega)
        rw [e]
        clear e hJM
        go_wp2
        go_roundw
        case rel => exact ⟨I, J + 1, by omega, by omega, HI2.out, rfl, by go_num, ⟨D, HR2.out, HDa.out, fun t h1 h2 => HDb.out t (by omega) h2⟩, HE2.out⟩
        case measure => simp [intOf]; omega
      · have e : (decide ((J : Int) = (a : Int)) || decide ((J : Int) = (b : Int))) = false := by
          have := HMn.out
          have := HMx.out
          simp only [Bool.or_eq_false_iff, decide_eq_false_iff_not]
          omega
        have HI2 : Hid (I + 1 = (if J + 1 ≤ M then J + 1 - 1 else J + 1 - 2) ∧ kfN m M I = J) := Lib.hid (by
          unfold kfN
          rw [HIe.out]
          by_cases hl : J < M
          · rw [if_pos (by omega), if_pos (by omega), if_neg (by omega), if_pos (by omega)]; omega
          · rw [if_neg (by omega), if_neg (by omega), if_neg (by omega), if_neg (by omega)]; omega)
        rw [e]
        clear e hJM
        go_wp2
        go_roundw
        case rel => exact ⟨I + 1, J + 1, by omega, by omega, HI2.out.1, by go_num, by go_num, ⟨_, HR2.out.set I (J : Int), fun t ht => by
          unfold upd
          by_cases et : t = I
          · rw [if_pos et, et, HI2.out.2]
          · rw [if_neg et]; exact HDa.out t (by omega), fun t h1 h2 => by
          unfold upd
          rw [if_neg (by omega)]
          exact HDb.out t (by omega) h2⟩, HE2.out.set I _⟩
        case measure => simp [intOf]; omega
    · have hJn : J = n := by omega
      have hI2 : I = n - 2 := by rw [HIe.out, if_neg (by omega), hJn]
      rw [hJn]
      have hIn : I < n := by omega
      have HIn := Lib.hid hI2
      have hnl : ¬ (n : Int) < (n : Int) := by omega
      clear hJn hI2 hIJ h1 h2 hlt HDb HIe
      go_wp2_with fail
      have hcl := HR.out
      rw [Lib.run_clear_slice (P := Try.prog) wr 23 3 0 (.int .i64 0) Try.underlying23 (fun w => by kernel_rfl) rfl rfl g I (n - I) (n - I) (by omega) (fun j hj => by rw [hcl.cell (show I + j < n by omega)]; rfl) (fun j hj => hcl.frozen _)]
      simp only [Result.andThen_ok]
      rw [Oper.upon_value]
      have hRz : RowI (wr.setCells g I (List.replicate (n - I) (.int .i64 0))) g n (fun t => if t < I then D t else 0) := World.rowIs.congr (rowIs_setCells (List.replicate (n - I) (.int .i64 0)) I wr _ HR.out) (fun j hj => by
        by_cases e : j < I
        · rw [if_neg (by omega)]; simp only [if_pos e]
        · rw [if_pos (by simp; omega)]
          simp only [if_neg e]
          rw [List.getElem?_replicate, if_pos (by omega)]
          rfl)
      have HEz : Hid (Exc g w (wr.setCells g I (List.replicate (n - I) (.int .i64 0)))) := Lib.hid (by
        have key : ∀ (vs : List Value) (o : Nat) (W : World), Exc g w W → Exc g w (W.setCells g o vs) := by
          intro vs
          induction vs with
          | nil => intro o W h; exact h
          | cons v r ih => intro o W h; exact ih (o + 1) _ (h.set o v)
        exact key _ _ _ HE.out)
      have HRz := Lib.hid hRz
      clear hRz hcl
      generalize wr.setCells g I (List.replicate (n - I) (.int .i64 0)) = w3 at *
      go_wp2
      go_ret
      have hI2 := HIn.out
      refine ⟨(by rw [hI2] : Ending.returned (.slice (some ⟨g, 0, none⟩) I n) = _), ⟨_, HRz.out, fun t ht => ?_⟩, HEz.out⟩
      rw [if_pos (by omega)]
      exact HDa.out t (by omega)
end Go.Proofs.Ytnobbklnnkpdfaa
