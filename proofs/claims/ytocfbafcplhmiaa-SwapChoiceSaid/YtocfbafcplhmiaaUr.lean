/- swap: OnesCount, Objects. -/
import Derived.Test.YtocfbafcplhmiaaUq
import Derived.IntWalk
namespace Go.Proofs.Ytocfbafcplhmiaa
open Go.RowKit

def pc5 (s : Nat) : Nat := s % 2 + s / 2 % 2 + s / 4 % 2 + s / 8 % 2 + s / 16 % 2
theorem pc5_le : ∀ s : Nat, s < 32 → pc5 s ≤ 5 := by decide +kernel
set_option maxHeartbeats 8000000 in
set_option maxRecDepth 1000000 in
theorem ones564_any (s : Nat) (hs : s < 32) (w : World) : Calls Try.prog 85 #[.int .u64 s] w fun e w' => e = .returned (.int .i64 (pc5 s : Int)) ∧ w = w' := by
  have : s = 0 ∨ s = 1 ∨ s = 2 ∨ s = 3 ∨ s = 4 ∨ s = 5 ∨ s = 6 ∨ s = 7 ∨ s = 8 ∨ s = 9 ∨ s = 10 ∨ s = 11 ∨ s = 12 ∨ s = 13 ∨ s = 14 ∨ s = 15 ∨ s = 16 ∨ s = 17 ∨ s = 18 ∨ s = 19 ∨ s = 20 ∨ s = 21 ∨ s = 22 ∨ s = 23 ∨ s = 24 ∨ s = 25 ∨ s = 26 ∨ s = 27 ∨ s = 28 ∨ s = 29 ∨ s = 30 ∨ s = 31 := by omega
  rcases this with rfl | rfl | rfl | rfl | rfl | rfl | rfl | rfl | rfl | rfl | rfl | rfl | rfl | rfl | rfl | rfl | rfl | rfl | rfl | rfl | rfl | rfl | rfl | rfl | rfl | rfl | rfl | rfl | rfl | rfl | rfl | rfl
  all_goals
    go_enter Try.func85, Try.ntmps85
    go_wp2
    go_ret
    exact ⟨ret_int (by decide +kernel), rfl⟩
theorem ones5_any (s : Nat) (hs : s < 32) (w : World) : Calls Try.prog 62 #[.int .u64 s] w fun e w' => e = .returned (.int .i64 (pc5 s : Int)) ∧ w = w' := by
  have H := Lib.hid (ones564_any s hs w)
  go_enter Try.func62, Try.ntmps62
  go_wp2_with fail
  refine H.out.mono ?_
  rintro e w' ⟨rfl, rfl⟩
  go_wp2
  go_ret
  exact ⟨rfl, rfl⟩
/-- The first of the smallest groups below m that object, and its size. -/
def obR (ob : Nat → Bool) (n : Nat) : Nat → Nat × Nat
  | 0 => (0, n + 1)
  | m + 1 => if pc5 m < (obR ob n m).2 ∧ ob m = true then (m, pc5 m) else obR ob n m
theorem obR_le {ob : Nat → Bool} {n : Nat} (hn : n ≤ 5) : ∀ m, m ≤ 32 → (obR ob n m).1 ≤ 32 ∧ (obR ob n m).2 ≤ 6 := by
  intro m
  induction m with
  | zero => intro _; exact ⟨by simp [obR], by simp [obR]; omega⟩
  | succ m ih =>
    intro hm
    rw [obR]
    split
    · exact ⟨by show m ≤ 32; omega, by have := pc5_le m (by omega); show pc5 m ≤ 6; omega⟩
    · exact ih (by omega)
def obV (t : Nat → Nat → Nat) (n : Nat) (h : Nat → Nat) : Value := if (obR (fun s => obB t n s h) n (2 ^ n)).1 = 0 then .tuple #[.int .i64 0, .int .i64 4] else .tuple #[.int .i64 (obR (fun s => obB t n s h) n (2 ^ n)).1, .int .i64 0]

set_option maxHeartbeats 1000000 in
set_option maxRecDepth 1000000 in
theorem Objects_bad (A : Option Addr) (n c : Nat) (L : Nat → Nat) (v : Nat → Nat → Int) (G : Option Addr) (m cG : Nat) (w : World) (h : RowsK w A n L v) (hn : n ≤ 1000) (hL : ∀ i, i < n → L i ≤ 1000) (hok : okS n L v = false) :
    Lr 30 #[.slice A n c, .slice G m cG] w (.tuple #[.int .i64 0, .int .i64 2]) := by
  unfold Lr
  have HRd := Lib.hid (read_any A n c L v w h hn hL)
  rw [hok] at HRd
  clear h hL hok
  go_enter Try.func30, Try.ntmps30
  go_wp2_with fail
  refine HRd.out.use fun w1 hb1 => ?_
  have HB := Lib.hid (hb1.trans ((box_bel w1 (.cells #[.int .i64 0, .slice none 0 0] 50)).mono hb1.size))
  clear hb1 HRd
  unfold rdV
  simp only [Bool.false_eq_true, if_false]
  go_wp2
  go_ret2
  exact ⟨rfl, HB.out⟩
set_option maxHeartbeats 1000000 in
set_option maxRecDepth 1000000 in
theorem Objects_bad2 (A : Option Addr) (n c : Nat) (L : Nat → Nat) (v : Nat → Nat → Int) (G : Option Addr) (m cG : Nat) (f : Nat → Int) (w : World) (h : RowsK w A n L v) (hn : n ≤ 1000) (hL : ∀ i, i < n → L i ≤ 1000) (hok : okS n L v = true)
    (hG : Ints w G m f) (hm : m ≤ 1000) (hmc : m ≤ cG) (hof : ordB n m f = false) :
    Lr 30 #[.slice A n c, .slice G m cG] w (.tuple #[.int .i64 0, .int .i64 2]) := by
  unfold Lr
  have HRd := Lib.hid (read_any A n c L v w h hn hL)
  rw [hok] at HRd
  have hn15 := (okS_iff.1 hok).1
  have HO := Lib.hid (fun w (h : Ints w G m f) => isOrder_any G m cG n f w h hm hmc hn15)
  rw [hof] at HO
  have HG := Lib.hid hG
  clear h hL hok hG hof
  go_enter Try.func30, Try.ntmps30
  go_wp2_with fail
  refine HRd.out.use fun w1 hb1 => ?_
  have hbx := box2_at w1 (.int .i64 n) (.slice A n c) 50
  have HB := Lib.hid (hb1.trans ((box_bel w1 (.cells #[.int .i64 n, .slice A n c] 50)).mono hb1.size))
  have e0 := hbx.1
  clear hb1 HRd hbx
  unfold rdV
  simp only [if_true]
  go_wp2_with fail
  refine (HO.out _ (HG.out.keep HB.out)).mono ?_
  rintro e w2 ⟨rfl, rfl⟩
  go_wp2
  go_ret2
  exact ⟨rfl, HB.out⟩

set_option maxHeartbeats 4000000 in
set_option maxRecDepth 1000000 in
theorem Objects_ok (A : Option Addr) (n c : Nat) (t : Nat → Nat → Nat) (G : Option Addr) (cG : Nat) (f : Nat → Nat) (w : World) (h : Wis w A n t) (hG : Ints w G n (fun k => (f k : Int))) (hcG : n ≤ cG) (hn1 : 1 ≤ n) (hn : n ≤ 5) (ht : ∀ i, i < n → Pm n (t i)) (hp : Pm n f) :
    Lr 30 #[.slice A n c, .slice G n cG] w (obV t n f) := by
  unfold Lr
  have H0 := Lib.hid h
  have HG0 := Lib.hid hG
  have HT := Lib.hid ht
  have HP := Lib.hid hp
  have HRd := Lib.hid (read_any A n c (fun _ => n) (fun i k => (t i k : Int)) w h (by omega) (fun _ _ => by omega))
  have hok : okS n (fun _ => n) (fun i k => (t i k : Int)) = true := okS_iff.2 ⟨⟨hn1, hn⟩, fun i hi => ⟨rfl, (ht i hi).ord⟩⟩
  rw [hok] at HRd
  have HO := Lib.hid (fun w (h : Ints w G n (fun k => (f k : Int))) => isOrder_any G n cG n (fun k => (f k : Int)) w h (by omega) hcG ⟨hn1, hn⟩)
  rw [show ordB n n (fun k => (f k : Int)) = true from ordB_iff.2 ⟨rfl, hp.ord⟩] at HO
  clear h ht hok hG hp
  go_enter Try.func30, Try.ntmps30
  go_wp2_with fail
  refine HRd.out.use fun w1 hb1 => ?_
  have hbx := box2_at w1 (.int .i64 n) (.slice A n c) 50
  have hbb := hb1.trans ((box_bel w1 (.cells #[.int .i64 n, .slice A n c] 50)).mono hb1.size)
  have hgw := hb1.size
  have HB := Lib.hid hbb
  have HS := Lib.hid hbx
  have e0 := hbx.1
  have e1 := hbx.2
  clear hbb hbx hb1 HRd
  unfold rdV
  simp only [if_true]
  go_wp2_with fail
  generalize w1.alloc (.cells #[.int .i64 n, .slice A n c] 50) = X at *
  refine (HO.out _ (HG0.out.keep HB.out)).mono ?_
  rintro e w2 ⟨rfl, rfl⟩
  generalize w1.heap.size = g at *
  have H := Lib.hid (H0.out.keep HB.out)
  have HG := Lib.hid (HG0.out.keep HB.out)
  have hsX := HB.out.size
  have hw1 : wrap64 ((n : Int) + 1) = (n : Int) + 1 := IntWalk.wrap64_in _ (by omega)
  have hw1b : IntKind.i64.wrap ((n : Int) + 1) = (n : Int) + 1 := IntWalk.i64_in _ ⟨by omega, by omega⟩
  have HV : Hid (obV t n f = if (obR (fun s => obB t n s f) n (2 ^ n)).1 = 0 then .tuple #[.int .i64 0, .int .i64 4] else .tuple #[.int .i64 (obR (fun s => obB t n s f) n (2 ^ n)).1, .int .i64 0]) := Lib.hid rfl
  have HOb := Lib.hid (fun s w (hw : Wis w A n t) (hg : Ints w G n (fun k => (f k : Int))) => objects_any A n c t s G cG f w hw hg hn HT.out HP.out.lt)
  have HEv := Lib.hid (fun w => everyone_any A n c hn w)
  have HR : Hid (∀ m, obR (fun s => obB t n s f) n (m + 1) = if pc5 m < (obR (fun s => obB t n s f) n m).2 ∧ obB t n m f = true then (m, pc5 m) else obR (fun s => obB t n s f) n m) := Lib.hid (fun _ => rfl)
  have HRb : Hid (∀ m, m ≤ 32 → (obR (fun s => obB t n s f) n m).1 ≤ 32 ∧ (obR (fun s => obB t n s f) n m).2 ≤ 6) := Lib.hid (fun m hm => obR_le (by omega) m hm)
  have HZ : Hid (obR (fun s => obB t n s f) n 0 = (0, n + 1)) := Lib.hid rfl
  have h2n : 2 ^ n ≤ 32 := by have := full_lt n (by omega); have : 1 ≤ 2 ^ n := Nat.one_le_two_pow; omega
  have h2p : 1 ≤ 2 ^ n := Nat.one_le_two_pow
  generalize obR (fun s => obB t n s f) n = R at *
  obtain ⟨N, hN⟩ : ∃ N, N = 2 ^ n := ⟨_, rfl⟩
  rw [← hN] at HV HEv h2n h2p
  have HN := Lib.hid hN
  clear hN
  go_wp2_with fail
  refine wp_region_later (by kernel_rfl) (by kernel_rfl) ?_
  have k0 : ∀ q : Later X, q.to.cell? ⟨g, 0, none⟩ = some (.int .i64 n) := fun q => q.cell HS.out.1
  repeat
    (with_reducible refine wpQuiet_step ?_
     intro K hK
     go_simp
     (refine hK _ ?_; clear hK K))
  with_reducible refine wpQuiet_nil ?_
  intro W2 hw'
  obtain ⟨p2, hw''⟩ := hw'
  have hp2 := p2.below
  rw [← hw''] at hp2
  clear hw'' p2 k0
  have HS2 := Lib.hid (HS.out.keep hp2)
  have HB2 := Lib.hid (HB.out.trans (hp2.mono hsX))
  have H2 := Lib.hid (H.out.keep hp2)
  have HG2 := Lib.hid (HG.out.keep hp2)
  have e0 := HS2.out.1
  have e1 := HS2.out.2
  clear hp2 HS H HG
  go_wp2_with fail
  refine (HEv.out _).use fun w3 hb3 => ?_
  have HS3 := Lib.hid (HS2.out.keep hb3)
  have HB3 := Lib.hid (HB2.out.trans (hb3.mono HB2.out.size))
  have H3 := Lib.hid (H2.out.keep hb3)
  have HG3 := Lib.hid (HG2.out.keep hb3)
  have eN : ((N - 1 : Nat) : Int) + 1 = (N : Int) := by omega
  have hw2 : wrap64 (((N - 1 : Nat) : Int) + 1) = (N : Int) := by rw [eN]; exact IntWalk.wrap64_in _ (by omega)
  have HBw := Lib.hid (HB3.out)
  clear hb3 HS2 H2 HG2 HB2 HEv
  go_wp2_with fail
  go_loopw [8, 9, 32] (fun fi fe i wr => ∃ m : Nat, m ≤ N ∧ i = .int .i64 m ∧ fi = .int .i64 (R m).1 ∧ fe = .int .i64 (R m).2 ∧ Below w3.heap.size w3 wr) (fun _ _ i _ => N - (intOf i).toNat)
  case atStart => exact ⟨0, Nat.zero_le _, rfl, by rw [HZ.out]; rfl, by first | (rw [HZ.out]; done) | (rw [HZ.out]; exact val_int (by omega)), Below.refl _ _⟩
  case round =>
    obtain ⟨m, hm, rfl, rfl, rfl, hD⟩ := hrel
    have HD := Lib.hid hD
    clear hD e0 e1
    have hb := HRb.out m (by omega)
    by_cases hlt : m < N
    · have HRm := Lib.hid (HR.out m)
      have HSr := Lib.hid (HS3.out.keep HD.out)
      have e0 := HSr.out.1
      have e1 := HSr.out.2
      have HOn := Lib.hid (fun w => ones5_any m (by omega) w)
      have hpb := pc5_le m (by omega)
      have HObm := Lib.hid (HOb.out m wr (H3.out.keep HD.out) (HG3.out.keep HD.out))
      generalize hR1 : (R m).1 = r1 at *
      generalize hR2 : (R m).2 = r2 at *
      have HR1 := Lib.hid hR1
      have HR2 := Lib.hid hR2
      clear hR1 hR2
      have hcv : IntKind.wrap .u64 (m : Int) = (m : Int) := by rw [IntKind.wrap_u64]; omega
      generalize pc5 m = pm at *
      go_wp2_with fail
      refine (HOn.out _).mono ?_
      rintro e w' ⟨rfl, rfl⟩
      by_cases hpm : pm < r2
      · have hd : decide ((pm : Int) < (r2 : Int)) = true := decide_eq_true (by omega)
        cases hob : obB t n m f with
        | false =>
          rw [hob] at HObm HRm
          have HRm2 : Hid (R (m + 1) = R m) := Lib.hid (by rw [HRm.out]; simp)
          clear hob
          go_wp2_with fail
          refine HObm.out.use fun w5 hb5 => ?_
          have HD5 := Lib.hid (HD.out.trans (hb5.mono HD.out.size))
          clear hb5
          go_wp2
          go_roundw
          case rel => exact ⟨m + 1, by omega, by go_num, by rw [HRm2.out, HR1.out], by rw [HRm2.out, HR2.out], HD5.out⟩
          case measure => simp [intOf]; omega
        | true =>
          rw [hob] at HObm HRm
          have HRm2 : Hid (R (m + 1) = (m, pm)) := Lib.hid (by rw [HRm.out, if_pos ⟨hpm, rfl⟩])
          clear hob
          go_wp2_with fail
          refine HObm.out.use fun w5 hb5 => ?_
          have HD5 := Lib.hid (HD.out.trans (hb5.mono HD.out.size))
          clear hb5
          go_wp2
          go_roundw
          case rel => exact ⟨m + 1, by omega, by go_num, by rw [HRm2.out], by rw [HRm2.out], HD5.out⟩
          case measure => simp [intOf]; omega
      · have hd : decide ((pm : Int) < (r2 : Int)) = false := decide_eq_false (by omega)
        have HRm2 : Hid (R (m + 1) = R m) := Lib.hid (by rw [HRm.out, if_neg (fun h => hpm h.1)])
        go_wp2
        go_roundw
        case rel => exact ⟨m + 1, by omega, by go_num, by rw [HRm2.out, HR1.out], by rw [HRm2.out, HR2.out], HD.out⟩
        case measure => simp [intOf]; omega
    · obtain rfl : m = N := by omega
      have HBe := Lib.hid (HBw.out.trans (HD.out.mono HBw.out.size))
      by_cases hz : (R m).1 = 0
      · have HV2 : Hid (obV t n f = .tuple #[.int .i64 0, .int .i64 4]) := Lib.hid (by rw [HV.out, if_pos hz])
        have hq := beq_t (a := (((R m).1 : Nat) : Int)) (b := 0) (by omega)
        clear hz
        go_wp2
        go_ret2
        exact ⟨by rw [HV2.out]; rfl, HBe.out⟩
      · have HV2 : Hid (obV t n f = .tuple #[.int .i64 (R m).1, .int .i64 0]) := Lib.hid (by rw [HV.out, if_neg hz])
        have hq := beq_f (a := (((R m).1 : Nat) : Int)) (b := 0) (by omega)
        clear hz
        go_wp2
        go_ret2
        exact ⟨by rw [HV2.out]; rfl, HBe.out⟩
end Go.Proofs.Ytocfbafcplhmiaa
