/- Committee and Group: the program. -/
import Derived.Test.YtjomkbdelgnkcaaCp
namespace Go.Proofs.Ytjomkbdelgnkcaa
open Go.RowKit

def bestV : Option Nat → Int
  | none => 0
  | some b => b
def mostV (g : Nat → Nat) (n : Nat) : Option Nat → Int
  | none => -1
  | some b => (scN g b n : Nat)
theorem cmF_yes {g : Nat → Nat} {n k t : Nat} (h1 : pcN t = k) (h2 : mostV g n (cmF g n k t) < (scN g t n : Nat)) : cmF g n k (t + 1) = some t := by
  simp only [cmF]
  cases hc : cmF g n k t with
  | none => simp only [h1, if_true]
  | some b =>
    rw [hc] at h2
    have h3 : ((scN g b n : Nat) : Int) < (scN g t n : Nat) := h2
    simp only
    rw [if_pos ⟨h1, by omega⟩]
theorem cmF_no {g : Nat → Nat} {n k t : Nat} (h : ¬ (pcN t = k ∧ mostV g n (cmF g n k t) < (scN g t n : Nat))) : cmF g n k (t + 1) = cmF g n k t := by
  simp only [cmF]
  cases hc : cmF g n k t with
  | none =>
    rw [hc] at h
    simp only
    rw [if_neg (fun q => h ⟨q, by show (-1 : Int) < _; omega⟩)]
  | some b =>
    rw [hc] at h
    simp only
    rw [if_neg (fun q => h ⟨q.1, by show ((scN g b n : Nat) : Int) < (scN g t n : Nat); omega⟩)]

set_option maxHeartbeats 1000000 in
set_option maxRecDepth 1000000 in
theorem Committee_bad (c k : Int) (A : Option Addr) (n cA : Nat) (f : Nat → Int) (w : World) (h : Ints w A n f) (hn : n ≤ 1000) (hok : okAp c k n f = false) :
    Ro 15 #[.int .i64 c, .int .i64 k, .slice A n cA] w (.tuple #[.int .i64 0, .int .i64 2]) := by
  refine Ro.of ?_
  have HA := approvals_any c k A n cA f w h hn
  rw [hok] at HA
  have HA2 := Lib.hid HA
  clear h hok HA
  go_enter Try.func15, Try.ntmps15
  go_wp2_with fail
  refine Ro.use HA2.out ?_
  intro w2 hd2
  go_wp2
  go_ret2
  exact ⟨rfl, hd2⟩

set_option maxHeartbeats 1000000 in
set_option maxRecDepth 1000000 in
theorem Committee_ok (c k : Nat) (A : Option Addr) (n cA : Nat) (f : Nat → Int) (g : Nat → Nat) (w : World) (h : Ints w A n f) (hn : n ≤ 9) (hg : Sets n f g) (hc : c ≤ 8) (hok : okAp c k n f = true) :
    Ro 15 #[.int .i64 c, .int .i64 k, .slice A n cA] w (.tuple #[.int .i64 (bestV (cmF g n k (2 ^ c))), .int .i64 0]) := by
  refine Ro.of ?_
  have HA := approvals_any c k A n cA f w h (by omega)
  rw [hok] at HA
  have HA2 := Lib.hid HA
  have HSc : Hid (∀ (set : Nat) (w' : World), set < 256 → Dn w w' → Ro 31 #[.int .i64 set, .slice A n cA] w' (.int .i64 (scN g set n : Nat))) := Lib.hid (fun set w' hs hd => score_any A n cA set f g w' (h.dn hd) hn hg hs)
  have hpw := pow_wrap c (by omega)
  have hM : 2 ^ c ≤ 256 := by
    have : 2 ^ c ≤ 2 ^ 8 := Nat.pow_le_pow_right (by omega) hc
    omega
  clear h hok HA hg
  generalize 2 ^ c = M at *
  go_enter Try.func15, Try.ntmps15
  go_wp2_with fail
  refine Ro.use HA2.out ?_
  intro w2 hd2
  have HD2 := Lib.hid hd2
  clear hd2 HA2
  go_wp2_with fail
  rw [hpw]
  clear hpw
  go_loopw [8, 9, 19] (fun x y i wr => ∃ t : Nat, t ≤ M ∧ i = .int .i64 t ∧ x = .int .i64 (bestV (cmF g n k t)) ∧ y = .int .i64 (mostV g n (cmF g n k t)) ∧ Dn w wr) (fun _ _ i _ => M - (intOf i).toNat)
  case atStart => exact ⟨0, Nat.zero_le _, rfl, rfl, rfl, HD2.out⟩
  case round =>
    obtain ⟨t, ht, rfl, rfl, rfl, hD⟩ := hrel
    have HD := Lib.hid hD
    clear hD
    by_cases hlt : t < M
    · have HY : Hid (pcN t = k → mostV g n (cmF g n k t) < (scN g t n : Nat) → cmF g n k (t + 1) = some t) := Lib.hid cmF_yes
      have HNo : Hid (¬ (pcN t = k ∧ mostV g n (cmF g n k t) < (scN g t n : Nat)) → cmF g n k (t + 1) = cmF g n k t) := Lib.hid cmF_no
      have HBr : Hid (bestV (cmF g n k t) = bestV (cmF g n k t)) := Lib.hid rfl
      have HMr : Hid (mostV g n (cmF g n k t) = mostV g n (cmF g n k t)) := Lib.hid rfl
      generalize cmF g n k t = r at *
      have HO := Lib.hid (ones_any t (by omega) wr)
      have HS := Lib.hid (HSc.out t wr (by omega) HD.out)
      have hsb := scN_bd g t n
      have hu : IntKind.u64.wrap (t : Int) = (t : Int) := by
        rw [IntKind.wrap_u64]
        omega
      have HV : Hid (mostV g n (some t) = (scN g t n : Nat)) := Lib.hid rfl
      have HB : Hid (bestV (some t) = (t : Int)) := Lib.hid rfl
      go_wp2_with fail
      refine HO.out.mono ?_
      rintro e w3 ⟨rfl, rfl⟩
      generalize scN g t n = s at *
      generalize hb0 : bestV r = b0 at *
      generalize hm0 : mostV g n r = m0 at *
      have Hb0 := Lib.hid hb0
      have Hm0 := Lib.hid hm0
      clear hb0 hm0 HBr HMr
      have hpc := pcN_bd t
      generalize pcN t = p at *
      by_cases hpk : p = k
      · have hbn := bne_f (a := (p : Int)) (b := (k : Int)) (by omega)
        go_wp2_with fail
        refine Ro.use HS.out ?_
        intro w4 hd4
        have HD4 := Lib.hid (HD.out.trans hd4)
        clear hd4
        rcases Int.lt_or_le m0 (s : Int) with hm | hm
        · have HE : Hid (cmF g n k (t + 1) = some t) := Lib.hid (HY.out hpk hm)
          go_wp2
          go_roundw
          case rel => exact ⟨t + 1, by omega, by go_num, by rw [HE.out, HB.out], by rw [HE.out, HV.out], HD4.out⟩
          case measure => simp [intOf]; omega
        · have HE : Hid (cmF g n k (t + 1) = r) := Lib.hid (HNo.out (fun q => by have := q.2; omega))
          have hmn : ¬ m0 < (s : Int) := by omega
          go_wp2
          go_roundw
          case rel => exact ⟨t + 1, by omega, by go_num, by rw [HE.out, Hb0.out], by rw [HE.out, Hm0.out], HD4.out⟩
          case measure => simp [intOf]; omega
      · have hbn := bne_t (a := (p : Int)) (b := (k : Int)) (by omega)
        have HE : Hid (cmF g n k (t + 1) = r) := Lib.hid (HNo.out (fun q => hpk q.1))
        clear hpk
        go_wp2
        go_roundw
        case rel => exact ⟨t + 1, by omega, by go_num, by rw [HE.out, Hb0.out], by rw [HE.out, Hm0.out], HD.out⟩
        case measure => simp [intOf]; omega
    · obtain rfl : t = M := by omega
      go_wp2
      go_ret2
      exact ⟨rfl, HD.out⟩

/-- A committee of k. -/
def isCm (cm : Int) (c k : Nat) : Bool := isS cm c && decide (pcN cm.toNat = k)
end Go.Proofs.Ytjomkbdelgnkcaa
