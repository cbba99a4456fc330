/- Tables that read the same. -/
import Derived.Test.YtocfbafcplhmiaaUtd
import Derived.Test.YtocfbafcplhmiaaEq
namespace Go.Proofs.Ytocfbafcplhmiaa
open Go.RowKit

theorem eqB_same (n : Nat) (f : Nat → Int) : eqB n n f f = true := by
  simp only [eqB, decide_true, Bool.true_and]
  exact allB_t (fun g _ => by simp [eqP])
set_option maxHeartbeats 1000000 in
set_option maxRecDepth 1000000 in
theorem equalFunc8 (A B : Option Addr) (n c c' : Nat) (L : Nat → Nat) (v : Nat → Nat → Int) (w : World) (ha : Rows2 w A n L v) (hb : Rows2 w B n L v) (hn : n ≤ 100000) (hL : ∀ i, i < n → L i ≤ 10000) :
    Ro 68 #[.slice A n c, .slice B n c', .func (.func 26) #[] #[]] w (.bool true) := by
  refine Ro.of ?_
  have HL := Lib.hid hL
  have HA := Lib.hid ha
  have HB := Lib.hid hb
  clear ha hb hL
  have hBn := bne_f (a := (n : Int)) rfl
  go_enter Try.func68, Try.ntmps68
  go_wp2
  go_loopw [17] (fun i wr => ∃ k : Nat, k ≤ n ∧ i = .int .i64 k ∧ Dn w wr) (fun i _ => n - (intOf i).toNat)
  case atStart => exact ⟨0, Nat.zero_le _, rfl, Dn.refl _⟩
  case round =>
    obtain ⟨k, hk, rfl, hD⟩ := hrel
    by_cases hlt : k < n
    · obtain ⟨b, o, A', c1, rfl, hc, hI⟩ := (HA.out.dn hD).at hlt
      obtain ⟨b', o', B', c2, rfl, hc', hI'⟩ := (HB.out.dn hD).at hlt
      have HEq := Lib.hid (equal_any A' B' (L k) (L k) c1 c2 (v k) (v k) wr hI hI' (HL.out k hlt) (HL.out k hlt))
      have HT := Lib.hid (eqB_same (L k) (v k))
      clear hI hI'
      go_wp2_with fail
      refine Ro.use HEq.out ?_
      intro w3 hd3
      rw [HT.out]
      have HD := Lib.hid (hD.trans hd3)
      clear hd3 hD
      go_wp2
      go_roundw
      case rel => exact ⟨k + 1, by omega, by go_num, HD.out⟩
      case measure => simp [intOf]; omega
    · obtain rfl : k = n := by omega
      go_wp2
      go_ret
      exact ⟨rfl, hD⟩
set_option maxHeartbeats 1000000 in
set_option maxRecDepth 1000000 in
theorem same8_any (A B : Option Addr) (n c c' : Nat) (L : Nat → Nat) (v : Nat → Nat → Int) (w : World) (ha : Rows2 w A n L v) (hb : Rows2 w B n L v) (hn : n ≤ 100000) (hL : ∀ i, i < n → L i ≤ 10000) :
    Ro 37 #[.slice A n c, .slice B n c'] w (.bool true) := by
  refine Ro.of ?_
  have HE := Lib.hid (equalFunc8 A B n c c' L v w ha hb hn hL)
  clear ha hb hL hn
  go_enter Try.func37, Try.ntmps37
  go_wp2_with fail
  refine Ro.use HE.out ?_
  intro w3 hd3
  have HD := Lib.hid hd3
  clear hd3
  go_wp2
  go_ret
  exact ⟨rfl, HD.out⟩
theorem MatI.rows2 {W : World} {R b0 n : Nat} {F : Nat → Nat → Nat} (h : MatI W R b0 n F) : Rows2 W (some ⟨R, 0, none⟩) n (fun _ => n) (fun i j => (F i j : Int)) :=
  fun _ => ⟨R, 0, rfl, fun i hi => ⟨some ⟨b0 + i, 0, none⟩, n, by rw [Nat.zero_add]; exact World.rowIs.cell h.rows hi, (h.row i hi).ints⟩⟩
theorem MatR.rows2 {W : World} {g : Nat} {R : Nat → Nat} {n : Nat} {F : Nat → Nat → Nat} (h : MatR W g R n F) : Rows2 W (some ⟨g, 0, none⟩) n (fun _ => n) (fun i j => (F i j : Int)) :=
  fun _ => ⟨g, 0, rfl, fun i hi => ⟨some ⟨R i, 0, none⟩, n, by rw [Nat.zero_add]; exact h.cell i hi, (h.row i hi).ints⟩⟩
theorem sameM {W : World} {R b0 n c c' g : Nat} {Rr : Nat → Nat} {F : Nat → Nat → Nat} (h : MatI W R b0 n F) (h' : MatR W g Rr n F) (hn : n ≤ 5) : Ro 37 #[.slice (some ⟨R, 0, none⟩) n c, .slice (some ⟨g, 0, none⟩) n c'] W (.bool true) :=
  same8_any _ _ n c c' (fun _ => n) _ W h.rows2 h'.rows2 (by omega) (fun _ _ => by show n ≤ 10000; omega)
end Go.Proofs.Ytocfbafcplhmiaa
