import Derived.Test.YtghkcdldkbencaaT7
namespace Go.Proofs.Ytghkcdldkbencaa
open Go.RowKit

set_option maxHeartbeats 1000000 in
theorem ownWorths_size (A D : Option Addr) (n m c c' : Nat) (v : Nat → Nat → Int) (d : Nat → Int) (w : World) (h : Mat w A n m v) (hd : Ints w D m d) (hb : BdM n m v 100000) (hm : m ≤ 9) (hn : n ≤ 9) (hO : ∀ g, g < m → 0 ≤ d g ∧ d g < n) :
    Calls Try.prog 71 #[.slice A n c, .slice D m c'] w fun e w' => e = .returned (.slice (some ⟨w.heap.size, 0, none⟩) n n) ∧ RowI w' w.heap.size n (fun i => wTo (v i) d i m) ∧ Below w.heap.size w w' ∧ w'.heap.size = w.heap.size + 1 := by
  have hmk := mk_ints n (by omega)
  have H := Lib.hid h
  have HD := Lib.hid hd
  have HO := Lib.hid hO
  have HB := Lib.hid hb
  clear h hd hO hb
  go_enter Try.func71, Try.ntmps71
  go_wp2
  clear hmk
  go_loopw [13] (fun i wr => ∃ k : Nat, k ≤ m ∧ i = .int .i64 k ∧ RowI wr w.heap.size n (fun i => wTo (v i) d i k) ∧ Below w.heap.size w wr ∧ wr.heap.size = w.heap.size + 1) (fun i _ => m - (intOf i).toNat)
  case atStart => exact ⟨0, Nat.zero_le _, rfl, RowI.made w n, (Below.refl _ _).alloc (Nat.le_refl _) _, by simp⟩
  case round =>
    obtain ⟨k, hk, rfl, hR, hbel, hsz⟩ := hrel
    have HSz := Lib.hid hsz
    clear hsz
    by_cases hlt : k < m
    · obtain ⟨b, o, rfl, hc⟩ := (HD.out.keep hbel).at hlt
      obtain ⟨j, hj⟩ : ∃ j : Nat, d k = j := ⟨(d k).toNat, by have := (HO.out k hlt).1; omega⟩
      have hjn : j < n := by have := (HO.out k hlt).2; omega
      obtain ⟨bv, ov, R, cR, rfl, hv, hVR⟩ := (H.out.keep hbel).at hjn
      obtain ⟨br, orr, rfl, hvc⟩ := hVR.at hlt
      have hs := hR.cell hjn
      have hfz := hR.frozen j
      obtain ⟨h1, h2⟩ := HB.out j hjn k hlt
      obtain ⟨h3, h4⟩ := wTo_bd (HB.out j hjn) d j k (by omega)
      obtain ⟨h5, h6⟩ := sumTo_bd (HB.out j hjn) k (by omega)
      have HR := Lib.hid hR
      rw [hj] at hc
      have HJ := Lib.hid hj
      clear hR hVR hj
      go_wp2
      go_region
      go_wp2
      go_roundw
      case rel =>
        refine ⟨k + 1, by omega, by go_num, ((HR.out.set j _).drew).congr (fun i hi => ?_), (hbel.setCell (Nat.le_refl _) _).drew, by simp [HSz.out]⟩
        by_cases e : i = j
        · subst e
          rw [upd_at, wTo_yes HJ.out]
        · rw [upd_ne _ _ e, wTo_no (by rw [HJ.out]; omega)]
      case measure => simp [intOf]; omega
    · obtain rfl : k = m := by omega
      go_wp2
      go_ret
      exact ⟨rfl, hR, hbel, HSz.out⟩

end Go.Proofs.Ytghkcdldkbencaa
