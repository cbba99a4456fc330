/- onePeak. -/
import Derived.Test.YtnobbklnnkpdfaaVp
namespace Go.Proofs.Ytnobbklnnkpdfaa
open Go.RowKit

/-- The ballot has a before b. -/
def befB (f : Nat → Int) (n : Nat) (a b : Int) : Bool := decide (idxI f a n < idxI f b n)

set_option maxHeartbeats 1000000 in
set_option maxRecDepth 1000000 in
theorem before_any (A : Option Addr) (n c : Nat) (f : Nat → Int) (a b : Int) (w : World) (h : Ints w A n f) (hn : n ≤ 1000) :
    Ro 38 #[.slice A n c, .int .i64 a, .int .i64 b] w (.bool (befB f n a b)) := by
  refine Ro.of ?_
  have H := Lib.hid h
  have HB : Hid (befB f n a b = decide (idxI f a n < idxI f b n)) := Lib.hid rfl
  clear h
  go_enter Try.func38, Try.ntmps38
  go_wp2_with fail
  refine (index_any A n c f a _ H.out (by omega)).mono ?_
  rintro e w1 ⟨rfl, rfl⟩
  go_wp2_with fail
  refine (index_any A n c f b _ H.out (by omega)).mono ?_
  rintro e w1 ⟨rfl, rfl⟩
  generalize idxI f a n = x at *
  generalize idxI f b n = y at *
  go_wp2
  go_ret
  exact ⟨ret_bool (by rw [HB.out]), Dn.refl _⟩

/-- No ballot has y behind both x and z. -/
def pkI (n : Nat) (L : Nat → Nat) (v : Nat → Nat → Int) (x y z : Int) : Bool := allB (fun i => !(befB (v i) (L i) x y && befB (v i) (L i) z y)) n
def pkZ (n : Nat) (L : Nat → Nat) (v : Nat → Nat → Int) (o : Nat → Int) (m k : Nat) (x : Int) : Bool := allB (fun q => pkI n L v x (o k) (o (k + 1 + q))) (m - (k + 1))
def pkX (n : Nat) (L : Nat → Nat) (v : Nat → Nat → Int) (o : Nat → Int) (m k : Nat) : Bool := allB (fun p => pkZ n L v o m k (o p)) k
/-- The order is an axis. -/
def pkB (n : Nat) (L : Nat → Nat) (v : Nat → Nat → Int) (o : Nat → Int) (m : Nat) : Bool := allB (fun k => pkX n L v o m k) m

set_option maxHeartbeats 2000000 in
set_option maxRecDepth 1000000 in
theorem onePeak_any (A D : Option Addr) (n cA m cap : Nat) (L : Nat → Nat) (v : Nat → Nat → Int) (o : Nat → Int) (w : World) (h : RowsK w A n L v) (hn : n ≤ 1000) (hL : ∀ i, i < n → L i ≤ 1000) (hD : Ints w D m o) (hcap : m ≤ cap) (hm : m ≤ 1000) :
    Ro 74 #[.slice A n cA, .slice D m cap] w (.bool (pkB n L v o m)) := by
  refine Ro.of ?_
  have H := Lib.hid h
  have HL := Lib.hid hL
  have HD := Lib.hid hD
  have HU : Hid (pkB n L v o m = allB (fun k => pkX n L v o m k) m) := Lib.hid rfl
  clear h hL hD
  go_enter Try.func74, Try.ntmps74
  go_wp2
  go_loopw [15] (fun i wr => ∃ k : Nat, k ≤ m ∧ i = .int .i64 k ∧ AllLt (fun k => pkX n L v o m k) k ∧ Dn w wr) (fun i _ => m - (intOf i).toNat)
  case atStart => exact ⟨0, Nat.zero_le _, rfl, AllLt.zero, Dn.refl _⟩
  case round =>
    obtain ⟨k, hk, rfl, hA, hDn⟩ := hrel
    have HA := Lib.hid hA
    have HDn := Lib.hid hDn
    clear hA hDn
    by_cases hlt : k < m
    · obtain ⟨bA, oA, rfl, hcA⟩ := (HD.out.dn HDn.out).at hlt
      have HX : Hid (pkX n L v o m k = allB (fun p => pkZ n L v o m k (o p)) k) := Lib.hid rfl
      obtain ⟨y, hy⟩ : ∃ y, y = o k := ⟨_, rfl⟩
      have HY := Lib.hid hy
      rw [← hy] at hcA
      clear hy
      obtain ⟨Y1, rfl⟩ : ∃ Y1, Y1 = wr := ⟨wr, rfl⟩
      go_wp2
      go_loopw [24] (fun i wx => ∃ p : Nat, p ≤ k ∧ i = .int .i64 p ∧ AllLt (fun p => pkZ n L v o m k (o p)) p ∧ Dn Y1 wx) (fun i _ => k - (intOf i).toNat)
      case atStart => exact ⟨0, Nat.zero_le _, rfl, AllLt.zero, Dn.refl _⟩
      case round =>
        obtain ⟨p, hp, rfl, hP, hDn⟩ := hrel
        have HP := Lib.hid hP
        have HDp := Lib.hid (HDn.out.trans hDn)
        have HDq := Lib.hid hDn
        clear hP hDn
        by_cases hlp : p < k
        · have hcB := (HD.out.dn HDp.out).cell (show p < m by omega)
          have HZ : Hid (pkZ n L v o m k (o p) = allB (fun q => pkI n L v (o p) (o k) (o (k + 1 + q))) (m - (k + 1))) := Lib.hid rfl
          obtain ⟨x, hx⟩ : ∃ x, x = o p := ⟨_, rfl⟩
          have HXx := Lib.hid hx
          rw [← hx] at hcB
          clear hx
          by_cases hcut : k + 1 = cap
          · have hend : m - (k + 1) = 0 := by omega
            have HP2 := Lib.hid (HP.out.succ (p := fun p => pkZ n L v o m k (o p)) (by rw [HZ.out, hend]; rfl))
            obtain ⟨Y2, rfl⟩ : ∃ Y2, Y2 = wr := ⟨wr, rfl⟩
            go_wp2
            go_loopw [33] (fun i wx => i = .int .i64 0 ∧ Y2 = wx) (fun _ _ => 0)
            case atStart => exact ⟨rfl, rfl⟩
            case round =>
              obtain ⟨rfl, rfl⟩ := hrel
              go_wp2
              go_roundw
              case rel => exact ⟨p + 1, by omega, by go_num, HP2.out, HDq.out⟩
              case measure => simp [intOf]; omega
          · obtain ⟨Y2, rfl⟩ : ∃ Y2, Y2 = wr := ⟨wr, rfl⟩
            go_wp2
            go_loopw [33] (fun i wx => ∃ q : Nat, q ≤ m - (k + 1) ∧ i = .int .i64 q ∧ AllLt (fun q => pkI n L v (o p) (o k) (o (k + 1 + q))) q ∧ Dn Y2 wx) (fun i _ => m - (intOf i).toNat)
            case atStart => exact ⟨0, Nat.zero_le _, rfl, AllLt.zero, Dn.refl _⟩
            case round =>
              obtain ⟨q, hq, rfl, hQ, hDn⟩ := hrel
              have HQ := Lib.hid hQ
              have HDr := Lib.hid (HDp.out.trans hDn)
              have HDs := Lib.hid hDn
              clear hQ hDn
              by_cases hlq : q < m - (k + 1)
              · have hcC := (HD.out.dn HDr.out).cell (show k + 1 + q < m by omega)
                rw [← Nat.add_assoc oA (k + 1) q] at hcC
                have HI : Hid (pkI n L v (o p) (o k) (o (k + 1 + q)) = allB (fun i => !(befB (v i) (L i) (o p) (o k) && befB (v i) (L i) (o (k + 1 + q)) (o k))) n) := Lib.hid rfl
                obtain ⟨z, hz⟩ : ∃ z, z = o (k + 1 + q) := ⟨_, rfl⟩
                have HZz := Lib.hid hz
                rw [← hz] at hcC
                clear hz
                obtain ⟨Y3, rfl⟩ : ∃ Y3, Y3 = wr := ⟨wr, rfl⟩
                go_wp2
                go_loopw [39] (fun i wx => ∃ u : Nat, u ≤ n ∧ i = .int .i64 u ∧ AllLt (fun i => !(befB (v i) (L i) x y && befB (v i) (L i) z y)) u ∧ Dn Y3 wx) (fun i _ => n - (intOf i).toNat)
                case atStart => exact ⟨0, Nat.zero_le _, rfl, AllLt.zero, Dn.refl _⟩
                case round =>
                  obtain ⟨u, hu, rfl, hU, hDn⟩ := hrel
                  have HU2 := Lib.hid hU
                  have HDu := Lib.hid (HDr.out.trans hDn)
                  have HDv := Lib.hid hDn
                  clear hU hDn
                  by_cases hlu : u < n
                  · obtain ⟨bb, oo, A', c', rfl, hc', hLc, hI⟩ := (H.out.dn HDu.out).at hlu
                    have HB1 : Hid (∀ w', Dn wr w' → Ro 38 #[.slice A' (L u) c', .int .i64 x, .int .i64 y] w' (.bool (befB (v u) (L u) x y))) := Lib.hid (fun w' hd => before_any A' (L u) c' (v u) x y w' (hI.dn hd) (HL.out u hlu))
                    have HB2 : Hid (∀ w', Dn wr w' → Ro 38 #[.slice A' (L u) c', .int .i64 z, .int .i64 y] w' (.bool (befB (v u) (L u) z y))) := Lib.hid (fun w' hd => before_any A' (L u) c' (v u) z y w' (hI.dn hd) (HL.out u hlu))
                    clear hI hLc
                    cases hb1 : befB (v u) (L u) x y with
                    | false =>
                      have HN := Lib.hid (HU2.out.succ (p := fun i => !(befB (v i) (L i) x y && befB (v i) (L i) z y)) (k := u) (by simp only [hb1]; rfl))
                      rw [hb1] at HB1
                      clear hb1
                      go_wp2_with fail
                      refine Ro.use (HB1.out _ (Dn.refl _)) ?_
                      intro w1 hd1
                      have HDw := Lib.hid (HDv.out.trans hd1)
                      clear hd1
                      go_wp2
                      go_roundw
                      case rel => exact ⟨u + 1, by omega, by go_num, HN.out, HDw.out⟩
                      case measure => simp [intOf]; omega
                    | true =>
                      rw [hb1] at HB1
                      go_wp2_with fail
                      refine Ro.use (HB1.out _ (Dn.refl _)) ?_
                      intro w1 hd1
                      have HDw1 := Lib.hid hd1
                      clear hd1
                      cases hb2 : befB (v u) (L u) z y with
                      | false =>
                        have HN := Lib.hid (HU2.out.succ (p := fun i => !(befB (v i) (L i) x y && befB (v i) (L i) z y)) (k := u) (by simp only [hb2, Bool.and_false]; rfl))
                        rw [hb2] at HB2
                        clear hb1 hb2
                        go_wp2_with fail
                        refine Ro.use (HB2.out _ HDw1.out) ?_
                        intro w2 hd2
                        have HDw := Lib.hid (HDv.out.trans (HDw1.out.trans hd2))
                        clear hd2
                        go_wp2
                        go_roundw
                        case rel => exact ⟨u + 1, by omega, by go_num, HN.out, HDw.out⟩
                        case measure => simp [intOf]; omega
                      | true =>
                        have HF : Hid (pkB n L v o m = false) := Lib.hid (by
                          rw [HU.out]
                          refine allB_f hlt ?_
                          rw [HX.out]
                          refine allB_f hlp ?_
                          rw [HZ.out]
                          refine allB_f hlq ?_
                          rw [HI.out]
                          refine allB_f hlu ?_
                          rw [← HXx.out, ← HY.out, ← HZz.out, hb1, hb2]
                          rfl)
                        rw [hb2] at HB2
                        clear hb1 hb2
                        go_wp2_with fail
                        refine Ro.use (HB2.out _ HDw1.out) ?_
                        intro w2 hd2
                        have HDw := Lib.hid (HDu.out.trans (HDw1.out.trans hd2))
                        clear hd2
                        go_wp2
                        go_ret
                        exact ⟨ret_bool HF.out.symm, HDw.out⟩
                  · have hun : u = n := by omega
                    rw [hun] at HU2 ⊢
                    clear hun hlu hu
                    have HN := Lib.hid (HQ.out.succ (p := fun q => pkI n L v (o p) (o k) (o (k + 1 + q))) (k := q) (by rw [HI.out, ← HXx.out, ← HY.out, ← HZz.out]; exact allB_t HU2.out))
                    have HDw := Lib.hid (HDs.out.trans HDv.out)
                    go_wp2
                    go_roundw
                    case rel => exact ⟨q + 1, by omega, by go_num, HN.out, HDw.out⟩
                    case measure => simp [intOf]; omega
              · have hqm : q = m - (k + 1) := by omega
                rw [hqm] at HQ
                have HN := Lib.hid (HP.out.succ (p := fun p => pkZ n L v o m k (o p)) (k := p) (by rw [HZ.out]; exact allB_t HQ.out))
                have HDw := Lib.hid (HDq.out.trans HDs.out)
                clear hqm
                go_wp2
                go_roundw
                case rel => exact ⟨p + 1, by omega, by go_num, HN.out, HDw.out⟩
                case measure => simp [intOf]; omega
        · have hpk : p = k := by omega
          rw [hpk] at HP
          have HN := Lib.hid (HA.out.succ (p := fun k => pkX n L v o m k) (k := k) (by rw [HX.out]; exact allB_t HP.out))
          clear hpk
          go_wp2
          go_roundw
          case rel => exact ⟨k + 1, by omega, by go_num, HN.out, HDp.out⟩
          case measure => simp [intOf]; omega
    · have hkm : k = m := by omega
      rw [hkm] at HA
      have HT := Lib.hid (allB_t HA.out)
      clear hkm
      go_wp2
      go_ret
      exact ⟨ret_bool (by rw [HU.out, HT.out]), HDn.out⟩
end Go.Proofs.Ytnobbklnnkpdfaa
