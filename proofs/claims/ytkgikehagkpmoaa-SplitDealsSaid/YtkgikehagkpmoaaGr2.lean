import Derived.Test.YtkgikehagkpmoaaGr1
namespace Go.Proofs.Ytkgikehagkpmoaa
open Go.RowKit

theorem wrt_bd {n m : Nat} {v : Nat → Nat → Int} (hb : BdM n m v 100) (hm : m ≤ 9) (d : Nat → Int) : Bd n (wrt v m d) 1000 := fun p hp => by
  obtain ⟨h1, h2⟩ := wTo_bd (hb p hp) d p m (Nat.le_refl _)
  obtain ⟨h3, h4⟩ := sumTo_bd (hb p hp) m (Nat.le_refl _)
  unfold wrt
  exact ⟨h1, by omega⟩
theorem BdM.le {n m : Nat} {v : Nat → Nat → Int} {u u' : Int} (h : BdM n m v u) (hu : u ≤ u') : BdM n m v u' := fun i hi => (h i hi).le hu
theorem dg_own {n m i : Nat} (hn : 0 < n) : ∀ g, g < m → 0 ≤ dg n m i g ∧ dg n m i g < n := fun g _ => by
  have := dg_lt (n := n) (m := m) (i := i) (g := g) hn
  simp only [dg]
  omega

set_option maxHeartbeats 2000000 in
set_option maxRecDepth 1000000 in
theorem greatest1_any (w0 : World) (ks : FuncId) (hcall : ∀ (args : Array Value) (w : World), (callFunc ks args).run Try.prog w = .ok (.enter ks args) w) (sc : (Nat → Int) → Nat → Int) (len : Nat) (A : Option Addr) (c n m : Nat) (v : Nat → Nat → Int)
    (hs : ScoreOk ks n len sc) (h : Mat w0 A n m v) (hb : BdM n m v 100) (hn : 0 < n) (hn4 : n ≤ 4) (hm : m ≤ 7) (hlen0 : 0 < len) (hlen : len ≤ 9) :
    Visits 71 #[.pointer (some ⟨w0.heap.size + 1, 0, none⟩), .pointer (some ⟨w0.heap.size, 0, none⟩), .pointer (some ⟨w0.heap.size + 3, 0, none⟩), .pointer (some ⟨w0.heap.size + 2, 0, none⟩)] (w0.heap.size + 4) n m
      (GrI w0 ks A c n m len (sco sc v n m)) (fun _ _ => False) := by
  intro i w1 hi hI hR
  obtain ⟨hbel, hB0, hB1, vb, vt, hB2, hB3, hS⟩ := hI
  have q := fun (w : World) (a : Option Addr) (n c n' c' : Nat) => Lib.run_eql_slice_nil (P := Try.prog) w 23 3 a n c n' c' Try.underlying23
  have HH := Lib.hid (h.keep hbel)
  have HB := Lib.hid hb
  have HS := Lib.hid hs
  have HSt := Lib.hid hS
  have HR := Lib.hid hR
  have HI := Lib.hid hi
  have c0 := hB0.cell
  have c1 := hB1.cell
  have H0 := Lib.hid hB0
  have H1 := Lib.hid hB1
  have H2 := Lib.hid hB2
  have H3 := Lib.hid hB3
  clear h hb hs hS hR hi hB0 hB1 hB2 hB3
  simp only [List.append_toArray, List.cons_append, List.nil_append]
  go_enter Try.func71, Try.ntmps71
  go_wp2_with fail
  go_region_with (first
    | (go_at_call 72; refine (ownWorths_any _ _ _ _ _ _ _ _ _ (HH.out.dn ⟨1, rfl⟩) (HR.out.dn ⟨1, rfl⟩).ints (HB.out.le (by omega)) (by omega) (by omega) (dg_own hn)).mono ?_; rintro e w2 ⟨rfl, hR2, hb2⟩; have c12 := (Box.keep (Box.drew H1.out) hb2).cell)
    | (refine (HS.out _ _ (wrt v m (dg n m i)) _ (RowI.ints hR2) (wrt_bd HB.out (by omega) _)).mono ?_; rintro e w3 ⟨vs, rfl, hvs, hb3⟩))
  all_goals
    have hd1 : Dn w1 w1.drew := ⟨1, rfl⟩
    have hbl : Below w1.heap.size w1 w3 := (hd1.below _).trans (hb2.trans (hb3.mono hb2.size))
    have hsz := hbl.size
    have K0 := Lib.hid (H0.out.keep hbl)
    have K1 := Lib.hid (H1.out.keep hbl)
    have K2 := Lib.hid (H2.out.keep hbl)
    have K3 := Lib.hid (H3.out.keep hbl)
    have KR := Lib.hid (HR.out.keep hbl)
    have KV := Lib.hid hvs
    have KB := Lib.hid hbl
    have c3 := K3.out.cell
    obtain ⟨sa, cs, rfl, hIs⟩ := hvs.sl hlen0
    have HIs := Lib.hid hIs
    have KV := Lib.hid hvs
    have hs2 : w0.heap.size + 5 ≤ w2.heap.size := Nat.le_trans HR.out.lt hb2.size
    clear hIs hvs c0 c1 c12 hR2 hb2 hb3 hd1 hbl
    rcases HSt.out with ⟨rfl, rfl, rfl⟩ | ⟨hi0, hvb, hvt⟩
    · go_wp2_with fail
      refine (clone_any _ m m (dg n m 0) _ KR.out.ints (by omega)).mono ?_
      rintro e w4 ⟨vd, rfl, hvd, -, hb4⟩
      have J2 := (K2.out.keep hb4)
      have J3 := (K3.out.keep hb4)
      have j2 := J2.cell
      have j2f := J2.frozen
      have j3 := J3.cell
      have j3f := J3.frozen
      obtain ⟨Ad, cd, rfl, -⟩ := hvd.sl0
      have HD := Lib.hid hvd
      clear hvd
      go_wp2
      go_ret
      have hfin := GrI.store (s := sco sc v n m) (len := len) (i := 0) hbel KB.out hb4 K0.out K1.out K2.out K3.out KR.out KV.out hs2 HD.out (by simp [bst])
      exact ⟨true, rfl, hfin.1, fun _ => hfin.2, fun h => by cases h⟩
    · obtain ⟨ta, tc, rfl, hIt⟩ := hvt.sl hlen0
      have HIt := Lib.hid (hIt.keep KB.out)
      have HT := Lib.hid hvt
      have HBst := Lib.hid hvb
      clear hIt hvt hvb
      go_wp2_with fail
      refine (cmpS_any _ _ len _ _ (sco sc v n m i) (sco sc v n m (bst (sco sc v n m) len i)) _ HIs.out HIt.out (by omega)).mono ?_
      rintro e w' ⟨rfl, rfl⟩
      by_cases hc : 0 < cmpF (sco sc v n m i) (sco sc v n m (bst (sco sc v n m) len i)) len
      · have HC := Lib.hid hc
        go_wp2_with fail
        refine (clone_any _ m m (dg n m i) _ KR.out.ints (by omega)).mono ?_
        rintro e w4 ⟨vd, rfl, hvd, -, hb4⟩
        have J2 := (K2.out.keep hb4)
        have J3 := (K3.out.keep hb4)
        have j2 := J2.cell
        have j2f := J2.frozen
        have j3 := J3.cell
        have j3f := J3.frozen
        obtain ⟨Ad, cd, rfl, -⟩ := hvd.sl0
        have HD := Lib.hid hvd
        clear hvd
        go_wp2
        go_ret
        have hfin := GrI.store (s := sco sc v n m) (len := len) (i := i) hbel KB.out hb4 K0.out K1.out K2.out K3.out KR.out KV.out hs2 HD.out (by rw [bst, if_pos (.inr HC.out)])
        exact ⟨true, rfl, hfin.1, fun _ => hfin.2, fun h => by cases h⟩
      · have HC := Lib.hid hc
        go_wp2
        go_ret
        exact ⟨true, rfl, KR.out, fun _ => GrI.stay (s := sco sc v n m) (len := len) (i := i) hbel KB.out K0.out K1.out K2.out K3.out HBst.out HT.out (by rw [bst, if_neg (by have := HC.out; omega)]), fun h => by cases h⟩
end Go.Proofs.Ytkgikehagkpmoaa
