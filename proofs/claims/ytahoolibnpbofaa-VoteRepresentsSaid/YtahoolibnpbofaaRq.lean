/- The reference: size, Margins; equal rows. -/
import Derived.Test.YtahoolibnpbofaaRv
import Derived.Test.YtahoolibnpbofaaShift
import Derived.Test.YtahoolibnpbofaaEq
import Derived.Maps.AppendAt
namespace Go.Proofs.Ytahoolibnpbofaa
open Go.RowKit

theorem and_low : ∀ t : Nat, t < 512 → 0 < t → bits .and .i64 (t : Int) ((t : Int) - 1) = ((t &&& (t - 1) : Nat) : Int) := by decide +kernel

set_option maxHeartbeats 1000000 in
set_option maxRecDepth 1000000 in
theorem size_any (s : Nat) (hs : s < 512) (w : World) : Calls Try.prog 46 #[.int .i64 s] w fun e w' => e = .returned (.int .i64 (pcN s : Int)) ∧ w = w' := by
  have hp9 : pcN s ≤ 9 := by unfold pcN; omega
  go_enter Try.func46, Try.ntmps46
  go_wp2
  go_loopw [0, 3] (fun x y wr => ∃ t k : Nat, x = .int .i64 t ∧ y = .int .i64 k ∧ t < 512 ∧ k + pcN t = pcN s ∧ w = wr) (fun x _ _ => (intOf x).toNat)
  case atStart => exact ⟨s, 0, rfl, rfl, hs, by omega, rfl⟩
  case round =>
    obtain ⟨t, k, rfl, rfl, ht, hk, rfl⟩ := hrel
    by_cases h0 : 0 < t
    · have ha := and_low t ht h0
      obtain ⟨h1, h2⟩ := pc_step t ht h0
      have HK : Hid (k + 1 + pcN (t &&& (t - 1)) = pcN s) := Lib.hid (by omega)
      have hk9 : k ≤ 9 := by omega
      clear hk h1
      generalize t &&& (t - 1) = u at *
      go_wp2
      go_roundw
      case rel => exact ⟨u, k + 1, rfl, by go_num, by omega, HK.out, (by first | trivial | rfl)⟩
      case measure => simp [intOf]; omega
    · obtain rfl : t = 0 := by omega
      have HK : Hid ((k : Int) = (pcN s : Int)) := Lib.hid (by rw [pc_zero] at hk; omega)
      clear hk
      go_wp2
      go_ret
      exact ⟨ret_int HK.out, rfl⟩

theorem eqB_id (n : Nat) (f : Nat → Int) : eqB n n f f = true := by
  simp only [eqB, decide_true, Bool.true_and]
  exact allB_t (fun g _ => by simp [eqP])

set_option maxHeartbeats 1000000 in
set_option maxRecDepth 1000000 in
/-- same: rows that read the same. -/
theorem equalFunc_same (A B : Option Addr) (n c c' : Nat) (L : Nat → Nat) (v : Nat → Nat → Int) (w : World) (ha : Rows2 w A n L v) (hb : Rows2 w B n L v) (hn : n ≤ 100000) (hL : ∀ i, i < n → L i ≤ 10000) :
    Ro 44 #[.slice A n c, .slice B n c', .func (.func 24) #[] #[]] w (.bool true) := by
  refine Ro.of ?_
  have HL := Lib.hid hL
  have HA := Lib.hid ha
  have HB := Lib.hid hb
  clear ha hb hL
  have hBn := bne_f (a := (n : Int)) rfl
  go_enter Try.func44, Try.ntmps44
  go_wp2
  go_loopw [17] (fun i wr => ∃ k : Nat, k ≤ n ∧ i = .int .i64 k ∧ Dn w wr) (fun i _ => n - (intOf i).toNat)
  case atStart => exact ⟨0, Nat.zero_le _, rfl, Dn.refl _⟩
  case round =>
    obtain ⟨k, hk, rfl, hD⟩ := hrel
    by_cases hlt : k < n
    · obtain ⟨b, o, A', c1, rfl, hc, hI⟩ := (HA.out.dn hD).at hlt
      obtain ⟨b', o', B', c2, rfl, hc', hI'⟩ := (HB.out.dn hD).at hlt
      have HEq := Lib.hid (equal_any A' B' (L k) (L k) c1 c2 (v k) (v k) wr hI hI' (HL.out k hlt) (HL.out k hlt))
      have HT := Lib.hid (eqB_id (L k) (v k))
      clear hI hI'
      go_wp2_with fail
      refine Ro.use HEq.out ?_
      intro w3 hd3
      rw [HT.out]
      have HD := Lib.hid (hD.trans hd3)
      clear hd3 hD
      go_wp2
      go_roundw
      case rel => exact ⟨k + 1, by omega, by go_num, HD.out⟩
      case measure => simp [intOf]; omega
    · obtain rfl : k = n := by omega
      go_wp2
      go_ret
      exact ⟨rfl, hD⟩
set_option maxHeartbeats 1000000 in
set_option maxRecDepth 1000000 in
theorem same_any (A B : Option Addr) (n c c' : Nat) (L : Nat → Nat) (v : Nat → Nat → Int) (w : World) (ha : Rows2 w A n L v) (hb : Rows2 w B n L v) (hn : n ≤ 100000) (hL : ∀ i, i < n → L i ≤ 10000) :
    Ro 18 #[.slice A n c, .slice B n c'] w (.bool true) := by
  refine Ro.of ?_
  have HE := Lib.hid (equalFunc_same A B n c c' L v w ha hb hn hL)
  clear ha hb hL hn
  go_enter Try.func18, Try.ntmps18
  go_wp2_with fail
  refine Ro.use HE.out ?_
  intro w3 hd3
  have HD := Lib.hid hd3
  clear hd3
  go_wp2
  go_ret
  exact ⟨rfl, HD.out⟩

set_option maxHeartbeats 1000000 in
set_option maxRecDepth 1000000 in
theorem rMargins_any (A : Option Addr) (n cA : Nat) (L : Nat → Nat) (v : Nat → Nat → Int) (w : World) (h : ArgR w A n cA L v) (hok : okBal n L v = true) :
    Calls Try.prog 19 #[.slice A n cA] w fun e w' => ∃ x, e = .returned x ∧ OwnR w' w.heap.size x (L 0) (fun _ => L 0) (fun a b => mrg v (L 0) a b n) ∧ Below w.heap.size w w' := by
  obtain ⟨i0, hi, hz0, hz1, hz2⟩ := info_parts infoInt
  obtain ⟨j0, ji, jz0, jz1, jz2⟩ := info_parts infoInts
  obtain ⟨⟨hn1, hn9⟩, ⟨hc1, hc5⟩, hO⟩ := okBal_iff.1 hok
  have H := Lib.hid h
  have HMg : Hid (∀ (w' : World) (a b : Nat), Below w.heap.size w w' → Ro 45 #[.slice A n cA, .int .i64 a, .int .i64 b] w' (.int .i64 (mrg v (L 0) a b n))) := Lib.hid (fun w' a b hb => margin_any A n cA (L 0) a b L v w' (h.below hb) hn9 (fun i hi => (hO i hi).1))
  obtain ⟨b0, o0, A0, c0, rfl, hcl, -⟩ := h.at (show 0 < n by omega)
  have HCl : Hid (w.cell? ⟨b0, o0, none⟩ = some (.slice A0 (L 0) c0)) := Lib.hid hcl
  clear h hok hO hcl
  have hMd : (fun a b => mrg v (L 0) a b n) = (fun a b => mrg v (L 0) a b n) := rfl
  generalize hM : (fun a b => mrg v (L 0) a b n) = M at HMg ⊢
  have HMg2 : Hid (∀ (w' : World) (a b : Nat), Below w.heap.size w w' → Ro 45 #[.slice (some ⟨b0, o0, none⟩) n cA, .int .i64 a, .int .i64 b] w' (.int .i64 (M a b))) := Lib.hid (fun w' a b hb => by rw [← hM]; exact HMg.out w' a b hb)
  clear hM hMd HMg
  generalize L 0 = c at *
  have hcl := HCl.out
  go_enter Try.func19, Try.ntmps19
  go_wp2
  clear hcl
  go_loopw [3, 11] (fun s i wr => ∃ a : Nat, a ≤ c ∧ i = .int .i64 a ∧ OwnR wr w.heap.size s a (fun _ => c) M ∧ Below w.heap.size w wr) (fun _ i _ => c - (intOf i).toNat)
  case atStart => exact ⟨0, Nat.zero_le _, rfl, ⟨[], rfl, World.ownsRow_nil _ _ _ _, fun i x hx => by simp at hx⟩, Below.refl _ _⟩
  case round =>
    obtain ⟨a, ha, rfl, ⟨vals, hvl, hown, hvals⟩, hbel⟩ := hrel
    have HO := Lib.hid hown
    have HV := Lib.hid hvals
    have HL := Lib.hid hvl
    have HB := Lib.hid hbel
    clear hown hvals hvl hbel
    by_cases hlt : a < c
    · obtain ⟨X, rfl⟩ : ∃ X, X = wr := ⟨wr, rfl⟩
      have hcl : X.cell? ⟨b0, o0, none⟩ = some (.slice A0 c c0) := (HB.out.cell (World.block_lt_of_cell? _ _ HCl.out)).trans HCl.out
      go_wp2
      clear hcl
      go_loopw [5, 18] (fun r i wx => ∃ b : Nat, b ≤ c ∧ i = .int .i64 b ∧ OwnL wx X.heap.size r (lst b (M a)) ∧ Below X.heap.size X wx) (fun _ i _ => c - (intOf i).toNat)
      case atStart => exact ⟨0, Nat.zero_le _, rfl, OwnL.nil_ _ _, Below.refl _ _⟩
      case round =>
        obtain ⟨b, hb, rfl, hown, hbel⟩ := hrel
        have HOb := Lib.hid hown
        have HBb := Lib.hid hbel
        clear hown hbel
        by_cases hlb : b < c
        · have HMc := Lib.hid (HMg2.out wr a b (HB.out.trans (HBb.out.mono HB.out.size)))
          have hlen := lst_len b (M a)
          have HS := Lib.hid (lst_succ b (M a))
          generalize M a b = m at *
          go_wp2_with fail
          refine Ro.use HMc.out ?_
          intro w2 hd2
          have HOb2 := Lib.hid (HOb.out.below (hd2.below _))
          have HBb2 := Lib.hid (HBb.out.trans (hd2.below _))
          have hsz := HBb2.out.size
          clear hd2 HMc HOb
          go_wp2_with (at_builtin; go_loud (refine wpList_append_own _ rfl _ _ 33 rfl X.heap.size 3 i0 (.int .i64 0) 1 8 Try.underlying33 hi hz0 hz1 hz2 rfl (by decide) _ _ _ rfl (World.ownsRow.alloc HOb2.out _) ⟨w2.heap.size, 0, none⟩ 1 1 [.int .i64 m] rfl rfl (news1 _ _ _) (one1 rfl) (by rw [hlen]; unfold maxLen; omega) (by rw [hlen]; omega) (by simp; omega) ?_))
          intro v3 w3 hown3 hgrow3 _
          have hb3 : Below X.heap.size X w3 := (HBb2.out.alloc hsz _).grown hgrow3 (by simp; omega) (fun g hg => (World.ownsRow.lt HOb2.out g hg).1)
          have hO3 : OwnL w3 X.heap.size v3 (lst (b + 1) (M a)) := by
            rw [HS.out]
            unfold OwnL
            simpa [hlen] using hown3
          have HO3 := Lib.hid hO3
          have Hb3 := Lib.hid hb3
          clear hown3 hgrow3 hO3 hb3
          go_wp2
          go_roundw
          case rel => exact ⟨b + 1, by omega, by go_num, HO3.out, Hb3.out⟩
          case measure => simp [intOf]; omega
        · obtain ⟨A5, c5, hxe, -⟩ := HOb.out.form
          have hbc : b = c := by omega
          rw [lst_len, hbc] at hxe
          subst hxe
          have HX : Hid (OwnL wr X.heap.size (.slice A5 c c5) (lst c (M a))) := Lib.hid (by rw [← hbc]; rw [← hbc] at HOb; exact HOb.out)
          have HO1 := Lib.hid (ownsRow_below HO.out HBb.out)
          have HV1 := Lib.hid (HV.out.below HBb.out)
          have HBw := Lib.hid (HB.out.trans (HBb.out.mono HB.out.size))
          have hs0 := HB.out.size
          have hs1 := HBb.out.size
          have ha5 : a < 5 := by omega
          have hval : vals.length = a := HL.out
          clear hbc hval HOb
          go_wp2_with (at_builtin; go_loud (refine wpList_append_own _ rfl _ _ 22 rfl w.heap.size 33 j0 (.slice none 0 0) 1 24 Try.underlying22 ji jz0 jz1 jz2 rfl (by decide) _ _ _ rfl (World.ownsRow.alloc HO1.out _) ⟨wr.heap.size, 0, none⟩ 1 1 [.slice A5 c c5] rfl rfl (news1 _ _ _) (one1 rfl) (by unfold maxLen; omega) (by omega) (by simp; omega) ?_))
          intro v' w2 hown2 hgrow2 _
          have HO2 := Lib.hid hown2
          have HG2 := Lib.hid hgrow2
          clear hown2 hgrow2
          go_wp2
          go_roundw
          case rel =>
            have hbA : Below w.heap.size w w2 := (HBw.out.alloc (Nat.le_trans hs0 hs1) _).grown HG2.out (by simp; omega) (fun g hg => (World.ownsRow.lt HO1.out g hg).1)
            have HK : ∀ (x : Value) (xs : List Int) (B : Nat), OwnL wr B x xs → OwnL w2 B x xs := fun x xs B hx =>
              World.ownsRow.kept (World.ownsRow.alloc hx _) HG2.out (own_other hx HO1.out (by decide))
            refine ⟨a + 1, by omega, by go_num, ⟨vals ++ [.slice A5 c c5], by simp [HL.out], HO2.out, OwnVals.snoc (fun i x hx => HK _ _ _ (HV1.out i x hx)) HL.out (HK _ _ _ (HX.out.rebase hs0))⟩, hbA⟩
          case measure => simp [intOf]; omega
    · obtain rfl : a = c := by omega
      go_wp2
      go_ret
      exact ⟨_, rfl, ⟨vals, HL.out, HO.out, HV.out⟩, HB.out⟩
end Go.Proofs.Ytahoolibnpbofaa
