/- The reference's Widths and Path. -/
import Derived.Test.YtnobbklnnkpdfaaRs
import Derived.Test.YtnobbklnnkpdfaaWi
namespace Go.Proofs.Ytnobbklnnkpdfaa
open Go.RowKit

set_option maxHeartbeats 1000000 in
set_option maxRecDepth 1000000 in
theorem rWidths_any (A : Option Addr) (n cA : Nat) (L : Nat → Nat) (v : Nat → Nat → Int) (w : World) {cR : Nat} (h : ArgR w A n cR L v) (hok : okBal n L v = true) :
    Calls Try.prog 25 #[.slice A n cA] w fun e w' => ∃ x, e = .returned x ∧ OwnR w' w.heap.size x (L 0) (fun _ => L 0) (fun a b => if a = b then 0 else wT (L 0) (mAll v (L 0) n) (L 0) (5 * a + b)) ∧ Below w.heap.size w w' := by
  obtain ⟨i0, hi, hz0, hz1, hz2⟩ := info_parts infoInt
  obtain ⟨j0, ji, jz0, jz1, jz2⟩ := info_parts infoInts
  obtain ⟨⟨hn1, hn9⟩, ⟨hc1, hc5⟩, hO⟩ := okBal_iff.1 hok
  have H := Lib.hid h
  have hdia := mAll_dia hok
  have hbd := bal_bdR hok
  have HMg : Hid (∀ (w' : World) (a b : Nat), Below w.heap.size w w' → a < L 0 → b < L 0 → a ≠ b → Lr 44 #[.slice A n cA, .int .i64 a, .int .i64 b] w' (.int .i64 (wT (L 0) (mAll v (L 0) n) (L 0) (5 * a + b)))) := Lib.hid (fun w' a b hw ha hb hab => by
    rw [← wdL_width hc5 hdia (fun a b ha hb => by have := hbd a b ha hb; omega) ha hb hab]
    exact widthR_any A n cA a b L v w' (h.below hw) hok ha hb)
  obtain ⟨b0, o0, A0, c0, rfl, hcl, -⟩ := h.at (show 0 < n by omega)
  have HCl : Hid (w.cell? ⟨b0, o0, none⟩ = some (.slice A0 (L 0) c0)) := Lib.hid hcl
  clear h hok hO hcl hdia hbd
  have hMd : (fun a b => if a = b then 0 else wT (L 0) (mAll v (L 0) n) (L 0) (5 * a + b)) = (fun a b => if a = b then 0 else wT (L 0) (mAll v (L 0) n) (L 0) (5 * a + b)) := rfl
  generalize hM : (fun a b => if a = b then 0 else wT (L 0) (mAll v (L 0) n) (L 0) (5 * a + b)) = M at ⊢
  have HMg2 : Hid (∀ (w' : World) (a b : Nat), Below w.heap.size w w' → a < L 0 → b < L 0 → a ≠ b → Lr 44 #[.slice (some ⟨b0, o0, none⟩) n cA, .int .i64 a, .int .i64 b] w' (.int .i64 (M a b))) := Lib.hid (fun w' a b hw ha hb hab => by
    rw [← hM]
    show Lr _ _ _ (.int .i64 (if a = b then 0 else wT (L 0) (mAll v (L 0) n) (L 0) (5 * a + b)))
    rw [if_neg hab]
    exact HMg.out w' a b hw ha hb hab)
  have HM0 : Hid (∀ a, M a a = 0) := Lib.hid (fun a => by rw [← hM]; simp)
  clear hM hMd HMg
  generalize L 0 = c at *
  have hcl := HCl.out
  go_enter Try.func25, Try.ntmps25
  go_wp2
  clear hcl
  go_loopw [3, 12] (fun s i wr => ∃ a : Nat, a ≤ c ∧ i = .int .i64 a ∧ OwnR wr w.heap.size s a (fun _ => c) M ∧ Below w.heap.size w wr) (fun _ i _ => c - (intOf i).toNat)
  case atStart => exact ⟨0, Nat.zero_le _, rfl, ⟨[], rfl, World.ownsRow_nil _ _ _ _, fun i x hx => by simp at hx⟩, Below.refl _ _⟩
  case round =>
    obtain ⟨a, ha, rfl, ⟨vals, hvl, hown, hvals⟩, hbel⟩ := hrel
    have HO := Lib.hid hown
    have HV := Lib.hid hvals
    have HL := Lib.hid hvl
    have HB := Lib.hid hbel
    clear hown hvals hvl hbel
    by_cases hlt : a < c
    · obtain ⟨X, rfl⟩ : ∃ X, X = wr := ⟨wr, rfl⟩
      have hcl : X.cell? ⟨b0, o0, none⟩ = some (.slice A0 c c0) := (HB.out.cell (World.block_lt_of_cell? _ _ HCl.out)).trans HCl.out
      go_wp2
      clear hcl
      go_loopw [5, 19] (fun r i wx => ∃ b : Nat, b ≤ c ∧ i = .int .i64 b ∧ OwnL wx X.heap.size r (lst b (M a)) ∧ Below X.heap.size X wx) (fun _ i _ => c - (intOf i).toNat)
      case atStart => exact ⟨0, Nat.zero_le _, rfl, OwnL.nil_ _ _, Below.refl _ _⟩
      case round =>
        obtain ⟨b, hb, rfl, hown, hbel⟩ := hrel
        have HOb := Lib.hid hown
        have HBb := Lib.hid hbel
        clear hown hbel
        by_cases hlb : b < c
        · have hlen := lst_len b (M a)
          have HS := Lib.hid (lst_succ b (M a))
          by_cases hab : a = b
          · have HOb2 := Lib.hid HOb.out
            have HBb2 := Lib.hid HBb.out
            have hsz := HBb2.out.size
            have HMz : Hid (M a b = 0) := Lib.hid (by rw [hab]; exact HM0.out b)
            have q0 := bne_f (show (a : Int) = (b : Int) by omega)
            rw [HMz.out] at HS
            clear hab HOb
            go_wp2_with (at_builtin; go_loud (refine wpList_append_own _ rfl _ _ 23 rfl X.heap.size 3 i0 (.int .i64 0) 1 8 Try.underlying23 hi hz0 hz1 hz2 rfl (by decide) _ _ _ rfl (World.ownsRow.alloc HOb2.out _) ⟨wr.heap.size, 0, none⟩ 1 1 [.int .i64 0] rfl rfl (news1 _ _ _) (one1 rfl) (by rw [hlen]; unfold maxLen; omega) (by rw [hlen]; omega) (by simp; omega) ?_))
            intro v3 w3 hown3 hgrow3 _
            have hb3 : Below X.heap.size X w3 := (HBb2.out.alloc hsz _).grown hgrow3 (by simp; omega) (fun g hg => (World.ownsRow.lt HOb2.out g hg).1)
            have hO3 : OwnL w3 X.heap.size v3 (lst (b + 1) (M a)) := by
              rw [HS.out]
              unfold OwnL
              simpa [hlen] using hown3
            have HO3 := Lib.hid hO3
            have Hb3 := Lib.hid hb3
            clear hown3 hgrow3 hO3 hb3
            go_wp2
            go_roundw
            case rel => exact ⟨b + 1, by omega, by go_num, HO3.out, Hb3.out⟩
            case measure => simp [intOf]; omega
          · have q0 := bne_t (fun e => hab (by omega) : ¬ (a : Int) = (b : Int))
            have HMc := Lib.hid (HMg2.out wr a b (HB.out.trans (HBb.out.mono HB.out.size)) hlt hlb hab)
            generalize M a b = m at *
            clear hab
            go_wp2_with fail
            refine Lr.use HMc.out ?_
            intro w2 hb2
            have HOb2 := Lib.hid (HOb.out.below hb2)
            have HBb2 := Lib.hid (HBb.out.trans (hb2.mono HBb.out.size))
            have hsz := HBb2.out.size
            clear hb2 HMc HOb
            go_wp2_with (at_builtin; go_loud (refine wpList_append_own _ rfl _ _ 23 rfl X.heap.size 3 i0 (.int .i64 0) 1 8 Try.underlying23 hi hz0 hz1 hz2 rfl (by decide) _ _ _ rfl (World.ownsRow.alloc HOb2.out _) ⟨w2.heap.size, 0, none⟩ 1 1 [.int .i64 m] rfl rfl (news1 _ _ _) (one1 rfl) (by rw [hlen]; unfold maxLen; omega) (by rw [hlen]; omega) (by simp; omega) ?_))
            intro v3 w3 hown3 hgrow3 _
            have hb3 : Below X.heap.size X w3 := (HBb2.out.alloc hsz _).grown hgrow3 (by simp; omega) (fun g hg => (World.ownsRow.lt HOb2.out g hg).1)
            have hO3 : OwnL w3 X.heap.size v3 (lst (b + 1) (M a)) := by
              rw [HS.out]
              unfold OwnL
              simpa [hlen] using hown3
            have HO3 := Lib.hid hO3
            have Hb3 := Lib.hid hb3
            clear hown3 hgrow3 hO3 hb3
            go_wp2
            go_roundw
            case rel => exact ⟨b + 1, by omega, by go_num, HO3.out, Hb3.out⟩
            case measure => simp [intOf]; omega
        · obtain ⟨A5, c5, hxe, -⟩ := HOb.out.form
          have hbc : b = c := by omega
          rw [lst_len, hbc] at hxe
          subst hxe
          have HX : Hid (OwnL wr X.heap.size (.slice A5 c c5) (lst c (M a))) := Lib.hid (by rw [← hbc]; rw [← hbc] at HOb; exact HOb.out)
          have HO1 := Lib.hid (ownsRow_below HO.out HBb.out)
          have HV1 := Lib.hid (HV.out.below HBb.out)
          have HBw := Lib.hid (HB.out.trans (HBb.out.mono HB.out.size))
          have hs0 := HB.out.size
          have hs1 := HBb.out.size
          have ha5 : a < 5 := by omega
          have hval : vals.length = a := HL.out
          clear hbc hval HOb
          go_wp2_with (at_builtin; go_loud (refine wpList_append_own _ rfl _ _ 22 rfl w.heap.size 23 j0 (.slice none 0 0) 1 24 Try.underlying22 ji jz0 jz1 jz2 rfl (by decide) _ _ _ rfl (World.ownsRow.alloc HO1.out _) ⟨wr.heap.size, 0, none⟩ 1 1 [.slice A5 c c5] rfl rfl (news1 _ _ _) (one1 rfl) (by unfold maxLen; omega) (by omega) (by simp; omega) ?_))
          intro v' w2 hown2 hgrow2 _
          have HO2 := Lib.hid hown2
          have HG2 := Lib.hid hgrow2
          clear hown2 hgrow2
          go_wp2
          go_roundw
          case rel =>
            have hbA : Below w.heap.size w w2 := (HBw.out.alloc (Nat.le_trans hs0 hs1) _).grown HG2.out (by simp; omega) (fun g hg => (World.ownsRow.lt HO1.out g hg).1)
            have HK : ∀ (x : Value) (xs : List Int) (B : Nat), OwnL wr B x xs → OwnL w2 B x xs := fun x xs B hx =>
              World.ownsRow.kept (World.ownsRow.alloc hx _) HG2.out (own_other hx HO1.out (by decide))
            refine ⟨a + 1, by omega, by go_num, ⟨vals ++ [.slice A5 c c5], by simp [HL.out], HO2.out, OwnVals.snoc (fun i x hx => HK _ _ _ (HV1.out i x hx)) HL.out (HK _ _ _ (HX.out.rebase hs0))⟩, hbA⟩
          case measure => simp [intOf]; omega
    · obtain rfl : a = c := by omega
      go_wp2
      go_ret
      exact ⟨_, rfl, ⟨vals, HL.out, HO.out, HV.out⟩, HB.out⟩
end Go.Proofs.Ytnobbklnnkpdfaa
