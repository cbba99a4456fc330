/- The reference's Path. -/
import Derived.Test.YtnobbklnnkpdfaaRs
import Derived.Test.YtnobbklnnkpdfaaWu
namespace Go.Proofs.Ytnobbklnnkpdfaa
open Go.RowKit

/-- What the reference's Path answers. -/
def PathQ (w : World) (c a b : Nat) (T : Nat → Int) (e : Ending) (w' : World) : Prop :=
  ∃ s p x q A' c', s + 2 ≤ c ∧ (∀ t, t < s → ∀ m ∈ someL (List.range c) (t + 2), refB T c a b (t + 2) m = false) ∧ someL (List.range c) (s + 2) = p ++ x :: q ∧ (∀ y ∈ p, refB T c a b (s + 2) y = false) ∧ refB T c a b (s + 2) x = true ∧
    e = .returned (.slice A' (s + 2) c') ∧ Ints w' A' (s + 2) (rowF x) ∧ Below w.heap.size w w'

set_option maxHeartbeats 2000000 in
set_option maxRecDepth 1000000 in
theorem pathR_any (A : Option Addr) (n cA a b : Nat) (L : Nat → Nat) (v : Nat → Nat → Int) (w : World) {cR : Nat} (h : ArgR w A n cR L v) (hok : okBal n L v = true) (ha : a < L 0) (hb : b < L 0) (hab : a ≠ b) :
    Calls Try.prog 26 #[.slice A n cA, .int .i64 a, .int .i64 b] w fun e w' => PathQ w (L 0) a b (mAll v (L 0) n) e w' := by
  have HWd0 := Lib.hid (widthR_any A n cA a b L v w h hok ha hb)
  obtain ⟨⟨hn1, hn9⟩, ⟨hc1, hc5⟩, hO4⟩ := okBal_iff.1 hok
  have H := Lib.hid h
  have HK := Lib.hid hok
  obtain ⟨b0, o0, A0, c0, rfl, hc0, hA0⟩ := h.at (show 0 < n by omega)
  have hc0' : w.cell? ⟨b0, o0, none⟩ = some (.slice A0 (L 0) c0) := hc0
  have HCl := Lib.hid hc0'
  have hcount := some_count (L 0)
  have HSm := Lib.hid (some_any (L 0) hc5)
  have HStr : Hid (∀ (W : World), Below w.heap.size w W → ∀ (k : Nat) (x : List Nat) (Ax : Option Addr) (cx : Nat), 1 ≤ k → k ≤ L 0 → x ∈ someL (List.range (L 0)) k → ArgI W Ax k cx (rowF x) → Lr 52 #[.slice (some ⟨b0, o0, none⟩) n cA, .slice Ax k cx] W (.int .i64 (stL (mAll v (L 0) n) x))) := Lib.hid (fun W hW k x Ax cx h1 h2 hx hA => by
    obtain ⟨e1, e2, e3⟩ := mem_some.1 hx
    have := strengthR_any (some ⟨b0, o0, none⟩) Ax n cA cx L v x W (H.out.below hW) HK.out (by omega) (by omega) e2 (by rw [e1]; exact hA.2.2.2) (by rw [e1]; exact hA.1)
    rwa [e1] at this)
  have HLen : Hid (∀ k x, x ∈ someL (List.range (L 0)) k → x.length = k) := Lib.hid (fun k x hx => some_len hx)
  have hdia := mAll_dia hok
  have hbd := bal_bdR hok
  have hWe := wdL_width hc5 hdia (fun a b ha hb => by have := hbd a b ha hb; omega) ha hb hab
  rw [hWe] at HWd0
  have HEx : Hid (∃ t m, t + 2 ≤ L 0 ∧ m ∈ someL (List.range (L 0)) (t + 2) ∧ refB (mAll v (L 0) n) (L 0) a b (t + 2) m = true) := Lib.hid (by
    obtain ⟨p, w1, w2, w3, w4⟩ := width_path hc5 hdia (fun a b ha hb => by have := hbd a b ha hb; omega) ha hb hab
    have h2 := w1.two
    refine ⟨p.length - 2, p, by omega, mem_some.2 ⟨by omega, w1.rng, w2⟩, ?_⟩
    unfold refB
    rw [(way_hl (by omega) (by omega) w1.rng).2 w1, w4]
    simp)
  have HCnt : Hid (∀ k, k ≤ L 0 → (someL (List.range (L 0)) k).length ≤ 3125) := Lib.hid (fun k hk => Nat.le_trans (hcount k) (count_small hc5 (by omega)))
  have hlt0 := World.block_lt_of_cell? _ _ hc0'
  clear h hok hc0 hA0 hO4 hc0' hcount hdia hbd hWe
  have hnI : (0 : Int) < (n : Int) := by omega
  have hnN : 0 < n := by omega
  unfold PathQ
  generalize mAll v (L 0) n = T at *
  generalize L 0 = c at *
  obtain ⟨wd, hwd⟩ : ∃ wd, wd = wT c T c (5 * a + b) := ⟨_, rfl⟩
  rw [← hwd] at HWd0
  have HRf : Hid (∀ k p, refB T c a b k p = (hlB a b k p && decide (stL T p = wd))) := Lib.hid (fun k p => by rw [hwd]; rfl)
  clear hwd
  go_enter Try.func26, Try.ntmps26
  go_wp2_with fail
  refine Lr.use HWd0.out ?_
  intro w0 hb0
  have Hb0 := Lib.hid hb0
  clear hb0 HWd0
  go_wp2_with fail
  go_loopw [8] (fun i wr => ∃ s K : Nat, K = s + 2 ∧ s + 1 ≤ c ∧ i = .int .i64 K ∧ (∀ t, t < s → ∀ m ∈ someL (List.range c) (t + 2), refB T c a b (t + 2) m = false) ∧ Below w.heap.size w wr) (fun i _ => c + 1 - (intOf i).toNat)
  case atStart => exact ⟨0, 2, rfl, by omega, rfl, fun t h => absurd h (by omega), Hb0.out⟩
  case round =>
    obtain ⟨s, K, hK, hs, rfl, hno, hbel⟩ := hrel
    have HNo := Lib.hid hno
    have Hbel := Lib.hid hbel
    have hcl : wr.cell? ⟨b0, o0, none⟩ = some (.slice A0 c c0) := (hbel.cell hlt0).trans HCl.out
    clear hbel hno
    by_cases hlt : K ≤ c
    · have HSl := Lib.hid (HSm.out K hlt)
      have HLk := Lib.hid (HLen.out K)
      have hcn := HCnt.out K hlt
      have HStk := Lib.hid (fun W hW x Ax cx => HStr.out W hW K x Ax cx (by omega) hlt)
      have hK1 : 2 ≤ K := by omega
      have HKs := Lib.hid hK
      obtain ⟨S, hSe⟩ : ∃ S, S = someL (List.range c) K := ⟨_, rfl⟩
      rw [← hSe] at HSl HLk HStk hcn
      have HSe := Lib.hid hSe
      clear hSe
      obtain ⟨M, hM⟩ : ∃ M, M = S.length := ⟨_, rfl⟩
      have HM := Lib.hid hM
      rw [← hM] at hcn
      clear hM hK
      go_wp2_with fail
      refine (HSl.out _).mono ?_
      rintro e w1 ⟨x, rfl, hx, hb1⟩
      obtain ⟨A1, c1, rfl⟩ := hx.form
      rw [intLL_len, ← HM.out]
      have HX := Lib.hid hx
      have HB1 := Lib.hid (Hbel.out.trans (hb1.mono Hbel.out.size))
      clear hx hb1 hcl
      go_wp2
      go_loopw [30] (fun i wr => ∃ j : Nat, j ≤ M ∧ i = .int .i64 j ∧ (∀ y ∈ S.take j, refB T c a b K y = false) ∧ Below w1.heap.size w1 wr) (fun i _ => M - (intOf i).toNat)
      case atStart => exact ⟨0, Nat.zero_le _, rfl, by simp, Below.refl _ _⟩
      case round =>
        obtain ⟨j, hj, rfl, hnj, hbel⟩ := hrel
        have HNj := Lib.hid hnj
        have Hb := Lib.hid hbel
        clear hbel hnj
        by_cases hlj : j < M
        · have hjS : j < S.length := by rw [← HM.out]; exact hlj
          obtain ⟨G, cG, cp, Ap, eG, hcell, hArg⟩ := (HX.out.below Hb.out).at (p := j) (by rw [intLL_len]; exact hjS)
          injection eG with eG1 eG2 eG3
          subst eG1 eG3
          clear eG2
          rw [intLL_at hjS, intL_len, HLk.out S[j] (List.getElem_mem hjS)] at hcell hArg
          simp only [intL_at] at hArg
          have HStr2 := Lib.hid (HStk.out wr (HB1.out.trans (Hb.out.mono HB1.out.size)) S[j] Ap cp (List.getElem_mem hjS) hArg)
          have HTk : Hid (S.take (j + 1) = S.take j ++ [S[j]]) := Lib.hid (by rw [List.take_add_one]; simp [hjS])
          have HSp : Hid (S = S.take j ++ S[j] :: S.drop (j + 1)) := Lib.hid (by rw [List.getElem_cons_drop]; simp)
          obtain ⟨r, hr⟩ : ∃ r : Nat, r = K - 1 := ⟨_, rfl⟩
          have hwr : IntKind.i64.wrap ((K : Int) - 1) = (r : Int) := by
            rw [IntKind.wrap_i64]
            omega
          have hrK : (r : Int) < (K : Int) := by omega
          have hrK' : r < K := by omega
          have HIx := Lib.hid hArg.2.2.2
          obtain ⟨bp, op, rfl, hp0⟩ := hArg.2.2.2.at (show 0 < K by omega)
          obtain ⟨bp2, op2, e2, hp1⟩ := hArg.2.2.2.at hrK'
          injection e2 with e2
          injection e2 with e2 e3 e4
          subst e2 e3
          clear e4
          have hp0 : wr.cell? ⟨bp, op, none⟩ = some (.int .i64 (rowF S[j] 0)) := hp0
          clear hArg
          have hHl : hlB a b K S[j] = (decide (rowF S[j] 0 = (a : Int)) && decide (rowF S[j] r = (b : Int))) := by
            unfold hlB rowF
            rw [hr]
            congr 1 <;> simp only [Int.natCast_inj]
          have HRj : Hid (refB T c a b K S[j] = ((decide (rowF S[j] 0 = (a : Int)) && decide (rowF S[j] r = (b : Int))) && decide (stL T S[j] = wd))) := Lib.hid (by rw [HRf.out, hHl])
          have HNx : Hid (refB T c a b K S[j] = false → ∀ y ∈ S.take (j + 1), refB T c a b K y = false) := Lib.hid (fun hf y hy => by
            rw [HTk.out] at hy
            rcases List.mem_append.1 hy with h | h
            · exact HNj.out y h
            · rw [List.mem_singleton] at h; rw [h]; exact hf)
          clear hHl hr
          generalize S[j] = X at *
          generalize stL T X = t at *
          generalize hx0 : rowF X 0 = x0 at *
          generalize hx1 : rowF X r = x1 at *
          clear hx0 hx1
          by_cases h0 : x0 = (a : Int)
          · have q0 := beq_t h0
            by_cases h1 : x1 = (b : Int)
            · have q1 := beq_t h1
              by_cases h2 : t = wd
              · have q2 := beq_t h2
                have HG : Hid (refB T c a b K X = true) := Lib.hid (by rw [HRj.out]; simp [h0, h1, h2])
                clear h0 h1 h2 HNx HRj
                go_wp2_with fail
                refine Lr.use HStr2.out ?_
                intro w3 hb3
                have Hb3 := Lib.hid (HB1.out.trans ((Hb.out.trans (hb3.mono Hb.out.size)).mono HB1.out.size))
                have HI3 := Lib.hid (HIx.out.keep hb3)
                clear hb3 HStr2 hcell hp0 hp1
                go_wp2
                go_ret
                have hks := HKs.out
                subst hks
                exact ⟨s, S.take j, X, S.drop (j + 1), _, _, hlt, HNo.out, by rw [← HSe.out]; exact HSp.out, HNj.out, HG.out, rfl, HI3.out, Hb3.out⟩
              · have q2 := beq_f h2
                have HG : Hid (refB T c a b K X = false) := Lib.hid (by rw [HRj.out]; simp [h2])
                clear h0 h1 h2 HRj
                go_wp2_with fail
                refine Lr.use HStr2.out ?_
                intro w3 hb3
                have Hb3 := Lib.hid (Hb.out.trans (hb3.mono Hb.out.size))
                clear hb3 HStr2 hcell hp0 hp1
                go_wp2
                go_roundw
                case rel => exact ⟨j + 1, by omega, by go_num, HNx.out HG.out, Hb3.out⟩
                case measure => simp [intOf]; omega
            · have q1 := beq_f h1
              have HG : Hid (refB T c a b K X = false) := Lib.hid (by rw [HRj.out]; simp [h1])
              clear h0 h1 HRj
              go_wp2
              go_roundw
              case rel => exact ⟨j + 1, by omega, by go_num, HNx.out HG.out, Hb.out⟩
              case measure => simp [intOf]; omega
          · have q0 := beq_f h0
            have HG : Hid (refB T c a b K X = false) := Lib.hid (by rw [HRj.out]; simp [h0])
            clear h0 HRj
            go_wp2
            go_roundw
            case rel => exact ⟨j + 1, by omega, by go_num, HNx.out HG.out, Hb.out⟩
            case measure => simp [intOf]; omega
        · have e : S.take j = S := List.take_of_length_le (by rw [← HM.out]; omega)
          rw [e] at HNj
          have Hb3 := Lib.hid (HB1.out.trans (Hb.out.mono HB1.out.size))
          have HNo2 : Hid (∀ t, t < s + 1 → ∀ m ∈ someL (List.range c) (t + 2), refB T c a b (t + 2) m = false) := Lib.hid (fun t ht m hm => by
            by_cases e2 : t = s
            · rw [e2] at hm ⊢
              rw [← HKs.out] at hm ⊢
              rw [← HSe.out] at hm
              exact HNj.out m hm
            · exact HNo.out t (by omega) m hm)
          clear e
          go_wp2
          go_roundw
          case rel => exact ⟨s + 1, K + 1, by have := HKs.out; omega, by have := HKs.out; omega, by go_num, HNo2.out, Hb3.out⟩
          case measure => simp [intOf]; omega
    · exfalso
      obtain ⟨t, m, k1, k2, k3⟩ := HEx.out
      have := HNo.out t (by omega) m k2
      rw [k3] at this
      cases this
end Go.Proofs.Ytnobbklnnkpdfaa
