/- The reference's strength and Width. -/
import Derived.Test.YtnobbklnnkpdfaaWz
import Derived.Test.YtnobbklnnkpdfaaDr
namespace Go.Proofs.Ytnobbklnnkpdfaa
open Go.RowKit

set_option maxHeartbeats 1000000 in
set_option maxRecDepth 1000000 in
theorem strengthR_any (A D : Option Addr) (n cA cap : Nat) (L : Nat → Nat) (v : Nat → Nat → Int) (p : List Nat) (w : World) {cR : Nat} (h : ArgR w A n cR L v) (hok : okBal n L v = true) (h1 : 1 ≤ p.length) (h9 : p.length ≤ 9) (hp : ∀ x ∈ p, x < L 0) (hD : Ints w D p.length (rowF p)) (_hcap : p.length ≤ cap) :
    Lr 52 #[.slice A n cA, .slice D p.length cap] w (.int .i64 (stL (mAll v (L 0) n) p)) := by
  obtain ⟨⟨hn1, hn9⟩, ⟨hc1, hc5⟩, hO⟩ := okBal_iff.1 hok
  have HD := Lib.hid hD
  have HM : Hid (∀ w', Below w.heap.size w w' → ∀ a b : Nat, a < L 0 → b < L 0 → Lr 72 #[.slice A n cA, .int .i64 a, .int .i64 b] w' (.int .i64 (mAll v (L 0) n (5 * a + b)))) := Lib.hid (fun w' hd a b ha hb => by
    rw [mAll_at hc5 ha hb n (fun i hi => (hO i hi).2)]
    exact (Ro.use (margin_any A n cA (L 0) a b L v w' (h.below hd) hn9 (fun i hi => (hO i hi).1)) (fun w'' hd => ⟨rfl, hd.below _⟩)))
  have HB : Hid (∀ a b, a < L 0 → b < L 0 → -(n : Int) ≤ mAll v (L 0) n (5 * a + b) ∧ mAll v (L 0) n (5 * a + b) ≤ n) := Lib.hid (bal_bdR hok)
  have HP : Hid (∀ k, k < p.length → p.getD k 0 < L 0) := Lib.hid (fun k hk => by
    have : p.getD k 0 = p[k] := by simp [List.getD, hk]
    rw [this]
    exact hp _ (List.getElem_mem hk))
  have HS : Hid (∀ k, 1 ≤ k → k < p.length → stL (mAll v (L 0) n) (p.take (k + 1)) = min (stL (mAll v (L 0) n) (p.take k)) (mAll v (L 0) n (5 * p.getD (k - 1) 0 + p.getD k 0))) := Lib.hid (fun k h1 h2 => stL_take _ p h1 h2)
  have HE : Hid (stL (mAll v (L 0) n) (p.take p.length) = stL (mAll v (L 0) n) p) := Lib.hid (by rw [List.take_length])
  have HS1 : Hid (stL (mAll v (L 0) n) (p.take 1) = 99) := Lib.hid (stL_take1 _ p)
  have H99 : Hid (∀ k, stL (mAll v (L 0) n) (p.take k) ≤ 99) := Lib.hid (fun k => stL_le _ _)
  clear h hok hO hD hp
  generalize mAll v (L 0) n = T at *
  rw [← HE.out]
  clear HE
  generalize p.length = M at *
  show Calls _ _ _ _ _
  go_enter Try.func52, Try.ntmps52
  go_wp2_with fail
  go_loopw [5, 6] (fun s i wr => ∃ k : Nat, 1 ≤ k ∧ k ≤ M ∧ i = .int .i64 k ∧ s = .int .i64 (stL T (p.take k)) ∧ Below w.heap.size w wr) (fun _ i _ => M - (intOf i).toNat)
  case atStart => exact ⟨1, by omega, h1, rfl, by rw [HS1.out], Below.refl _ _⟩
  case round =>
    obtain ⟨k, hk1, hk, rfl, rfl, hbel⟩ := hrel
    have Hbel := Lib.hid hbel
    clear hbel
    by_cases hlt : k < M
    · obtain ⟨bD, oD, rfl, hc1'⟩ := HD.out.at hlt
      obtain ⟨bD2, oD2, eD, hc2'⟩ := HD.out.at (show k - 1 < M by omega)
      injection eD with eD
      injection eD with e1 e2 e3
      subst e1 e2
      have k1 : ∀ q : Later wr, q.to.cell? ⟨bD, oD + k, none⟩ = some (.int .i64 (rowF p k)) := fun q => (Below.cell (Hbel.out.trans (q.below.mono Hbel.out.size)) (World.block_lt_of_cell? _ _ hc1')).trans hc1'
      obtain ⟨r, hr⟩ : ∃ r : Nat, r = k - 1 := ⟨_, rfl⟩
      have hwr : IntKind.i64.wrap ((k : Int) - 1) = (r : Int) := by
        rw [IntKind.wrap_i64]
        omega
      have hrM : (r : Int) < (M : Int) := by omega
      have hr0 : (0 : Int) ≤ (r : Int) := by omega
      have k2 : ∀ q : Later wr, q.to.cell? ⟨bD, oD + r, none⟩ = some (.int .i64 (rowF p (k - 1))) := fun q => by
        rw [hr]
        exact (Below.cell (Hbel.out.trans (q.below.mono Hbel.out.size)) (World.block_lt_of_cell? _ _ hc2')).trans hc2'
      have HMc : ∀ q : Later wr, Hid (Lr 72 #[.slice A n cA, .int .i64 (rowF p (k - 1)), .int .i64 (rowF p k)] q.to (.int .i64 (T (5 * p.getD (k - 1) 0 + p.getD k 0)))) := fun q => Lib.hid (HM.out q.to (Hbel.out.trans (q.below.mono Hbel.out.size)) _ _ (HP.out _ (by omega)) (HP.out _ hlt))
      have hb := HB.out _ _ (HP.out (k - 1) (by omega)) (HP.out k hlt)
      have HSk := Lib.hid (HS.out k hk1 hlt)
      have h99 := H99.out k
      clear hc1' hc2' hr
      generalize T (5 * p.getD (k - 1) 0 + p.getD k 0) = t at *
      generalize stL T (p.take k) = m at *
      generalize rowF p (k - 1) = x at *
      generalize rowF p k = y at *
      obtain ⟨hb1, hb2⟩ := hb
      go_wp2_with fail
      refine wp_region_later (by kernel_rfl) (by kernel_rfl) ?_
      repeat
        (with_reducible refine wpQuiet_step ?_
         intro K hK
         go_simp
         first
           | (refine hK _ ?_; clear hK K)
           | (apply Exists.intro
              refine ⟨fun _ => ?_, hK _ ?_⟩
              (go_at_call 72; exact Lr.later (HMc _).out)
              clear hK K))
      with_reducible refine wpQuiet_nil ?_
      intro _ hw'
      obtain ⟨q, hw''⟩ := hw'
      subst hw''
      have Hb2 := Lib.hid (Hbel.out.trans (q.below.mono Hbel.out.size))
      clear k1 k2 HMc
      generalize q.to = w2 at *
      clear q
      go_wp2
      go_roundw
      case rel => exact ⟨k + 1, by omega, by omega, by go_num, by rw [HSk.out]; go_num, Hb2.out⟩
      case measure => simp [intOf]; omega
    · have e : k = M := by omega
      rw [e]
      clear e hlt
      go_wp2
      go_ret
      exact ⟨rfl, Hbel.out⟩

set_option maxHeartbeats 2000000 in
set_option maxRecDepth 1000000 in
theorem widthR_any (A : Option Addr) (n cA a b : Nat) (L : Nat → Nat) (v : Nat → Nat → Int) (w : World) {cR : Nat} (h : ArgR w A n cR L v) (hok : okBal n L v = true) (ha : a < L 0) (hb : b < L 0) :
    Lr 44 #[.slice A n cA, .int .i64 a, .int .i64 b] w (.int .i64 (wdL (mAll v (L 0) n) (L 0) a b (L 0 - 1))) := by
  obtain ⟨⟨hn1, hn9⟩, ⟨hc1, hc5⟩, hO4⟩ := okBal_iff.1 hok
  have H := Lib.hid h
  have HK := Lib.hid hok
  obtain ⟨b0, o0, A0, c0, rfl, hc0, hA0⟩ := h.at (show 0 < n by omega)
  have hc0' : w.cell? ⟨b0, o0, none⟩ = some (.slice A0 (L 0) c0) := hc0
  have HCl := Lib.hid hc0'
  have hcount := some_count (L 0)
  have HSm := Lib.hid (some_any (L 0) hc5)
  have HStr : Hid (∀ (W : World), Below w.heap.size w W → ∀ (k : Nat) (x : List Nat) (Ax : Option Addr) (cx : Nat), 1 ≤ k → k ≤ L 0 → x ∈ someL (List.range (L 0)) k → ArgI W Ax k cx (rowF x) → Lr 52 #[.slice (some ⟨b0, o0, none⟩) n cA, .slice Ax k cx] W (.int .i64 (stL (mAll v (L 0) n) x))) := Lib.hid (fun W hW k x Ax cx h1 h2 hx hA => by
    obtain ⟨e1, e2, e3⟩ := mem_some.1 hx
    have := strengthR_any (some ⟨b0, o0, none⟩) Ax n cA cx L v x W (H.out.below hW) HK.out (by omega) (by omega) e2 (by rw [e1]; exact hA.2.2.2) (by rw [e1]; exact hA.1)
    rwa [e1] at this)
  have HLen : Hid (∀ k x, x ∈ someL (List.range (L 0)) k → x.length = k) := Lib.hid (fun k x hx => some_len hx)
  have HBd : Hid (∀ x, stL (mAll v (L 0) n) x ≤ 99) := Lib.hid (fun x => stL_le _ x)
  have HW0 : Hid (wdL (mAll v (L 0) n) (L 0) a b 0 = -99) := Lib.hid rfl
  have HWs : Hid (∀ s, wdL (mAll v (L 0) n) (L 0) a b (s + 1) = mxL (mAll v (L 0) n) a b (s + 2) (someL (List.range (L 0)) (s + 2)) (wdL (mAll v (L 0) n) (L 0) a b s)) := Lib.hid (fun s => rfl)
  have HCnt : Hid (∀ k, k ≤ L 0 → (someL (List.range (L 0)) k).length ≤ 3125) := Lib.hid (fun k hk => Nat.le_trans (hcount k) (count_small hc5 (by omega)))
  have HWb : Hid (∀ s, -99 ≤ wdL (mAll v (L 0) n) (L 0) a b s ∧ wdL (mAll v (L 0) n) (L 0) a b s ≤ 99) := Lib.hid (fun s => by
    refine ⟨wdL_mono' _ _ _ _ (s := 0) s (Nat.zero_le _), ?_⟩
    induction s with
    | zero => show (-99 : Int) ≤ 99; omega
    | succ s ih => exact mxL_le _ a b (s + 2) _ _ ih (fun p _ _ => stL_le _ p))
  have HMb : Hid (∀ k l m, -99 ≤ m → m ≤ 99 → -99 ≤ mxL (mAll v (L 0) n) a b k l m ∧ mxL (mAll v (L 0) n) a b k l m ≤ 99) := Lib.hid (fun k l m h1 h2 => ⟨Int.le_trans h1 (mxL_ge _ a b k l m).1, mxL_le _ a b k l m h2 (fun p _ _ => stL_le _ p)⟩)
  have hlt0 := World.block_lt_of_cell? _ _ hc0'
  clear h hok hc0 hA0 hO4 hc0' hcount
  have hnI : (0 : Int) < (n : Int) := by omega
  have hnN : 0 < n := by omega
  generalize mAll v (L 0) n = T at *
  generalize L 0 = c at *
  show Calls _ _ _ _ _
  go_enter Try.func44, Try.ntmps44
  go_wp2_with fail
  go_loopw [7, 8] (fun m i wr => ∃ s K : Nat, K = s + 2 ∧ s + 1 ≤ c ∧ i = .int .i64 K ∧ m = .int .i64 (wdL T c a b s) ∧ Below w.heap.size w wr) (fun _ i _ => c + 1 - (intOf i).toNat)
  case atStart => exact ⟨0, 2, rfl, by omega, rfl, by rw [HW0.out], Below.refl _ _⟩
  case round =>
    obtain ⟨s, K, hK, hs, rfl, rfl, hbel⟩ := hrel
    have Hbel := Lib.hid hbel
    have hcl : wr.cell? ⟨b0, o0, none⟩ = some (.slice A0 c c0) := (hbel.cell hlt0).trans HCl.out
    clear hbel
    by_cases hlt : K ≤ c
    · have HSl := Lib.hid (HSm.out K hlt)
      have HLk := Lib.hid (HLen.out K)
      have HMk := Lib.hid (HMb.out K (someL (List.range c) K))
      have hcn := HCnt.out K hlt
      have HWk : Hid (wdL T c a b (s + 1) = mxL T a b K (someL (List.range c) K) (wdL T c a b s)) := Lib.hid (by rw [HWs.out s, hK])
      have HStk := Lib.hid (fun W hW x Ax cx => HStr.out W hW K x Ax cx (by omega) hlt)
      have HSn : Hid (∀ j, ∀ hj : j < (someL (List.range c) K).length, mxL T a b K ((someL (List.range c) K).take (j + 1)) (wdL T c a b s) = if hlB a b K (someL (List.range c) K)[j] then max (mxL T a b K ((someL (List.range c) K).take j) (wdL T c a b s)) (stL T (someL (List.range c) K)[j]) else mxL T a b K ((someL (List.range c) K).take j) (wdL T c a b s)) := Lib.hid (fun j hj => by
        rw [← mxL_snoc, List.take_add_one]
        simp [hj])
      have HMj := Lib.hid (fun l => HMb.out K l (wdL T c a b s) (HWb.out s).1 (HWb.out s).2)
      have hK1 : 2 ≤ K := by omega
      have HKs := Lib.hid hK
      generalize hSe : someL (List.range c) K = S at *
      clear hSe
      generalize wdL T c a b s = m0 at *
      obtain ⟨M, hM⟩ : ∃ M, M = S.length := ⟨_, rfl⟩
      have HM := Lib.hid hM
      rw [← hM] at hcn
      clear hM hK hs
      go_wp2_with fail
      refine (HSl.out _).mono ?_
      rintro e w1 ⟨x, rfl, hx, hb1⟩
      obtain ⟨A1, c1, rfl⟩ := hx.form
      rw [intLL_len, ← HM.out]
      have HX := Lib.hid hx
      have HB1 := Lib.hid (Hbel.out.trans (hb1.mono Hbel.out.size))
      clear hx hb1 hcl
      go_wp2
      go_loopw [7, 26] (fun m i wr => ∃ j : Nat, j ≤ M ∧ i = .int .i64 j ∧ m = .int .i64 (mxL T a b K (S.take j) m0) ∧ Below w1.heap.size w1 wr) (fun _ i _ => M - (intOf i).toNat)
      case atStart => exact ⟨0, Nat.zero_le _, rfl, rfl, Below.refl _ _⟩
      case round =>
        obtain ⟨j, hj, rfl, rfl, hbel⟩ := hrel
        have Hb := Lib.hid hbel
        clear hbel
        by_cases hlj : j < M
        · have hjS : j < S.length := by rw [← HM.out]; exact hlj
          obtain ⟨G, cG, cp, Ap, eG, hcell, hArg⟩ := (HX.out.below Hb.out).at (p := j) (by rw [intLL_len]; exact hjS)
          injection eG with eG1 eG2 eG3
          subst eG1 eG3
          clear eG2
          rw [intLL_at hjS, intL_len, HLk.out S[j] (List.getElem_mem hjS)] at hcell hArg
          simp only [intL_at] at hArg
          have HStr2 := Lib.hid (HStk.out wr (HB1.out.trans (Hb.out.mono HB1.out.size)) S[j] Ap cp (List.getElem_mem hjS) hArg)
          have hb9 := HMj.out (S.take j)
          have h99 := HBd.out S[j]
          have HNx := Lib.hid (HSn.out j hjS)
          obtain ⟨r, hr⟩ : ∃ r : Nat, r = K - 1 := ⟨_, rfl⟩
          have hwr : IntKind.i64.wrap ((K : Int) - 1) = (r : Int) := by
            rw [IntKind.wrap_i64]
            omega
          have hrK : (r : Int) < (K : Int) := by omega
          have hrK' : r < K := by omega
          obtain ⟨bp, op, rfl, hp0⟩ := hArg.2.2.2.at (show 0 < K by omega)
          obtain ⟨bp2, op2, e2, hp1⟩ := hArg.2.2.2.at hrK'
          injection e2 with e2
          injection e2 with e2 e3 e4
          subst e2 e3
          clear e4
          have hp0 : wr.cell? ⟨bp, op, none⟩ = some (.int .i64 (rowF S[j] 0)) := hp0
          have hcn' := hcn
          clear hArg
          have hHl : hlB a b K S[j] = (decide (rowF S[j] 0 = (a : Int)) && decide (rowF S[j] r = (b : Int))) := by
            unfold hlB rowF
            rw [hr]
            congr 1 <;> simp only [Int.natCast_inj]
          rw [hHl] at HNx
          clear hHl hr
          generalize stL T S[j] = t at *
          generalize rowF S[j] 0 = x0 at *
          generalize rowF S[j] r = x1 at *
          generalize mxL T a b K (S.take j) m0 = m1 at *
          obtain ⟨hb9, hb10⟩ := hb9
          by_cases h0 : x0 = (a : Int)
          · have q0 := beq_t h0
            by_cases h1 : x1 = (b : Int)
            · have q1 := beq_t h1
              have HN2 : Hid (mxL T a b K (S.take (j + 1)) m0 = max m1 t) := Lib.hid (by rw [HNx.out, h0, h1]; simp)
              clear h0 h1 HNx
              go_wp2_with fail
              refine Lr.use HStr2.out ?_
              intro w3 hb3
              have Hb3 := Lib.hid (Hb.out.trans (hb3.mono Hb.out.size))
              clear hb3 HStr2 hcell hp0 hp1
              rcases Int.lt_or_le m1 t with hl | hl
              · have HN3 : Hid (mxL T a b K (S.take (j + 1)) m0 = t) := Lib.hid (by rw [HN2.out]; omega)
                go_wp2
                go_roundw
                case rel => exact ⟨j + 1, by omega, by go_num, by rw [HN3.out], Hb3.out⟩
                case measure => simp [intOf]; omega
              · have HN3 : Hid (mxL T a b K (S.take (j + 1)) m0 = m1) := Lib.hid (by rw [HN2.out]; omega)
                go_wp2
                go_roundw
                case rel => exact ⟨j + 1, by omega, by go_num, by rw [HN3.out], Hb3.out⟩
                case measure => simp [intOf]; omega
            · have q1 := beq_f h1
              have HN2 : Hid (mxL T a b K (S.take (j + 1)) m0 = m1) := Lib.hid (by rw [HNx.out]; simp [h1])
              clear h0 h1 HNx
              go_wp2
              go_roundw
              case rel => exact ⟨j + 1, by omega, by go_num, by rw [HN2.out], Hb.out⟩
              case measure => simp [intOf]; omega
          · have q0 := beq_f h0
            have HN2 : Hid (mxL T a b K (S.take (j + 1)) m0 = m1) := Lib.hid (by rw [HNx.out]; simp [h0])
            clear h0 HNx
            go_wp2
            go_roundw
            case rel => exact ⟨j + 1, by omega, by go_num, by rw [HN2.out], Hb.out⟩
            case measure => simp [intOf]; omega
        · have e : S.take j = S := List.take_of_length_le (by rw [← HM.out]; omega)
          rw [e]
          have Hb3 := Lib.hid (HB1.out.trans (Hb.out.mono HB1.out.size))
          rw [← HWk.out]
          clear e
          go_wp2
          go_roundw
          case rel => exact ⟨s + 1, K + 1, by have := HKs.out; omega, by have := HKs.out; omega, by go_num, rfl, Hb3.out⟩
          case measure => simp [intOf]; omega
    · have e : s = c - 1 := by omega
      rw [e]
      clear e hK hs
      go_wp2
      go_ret
      exact ⟨rfl, Hbel.out⟩
end Go.Proofs.Ytnobbklnnkpdfaa
