/- The reference's Traded. -/
import Derived.Test.YtocfbafcplhmiaaUj
namespace Go.Proofs.Ytocfbafcplhmiaa
open Go.RowKit

theorem bit_oneS (s x : Nat) : (bits .and .i64 ((s : Int) / 2 ^ x) 1 == 1) = inS s x := by
  have h2 : bits .and .i64 ((s : Int) / 2 ^ x) 1 = ((s / 2 ^ x % 2 : Nat) : Int) := by
    have e : ((s : Int) / 2 ^ x) = ((s / 2 ^ x : Nat) : Int) := by push_cast; rfl
    rw [e, i64_and1]
    omega
  rw [h2]
  unfold inS
  rcases Nat.mod_two_eq_zero_or_one (s / 2 ^ x) with h | h <;> rw [h] <;> rfl
/-- Going down from n - 1: what the last one with p leaves. -/
def dwF (p : Nat → Bool) (g : Nat → Nat) (n : Nat) : Nat → Nat
  | 0 => 0
  | j + 1 => if p (n - 1 - j) then g (n - 1 - j) else dwF p g n j
theorem dwF_all {p : Nat → Bool} {g : Nat → Nat} {n : Nat} : ∀ j, j ≤ n → ∀ k, n - j ≤ k → k < n → p k = true → (∀ q, n - j ≤ q → q < k → p q = false) → dwF p g n j = g k := by
  intro j
  induction j with
  | zero => intro _ k h1 h2; omega
  | succ j ih =>
    intro hj k h1 h2 h3 h4
    rw [dwF]
    by_cases e : k = n - 1 - j
    · rw [← e, if_pos h3]
    · have h5 := h4 (n - 1 - j) (by omega) (by omega)
      rw [h5]
      exact ih (by omega) k (by omega) h2 h3 (fun q hq hk => h4 q (by omega) hk)
theorem dwF_at {p : Nat → Bool} {g : Nat → Nat} {n : Nat} (h : fsN p n < n) : dwF p g n n = g (fsN p n) :=
  dwF_all n (Nat.le_refl _) _ (by omega) h (fsN_at p n h) (fun q _ hq => fsN_none p n q hq)
/-- The set of the people who are left at round r. -/
structure LeftP (t : Nat → Nat → Nat) (n : Nat) (ow : Nat → Nat) (r S : Nat) : Prop where
  lt : S < 32
  lv : ∀ p, p < n → lfF t n ow r p = inS S p
  out : ∀ x, n ≤ x → x < 5 → inS S x = false
theorem LeftP.first {t : Nat → Nat → Nat} {n : Nat} {ow : Nat → Nat} (hn : n ≤ 5) : LeftP t n ow 0 (2 ^ n - 1) where
  lt := full_lt n (by omega)
  lv := fun p hp => by
    rw [inS_full n (by omega) _ (by omega), decide_eq_true hp]
    rfl
  out := fun x h1 h2 => by rw [inS_full n (by omega) x h2, decide_eq_false (by omega)]
theorem LeftP.next {t : Nat → Nat → Nat} {n : Nat} {ow : Nat → Nat} (hn : n ≤ 5) {r S T : Nat} (h : LeftP t n ow r S) (hT : T < 32)
    (hTx : ∀ x, x < 5 → inS T x = (decide (x < n) && gsF t n ow (lfF t n ow r) x)) : LeftP t n ow (r + 1) (adN S T) where
  lt := adN_lt S h.lt T hT
  lv := fun p hp => by
    rw [lfF_succ, h.lv p hp, adN_in S h.lt T hT _ (by omega), hTx _ (by omega), decide_eq_true hp, Bool.true_and]
  out := fun x h1 h2 => by rw [adN_in S h.lt T hT x h2, h.out x h1 h2]; rfl
theorem LeftP.some {t : Nat → Nat → Nat} {n : Nat} {ow : Nat → Nat} {r S : Nat} (h : LeftP t n ow r S) (hS : S ≠ 0) : ∃ x, x < n ∧ inS S x = true := by
  obtain ⟨x, hx, e⟩ := inS_ex S h.lt hS
  rcases Nat.lt_or_ge x n with hl | hl
  · exact ⟨x, hl, e⟩
  · rw [h.out x hl hx] at e
    cases e
theorem LeftP.round {t : Nat → Nat → Nat} {n : Nat} {ow : Nat → Nat} (hW : Wsh n t ow) {r S : Nat} (h : LeftP t n ow r S) (hS : S ≠ 0) : r < n := by
  obtain ⟨x, hx, e⟩ := h.some hS
  rcases Nat.lt_or_ge r n with hl | hl
  · exact hl
  · have h1 := h.lv x hx
    rw [e] at h1
    have h2 := lfF_mono hl h1
    rw [lf_done hW hx] at h2
    cases h2
/-- Whom someone points to, going down. -/
theorem LeftP.down {t : Nat → Nat → Nat} {n : Nat} {ow : Nat → Nat} (hW : Wsh n t ow) {r S : Nat} (h : LeftP t n ow r S) (hS : S ≠ 0) {i : Nat} (hi : i < n) :
    dwF (fun k => inS S (ow (t i k))) (fun k => ow (t i k)) n n = nxF t n ow (lfF t n ow r) i := by
  obtain ⟨x, hx, e⟩ := h.some hS
  obtain ⟨k, hk, e1, e2, e3, -⟩ := bsF_at hW (lv := lfF t n ow r) hi hx (by rw [h.lv x hx]; exact e)
  have hc : fsN (fun k => inS S (ow (t i k))) n = k := by
    rw [← e3]
    exact (fsN_congr (fun q hq => h.lv _ (hW.ow.lt _ ((hW.t i hi).lt q hq)))).symm
  rw [dwF_at (by rw [hc]; exact hk), hc]
  unfold nxF
  rw [e1]

set_option maxHeartbeats 8000000 in
set_option maxRecDepth 1000000 in
theorem tradedR_any (A : Option Addr) (n c : Nat) (t : Nat → Nat → Nat) (G : Option Addr) (cG : Nat) (g : Nat → Nat) (w : World) (h : Wis w A n t) (hG : Ints w G n (fun k => (g k : Int))) (hn : n ≤ 5) (ht : ∀ i, i < n → Pm n (t i)) (hg : Pm n g) :
    Calls Try.prog 72 #[.slice A n c, .slice G n cG] w fun e w' => ∃ B1 B2 : Nat,
      e = .returned (.tuple #[.slice (some ⟨B1, 0, none⟩) n n, .slice (some ⟨B2, 0, none⟩) n n]) ∧ w.heap.size ≤ B1 ∧ w.heap.size ≤ B2 ∧ B1 ≠ B2 ∧ RowI w' B1 n (fun p => (trF t n (owF g n) p : Int)) ∧ RowI w' B2 n (fun p => (rnF t n (owF g n) p : Int)) ∧ Below w.heap.size w w' := by
  have H := Lib.hid h
  have HG := Lib.hid hG
  have HW : Hid (Wsh n t (owF g n)) := Lib.hid ⟨ht, owF_pm hg⟩
  have HP := Lib.hid hg
  have HL0 := Lib.hid (LeftP.first (t := t) (ow := owF g n) hn)
  have HK := Lib.hid (pow_less n (by omega))
  clear h hG ht hg
  go_enter Try.func72, Try.ntmps72
  go_upto_region 2 with fail
  go_cut [7, 8] (fun s4 s5 wx => ∃ B1 B2 : Nat, s4 = .slice (some ⟨B1, 0, none⟩) n n ∧ s5 = .slice (some ⟨B2, 0, none⟩) n n ∧ w.heap.size ≤ B1 ∧ w.heap.size ≤ B2 ∧ B1 ≠ B2 ∧ RowI wx B1 n (fun _ => 0) ∧ RowI wx B2 n (fun _ => 0) ∧ Below w.heap.size w wx)
  case first =>
    have hmk := mk_ints n (by omega)
    go_region
    all_goals
      go_wp2_with fail
      go_meet
      obtain ⟨q1, q2, q3⟩ := two_made w n
      first
        | exact ⟨_, _, rfl, rfl, by omega, by omega, by omega, q1, q2, q3⟩
        | exact ⟨_, _, rfl, rfl, by omega, by omega, by omega, q2, q1, q3⟩
  case rest =>
    obtain ⟨B1, B2, rfl, rfl, hB1, hB2, hne, hr1, hr2, hbc⟩ := hcut
    have HB1c := Lib.hid hbc
    have HR1 := Lib.hid hr1
    have HR2 := Lib.hid hr2
    obtain ⟨S0, hS0⟩ : ∃ S0, S0 = 2 ^ n - 1 := ⟨_, rfl⟩
    rw [← hS0] at HL0 HK
    clear hr1 hr2 hbc hS0
    go_wp2_with fail
    rw [HK.out]
    go_loopw [9, 10] (fun l r wr => ∃ q S : Nat, r = .int .i64 q ∧ l = .int .i64 S ∧ LeftP t n (owF g n) q S ∧ RowI wr B1 n (fun p => (oF t n (owF g n) q p : Int)) ∧ RowI wr B2 n (fun p => (rF t n (owF g n) q p : Int)) ∧ Below w.heap.size w wr) (fun _ r _ => n - (intOf r).toNat)
    case atStart => exact ⟨0, S0, rfl, rfl, HL0.out, HR1.out, HR2.out, HB1c.out⟩
    case round =>
      obtain ⟨q, S, rfl, rfl, hL, hr1, hr2, hB⟩ := hrel
      clear HR1 HR2 HB1c HL0
      have HL := Lib.hid hL
      have HR1 := Lib.hid hr1
      have HR2 := Lib.hid hr2
      have HB := Lib.hid hB
      clear hL hr1 hr2 hB
      by_cases hS : S = 0
      · subst hS
        have hd : ∀ i, i < n → lfF t n (owF g n) q i = false := fun i hi => by rw [HL.out.lv i hi]; exact inS_zero _
        have HF1 := Lib.hid (HR1.out.congr (fun p hp => congrArg (fun x : Nat => (x : Int)) (of_done HW.out hd hp).1))
        have HF2 := Lib.hid (HR2.out.congr (fun p hp => congrArg (fun x : Nat => (x : Int)) (of_done HW.out hd hp).2))
        clear hd
        go_wp2
        go_ret2
        exact ⟨B1, B2, rfl, by omega, by omega, hne, HF1.out, HF2.out, HB.out⟩
      · have hqn := HL.out.round HW.out hS
        have hpos : 0 < S := by omega
        have hS32 := HL.out.lt
        have HDw : Hid (∀ i, i < n → dwF (fun k => inS S (owF g n (t i k))) (fun k => owF g n (t i k)) n n = nxF t n (owF g n) (lfF t n (owF g n) q) i) := Lib.hid (fun i hi => HL.out.down HW.out hS hi)
        have HNL : Hid (∀ i, i < n → nxF t n (owF g n) (lfF t n (owF g n) q) i < n) := Lib.hid (fun i hi => by
          obtain ⟨x, hx, e⟩ := HL.out.some hS
          exact (nxF_keep HW.out (lv := lfF t n (owF g n) q) hi hx (by rw [HL.out.lv x hx]; exact e)).1)
        have HGN : Hid (∀ i, i < n → g (nxF t n (owF g n) (lfF t n (owF g n) q) i) = bsF t n (owF g n) (lfF t n (owF g n) q) i) := Lib.hid (fun i hi => by
          obtain ⟨x, hx, e⟩ := HL.out.some hS
          obtain ⟨k, hk, e1, -, -, -⟩ := bsF_at HW.out (lv := lfF t n (owF g n) q) hi hx (by rw [HL.out.lv x hx]; exact e)
          unfold nxF
          exact (owF_at HP.out (by rw [e1]; exact (HW.out.t i hi).lt k hk)).2)
        have HGS : Hid (∀ p, p < n → gsF t n (owF g n) (lfF t n (owF g n) q) p = (inS S p && anyB (fun k => decide (itF (nxF t n (owF g n) (lfF t n (owF g n) q)) (k + 1) p = p)) n)) := Lib.hid (fun p hp => by
          unfold gsF
          rw [HL.out.lv p hp]
          rfl)
        have HNX : Hid (∀ Tn, Tn < 32 → (∀ x, x < 5 → inS Tn x = (decide (x < n) && gsF t n (owF g n) (lfF t n (owF g n) q) x)) → LeftP t n (owF g n) (q + 1) (adN S Tn)) := Lib.hid (fun Tn h1 h2 => HL.out.next hn h1 h2)
        have HO1 : Hid (∀ p, oF t n (owF g n) (q + 1) p = if gsF t n (owF g n) (lfF t n (owF g n) q) p then bsF t n (owF g n) (lfF t n (owF g n) q) p else oF t n (owF g n) q p) := Lib.hid (fun _ => rfl)
        have HQ1 : Hid (∀ p, rF t n (owF g n) (q + 1) p = if gsF t n (owF g n) (lfF t n (owF g n) q) p then q else rF t n (owF g n) q p) := Lib.hid (fun _ => rfl)
        generalize gsF t n (owF g n) (lfF t n (owF g n) q) = gk at *
        generalize bsF t n (owF g n) (lfF t n (owF g n) q) = bk at *
        generalize nxF t n (owF g n) (lfF t n (owF g n) q) = nx at *
        generalize hO1 : oF t n (owF g n) (q + 1) = O1 at *
        have HEO := Lib.hid hO1
        clear hO1
        generalize oF t n (owF g n) q = O0 at *
        generalize hQ1 : rF t n (owF g n) (q + 1) = Q1 at *
        have HEQ := Lib.hid hQ1
        clear hQ1
        generalize rF t n (owF g n) q = Q0 at *
        have hb1 := HR1.out.lt
        have hb2 := HR2.out.lt
        have hmk := mk_ints n (by omega) wr
        have HBx := box_bel wr (.cells (madeCells #[.int .i64 0] n) 3)
        have HT0 := Lib.hid (RowI.made wr n)
        have HBX := Lib.hid (HB.out.trans (HBx.mono HB.out.size))
        have HR1X := Lib.hid (HR1.out.keep HBx)
        have HR2X := Lib.hid (HR2.out.keep HBx)
        obtain ⟨T0, hT0⟩ : ∃ T0, T0 = wr.heap.size := ⟨_, rfl⟩
        have hsT := HB.out.size
        rw [← hT0] at HT0 hb1 hb2 hmk hsT
        have HEqT := Lib.hid hT0
        clear HBx HR1 HR2 HB hT0
        go_wp2_with fail
        generalize wr.alloc (.cells (madeCells #[.int .i64 0] n) 3) = X at *
        clear hmk
        go_loopw [35] (fun i w2 => ∃ m : Nat, m ≤ n ∧ i = .int .i64 m ∧ RowI w2 T0 n (fun p => ((if p < m then nx p else 0 : Nat) : Int)) ∧ Exc T0 X w2) (fun i _ => n - (intOf i).toNat)
        case atStart => exact ⟨0, Nat.zero_le _, rfl, HT0.out.congr (fun p _ => by simp), Exc.refl _ _⟩
        case round =>
          obtain ⟨m, hm, rfl, hrt, hE⟩ := hrel
          clear HT0
          have HRt := Lib.hid hrt
          have HE := Lib.hid hE
          clear hrt hE
          by_cases hlt : m < n
          · have HD0 : Hid (∀ j, dwF (fun k => inS S (owF g n (t m k))) (fun k => owF g n (t m k)) n (j + 1) = if inS S (owF g n (t m (n - 1 - j))) then owF g n (t m (n - 1 - j)) else dwF (fun k => inS S (owF g n (t m k))) (fun k => owF g n (t m k)) n j) := Lib.hid (fun _ => rfl)
            have HDz : Hid (dwF (fun k => inS S (owF g n (t m k))) (fun k => owF g n (t m k)) n 0 = 0) := Lib.hid rfl
            have HDm := Lib.hid (HDw.out m hlt)
            generalize dwF (fun k => inS S (owF g n (t m k))) (fun k => owF g n (t m k)) n = dv at *
            go_wp2_with fail
            go_loopw [13] (fun k w3 => ∃ j : Nat, j ≤ n ∧ k = .int .i64 (((n - j : Nat) : Int) - 1) ∧ RowI w3 T0 n (fun p => ((if p < m then nx p else if p = m then dv j else 0 : Nat) : Int)) ∧ Exc T0 X w3) (fun k _ => (intOf k + 1).toNat)
            case atStart => exact ⟨0, Nat.zero_le _, by first | rfl | (apply val_int; omega), HRt.out.congr (fun p _ => by
              by_cases e : p < m
              · simp [e]
              · simp [e, HDz.out]), HE.out⟩
            case round =>
              obtain ⟨j, hj, rfl, hrt, hE⟩ := hrel
              clear HRt HE
              have HRt := Lib.hid hrt
              have HE := Lib.hid hE
              clear hrt hE
              by_cases hjn : j < n
              · obtain ⟨K, hK⟩ : ∃ K, K = n - 1 - j := ⟨_, rfl⟩
                have eK : ((n - j : Nat) : Int) - 1 = (K : Int) := by omega
                rw [eK]
                have hKn : K < n := by omega
                have hbel : Below w.heap.size w wr := HBX.out.trans (HE.out.below (by omega) HBX.out.size)
                obtain ⟨b, o, A', c', rfl, hc, hcc, hI⟩ := RowsK.at (H.out.keep hbel) hlt
                obtain ⟨b2, o2, rfl, hcv⟩ := hI.at hKn
                have hxl := (HW.out.t m hlt).lt K hKn
                have hol := (owF_at HP.out hxl).1
                have HRk := Lib.hid (rankR_any G n cG (fun k => (g k : Int)) ((t m K : Nat) : Int) wr (HG.out.keep hbel) (by omega))
                rw [idx_owF HP.out hxl] at HRk
                have HDj := Lib.hid (HD0.out j)
                rw [← hK] at HDj
                have hct := HRt.out.cell hlt
                have hft := HRt.out.frozen m
                have hbit := bit_oneS S (owF g n (t m K))
                have HKe := Lib.hid hK
                clear hI hbel eK hxl hcc hK
                generalize owF g n (t m K) = ov at *
                cases hin : inS S ov with
                | true =>
                  rw [hin] at HDj hbit
                  have HRs := Lib.hid (HRt.out.set m (ov : Int))
                  have HEs := Lib.hid (HE.out.set m (.int .i64 (ov : Int)))
                  clear hin
                  go_wp2_with fail
                  refine HRk.out.mono ?_
                  rintro e w' ⟨rfl, rfl⟩
                  go_wp2
                  go_roundw
                  case rel =>
                    refine ⟨j + 1, by omega, val_int (by have := HKe.out; omega), HRs.out.congr (fun p _ => ?_), HEs.out⟩
                    unfold upd
                    by_cases e : p = m
                    · rw [if_pos e, if_neg (by omega), if_pos e, HDj.out]; rfl
                    · rw [if_neg e, if_neg e]
                      dsimp only
                      rw [if_neg e]
                  case measure => first | (simp [intOf]; done) | (simp [intOf]; omega)
                | false =>
                  rw [hin] at HDj hbit
                  clear hin
                  go_wp2_with fail
                  refine HRk.out.mono ?_
                  rintro e w' ⟨rfl, rfl⟩
                  go_wp2
                  go_roundw
                  case rel => exact ⟨j + 1, by omega, val_int (by have := HKe.out; omega), HRt.out.congr (fun p _ => by rw [HDj.out]; rfl), HE.out⟩
                  case measure => first | (simp [intOf]; done) | (simp [intOf]; omega)
              · obtain rfl : j = n := by omega
                have eK : ((j - j : Nat) : Int) - 1 = -1 := by omega
                rw [eK]
                rw [HDm.out] at HRt
                go_wp2
                go_roundw
                case rel => exact ⟨m + 1, by omega, by go_num, HRt.out.congr (fun p _ => by
                  by_cases e : p < m
                  · rw [if_pos e, if_pos (by omega)]
                  · by_cases e2 : p = m
                    · rw [if_neg e, if_pos e2, if_pos (by omega), e2]
                    · rw [if_neg e, if_neg e2, if_neg (by omega)]), HE.out⟩
                case measure => simp [intOf]; omega
          · obtain rfl : m = n := by omega
            have HNt := Lib.hid (HRt.out.congr (f' := fun p => (nx p : Int)) (fun p hp => by rw [if_pos hp]))
            have HEt := Lib.hid HE.out
            clear HRt HE
            generalize hWT : wr = WT at *
            clear hWT
            go_wp2_with fail
            go_loopw [64, 15] (fun i gn w2 => ∃ k Gn : Nat, k ≤ m ∧ i = .int .i64 k ∧ gn = .int .i64 Gn ∧ Gn < 32 ∧ (∀ x, x < 5 → inS Gn x = (decide (x < k) && gk x)) ∧ Dn WT w2) (fun i _ _ => m - (intOf i).toNat)
            case atStart => exact ⟨0, 0, Nat.zero_le _, rfl, rfl, by omega, fun x _ => by rw [inS_zero]; simp, Dn.refl _⟩
            case round =>
              obtain ⟨k, Gn, hk, rfl, rfl, hG32, hGx, hD⟩ := hrel
              have HGx := Lib.hid hGx
              have HD := Lib.hid hD
              clear hGx hD
              by_cases hkm : k < m
              · have HGk := Lib.hid (HGS.out k hkm)
                have HA0 : Hid (∀ j, anyB (fun j => decide (itF nx (j + 1) k = k)) (j + 1) = (anyB (fun j => decide (itF nx (j + 1) k = k)) j || decide (itF nx (j + 1) k = k))) := Lib.hid (fun _ => rfl)
                have HAz : Hid (anyB (fun j => decide (itF nx (j + 1) k = k)) 0 = false) := Lib.hid rfl
                have HIs : Hid (∀ j, itF nx (j + 1) k = nx (itF nx j k)) := Lib.hid (fun _ => rfl)
                have HIz : Hid (itF nx 0 k = k) := Lib.hid rfl
                generalize anyB (fun j => decide (itF nx (j + 1) k = k)) = an at *
                generalize (fun j => itF nx j k) = it at *
                have hbit := bit_oneS S k
                go_wp2_with fail
                go_loopw [69, 17, 15] (fun j y gn w3 => ∃ a z Gm : Nat, a ≤ m ∧ j = .int .i64 a ∧ y = .int .i64 z ∧ gn = .int .i64 Gm ∧ z < m ∧ Gm < 32 ∧ (inS S k = true → z = itF nx a k) ∧ (∀ x, x < 5 → inS Gm x = (inS Gn x || (decide (x = k) && (inS S k && an a)))) ∧ Dn WT w3) (fun j _ _ _ => m - (intOf j).toNat)
                case atStart => exact ⟨0, k, Gn, Nat.zero_le _, rfl, rfl, rfl, hkm, hG32, fun _ => HIz.out.symm, fun x _ => by rw [HAz.out]; simp, HD.out⟩
                case round =>
                  obtain ⟨a, z, Gm, ha, rfl, rfl, rfl, hz, hGm, hzi, hGmx, hD⟩ := hrel
                  have HZi := Lib.hid hzi
                  have HGmx := Lib.hid hGmx
                  have HD := Lib.hid hD
                  clear hzi hGmx hD
                  by_cases ham : a < m
                  · have HAa := Lib.hid (HA0.out a)
                    cases hin : inS S k with
                    | false =>
                      rw [hin] at hbit HGmx
                      have HIn := Lib.hid hin
                      clear hin
                      go_wp2
                      go_roundw
                      case rel => exact ⟨a + 1, z, Gm, by omega, by go_num, rfl, rfl, hz, hGm, fun h => (by cases h), fun x hx => by rw [HGmx.out x hx]; simp, HD.out⟩
                      case measure => simp [intOf]; omega
                    | true =>
                      rw [hin] at hbit HGmx
                      have HIn := Lib.hid hin
                      have HZe := Lib.hid (HZi.out hin)
                      have hct := (HNt.out.dn HD.out).cell hz
                      have HNz := Lib.hid (HNL.out z hz)
                      have HIa := Lib.hid (HIs.out a)
                      rw [← HZe.out] at HIa
                      rw [HIa.out] at HAa
                      clear hin
                      generalize nx z = z2 at *
                      by_cases hzk : z2 = k
                      · have hq := beq_t (a := (z2 : Int)) (b := (k : Int)) (by omega)
                        have hor := orN_eq Gm hGm k (by omega)
                        have HOi := Lib.hid (orN_in Gm hGm k (by omega))
                        have HOl := Lib.hid (orN_lt Gm hGm k (by omega))
                        have HAt : Hid (an (a + 1) = true) := Lib.hid (by rw [HAa.out, decide_eq_true hzk, Bool.or_true])
                        have HNzk := HNz.out
                        have HZk := Lib.hid hzk
                        clear hzk
                        go_wp2
                        go_roundw
                        case rel =>
                          refine ⟨a + 1, z2, Gm ||| 2 ^ k, by omega, by go_num, rfl, by first | rfl | exact val_int hor, HNzk, HOl.out, fun _ => HIa.out.symm, fun x hx => ?_, HD.out⟩
                          rw [HOi.out x hx, HGmx.out x hx, HAt.out]
                          by_cases e : x = k
                          · subst e; simp
                          · have e2 : ¬ k = x := fun h => e h.symm
                            simp [e, e2]
                        case measure => simp [intOf]; omega
                      · have hq := beq_f (a := (z2 : Int)) (b := (k : Int)) (by omega)
                        have HAt : Hid (an (a + 1) = an a) := Lib.hid (by rw [HAa.out, decide_eq_false hzk, Bool.or_false])
                        have HNzk := HNz.out
                        clear hzk
                        go_wp2
                        go_roundw
                        case rel => exact ⟨a + 1, z2, Gm, by omega, by go_num, rfl, rfl, HNzk, hGm, fun _ => HIa.out.symm, fun x hx => by rw [HGmx.out x hx, HAt.out], HD.out⟩
                        case measure => simp [intOf]; omega
                  · obtain rfl : a = m := by omega
                    go_wp2
                    go_roundw
                    case rel =>
                      refine ⟨k + 1, Gm, by omega, by go_num, rfl, hGm, fun x hx => ?_, HD.out⟩
                      rw [HGmx.out x hx, HGx.out x hx]
                      by_cases e : x = k
                      · subst e
                        rw [decide_eq_false (Nat.lt_irrefl x), decide_eq_true rfl, decide_eq_true (Nat.lt_succ_self x), HGk.out]
                        simp
                      · have e2 : decide (x < k + 1) = decide (x < k) := by rw [decide_eq_decide]; omega
                        rw [e2, decide_eq_false e]
                        simp
                    case measure => simp [intOf]; omega
              · obtain rfl : k = m := by omega
                have HR1T := Lib.hid (HEt.out.row HR1X.out (by omega))
                have HR2T := Lib.hid (HEt.out.row HR2X.out (by omega))
                have HBT := Lib.hid (HBX.out.trans (HEt.out.below hsT HBX.out.size))
                go_wp2_with fail
                go_loopw [90] (fun i w4 => ∃ j : Nat, j ≤ k ∧ i = .int .i64 j ∧ RowI w4 B1 k (fun p => ((if p < j then O1 p else O0 p : Nat) : Int)) ∧ RowI w4 B2 k (fun p => ((if p < j then Q1 p else Q0 p : Nat) : Int)) ∧ RowI w4 T0 k (fun p => (nx p : Int)) ∧ Below w.heap.size w w4) (fun i _ => k - (intOf i).toNat)
                case atStart => exact ⟨0, Nat.zero_le _, rfl, (HR1T.out.dn HD.out).congr (fun p _ => by simp), (HR2T.out.dn HD.out).congr (fun p _ => by simp), HNt.out.dn HD.out, HBT.out.trans (HD.out.below _)⟩
                case round =>
                  obtain ⟨j, hj, rfl, hr1, hr2, hrt, hB⟩ := hrel
                  have HS1 := Lib.hid hr1
                  have HS2 := Lib.hid hr2
                  have HST := Lib.hid hrt
                  have HSB := Lib.hid hB
                  clear hr1 hr2 hrt hB
                  by_cases hjk : j < k
                  · have hbit := bit_oneS Gn j
                    have HGj := HGx.out j (by omega)
                    rw [decide_eq_true hjk, Bool.true_and] at HGj
                    rw [HGj] at hbit
                    clear HGj
                    have HO1j := Lib.hid (HO1.out j)
                    have HQ1j := Lib.hid (HQ1.out j)
                    cases hgk : gk j with
                    | false =>
                      rw [hgk] at hbit HO1j HQ1j
                      clear hgk
                      go_wp2
                      go_roundw
                      case rel =>
                        refine ⟨j + 1, by omega, by go_num, HS1.out.congr (fun p _ => ?_), HS2.out.congr (fun p _ => ?_), HST.out, HSB.out⟩
                        · by_cases e : p = j
                          · rw [if_neg (by omega), if_pos (by omega), e, HO1j.out]; rfl
                          · by_cases e2 : p < j
                            · rw [if_pos e2, if_pos (by omega)]
                            · rw [if_neg e2, if_neg (by omega)]
                        · by_cases e : p = j
                          · rw [if_neg (by omega), if_pos (by omega), e, HQ1j.out]; rfl
                          · by_cases e2 : p < j
                            · rw [if_pos e2, if_pos (by omega)]
                            · rw [if_neg e2, if_neg (by omega)]
                      case measure => simp [intOf]; omega
                    | true =>
                      rw [hgk] at hbit HO1j HQ1j
                      clear hgk
                      have hct := HST.out.cell hjk
                      have HNj := HNL.out j hjk
                      obtain ⟨b, o, rfl, hcg⟩ := (HG.out.keep HSB.out).at HNj
                      have hgn := HGN.out j hjk
                      rw [hgn] at hcg
                      clear hgn
                      generalize nx j = nj at *
                      have d1 := HS1.out.cell hjk
                      have z1 := HS1.out.frozen j
                      have HT1 := Lib.hid (HS1.out.set j (bk j : Int))
                      have HT2 := Lib.hid (HS2.out.setOther (a := ⟨B1, j, none⟩) (fun e => hne e.symm) (.int .i64 (bk j : Int)))
                      have d2 := HT2.out.cell hjk
                      have z2 := HT2.out.frozen j
                      have HT3 := Lib.hid (HT2.out.set j (q : Int))
                      have HT4 := Lib.hid (HT1.out.setOther (a := ⟨B2, j, none⟩) hne (.int .i64 (q : Int)))
                      have HT5 := Lib.hid ((HST.out.setOther (a := ⟨B1, j, none⟩) (show T0 ≠ B1 by omega) (.int .i64 (bk j : Int))).setOther (a := ⟨B2, j, none⟩) (show T0 ≠ B2 by omega) (.int .i64 (q : Int)))
                      have HTB := Lib.hid ((HSB.out.setCell (p := ⟨B1, j, none⟩) hB1 (.int .i64 (bk j : Int))).setCell (p := ⟨B2, j, none⟩) hB2 (.int .i64 (q : Int)))
                      go_wp2
                      go_roundw
                      case rel =>
                        refine ⟨j + 1, by omega, by go_num, HT4.out.congr (fun p _ => ?_), HT3.out.congr (fun p _ => ?_), HT5.out, HTB.out⟩
                        · unfold upd
                          by_cases e : p = j
                          · rw [if_pos e, if_pos (by omega), e, HO1j.out]; rfl
                          · rw [if_neg e]
                            dsimp only
                            by_cases e2 : p < j
                            · rw [if_pos e2, if_pos (by omega)]
                            · rw [if_neg e2, if_neg (by omega)]
                        · unfold upd
                          by_cases e : p = j
                          · rw [if_pos e, if_pos (by omega), e, HQ1j.out]; rfl
                          · rw [if_neg e]
                            dsimp only
                            by_cases e2 : p < j
                            · rw [if_pos e2, if_pos (by omega)]
                            · rw [if_neg e2, if_neg (by omega)]
                      case measure => simp [intOf]; omega
                  · obtain rfl : j = k := by omega
                    have hand := adN_eq S hS32 Gn hG32
                    have HNn := Lib.hid (HNX.out Gn hG32 HGx.out)
                    go_wp2
                    go_roundw
                    case rel => exact ⟨q + 1, adN S Gn, by go_num, by first | rfl | exact val_int hand, HNn.out, HS1.out.congr (fun p hp => by rw [if_pos hp, HEO.out]), HS2.out.congr (fun p hp => by rw [if_pos hp, HEQ.out]), HSB.out⟩
                    case measure => simp [intOf]; omega
end Go.Proofs.Ytocfbafcplhmiaa
