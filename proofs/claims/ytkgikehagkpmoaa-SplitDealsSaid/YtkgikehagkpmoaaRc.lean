import Derived.Test.YtkgikehagkpmoaaRs
import Derived.Test.YtkgikehagkpmoaaRr
namespace Go.Proofs.Ytkgikehagkpmoaa
open Go.RowKit

theorem find_at {p : List Nat → Bool} {x : List Nat} : ∀ (L : List (List Nat)) (q : Nat), L[q]? = some x → p x = true → (∀ (j : Nat) (y : List Nat), j < q → L[j]? = some y → p y = false) → L.find? p = some x := by
  intro L
  induction L with
  | nil => intro q h; simp at h
  | cons a L ih =>
    intro q h hx hno
    rcases q with _ | q
    · simp at h
      subst h
      simp [List.find?_cons, hx]
    · have ha := hno 0 a (by omega) (by simp)
      simp only [List.find?_cons, ha]
      exact ih q (by simpa using h) hx (fun j y hj hy => hno (j + 1) y (by omega) (by simpa using hy))
theorem find_no {p : List Nat → Bool} {L : List (List Nat)} (h : ∀ (j : Nat) (y : List Nat), L[j]? = some y → p y = false) : L.find? p = none := by
  rw [List.find?_eq_none]
  intro x hx
  obtain ⟨j, hj, e⟩ := List.mem_iff_getElem.1 hx
  rw [h j x (by rw [List.getElem?_eq_getElem hj, e])]
  simp
theorem tmod_next (a L : Nat) : ((a : Int) + 1).tmod (L : Int) = (((a + 1) % L : Nat) : Int) := by
  have := tmod_nat2 (a + 1) L
  rw [← this]
  congr 1
/-- Each of the first a envies the next. -/
def cyP (env : Nat → Nat → Bool) (l : List Nat) (a : Nat) : Bool := env (l.getD a 0) (l.getD ((a + 1) % l.length) 0)

set_option maxHeartbeats 2000000 in
set_option maxRecDepth 1000000 in
theorem rcycle_any (A D : Option Addr) (n m c c' : Nat) (v : Nat → Nat → Int) (d : Nat → Int) (w : World) (h : Mat w A n m v) (hd : Ints w D m d) (hb : BdM n m v 100000) (hm : m ≤ 9) (hn0 : 0 < n) (hn : n ≤ 4) :
    Calls Try.prog 43 #[.slice A n c, .slice D m c'] w fun e w' => ∃ x, e = .returned x ∧ Below w.heap.size w w' ∧ CycRep w.heap.size w' x (shC (envE m v d) n) := by
  have H := Lib.hid h
  have HD := Lib.hid hd
  have HB := Lib.hid hb
  obtain ⟨p, hp⟩ : ∃ p : Nat → Option (List Nat), p = fun l => (smL n (l + 2)).find? (cyT (envE m v d)) := ⟨_, rfl⟩
  have HSh : Hid (shC (envE m v d) n = fso p (n - 1)) := Lib.hid (by rw [hp]; exact shC_find _ _)
  have HP := Lib.hid hp
  clear h hd hb hp
  go_enter Try.func43, Try.ntmps43
  go_wp2
  go_loopw [5] (fun x wr => ∃ k : Nat, k ≤ n - 1 ∧ x = .int .i64 ((k + 2 : Nat) : Int) ∧ (∀ j, j < k → p j = none) ∧ Below w.heap.size w wr) (fun x _ => n + 3 - (intOf x).toNat)
  case atStart => exact ⟨0, Nat.zero_le _, rfl, fun j hj => absurd hj (by omega), Below.refl _ _⟩
  case round =>
    obtain ⟨k, hk, rfl, hno, hbel⟩ := hrel
    have HNo := Lib.hid hno
    have Hbel := Lib.hid hbel
    obtain ⟨K, hK⟩ : ∃ K, K = k + 2 := ⟨_, rfl⟩
    rw [← hK]
    have HK := Lib.hid hK
    by_cases hlt : k < n - 1
    · have hKn : (K : Int) ≤ n := by omega
      have hK4 : K ≤ 4 := by omega
      have hK2 : 2 ≤ K := by omega
      have hKz : ¬ (K : Int) = 0 := by omega
      have hcall := rsome_any n hn K hK4 wr
      obtain ⟨SK, hSK⟩ : ∃ SK, SK = smL n K := ⟨_, rfl⟩
      rw [← hSK] at hcall
      have HCall := Lib.hid hcall
      have HPk : Hid (p k = SK.find? (cyT (envE m v d))) := Lib.hid (by rw [HP.out, hSK, HK.out])
      have HMem : Hid (∀ l, l ∈ SK → l.length = K ∧ ∀ x, x ∈ l → x < n) := Lib.hid (fun l hl => smL_mem K l (by rw [← hSK]; exact hl))
      have hN := (smL_len hn K hK4).1
      rw [← hSK] at hN
      obtain ⟨N, hNe⟩ : ∃ N, N = SK.length := ⟨_, rfl⟩
      rw [← hNe] at hN HCall
      have HNe := Lib.hid hNe
      clear hcall hno hbel hK hSK hNe
      go_wp2_with fail
      refine HCall.out.mono ?_
      rintro e w1 ⟨y, rvals, rfl, hrl, hrown, hrps, hb1⟩
      obtain ⟨Ay, cy, rfl, hAy⟩ := ownsRow_form hrown
      have HAy := Lib.hid hAy
      have HRl := Lib.hid hrl
      have HROwn := Lib.hid hrown
      have HRPs := Lib.hid hrps
      have Hbw := Lib.hid Hbel.out.size
      have Hb1 := Lib.hid (Hbel.out.trans (hb1.mono Hbel.out.size))
      clear hAy hrl hrown hrps hb1
      go_wp2_with fail
      obtain ⟨wo, hwo⟩ : ∃ wo : World, wo = w1 := ⟨_, rfl⟩
      have HWo := Lib.hid hwo
      clear hwo
      go_loopw [22] (fun x wi => ∃ q : Nat, q ≤ N ∧ x = .int .i64 q ∧ (∀ (j : Nat) (y : List Nat), j < q → SK[j]? = some y → cyT (envE m v d) y = false) ∧ wi = w1) (fun x _ => N - (intOf x).toNat)
      case atStart => exact ⟨0, Nat.zero_le _, rfl, fun j y hj => absurd hj (by omega), rfl⟩
      case round =>
        obtain ⟨q, hq, rfl, hnq, hw⟩ := hrel
        obtain rfl : w1 = wr := hw.symm
        have HNq := Lib.hid hnq
        clear hnq
        by_cases hlt1 : q < N
        · obtain ⟨gy, rfl, hgy⟩ := HAy.out (by omega)
          have hkl : q < rvals.length := by have := HRl.out; omega
          have hkl2 : q < SK.length := by have := HNe.out; omega
          obtain ⟨rx, hx⟩ : ∃ rx, rvals[q]? = some rx := ⟨_, List.getElem?_eq_getElem hkl⟩
          obtain ⟨l, hl⟩ : ∃ l, SK[q]? = some l := ⟨_, List.getElem?_eq_getElem hkl2⟩
          have hcell := World.ownsRow.cellAt HROwn.out q (by omega)
          rw [hx] at hcell
          obtain ⟨Ak, ck, hke, hIk, hbk⟩ := (HRPs.out q rx l hx hl).sl0b
          rw [hke] at hcell
          obtain ⟨bk, ok, rfl, -⟩ := hIk.at (show 0 < K by omega)
          have HBk := Lib.hid (hbk bk ok rfl)
          have HIk := Lib.hid hIk
          obtain ⟨hll, hlx⟩ := HMem.out l (List.mem_of_getElem? hl)
          have HLl := Lib.hid hll
          have HLx := Lib.hid hlx
          have HL := Lib.hid hl
          clear hx hl hIk hll hlx hke hbk
          go_wp2_with fail
          obtain ⟨wo2, hwo2⟩ : ∃ wo2 : World, wo2 = w1 := ⟨_, rfl⟩
          have HWo2 := Lib.hid hwo2
          clear hwo2 hcell
          go_loopw [8, 28] (fun s x wj => ∃ (a : Nat) (b : Bool), a ≤ K ∧ x = .int .i64 a ∧ s = .bool b ∧ b = allB (cyP (envE m v d) l) a ∧ wj = w1) (fun _ x _ => K - (intOf x).toNat)
          case atStart => exact ⟨0, true, Nat.zero_le _, rfl, rfl, rfl, rfl⟩
          case round =>
            obtain ⟨a, b, ha, rfl, rfl, hb, hw⟩ := hrel
            obtain rfl : w1 = wr := hw.symm
            have HBa := Lib.hid hb
            clear hb
            by_cases hlt2 : a < K
            · have hca := HIk.out.cell hlt2
              have hxl : (a + 1) % K < K := Nat.mod_lt _ (by omega)
              have t1 := tmod_next a K
              obtain ⟨xa, hxa⟩ : ∃ xa, xa = (a + 1) % K := ⟨_, rfl⟩
              have HXa := Lib.hid hxa
              rw [← hxa] at t1 hxl
              have hcx := HIk.out.cell hxl
              have hx0 : (0 : Int) ≤ xa := by omega
              have hx1 : (xa : Int) < K := by omega
              have hia : l.getD a 0 < n := HLx.out _ (getD_mem (by rw [HLl.out]; exact hlt2))
              have HE : Hid (allB (cyP (envE m v d) l) (a + 1) = (b && envB m v d (l.getD a 0) (fL l xa))) := Lib.hid (by
                rw [HBa.out]
                show (_ && cyP (envE m v d) l a) = _
                unfold cyP
                rw [HLl.out, ← HXa.out]
                rfl)
              clear hxa
              cases b with
              | false =>
                go_wp2
                go_roundw
                case rel => exact ⟨a + 1, _, by omega, by go_num, rfl, by rw [HE.out]; rfl, trivial⟩
                case measure => simp [intOf]; omega
              | true =>
                unfold fL at hca
                generalize l.getD a 0 = ya at *
                generalize fL l xa = yx at *
                go_wp2_with fail
                refine (renvies_any _ _ n m _ _ v d ya yx _ (H.out.keep Hb1.out) (HD.out.keep Hb1.out) HB.out hm hia (by omega)).mono ?_
                rintro e w' ⟨rfl, rfl⟩
                generalize envB m v d ya yx = b at *
                cases b with
                | true =>
                  go_wp2
                  go_roundw
                  case rel => exact ⟨a + 1, _, by omega, by go_num, rfl, by rw [HE.out]; rfl, trivial⟩
                  case measure => simp [intOf]; omega
                | false =>
                  go_wp2
                  go_roundw
                  case rel => exact ⟨a + 1, _, by omega, by go_num, rfl, by rw [HE.out]; rfl, trivial⟩
                  case measure => simp [intOf]; omega
            · obtain rfl : a = K := by omega
              have HCy : Hid (b = cyT (envE m v d) l) := Lib.hid (by
                rw [HBa.out]
                unfold cyT
                rw [HLl.out]
                rw [← HLl.out]
                rfl)
              cases b with
              | true =>
                have HR : Hid (shC (envE m v d) n = some l) := Lib.hid (by
                  rw [HSh.out]
                  exact fso_some HNo.out (HPk.out.trans (find_at SK q HL.out HCy.out.symm HNq.out)) (n - 1) hlt)
                go_wp2
                go_ret
                exact ⟨_, rfl, Hb1.out, by
                  rw [HR.out]
                  exact ⟨bk, ok, ck, (by rw [HLl.out]; rfl), (by rw [HLl.out]; exact HIk.out), Nat.le_trans Hbw.out HBk.out⟩⟩
              | false =>
                have HN2 : Hid (∀ (j : Nat) (y : List Nat), j < q + 1 → SK[j]? = some y → cyT (envE m v d) y = false) := Lib.hid (fun j y hj hy => by
                  rcases Nat.lt_or_ge j q with hl | hl
                  · exact HNq.out j y hl hy
                  · obtain rfl : j = q := by omega
                    have e := HL.out
                    rw [hy] at e
                    injection e with e
                    rw [e]
                    exact HCy.out.symm)
                go_wp2
                go_roundw
                case rel => exact ⟨q + 1, by omega, by go_num, HN2.out, trivial⟩
                case measure => simp [intOf]; omega
        · obtain rfl : q = N := by omega
          have HN2 : Hid (∀ j, j < k + 1 → p j = none) := Lib.hid (fun j hj => by
            rcases Nat.lt_or_ge j k with h | h
            · exact HNo.out j h
            · obtain rfl : j = k := by omega
              rw [HPk.out]
              exact find_no (fun i y hi => HNq.out i y (by rw [HNe.out]; exact (List.getElem?_eq_some_iff.1 hi).1) hi))
          go_wp2
          go_roundw
          case rel => exact ⟨k + 1, by omega, by rw [HK.out]; go_num, HN2.out, Hb1.out⟩
          case measure => simp [intOf]; omega
    · have hln : ¬ (K : Int) ≤ n := by omega
      have HE : Hid (shC (envE m v d) n = none) := Lib.hid (by
        rw [HSh.out, show n - 1 = k by omega]
        exact fso_none HNo.out)
      clear hno hbel hK
      go_wp2
      go_ret
      exact ⟨_, rfl, Hbel.out, by
        rw [HE.out]
        rfl⟩
end Go.Proofs.Ytkgikehagkpmoaa
