/- The reference: size, objects, Objects. -/
import Derived.Test.YtocfbafcplhmiaaUzs
import Derived.Test.YtocfbafcplhmiaaUs
namespace Go.Proofs.Ytocfbafcplhmiaa
open Go.RowKit

theorem and_lowU : ∀ t : Nat, t < 32 → 0 < t → bits .and .i64 (t : Int) ((t : Int) - 1) = ((t &&& (t - 1) : Nat) : Int) := by decide +kernel
theorem pc5_step : ∀ s, s < 32 → 0 < s → pc5 (s &&& (s - 1)) + 1 = pc5 s ∧ (s &&& (s - 1)) < s := by decide +kernel
theorem pc5_zero : ∀ s, s < 32 → pc5 s = 0 → s = 0 := by decide +kernel
set_option maxHeartbeats 1000000 in
set_option maxRecDepth 1000000 in
theorem refsize_any (s : Nat) (hs : s < 32) (w : World) : Calls Try.prog 74 #[.int .i64 s] w fun e w' => e = .returned (.int .i64 (pc5 s : Int)) ∧ w = w' := by
  have hp9 := pc5_le s hs
  go_enter Try.func74, Try.ntmps74
  go_wp2
  go_loopw [0, 3] (fun x y wr => ∃ t k : Nat, x = .int .i64 t ∧ y = .int .i64 k ∧ t < 32 ∧ k + pc5 t = pc5 s ∧ w = wr) (fun x _ _ => (intOf x).toNat)
  case atStart => exact ⟨s, 0, rfl, rfl, hs, by omega, rfl⟩
  case round =>
    obtain ⟨t, k, rfl, rfl, ht, hk, rfl⟩ := hrel
    by_cases h0 : 0 < t
    · have ha := and_lowU t ht h0
      obtain ⟨h1, h2⟩ := pc5_step t ht h0
      have HK : Hid (k + 1 + pc5 (t &&& (t - 1)) = pc5 s) := Lib.hid (by omega)
      have hk9 : k ≤ 9 := by omega
      clear hk h1
      generalize t &&& (t - 1) = u at *
      go_wp2
      go_roundw
      case rel => exact ⟨u, k + 1, rfl, by go_num, by omega, HK.out, (by first | trivial | rfl)⟩
      case measure => simp [intOf]; omega
    · obtain rfl : t = 0 := by omega
      have HK : Hid ((k : Int) = (pc5 s : Int)) := Lib.hid (by have : pc5 0 = 0 := rfl; omega)
      clear hk
      go_wp2
      go_ret
      exact ⟨ret_int HK.out, rfl⟩
/-- The reference's objects of one outcome: those outside keep their things. -/
def roP (t : Nat → Nat → Nat) (n S : Nat) (h p : Nat → Nat) (i : Nat) : Bool := if inS S i then (inS S (p i) && decide (owF (t i) n (p i) ≤ owF (t i) n (h i))) else decide (p i = i)
def roQ (t : Nat → Nat → Nat) (n S : Nat) (h p : Nat → Nat) (i : Nat) : Bool := inS S i && decide (owF (t i) n (p i) < owF (t i) n (h i))
def roB (t : Nat → Nat → Nat) (n S : Nat) (h p : Nat → Nat) : Bool := allB (roP t n S h p) n && anyB (roQ t n S h p) n
theorem roB_iff {t : Nat → Nat → Nat} {n S : Nat} {h p : Nat → Nat} : roB t n S h p = true ↔ (∀ i, i < n → inS S i = false → p i = i) ∧ (∀ i, i < n → inS S i = true → inS S (p i) = true) ∧ (∀ i, i < n → inS S i = true → owF (t i) n (p i) ≤ owF (t i) n (h i)) ∧ ∃ i, i < n ∧ inS S i = true ∧ owF (t i) n (p i) < owF (t i) n (h i) := by
  unfold roB
  rw [Bool.and_eq_true, allB_iff, anyB_iff]
  unfold roP roQ
  constructor
  · rintro ⟨h1, i, hi, h2⟩
    refine ⟨fun j hj hs => ?_, fun j hj hs => ?_, fun j hj hs => ?_, i, hi, by simpa using h2⟩
    · have := h1 j hj
      rw [hs] at this
      simpa using this
    · have := h1 j hj
      rw [if_pos hs, Bool.and_eq_true] at this
      exact this.1
    · have := h1 j hj
      rw [if_pos hs, Bool.and_eq_true] at this
      simpa using this.2
  · rintro ⟨h1, h2, h3, i, hi, h4, h5⟩
    refine ⟨fun j hj => ?_, i, hi, by rw [h4, decide_eq_true h5]; rfl⟩
    cases hs : inS S j with
    | false => rw [if_neg (by decide)]; exact decide_eq_true (h1 j hj hs)
    | true => rw [if_pos rfl, h2 j hj hs, decide_eq_true (h3 j hj hs)]; rfl
theorem roB_congr {t : Nat → Nat → Nat} {n S : Nat} {h p q : Nat → Nat} (e : ∀ i, i < n → p i = q i) (hp : roB t n S h p = true) : roB t n S h q = true := by
  rw [roB_iff] at hp ⊢
  obtain ⟨h1, h2, h3, i, hi, h4, h5⟩ := hp
  exact ⟨fun j hj hs => by rw [← e j hj]; exact h1 j hj hs, fun j hj hs => by rw [← e j hj]; exact h2 j hj hs, fun j hj hs => by rw [← e j hj]; exact h3 j hj hs, i, hi, h4, by rw [← e i hi]; exact h5⟩
theorem obB_ro {t : Nat → Nat → Nat} {n S : Nat} {h : Nat → Nat} (ht : ∀ i, i < n → Pm n (t i)) : obB t n S h = true ↔ ∃ x ∈ ordL (List.range n) n [], roB t n S h (rN x) = true := by
  rw [obB_iff ht]
  constructor
  · rintro ⟨p, hp, h1, h2, i, hi, h3, h4⟩
    have hq : Pm n (fun i => if inS S i = true then p i else i) := ⟨fun i hi => by
      show (if inS S i = true then p i else i) < n
      split
      · exact hp.lt i hi
      · exact hi, fun a b ha hb e => by
      have e : (if inS S a = true then p a else a) = (if inS S b = true then p b else b) := e
      by_cases sa : inS S a = true
      · rw [if_pos sa] at e
        by_cases sb : inS S b = true
        · rw [if_pos sb] at e
          exact hp.inj a b ha hb e
        · rw [if_neg sb] at e
          exact absurd (e ▸ h1 a ha sa) sb
      · rw [if_neg sa] at e
        by_cases sb : inS S b = true
        · rw [if_pos sb] at e
          exact absurd (e ▸ h1 b hb sb) sa
        · rw [if_neg sb] at e
          exact e⟩
    refine ⟨_, mem_of_pm hq, roB_congr (p := fun i => if inS S i = true then p i else i) (fun i hi => (rN_map (f := fun i => if inS S i = true then p i else i) hi).symm) (roB_iff.2 ⟨fun j hj hs => ?_, fun j hj hs => ?_, fun j hj hs => ?_, i, hi, h3, ?_⟩)⟩
    · simp [hs]
    · simpa [hs] using h1 j hj hs
    · simpa [hs] using h2 j hj hs
    · simpa [h3] using h4
  · rintro ⟨x, hx, hr⟩
    obtain ⟨-, h2, h3, i, hi, h4, h5⟩ := roB_iff.1 hr
    exact ⟨rN x, (pm_of_mem hx).2, h2, h3, i, hi, h4, h5⟩
theorem pow_only : ∀ n : Nat, n < 6 → wrap64 ((2 : Int) ^ n) = ((2 ^ n : Nat) : Int) := by decide +kernel
theorem bit_zeroT (s x : Nat) : (bits .and .i64 ((s : Int) / 2 ^ x) 1 == 0) = !inS s x := by
  have h2 : bits .and .i64 ((s : Int) / 2 ^ x) 1 = ((s / 2 ^ x % 2 : Nat) : Int) := by
    have e : ((s : Int) / 2 ^ x) = ((s / 2 ^ x : Nat) : Int) := by push_cast; rfl
    rw [e, i64_and1]
    omega
  rw [h2]
  unfold inS
  rcases Nat.mod_two_eq_zero_or_one (s / 2 ^ x) with h | h <;> rw [h] <;> rfl
set_option maxHeartbeats 8000000 in
set_option maxRecDepth 1000000 in
theorem refobjects_any (A : Option Addr) (n c : Nat) (t : Nat → Nat → Nat) (G : Option Addr) (cG : Nat) (h : Nat → Nat) (S : Nat) (w : World) (hw : Wis w A n t) (hG : Ints w G n (fun k => (h k : Int))) (hn : n ≤ 5) (ht : ∀ i, i < n → Pm n (t i)) (hh : ∀ k, k < n → h k < n) :
    Lr 75 #[.slice A n c, .slice G n cG, .int .i64 S] w (.bool (obB t n S h)) := by
  unfold Lr
  have HW := Lib.hid hw
  have HG := Lib.hid hG
  have HT := Lib.hid ht
  have HHl := Lib.hid hh
  have HOr := Lib.hid (refOrders n hn w)
  have hN := ordL_lenU n hn
  have HPm := Lib.hid (fun i => ordL_at (n := n) (i := i))
  have HRw := Lib.hid (fun w bo br x h => orders_rows (w := w) (bo := bo) (br := br) (n := n) (x := x) h)
  have HYes : Hid (∀ k, k < (ordL (List.range n) n []).length → roB t n S h (rN ((ordL (List.range n) n []).getD k [])) = true → obB t n S h = true) := Lib.hid (fun k hk e => (obB_ro ht).2 ⟨_, by
    rw [List.getD_eq_getElem?_getD, List.getElem?_eq_getElem hk, Option.getD_some]
    exact List.getElem_mem hk, e⟩)
  have HNo : Hid ((∀ k, k < (ordL (List.range n) n []).length → roB t n S h (rN ((ordL (List.range n) n []).getD k [])) = false) → obB t n S h = false) := Lib.hid (fun hall => by
    rw [← Bool.not_eq_true, obB_ro ht]
    rintro ⟨x, hx, e⟩
    obtain ⟨i, hi, rfl⟩ := List.getElem_of_mem hx
    have := hall i hi
    rw [List.getD_eq_getElem?_getD, List.getElem?_eq_getElem hi, Option.getD_some, e] at this
    cases this)
  generalize obB t n S h = ov at *
  clear hw hG ht hh
  generalize ordL (List.range n) n [] = ls at *
  obtain ⟨N, hNe⟩ : ∃ N, N = ls.length := ⟨_, rfl⟩
  rw [← hNe] at hN HPm HRw HYes HNo
  clear hNe
  go_enter Try.func75, Try.ntmps75
  go_wp2_with fail
  refine HOr.out.mono ?_
  rintro e w1 ⟨x0, rfl, hx, hb1⟩
  obtain ⟨A1, c1, rfl, hr1⟩ := HRw.out _ _ _ _ hx
  have HB1 := Lib.hid hb1
  have HR1 := Lib.hid hr1
  clear hx hb1 hr1 HOr HRw
  go_wp2_with fail
  go_loopw [17] (fun i wr => ∃ k : Nat, k ≤ N ∧ i = .int .i64 k ∧ (∀ i, i < k → roB t n S h (rN (ls.getD i [])) = false) ∧ Below w1.heap.size w1 wr) (fun i _ => N - (intOf i).toNat)
  case atStart => exact ⟨0, Nat.zero_le _, rfl, fun i hi => absurd hi (by omega), Below.refl _ _⟩
  case round =>
    obtain ⟨k, hk, rfl, hno, hD⟩ := hrel
    have HNk := Lib.hid hno
    have HDo := Lib.hid hD
    clear hno hD
    by_cases hlt : k < N
    · obtain ⟨bp, op, A', c', rfl, hc, hI⟩ := (HR1.out.keep HDo.out).at hlt
      have hpm := HPm.out k hlt
      have HWk := Lib.hid (HW.out.keep (HB1.out.trans (HDo.out.mono HB1.out.size)))
      have HGk := Lib.hid (HG.out.keep (HB1.out.trans (HDo.out.mono HB1.out.size)))
      have HIk := Lib.hid hI
      have HPl := Lib.hid hpm.lt
      have HYk := Lib.hid (HYes.out k hlt)
      have HN1 : Hid (roB t n S h (rN (ls.getD k [])) = false → ∀ i, i < k + 1 → roB t n S h (rN (ls.getD i [])) = false) := Lib.hid (fun e i hi => by
        by_cases e2 : i = k
        · rw [e2]; exact e
        · exact HNk.out i (by omega))
      have HVal : Hid (roB t n S h (rN (ls.getD k [])) = (allB (roP t n S h (rN (ls.getD k []))) n && anyB (roQ t n S h (rN (ls.getD k []))) n)) := Lib.hid rfl
      have HAl : Hid (∀ j, allB (roP t n S h (rN (ls.getD k []))) (j + 1) = (allB (roP t n S h (rN (ls.getD k []))) j && roP t n S h (rN (ls.getD k [])) j)) := Lib.hid (fun _ => rfl)
      have HAm : Hid (∀ j, anyB (roQ t n S h (rN (ls.getD k []))) (j + 1) = (anyB (roQ t n S h (rN (ls.getD k []))) j || roQ t n S h (rN (ls.getD k [])) j)) := Lib.hid (fun _ => rfl)
      have HPU : Hid (∀ j, roP t n S h (rN (ls.getD k [])) j = if inS S j then (inS S (rN (ls.getD k []) j) && decide (owF (t j) n (rN (ls.getD k []) j) ≤ owF (t j) n (h j))) else decide (rN (ls.getD k []) j = j)) := Lib.hid (fun _ => rfl)
      have HQU : Hid (∀ j, roQ t n S h (rN (ls.getD k [])) j = (inS S j && decide (owF (t j) n (rN (ls.getD k []) j) < owF (t j) n (h j)))) := Lib.hid (fun _ => rfl)
      have HZ1 : Hid (allB (roP t n S h (rN (ls.getD k []))) 0 = true) := Lib.hid rfl
      have HZ2 : Hid (anyB (roQ t n S h (rN (ls.getD k []))) 0 = false) := Lib.hid rfl
      have hIr : Ints wr A' n (fun q => (rN (ls.getD k []) q : Int)) := hI
      have HIr := Lib.hid hIr
      clear hI hIr hpm HIk
      generalize allB (roP t n S h (rN (ls.getD k []))) = al at *
      generalize anyB (roQ t n S h (rN (ls.getD k []))) = am at *
      generalize roP t n S h (rN (ls.getD k [])) = rp at *
      generalize roQ t n S h (rN (ls.getD k [])) = rq at *
      generalize roB t n S h (rN (ls.getD k [])) = rv at *
      generalize rN (ls.getD k []) = p at *
      obtain ⟨w3, hw3⟩ : ∃ w3, w3 = wr := ⟨_, rfl⟩
      go_wp2_with fail
      rw [← hw3] at HDo HWk HGk HIr hc ⊢
      clear hw3
      go_loopw [9, 10, 23] (fun so sm i wr => ∃ j : Nat, j ≤ n ∧ i = .int .i64 j ∧ so = .bool (al j) ∧ sm = .bool (am j) ∧ Below w3.heap.size w3 wr) (fun _ _ i _ => n - (intOf i).toNat)
      case atStart => exact ⟨0, Nat.zero_le _, rfl, by rw [HZ1.out], by rw [HZ2.out], Below.refl _ _⟩
      case round =>
        obtain ⟨j, hj, rfl, rfl, rfl, hd⟩ := hrel
        have HD := Lib.hid hd
        clear hd
        by_cases hjn : j < n
        · obtain ⟨b, o, A2, c2, rfl, hc1, hcc1, hA2⟩ := RowsK.at (HWk.out.keep HD.out) hjn
          obtain ⟨bx, ox, rfl, hcx⟩ := (HIr.out.keep HD.out).at hjn
          obtain ⟨bo, oo, rfl, hco2⟩ := (HGk.out.keep HD.out).at hjn
          have HR := Lib.hid hA2
          have HC1 := Lib.hid hc1
          have HC2 := Lib.hid hco2
          have HE1 := Lib.hid (idx_owF (HT.out j hjn) (HPl.out j hjn))
          have HE2 := Lib.hid (idx_owF (HT.out j hjn) (HHl.out j hjn))
          have HVj := Lib.hid (HAl.out j)
          have HQj := Lib.hid (HAm.out j)
          rw [HPU.out j] at HVj
          rw [HQU.out j] at HQj
          have hb0 := bit_zeroT S j
          have hb1 := bit_oneT S (p j)
          have hpl := HPl.out j hjn
          clear hA2 hc1 hco2 hcc1 HPU HQU HAl HAm
          generalize owF (t j) n (p j) = r1 at *
          generalize owF (t j) n (h j) = r2 at *
          generalize hhj : h j = hj at *
          generalize hpj : p j = pj at *
          clear hhj hpj
          cases hs : inS S j with
          | false =>
            rw [hs] at HVj HQj hb0
            rw [if_neg (by decide)] at HVj
            rw [Bool.false_and, Bool.or_false] at HQj
            have hb00 : (bits .and .i64 ((S : Int) / 2 ^ j) 1 == 0) = true := hb0
            have HU : Hid (am (j + 1) = am j) := Lib.hid HQj.out
            clear hs hb0 hb1
            cases hok : al j with
            | false =>
              have HV : Hid (al (j + 1) = false) := Lib.hid (by rw [HVj.out, hok]; rfl)
              clear hok
              go_wp2
              go_roundw
              case rel => exact ⟨j + 1, by omega, by go_num, by first | (rw [HV.out]; done) | (rw [HV.out, hd2]), by first | (rw [HU.out]; done) | (rw [HU.out, hd3]), HD.out⟩
              case measure => simp [intOf]; omega

            | true =>
              have HV0 : Hid (al (j + 1) = decide (pj = j)) := Lib.hid (by rw [HVj.out, hok]; rfl)
              clear hok
              by_cases he : pj = j
              · have hq := beq_t (a := (pj : Int)) (b := (j : Int)) (by omega)
                have HV : Hid (al (j + 1) = true) := Lib.hid (by rw [HV0.out, decide_eq_true he])
                clear he
                go_wp2
                go_roundw
                case rel => exact ⟨j + 1, by omega, by go_num, by first | (rw [HV.out]; done) | (rw [HV.out, hd2]), by first | (rw [HU.out]; done) | (rw [HU.out, hd3]), HD.out⟩
                case measure => simp [intOf]; omega

              · have hq := beq_f (a := (pj : Int)) (b := (j : Int)) (by omega)
                have HV : Hid (al (j + 1) = false) := Lib.hid (by rw [HV0.out, decide_eq_false he])
                clear he
                go_wp2
                go_roundw
                case rel => exact ⟨j + 1, by omega, by go_num, by first | (rw [HV.out]; done) | (rw [HV.out, hd2]), by first | (rw [HU.out]; done) | (rw [HU.out, hd3]), HD.out⟩
                case measure => simp [intOf]; omega

          | true =>
            rw [hs] at HVj HQj hb0
            rw [if_pos rfl] at HVj
            rw [Bool.true_and] at HQj
            have hb00 : (bits .and .i64 ((S : Int) / 2 ^ j) 1 == 0) = false := hb0
            clear hs hb0
            cases hok : al j with
            | false =>
              have HV : Hid (al (j + 1) = false) := Lib.hid (by rw [HVj.out, hok]; rfl)
              clear hok
              have HI1 := Lib.hid (fun (q : Later wr) (y : Int) => Lr.same (rankR_any A2 n c2 (fun a => (t j a : Int)) y q.to (HR.out.keep q.below) (by omega)))
              have q0 : ∀ q : Later wr, q.to.cell? ⟨b, o + j, none⟩ = some (.slice A2 n c2) := fun q => q.cell HC1.out
              have q2 : ∀ q : Later wr, q.to.cell? ⟨bo, oo + j, none⟩ = some (.int .i64 (hj : Int)) := fun q => q.cell HC2.out
              go_wp2_with fail
              refine wp_region_later (by kernel_rfl) (by kernel_rfl) ?_
              repeat
                (with_reducible refine wpQuiet_step ?_
                 intro K hK
                 go_simp
                 first
                   | (refine hK _ ?_; clear hK K)
                   | (apply Exists.intro
                      refine ⟨fun _ => ?_, hK _ ?_⟩
                      (go_at_call 60; exact Lr.later (HI1.out _ _))
                      clear hK K))
              with_reducible refine wpQuiet_nil ?_
              intro W2 hw'
              obtain ⟨p2, hw''⟩ := hw'
              have hp2 := p2.below
              rw [← hw''] at hp2
              clear hw'' p2
              have HD2 := Lib.hid (HD.out.trans (hp2.mono HD.out.size))
              clear q0 q2 HI1
              cases hmo : am j with
              | true =>
                have HU : Hid (am (j + 1) = true) := Lib.hid (by rw [HQj.out, hmo]; rfl)
                clear hmo
                go_wp2_with fail
                refine wp_region_later (by kernel_rfl) (by kernel_rfl) ?_
                repeat
                  (with_reducible refine wpQuiet_step ?_
                   intro K hK
                   go_simp
                   first
                     | (refine hK _ ?_; clear hK K)
                     | (apply Exists.intro
                        refine ⟨fun _ => ?_, hK _ ?_⟩
                        (go_at_call 60; exact Lr.later (HI2.out _ _))
                        clear hK K))
                with_reducible refine wpQuiet_nil ?_
                intro W3 hw'
                obtain ⟨p2, hw''⟩ := hw'
                have hp3 := p2.below
                rw [← hw''] at hp3
                clear hw'' p2
                have HD3 := Lib.hid (HD2.out.trans (hp3.mono HD2.out.size))
                clear hp2 hp3
                go_wp2
                go_roundw
                case rel => exact ⟨j + 1, by omega, by go_num, by first | (rw [HV.out]; done) | (rw [HV.out, hd2]), by first | (rw [HU.out]; done) | (rw [HU.out, hd3]), HD3.out⟩
                case measure => simp [intOf]; omega

              | false =>
                have HU0 : Hid (am (j + 1) = decide (r1 < r2)) := Lib.hid (by rw [HQj.out, hmo]; rfl)
                clear hmo
                have HI2 := Lib.hid (show ∀ (q : Later W2) (y : Int), Lr 60 #[.slice A2 n c2, .int .i64 y] q.to (.int .i64 (idxI (fun a => (t j a : Int)) y n)) from fun q y => Lr.same (rankR_any A2 n c2 (fun a => (t j a : Int)) y q.to ((HR.out.keep hp2).keep q.below) (by omega)))
                have q0 : ∀ q : Later W2, q.to.cell? ⟨b, o + j, none⟩ = some (.slice A2 n c2) := fun q => q.cell (cell_on HC1.out hp2)
                have q2 : ∀ q : Later W2, q.to.cell? ⟨bo, oo + j, none⟩ = some (.int .i64 (hj : Int)) := fun q => q.cell (cell_on HC2.out hp2)
                clear hp2
                go_wp2_with fail
                refine wp_region_later (by kernel_rfl) (by kernel_rfl) ?_
                repeat
                  (with_reducible refine wpQuiet_step ?_
                   intro K hK
                   go_simp
                   first
                     | (refine hK _ ?_; clear hK K)
                     | (apply Exists.intro
                        refine ⟨fun _ => ?_, hK _ ?_⟩
                        (go_at_call 60; exact Lr.later (HI2.out _ _))
                        clear hK K))
                with_reducible refine wpQuiet_nil ?_
                intro W3 hw'
                obtain ⟨p2, hw''⟩ := hw'
                have hp3 := p2.below
                rw [← hw''] at hp3
                clear hw'' p2
                have HD3 := Lib.hid (HD2.out.trans (hp3.mono HD2.out.size))
                clear hp3 q0 q2
                rw [HE1.out, HE2.out]
                by_cases hr : r1 < r2
                · have hd3 : decide ((r1 : Int) < (r2 : Int)) = true := decide_eq_true (by omega)
                  have HU : Hid (am (j + 1) = true) := Lib.hid (by rw [HU0.out, decide_eq_true hr])
                  go_wp2
                  go_roundw
                  case rel => exact ⟨j + 1, by omega, by go_num, by first | (rw [HV.out]; done) | (rw [HV.out, hd2]), by first | (rw [HU.out]; done) | (rw [HU.out, hd3]), HD3.out⟩
                  case measure => simp [intOf]; omega

                · have hd3 : decide ((r1 : Int) < (r2 : Int)) = false := decide_eq_false (by omega)
                  have HU : Hid (am (j + 1) = false) := Lib.hid (by rw [HU0.out, decide_eq_false hr])
                  go_wp2
                  go_roundw
                  case rel => exact ⟨j + 1, by omega, by go_num, by first | (rw [HV.out]; done) | (rw [HV.out, hd2]), by first | (rw [HU.out]; done) | (rw [HU.out, hd3]), HD3.out⟩
                  case measure => simp [intOf]; omega


            | true =>
              cases hsx : inS S pj with
              | false =>
                rw [hsx] at HVj hb1
                have HV : Hid (al (j + 1) = false) := Lib.hid (by rw [HVj.out, hok]; rfl)
                clear hok hsx
                have HI1 := Lib.hid (fun (q : Later wr) (y : Int) => Lr.same (rankR_any A2 n c2 (fun a => (t j a : Int)) y q.to (HR.out.keep q.below) (by omega)))
                have q0 : ∀ q : Later wr, q.to.cell? ⟨b, o + j, none⟩ = some (.slice A2 n c2) := fun q => q.cell HC1.out
                have q2 : ∀ q : Later wr, q.to.cell? ⟨bo, oo + j, none⟩ = some (.int .i64 (hj : Int)) := fun q => q.cell HC2.out
                go_wp2_with fail
                refine wp_region_later (by kernel_rfl) (by kernel_rfl) ?_
                repeat
                  (with_reducible refine wpQuiet_step ?_
                   intro K hK
                   go_simp
                   first
                     | (refine hK _ ?_; clear hK K)
                     | (apply Exists.intro
                        refine ⟨fun _ => ?_, hK _ ?_⟩
                        (go_at_call 60; exact Lr.later (HI1.out _ _))
                        clear hK K))
                with_reducible refine wpQuiet_nil ?_
                intro W2 hw'
                obtain ⟨p2, hw''⟩ := hw'
                have hp2 := p2.below
                rw [← hw''] at hp2
                clear hw'' p2
                have HD2 := Lib.hid (HD.out.trans (hp2.mono HD.out.size))
                clear q0 q2 HI1
                cases hmo : am j with
                | true =>
                  have HU : Hid (am (j + 1) = true) := Lib.hid (by rw [HQj.out, hmo]; rfl)
                  clear hmo
                  go_wp2_with fail
                  refine wp_region_later (by kernel_rfl) (by kernel_rfl) ?_
                  repeat
                    (with_reducible refine wpQuiet_step ?_
                     intro K hK
                     go_simp
                     first
                       | (refine hK _ ?_; clear hK K)
                       | (apply Exists.intro
                          refine ⟨fun _ => ?_, hK _ ?_⟩
                          (go_at_call 60; exact Lr.later (HI2.out _ _))
                          clear hK K))
                  with_reducible refine wpQuiet_nil ?_
                  intro W3 hw'
                  obtain ⟨p2, hw''⟩ := hw'
                  have hp3 := p2.below
                  rw [← hw''] at hp3
                  clear hw'' p2
                  have HD3 := Lib.hid (HD2.out.trans (hp3.mono HD2.out.size))
                  clear hp2 hp3
                  go_wp2
                  go_roundw
                  case rel => exact ⟨j + 1, by omega, by go_num, by first | (rw [HV.out]; done) | (rw [HV.out, hd2]), by first | (rw [HU.out]; done) | (rw [HU.out, hd3]), HD3.out⟩
                  case measure => simp [intOf]; omega

                | false =>
                  have HU0 : Hid (am (j + 1) = decide (r1 < r2)) := Lib.hid (by rw [HQj.out, hmo]; rfl)
                  clear hmo
                  have HI2 := Lib.hid (show ∀ (q : Later W2) (y : Int), Lr 60 #[.slice A2 n c2, .int .i64 y] q.to (.int .i64 (idxI (fun a => (t j a : Int)) y n)) from fun q y => Lr.same (rankR_any A2 n c2 (fun a => (t j a : Int)) y q.to ((HR.out.keep hp2).keep q.below) (by omega)))
                  have q0 : ∀ q : Later W2, q.to.cell? ⟨b, o + j, none⟩ = some (.slice A2 n c2) := fun q => q.cell (cell_on HC1.out hp2)
                  have q2 : ∀ q : Later W2, q.to.cell? ⟨bo, oo + j, none⟩ = some (.int .i64 (hj : Int)) := fun q => q.cell (cell_on HC2.out hp2)
                  clear hp2
                  go_wp2_with fail
                  refine wp_region_later (by kernel_rfl) (by kernel_rfl) ?_
                  repeat
                    (with_reducible refine wpQuiet_step ?_
                     intro K hK
                     go_simp
                     first
                       | (refine hK _ ?_; clear hK K)
                       | (apply Exists.intro
                          refine ⟨fun _ => ?_, hK _ ?_⟩
                          (go_at_call 60; exact Lr.later (HI2.out _ _))
                          clear hK K))
                  with_reducible refine wpQuiet_nil ?_
                  intro W3 hw'
                  obtain ⟨p2, hw''⟩ := hw'
                  have hp3 := p2.below
                  rw [← hw''] at hp3
                  clear hw'' p2
                  have HD3 := Lib.hid (HD2.out.trans (hp3.mono HD2.out.size))
                  clear hp3 q0 q2
                  rw [HE1.out, HE2.out]
                  by_cases hr : r1 < r2
                  · have hd3 : decide ((r1 : Int) < (r2 : Int)) = true := decide_eq_true (by omega)
                    have HU : Hid (am (j + 1) = true) := Lib.hid (by rw [HU0.out, decide_eq_true hr])
                    go_wp2
                    go_roundw
                    case rel => exact ⟨j + 1, by omega, by go_num, by first | (rw [HV.out]; done) | (rw [HV.out, hd2]), by first | (rw [HU.out]; done) | (rw [HU.out, hd3]), HD3.out⟩
                    case measure => simp [intOf]; omega

                  · have hd3 : decide ((r1 : Int) < (r2 : Int)) = false := decide_eq_false (by omega)
                    have HU : Hid (am (j + 1) = false) := Lib.hid (by rw [HU0.out, decide_eq_false hr])
                    go_wp2
                    go_roundw
                    case rel => exact ⟨j + 1, by omega, by go_num, by first | (rw [HV.out]; done) | (rw [HV.out, hd2]), by first | (rw [HU.out]; done) | (rw [HU.out, hd3]), HD3.out⟩
                    case measure => simp [intOf]; omega


              | true =>
                rw [hsx] at HVj hb1
                have HVc : Hid (al (j + 1) = decide (r1 ≤ r2)) := Lib.hid (by rw [HVj.out, hok]; rfl)
                clear hok hsx
                have HI1 := Lib.hid (fun (q : Later wr) (y : Int) => Lr.same (rankR_any A2 n c2 (fun a => (t j a : Int)) y q.to (HR.out.keep q.below) (by omega)))
                have q0 : ∀ q : Later wr, q.to.cell? ⟨b, o + j, none⟩ = some (.slice A2 n c2) := fun q => q.cell HC1.out
                have q2 : ∀ q : Later wr, q.to.cell? ⟨bo, oo + j, none⟩ = some (.int .i64 (hj : Int)) := fun q => q.cell HC2.out
                go_wp2_with fail
                refine wp_region_later (by kernel_rfl) (by kernel_rfl) ?_
                repeat
                  (with_reducible refine wpQuiet_step ?_
                   intro K hK
                   go_simp
                   first
                     | (refine hK _ ?_; clear hK K)
                     | (apply Exists.intro
                        refine ⟨fun _ => ?_, hK _ ?_⟩
                        (go_at_call 60; exact Lr.later (HI1.out _ _))
                        clear hK K))
                with_reducible refine wpQuiet_nil ?_
                intro W2 hw'
                obtain ⟨p2, hw''⟩ := hw'
                have hp2 := p2.below
                rw [← hw''] at hp2
                clear hw'' p2
                rw [HE1.out, HE2.out]
                by_cases hle : r1 ≤ r2
                · have hd2 : decide ((r1 : Int) ≤ (r2 : Int)) = true := decide_eq_true (by omega)
                  have HV : Hid (al (j + 1) = true) := Lib.hid (by rw [HVc.out, decide_eq_true hle])
                  have HD2 := Lib.hid (HD.out.trans (hp2.mono HD.out.size))
                  clear q0 q2 HI1
                  cases hmo : am j with
                  | true =>
                    have HU : Hid (am (j + 1) = true) := Lib.hid (by rw [HQj.out, hmo]; rfl)
                    clear hmo
                    go_wp2_with fail
                    refine wp_region_later (by kernel_rfl) (by kernel_rfl) ?_
                    repeat
                      (with_reducible refine wpQuiet_step ?_
                       intro K hK
                       go_simp
                       first
                         | (refine hK _ ?_; clear hK K)
                         | (apply Exists.intro
                            refine ⟨fun _ => ?_, hK _ ?_⟩
                            (go_at_call 60; exact Lr.later (HI2.out _ _))
                            clear hK K))
                    with_reducible refine wpQuiet_nil ?_
                    intro W3 hw'
                    obtain ⟨p2, hw''⟩ := hw'
                    have hp3 := p2.below
                    rw [← hw''] at hp3
                    clear hw'' p2
                    have HD3 := Lib.hid (HD2.out.trans (hp3.mono HD2.out.size))
                    clear hp2 hp3
                    go_wp2
                    go_roundw
                    case rel => exact ⟨j + 1, by omega, by go_num, by first | (rw [HV.out]; done) | (rw [HV.out, hd2]), by first | (rw [HU.out]; done) | (rw [HU.out, hd3]), HD3.out⟩
                    case measure => simp [intOf]; omega

                  | false =>
                    have HU0 : Hid (am (j + 1) = decide (r1 < r2)) := Lib.hid (by rw [HQj.out, hmo]; rfl)
                    clear hmo
                    have HI2 := Lib.hid (show ∀ (q : Later W2) (y : Int), Lr 60 #[.slice A2 n c2, .int .i64 y] q.to (.int .i64 (idxI (fun a => (t j a : Int)) y n)) from fun q y => Lr.same (rankR_any A2 n c2 (fun a => (t j a : Int)) y q.to ((HR.out.keep hp2).keep q.below) (by omega)))
                    have q0 : ∀ q : Later W2, q.to.cell? ⟨b, o + j, none⟩ = some (.slice A2 n c2) := fun q => q.cell (cell_on HC1.out hp2)
                    have q2 : ∀ q : Later W2, q.to.cell? ⟨bo, oo + j, none⟩ = some (.int .i64 (hj : Int)) := fun q => q.cell (cell_on HC2.out hp2)
                    clear hp2
                    go_wp2_with fail
                    refine wp_region_later (by kernel_rfl) (by kernel_rfl) ?_
                    repeat
                      (with_reducible refine wpQuiet_step ?_
                       intro K hK
                       go_simp
                       first
                         | (refine hK _ ?_; clear hK K)
                         | (apply Exists.intro
                            refine ⟨fun _ => ?_, hK _ ?_⟩
                            (go_at_call 60; exact Lr.later (HI2.out _ _))
                            clear hK K))
                    with_reducible refine wpQuiet_nil ?_
                    intro W3 hw'
                    obtain ⟨p2, hw''⟩ := hw'
                    have hp3 := p2.below
                    rw [← hw''] at hp3
                    clear hw'' p2
                    have HD3 := Lib.hid (HD2.out.trans (hp3.mono HD2.out.size))
                    clear hp3 q0 q2
                    rw [HE1.out, HE2.out]
                    by_cases hr : r1 < r2
                    · have hd3 : decide ((r1 : Int) < (r2 : Int)) = true := decide_eq_true (by omega)
                      have HU : Hid (am (j + 1) = true) := Lib.hid (by rw [HU0.out, decide_eq_true hr])
                      go_wp2
                      go_roundw
                      case rel => exact ⟨j + 1, by omega, by go_num, by first | (rw [HV.out]; done) | (rw [HV.out, hd2]), by first | (rw [HU.out]; done) | (rw [HU.out, hd3]), HD3.out⟩
                      case measure => simp [intOf]; omega

                    · have hd3 : decide ((r1 : Int) < (r2 : Int)) = false := decide_eq_false (by omega)
                      have HU : Hid (am (j + 1) = false) := Lib.hid (by rw [HU0.out, decide_eq_false hr])
                      go_wp2
                      go_roundw
                      case rel => exact ⟨j + 1, by omega, by go_num, by first | (rw [HV.out]; done) | (rw [HV.out, hd2]), by first | (rw [HU.out]; done) | (rw [HU.out, hd3]), HD3.out⟩
                      case measure => simp [intOf]; omega


                · have hd2 : decide ((r1 : Int) ≤ (r2 : Int)) = false := decide_eq_false (by omega)
                  have HV : Hid (al (j + 1) = false) := Lib.hid (by rw [HVc.out, decide_eq_false hle])
                  have HD2 := Lib.hid (HD.out.trans (hp2.mono HD.out.size))
                  clear q0 q2 HI1
                  cases hmo : am j with
                  | true =>
                    have HU : Hid (am (j + 1) = true) := Lib.hid (by rw [HQj.out, hmo]; rfl)
                    clear hmo
                    go_wp2_with fail
                    refine wp_region_later (by kernel_rfl) (by kernel_rfl) ?_
                    repeat
                      (with_reducible refine wpQuiet_step ?_
                       intro K hK
                       go_simp
                       first
                         | (refine hK _ ?_; clear hK K)
                         | (apply Exists.intro
                            refine ⟨fun _ => ?_, hK _ ?_⟩
                            (go_at_call 60; exact Lr.later (HI2.out _ _))
                            clear hK K))
                    with_reducible refine wpQuiet_nil ?_
                    intro W3 hw'
                    obtain ⟨p2, hw''⟩ := hw'
                    have hp3 := p2.below
                    rw [← hw''] at hp3
                    clear hw'' p2
                    have HD3 := Lib.hid (HD2.out.trans (hp3.mono HD2.out.size))
                    clear hp2 hp3
                    go_wp2
                    go_roundw
                    case rel => exact ⟨j + 1, by omega, by go_num, by first | (rw [HV.out]; done) | (rw [HV.out, hd2]), by first | (rw [HU.out]; done) | (rw [HU.out, hd3]), HD3.out⟩
                    case measure => simp [intOf]; omega

                  | false =>
                    have HU0 : Hid (am (j + 1) = decide (r1 < r2)) := Lib.hid (by rw [HQj.out, hmo]; rfl)
                    clear hmo
                    have HI2 := Lib.hid (show ∀ (q : Later W2) (y : Int), Lr 60 #[.slice A2 n c2, .int .i64 y] q.to (.int .i64 (idxI (fun a => (t j a : Int)) y n)) from fun q y => Lr.same (rankR_any A2 n c2 (fun a => (t j a : Int)) y q.to ((HR.out.keep hp2).keep q.below) (by omega)))
                    have q0 : ∀ q : Later W2, q.to.cell? ⟨b, o + j, none⟩ = some (.slice A2 n c2) := fun q => q.cell (cell_on HC1.out hp2)
                    have q2 : ∀ q : Later W2, q.to.cell? ⟨bo, oo + j, none⟩ = some (.int .i64 (hj : Int)) := fun q => q.cell (cell_on HC2.out hp2)
                    clear hp2
                    go_wp2_with fail
                    refine wp_region_later (by kernel_rfl) (by kernel_rfl) ?_
                    repeat
                      (with_reducible refine wpQuiet_step ?_
                       intro K hK
                       go_simp
                       first
                         | (refine hK _ ?_; clear hK K)
                         | (apply Exists.intro
                            refine ⟨fun _ => ?_, hK _ ?_⟩
                            (go_at_call 60; exact Lr.later (HI2.out _ _))
                            clear hK K))
                    with_reducible refine wpQuiet_nil ?_
                    intro W3 hw'
                    obtain ⟨p2, hw''⟩ := hw'
                    have hp3 := p2.below
                    rw [← hw''] at hp3
                    clear hw'' p2
                    have HD3 := Lib.hid (HD2.out.trans (hp3.mono HD2.out.size))
                    clear hp3 q0 q2
                    rw [HE1.out, HE2.out]
                    by_cases hr : r1 < r2
                    · have hd3 : decide ((r1 : Int) < (r2 : Int)) = true := decide_eq_true (by omega)
                      have HU : Hid (am (j + 1) = true) := Lib.hid (by rw [HU0.out, decide_eq_true hr])
                      go_wp2
                      go_roundw
                      case rel => exact ⟨j + 1, by omega, by go_num, by first | (rw [HV.out]; done) | (rw [HV.out, hd2]), by first | (rw [HU.out]; done) | (rw [HU.out, hd3]), HD3.out⟩
                      case measure => simp [intOf]; omega

                    · have hd3 : decide ((r1 : Int) < (r2 : Int)) = false := decide_eq_false (by omega)
                      have HU : Hid (am (j + 1) = false) := Lib.hid (by rw [HU0.out, decide_eq_false hr])
                      go_wp2
                      go_roundw
                      case rel => exact ⟨j + 1, by omega, by go_num, by first | (rw [HV.out]; done) | (rw [HV.out, hd2]), by first | (rw [HU.out]; done) | (rw [HU.out, hd3]), HD3.out⟩
                      case measure => simp [intOf]; omega



        · obtain rfl : j = n := by omega
          have HDq := Lib.hid (HDo.out.trans (HD.out.mono HDo.out.size))
          have HBe := Lib.hid (HB1.out.trans (HDq.out.mono HB1.out.size))
          cases ha1 : al j with
          | false =>
            have HX := Lib.hid (HN1.out (by rw [HVal.out, ha1]; rfl))
            clear ha1
            go_wp2
            go_roundw
            case rel => exact ⟨k + 1, by omega, by go_num, HX.out, HDq.out⟩
            case measure => simp [intOf]; omega
          | true =>
            cases ha2 : am j with
            | false =>
              have HX := Lib.hid (HN1.out (by rw [HVal.out, ha1, ha2]; rfl))
              clear ha1 ha2
              go_wp2
              go_roundw
              case rel => exact ⟨k + 1, by omega, by go_num, HX.out, HDq.out⟩
              case measure => simp [intOf]; omega
            | true =>
              have HX := Lib.hid (HYk.out (by rw [HVal.out, ha1, ha2]; rfl))
              clear ha1 ha2
              go_wp2
              go_ret
              exact ⟨ret_bool HX.out.symm, HBe.out⟩
    · obtain rfl : k = N := by omega
      have HX := Lib.hid (HNo.out HNk.out)
      have HBe := Lib.hid (HB1.out.trans (HDo.out.mono HB1.out.size))
      go_wp2
      go_ret
      exact ⟨ret_bool HX.out.symm, HBe.out⟩
end Go.Proofs.Ytocfbafcplhmiaa
