/- swap: likes, isExchange, gains. -/
import Derived.Test.YtocfbafcplhmiaaUi
namespace Go.Proofs.Ytocfbafcplhmiaa
open Go.RowKit

/-- Person i likes a more than b. -/
def lkB (t : Nat → Nat → Nat) (n i a b : Nat) : Bool := decide (owF (t i) n a < owF (t i) n b)
set_option maxHeartbeats 1000000 in
set_option maxRecDepth 1000000 in
theorem likes_any (A : Option Addr) (n c : Nat) (t : Nat → Nat → Nat) (i a b : Nat) (w : World) (h : Wis w A n t) (hn : n ≤ 5) (hi : i < n) (ht : Pm n (t i)) (ha : a < n) (hb : b < n) :
    Lr 58 #[.agg #[.int .i64 n, .slice A n c], .int .i64 i, .int .i64 a, .int .i64 b] w (.bool (lkB t n i a b)) := by
  unfold Lr
  have HB := Lib.hid (box_bel w (.cells #[.int .i64 n, .slice A n c] 50))
  have HX := box2_at w (.int .i64 n) (.slice A n c) 50
  obtain ⟨bb, o, A', c', rfl, hc, hcc, hI⟩ := RowsK.at (h.keep HB.out) hi
  obtain ⟨W1, hW1⟩ : ∃ W1, W1 = w.alloc (.cells #[.int .i64 n, .slice (some ⟨bb, o, none⟩) n c] 50) := ⟨_, rfl⟩
  have e1 := idx_owF ht ha
  have e2 := idx_owF ht hb
  have HIx := Lib.hid (fun (y : Int) => index_any A' n c' (fun k => (t i k : Int)) y W1 (by rw [hW1]; exact hI) (by omega))
  have HU : Hid (lkB t n i a b = decide (owF (t i) n a < owF (t i) n b)) := Lib.hid rfl
  have x1 := HX.2
  have HIa := Lib.hid (HIx.out (a : Int))
  have HIb := Lib.hid (HIx.out (b : Int))
  rw [e1] at HIa
  rw [e2] at HIb
  generalize owF (t i) n a = ra at *
  generalize owF (t i) n b = rb at *
  rw [hW1] at HIa HIb
  clear HX HIx hI e1 e2 h hW1 hcc
  go_enter Try.func58, Try.ntmps58
  go_wp2_with fail
  refine HIa.out.mono ?_
  rintro e w' ⟨rfl, rfl⟩
  go_wp2_with fail
  refine HIb.out.mono ?_
  rintro e w' ⟨rfl, rfl⟩
  by_cases hl : ra < rb
  · have HV : Hid (lkB t n i a b = true) := Lib.hid (by rw [HU.out, decide_eq_true hl])
    have hd : decide ((ra : Int) < (rb : Int)) = true := decide_eq_true (by omega)
    go_wp2
    go_ret
    exact ⟨ret_bool (by first | (rw [HV.out]; done) | (rw [HV.out]; exact decide_eq_true hl)), HB.out⟩
  · have HV : Hid (lkB t n i a b = false) := Lib.hid (by rw [HU.out, decide_eq_false hl])
    have hd : decide ((ra : Int) < (rb : Int)) = false := decide_eq_false (by omega)
    go_wp2
    go_ret
    exact ⟨ret_bool (by first | (rw [HV.out]; done) | (rw [HV.out]; exact decide_eq_false hl)), HB.out⟩

/-- A group gets just what it has itself. -/
def exB (S : Nat) (f : Nat → Nat) (n : Nat) : Bool := allB (fun p => !(inS S p && !inS S (f p))) n
theorem has_at (s x : Nat) (v : Bool) (hx : x < 64) (h : inS s x = v) (w : World) : Calls Try.prog 77 #[.int .i64 s, .int .i64 x] w fun e w' => e = .returned (.bool v) ∧ w = w' := by
  rw [← h]
  exact has_any s x hx w
set_option maxHeartbeats 1000000 in
set_option maxRecDepth 1000000 in
theorem isExchange_any (S : Nat) (A : Option Addr) (n c : Nat) (f : Nat → Nat) (w : World) (h : Ints w A n (fun k => (f k : Int))) (hn : n ≤ 5) (hf : ∀ k, k < n → f k < n) :
    Calls Try.prog 86 #[.int .i64 S, .slice A n c] w fun e w' => e = .returned (.bool (exB S f n)) ∧ w = w' := by
  have H := Lib.hid h
  have HFl := Lib.hid hf
  have HU : Hid (exB S f n = allB (fun p => !(inS S p && !inS S (f p))) n) := Lib.hid rfl
  clear h hf
  go_enter Try.func86, Try.ntmps86
  go_wp2
  go_loop [9] (fun i => ∃ k : Nat, k ≤ n ∧ i = .int .i64 k ∧ AllLt (fun p => !(inS S p && !inS S (f p))) k) (fun i => n - (intOf i).toNat)
  case atStart => exact ⟨0, Nat.zero_le _, rfl, AllLt.zero⟩
  case round =>
    obtain ⟨k, hk, rfl, hA⟩ := hrel
    have HA := Lib.hid hA
    clear hA
    by_cases hlt : k < n
    · obtain ⟨b, o, rfl, hc⟩ := H.out.at hlt
      have hfk := HFl.out k hlt
      cases h1 : inS S k with
      | false =>
        have HH := Lib.hid (has_at S k false (by omega) h1)
        have HN := Lib.hid (HA.out.succ (p := fun p => !(inS S p && !inS S (f p))) (by rw [h1]; rfl))
        clear h1
        go_wp2_with fail
        refine (HH.out _).mono ?_
        rintro e w' ⟨rfl, rfl⟩
        go_wp2
        go_round
        case rel => exact ⟨k + 1, by omega, by go_num, HN.out⟩
        case measure => simp [intOf]; omega
      | true =>
        have HH := Lib.hid (has_at S k true (by omega) h1)
        cases h2 : inS S (f k) with
        | true =>
          have HH2 := Lib.hid (has_at S (f k) true (by omega) h2)
          have HN := Lib.hid (HA.out.succ (p := fun p => !(inS S p && !inS S (f p))) (by rw [h1, h2]; rfl))
          clear h1 h2
          go_wp2_with fail
          refine (HH.out _).mono ?_
          rintro e w' ⟨rfl, rfl⟩
          go_wp2_with fail
          refine (HH2.out _).mono ?_
          rintro e w' ⟨rfl, rfl⟩
          go_wp2
          go_round
          case rel => exact ⟨k + 1, by omega, by go_num, HN.out⟩
          case measure => simp [intOf]; omega
        | false =>
          have HH2 := Lib.hid (has_at S (f k) false (by omega) h2)
          have HN := Lib.hid (allB_f (p := fun p => !(inS S p && !inS S (f p))) hlt (by rw [h1, h2]; rfl))
          clear h1 h2
          go_wp2_with fail
          refine (HH.out _).mono ?_
          rintro e w' ⟨rfl, rfl⟩
          go_wp2_with fail
          refine (HH2.out _).mono ?_
          rintro e w' ⟨rfl, rfl⟩
          go_wp2
          go_ret
          exact ⟨ret_bool (by rw [HU.out, HN.out]), rfl⟩
    · obtain rfl : k = n := by omega
      go_wp2
      go_ret
      exact ⟨ret_bool (by rw [HU.out, allB_t HA.out]), rfl⟩

/-- Nobody of a group likes what they get in f less than what they get in h; somebody likes it more. -/
def gnP (t : Nat → Nat → Nat) (n S : Nat) (f h : Nat → Nat) (p : Nat) : Bool := !(inS S p && lkB t n p (h p) (f p))
def gnQ (t : Nat → Nat → Nat) (n S : Nat) (f h : Nat → Nat) (p : Nat) : Bool := inS S p && lkB t n p (f p) (h p)
def gnB (t : Nat → Nat → Nat) (n S : Nat) (f h : Nat → Nat) : Bool := allB (gnP t n S f h) n && anyB (gnQ t n S f h) n
set_option maxHeartbeats 4000000 in
set_option maxRecDepth 1000000 in
theorem gains_any (A : Option Addr) (n c : Nat) (t : Nat → Nat → Nat) (S : Nat) (F : Option Addr) (cF : Nat) (f : Nat → Nat) (G : Option Addr) (cG : Nat) (h : Nat → Nat) (w : World) (hw : Wis w A n t) (hF : Ints w F n (fun k => (f k : Int))) (hG : Ints w G n (fun k => (h k : Int)))
    (hn : n ≤ 5) (ht : ∀ i, i < n → Pm n (t i)) (hf : ∀ k, k < n → f k < n) (hh : ∀ k, k < n → h k < n) :
    Lr 64 #[.agg #[.int .i64 n, .slice A n c], .int .i64 S, .slice F n cF, .slice G n cG] w (.bool (gnB t n S f h)) := by
  unfold Lr
  have HW := Lib.hid hw
  have HF := Lib.hid hF
  have HG := Lib.hid hG
  have HT := Lib.hid ht
  have HFl := Lib.hid hf
  have HHl := Lib.hid hh
  have HU : Hid (gnB t n S f h = (allB (gnP t n S f h) n && anyB (gnQ t n S f h) n)) := Lib.hid rfl
  have HUP : Hid (∀ p, gnP t n S f h p = !(inS S p && lkB t n p (h p) (f p))) := Lib.hid (fun _ => rfl)
  have HUQ : Hid (∀ p, gnQ t n S f h p = (inS S p && lkB t n p (f p) (h p))) := Lib.hid (fun _ => rfl)
  have HAs : Hid (∀ k, anyB (gnQ t n S f h) (k + 1) = (anyB (gnQ t n S f h) k || gnQ t n S f h k)) := Lib.hid (fun _ => rfl)
  have HX := Lib.hid (box2_at w (.int .i64 n) (.slice A n c) 50)
  have HB := Lib.hid (box_bel w (.cells #[.int .i64 n, .slice A n c] 50))
  have e0 := HX.out.1
  clear hw hF hG ht hf hh
  go_enter Try.func64, Try.ntmps64
  go_wp2_with fail
  obtain ⟨W1, hW1⟩ : ∃ W1, W1 = w.alloc (.cells #[.int .i64 n, .slice A n c] 50) := ⟨_, rfl⟩
  rw [← hW1] at HX HB ⊢
  clear e0 hW1
  go_loopw [9, 13] (fun s i wr => ∃ k : Nat, k ≤ n ∧ i = .int .i64 k ∧ s = .bool (anyB (gnQ t n S f h) k) ∧ AllLt (gnP t n S f h) k ∧ Below W1.heap.size W1 wr) (fun _ i _ => n - (intOf i).toNat)
  case atStart => exact ⟨0, Nat.zero_le _, rfl, rfl, AllLt.zero, Below.refl _ _⟩
  case round =>
    obtain ⟨k, hk, rfl, rfl, hA, hD⟩ := hrel
    have HA := Lib.hid hA
    have HD := Lib.hid hD
    clear hA hD
    obtain ⟨sb, hsb⟩ : ∃ sb, anyB (gnQ t n S f h) k = sb := ⟨_, rfl⟩
    rw [hsb]
    have HSB := Lib.hid hsb
    clear hsb
    by_cases hlt : k < n
    · have hfk := HFl.out k hlt
      have hhk := HHl.out k hlt
      have HPk := Lib.hid (HUP.out k)
      have HQk := Lib.hid (HUQ.out k)
      have HAk := Lib.hid (HAs.out k)
      rw [HSB.out] at HAk
      cases h1 : inS S k with
      | false =>
        rw [h1] at HPk HQk
        have HH := Lib.hid (has_at S k false (by omega) h1)
        have HN := Lib.hid (HA.out.succ (by rw [HPk.out]; rfl))
        have HV : Hid (anyB (gnQ t n S f h) (k + 1) = sb) := Lib.hid (by rw [HAk.out, HQk.out]; simp)
        clear h1
        go_wp2_with fail
        refine (HH.out _).mono ?_
        rintro e w' ⟨rfl, rfl⟩
        go_wp2
        go_roundw
        case rel => exact ⟨k + 1, by omega, by go_num, by rw [HV.out], HN.out, HD.out⟩
        case measure => simp [intOf]; omega
      | true =>
        rw [h1] at HPk HQk
        rw [Bool.true_and] at HPk HQk
        have HH := Lib.hid (has_at S k true (by omega) h1)
        clear h1
        obtain ⟨b1, o1, rfl, -⟩ := HF.out.at hlt
        obtain ⟨b2, o2, rfl, -⟩ := HG.out.at hlt
        have HBr := Lib.hid (HB.out.trans (HD.out.mono HB.out.size))
        have HWl : Hid (∀ q : Later wr, Wis q.to A n t) := Lib.hid (fun q => (HW.out.keep HBr.out).keep q.below)
        have k0 : ∀ q : Later wr, q.to.cell? ⟨w.heap.size, 0, none⟩ = some (.int .i64 n) := fun q => q.cell (HX.out.keep HD.out).1
        have k1 : ∀ q : Later wr, q.to.cell? ⟨w.heap.size, 1, none⟩ = some (.slice A n c) := fun q => q.cell (HX.out.keep HD.out).2
        have kf : ∀ q : Later wr, q.to.cell? ⟨b1, o1 + k, none⟩ = some (.int .i64 (f k)) := fun q => q.cell ((HF.out.keep HBr.out).cell hlt)
        have kh : ∀ q : Later wr, q.to.cell? ⟨b2, o2 + k, none⟩ = some (.int .i64 (h k)) := fun q => q.cell ((HG.out.keep HBr.out).cell hlt)
        have HL1 := Lib.hid (fun q : Later wr => likes_any A n c t k (h k) (f k) q.to (HWl.out q) hn hlt (HT.out k hlt) hhk hfk)
        have HL2 := Lib.hid (fun q : Later wr => likes_any A n c t k (f k) (h k) q.to (HWl.out q) hn hlt (HT.out k hlt) hfk hhk)
        have HK : Hid ((∀ q : Later wr, q.to.cell? ⟨w.heap.size, 0, none⟩ = some (.int .i64 n)) ∧ (∀ q : Later wr, q.to.cell? ⟨w.heap.size, 1, none⟩ = some (.slice A n c)) ∧ (∀ q : Later wr, q.to.cell? ⟨b1, o1 + k, none⟩ = some (.int .i64 (f k))) ∧ ∀ q : Later wr, q.to.cell? ⟨b2, o2 + k, none⟩ = some (.int .i64 (h k))) := Lib.hid ⟨k0, k1, kf, kh⟩
        clear hfk hhk
        generalize f k = fk at *
        generalize h k = hk at *
        generalize lkB t n k hk fk = L1 at *
        generalize lkB t n k fk hk = L2 at *
        go_wp2_with fail
        refine (HH.out _).mono ?_
        rintro e w' ⟨rfl, rfl⟩
        go_wp2_with fail
        refine wp_region_later (by kernel_rfl) (by kernel_rfl) ?_
        repeat
          (with_reducible refine wpQuiet_step ?_
           intro K hK
           go_simp
           first
             | (refine hK _ ?_; clear hK K)
             | (apply Exists.intro
                refine ⟨fun _ => ?_, hK _ ?_⟩
                (go_at_call 58; exact Lr.later (HL1.out _))
                clear hK K))
        with_reducible refine wpQuiet_nil ?_
        intro W2 hw'
        obtain ⟨p2, hw''⟩ := hw'
        have hp2 := p2.below
        rw [← hw''] at hp2
        clear hw'' p2 k0 k1 kf kh
        have HD2 := Lib.hid (HD.out.trans (hp2.mono HD.out.size))
        cases L1 with
        | true =>
          have HN := Lib.hid (allB_f (p := gnP t n S f h) hlt (by rw [HPk.out]; rfl))
          have HBe := Lib.hid (HB.out.trans (HD2.out.mono HB.out.size))
          clear hp2
          go_wp2
          go_ret
          exact ⟨ret_bool (by rw [HU.out, HN.out]; rfl), HBe.out⟩
        | false =>
          have HN := Lib.hid (HA.out.succ (by rw [HPk.out]; rfl))
          have HL3 := Lib.hid (show ∀ q : Later W2, Lr 58 #[.agg #[.int .i64 n, .slice A n c], .int .i64 k, .int .i64 fk, .int .i64 hk] q.to (.bool L2) from fun q => HL2.out ⟨q.to, hp2.trans (q.below.mono hp2.size)⟩)
          have k0 : ∀ q : Later W2, q.to.cell? ⟨w.heap.size, 0, none⟩ = some (.int .i64 n) := fun q => HK.out.1 ⟨q.to, hp2.trans (q.below.mono hp2.size)⟩
          have k1 : ∀ q : Later W2, q.to.cell? ⟨w.heap.size, 1, none⟩ = some (.slice A n c) := fun q => HK.out.2.1 ⟨q.to, hp2.trans (q.below.mono hp2.size)⟩
          have kf : ∀ q : Later W2, q.to.cell? ⟨b1, o1 + k, none⟩ = some (.int .i64 fk) := fun q => HK.out.2.2.1 ⟨q.to, hp2.trans (q.below.mono hp2.size)⟩
          have kh : ∀ q : Later W2, q.to.cell? ⟨b2, o2 + k, none⟩ = some (.int .i64 hk) := fun q => HK.out.2.2.2 ⟨q.to, hp2.trans (q.below.mono hp2.size)⟩
          have HV : Hid (anyB (gnQ t n S f h) (k + 1) = (sb || L2)) := Lib.hid (by rw [HAk.out, HQk.out])
          clear hp2
          cases sb with
          | true =>
            have HV2 : Hid (anyB (gnQ t n S f h) (k + 1) = true) := Lib.hid (by rw [HV.out]; rfl)
            go_wp2_with fail
            refine wp_region_later (by kernel_rfl) (by kernel_rfl) ?_
            repeat
              (with_reducible refine wpQuiet_step ?_
               intro K hK
               go_simp
               (refine hK _ ?_; clear hK K))
            with_reducible refine wpQuiet_nil ?_
            intro W3 hw'
            obtain ⟨p2, hw''⟩ := hw'
            have hp3 := p2.below
            rw [← hw''] at hp3
            have HD3 := Lib.hid (HD2.out.trans (hp3.mono HD2.out.size))
            clear hw'' p2 hp3 k0 k1 kf kh
            go_wp2
            go_roundw
            case rel => exact ⟨k + 1, by omega, by go_num, by rw [HV2.out], HN.out, HD3.out⟩
            case measure => simp [intOf]; omega
          | false =>
            have HV2 : Hid (anyB (gnQ t n S f h) (k + 1) = L2) := Lib.hid (by rw [HV.out]; simp)
            go_wp2_with fail
            refine wp_region_later (by kernel_rfl) (by kernel_rfl) ?_
            repeat
              (with_reducible refine wpQuiet_step ?_
               intro K hK
               go_simp
               first
                 | (refine hK _ ?_; clear hK K)
                 | (apply Exists.intro
                    refine ⟨fun _ => ?_, hK _ ?_⟩
                    (go_at_call 58; exact Lr.later (HL3.out _))
                    clear hK K))
            with_reducible refine wpQuiet_nil ?_
            intro W3 hw'
            obtain ⟨p2, hw''⟩ := hw'
            have hp3 := p2.below
            rw [← hw''] at hp3
            have HD3 := Lib.hid (HD2.out.trans (hp3.mono HD2.out.size))
            clear hw'' p2 hp3 k0 k1 kf kh
            go_wp2
            go_roundw
            case rel => exact ⟨k + 1, by omega, by go_num, by rw [HV2.out], HN.out, HD3.out⟩
            case measure => simp [intOf]; omega
    · obtain rfl : k = n := by omega
      have HBe := Lib.hid (HB.out.trans (HD.out.mono HB.out.size))
      go_wp2
      go_ret
      exact ⟨ret_bool (by rw [HU.out, allB_t HA.out, HSB.out]; rfl), HBe.out⟩
end Go.Proofs.Ytocfbafcplhmiaa
