import Derived.Test.YtkgikehagkpmoaaAppAny
import Derived.Test.YtkgikehagkpmoaaDig2
import Derived.Test.YtkgikehagkpmoaaExc
namespace Go.Proofs.Ytkgikehagkpmoaa
open Go.RowKit

theorem kept2 {w w2 : World} {o1 : Obj} {base size n : Nat} {e : TypeId} {x : Value} {xs : List Value} (h : w.ownsRow base e size x n xs) (hg2 : (w.alloc o1).grownBy w2 (some w.heap.size)) : w2.ownsRow base e size x n xs :=
  World.ownsRow.kept (World.ownsRow.alloc h o1) hg2 (by
    cases hb : x.ownBlock with
    | none => exact .inl rfl
    | some k =>
      refine .inr ?_
      have := (World.ownsRow.lt h k hb).2
      intro e
      injection e with e
      omega)
/-- What four steps of a round leave of a row that they don't write. -/
theorem kept4 {w w2 w4 : World} {o1 o3 : Obj} {row : Option Nat} {base size n : Nat} {e : TypeId} {x : Value} {xs : List Value} (h : w.ownsRow base e size x n xs) (hg2 : (w.alloc o1).grownBy w2 (some w.heap.size)) (hg4 : (w2.alloc o3).grownBy w4 row)
    (hne : x.ownBlock = none ∨ x.ownBlock ≠ row) : w4.ownsRow base e size x n xs := by
  have h2 : w2.ownsRow base e size x n xs := World.ownsRow.kept (World.ownsRow.alloc h o1) hg2 (by
    cases hb : x.ownBlock with
    | none => exact .inl rfl
    | some k =>
      refine .inr ?_
      have := (World.ownsRow.lt h k hb).2
      intro e
      injection e with e
      omega)
  exact World.ownsRow.kept (World.ownsRow.alloc h2 o3) hg4 hne

theorem one_lst (w : World) (x : Int) (base : Nat) (hb : base ≤ w.heap.size) : OwnL (w.alloc (.cells #[.int .i64 x] 3)) base (.slice (some ⟨w.heap.size, 0, none⟩) 1 1) [x] :=
  ⟨rfl, .inr ⟨w.heap.size, 1, _, rfl, hb, heap_alloc_new w _, Nat.le_refl _, by unfold maxLen; omega, rfl, rfl⟩⟩

set_option maxHeartbeats 4000000 in
set_option maxRecDepth 1000000 in
theorem divs_any (n : Nat) (hn : 0 < n) (hn4 : n ≤ 4) : ∀ m : Nat, m ≤ 7 → ∀ w : World,
    Calls Try.prog 54 #[.int .i64 n, .int .i64 m] w fun e w' => ∃ x, e = .returned x ∧ OwnR w' w.heap.size x (n ^ m) (fun _ => m) (fun a => dg n m a) ∧ Below w.heap.size w w' := by
  intro m
  induction m with
  | zero =>
    intro _ w
    go_enter Try.func54, Try.ntmps54
    go_wp2_with fail
    go_ret
    refine ⟨_, rfl, ⟨[.slice none 0 0], by simp, ⟨by simp, .inr ⟨w.heap.size, 1, _, rfl, Nat.le_refl _, heap_alloc_new w _, by simp, by unfold maxLen; omega, rfl, by simp⟩⟩, ?_⟩, (Below.refl _ _).alloc (Nat.le_refl _) _⟩
    intro i x hx
    rcases i with _ | i
    · simp at hx
      subst hx
      exact OwnL.nil_ _ _
    · simp at hx
  | succ m ih =>
    intro hm w
    obtain ⟨i0, hi, hz0, hz1, hz2⟩ := info_parts infoInts
    have HIH := Lib.hid (ih (by omega))
    have hN : n ^ m ≤ 4096 := by
      have h1 : n ^ m ≤ 4 ^ m := Nat.pow_le_pow_left hn4 m
      have h2 : 4 ^ m ≤ 4 ^ 6 := Nat.pow_le_pow_right (by omega) (by omega)
      omega
    have hN0 : 0 < n ^ m := Nat.pow_pos hn
    have hpow : n ^ (m + 1) = n * n ^ m := by rw [Nat.pow_succ, Nat.mul_comm]
    have HTail : Hid (∀ q r, q < n → r < n ^ m → lst (m + 1) (dg n (m + 1) (q * n ^ m + r)) = [(q : Int)] ++ lst m (dg n m r)) := Lib.hid (fun q r hq hr => by
      apply List.ext_getElem?
      intro j
      rcases j with _ | j
      · rw [lst_get _ _ _ (by omega)]
        simp [dg, dg_head hq hr]
      · rcases Nat.lt_or_ge j m with hl | hl
        · rw [lst_get _ _ _ (by omega)]
          simp [lst_get _ _ _ hl, dg, dg_tail hn hl]
        · rw [List.getElem?_eq_none (by simp [lst_len]; omega), List.getElem?_eq_none (by simp [lst_len]; omega)])
    obtain ⟨N, hNe⟩ : ∃ N, N = n ^ m := ⟨_, rfl⟩
    rw [← hNe] at hN hN0 hpow
    have HNe := Lib.hid hNe
    obtain ⟨M, hM⟩ : ∃ M, M = m + 1 := ⟨_, rfl⟩
    have hB := beq_f (a := (M : Int)) (b := 0) (by omega)
    have HM := Lib.hid hM
    rw [← hM] at hpow HTail hm ⊢
    have hM1 : 1 ≤ M := by omega
    have hm6 : m ≤ 6 := by omega
    have HPow := Lib.hid hpow
    clear ih hNe hpow hM
    go_enter Try.func54, Try.ntmps54
    go_wp2_with fail
    go_loopw [5, 13] (fun s x wr => ∃ q : Nat, q ≤ n ∧ x = .int .i64 q ∧ OwnR wr w.heap.size s (q * N) (fun _ => M) (fun a => dg n M a) ∧ Below w.heap.size w wr) (fun _ x _ => n - (intOf x).toNat)
    case atStart =>
      refine ⟨0, Nat.zero_le _, rfl, ⟨[], by simp, ?_, fun i x hx => by simp at hx⟩, Below.refl _ _⟩
      have := World.ownsRow_nil w w.heap.size 23 1
      simpa using this
    case round =>
      obtain ⟨q, hq, rfl, ⟨vals, hvl, hown, hvals⟩, hbel⟩ := hrel
      by_cases hlt : q < n
      · have HVl := Lib.hid hvl
        have HOwn := Lib.hid hown
        have HVals := Lib.hid hvals
        have HBel := Lib.hid hbel
        clear hvl hown hvals hbel
        go_wp2_with fail
        rw [show ((M : Int) - 1) = (m : Int) from by have := HM.out; omega]
        refine (HIH.out wr).mono ?_
        rintro e w1 ⟨y, rfl, hy, hb1⟩
        rw [← HNe.out] at hy
        obtain ⟨Ay, cy, rfl, -, -⟩ := hy.rows
        obtain ⟨rvals, hrl, hrown, hrv⟩ := hy
        have hAy : ∃ g, Ay = some ⟨g, 0, none⟩ ∧ wr.heap.size ≤ g := by
          rcases hrown.2 with ⟨e, h0⟩ | ⟨g, cap, cur, e, hg, _⟩
          · omega
          · injection e with e1 e2 e3
            exact ⟨g, e1, hg⟩
        obtain ⟨gy, rfl, hgy⟩ := hAy
        have HOwn1 := Lib.hid (ownsRow_below HOwn.out hb1)
        have HVals1 := Lib.hid (HVals.out.below hb1)
        have HBel1 := Lib.hid (HBel.out.trans (hb1.mono HBel.out.size))
        have HRl := Lib.hid hrl
        have HROwn := Lib.hid hrown
        have HRv := Lib.hid hrv
        have HW1 := Lib.hid hb1.size
        have hne : ∀ u3 : Value, wr.ownsRow w.heap.size 23 1 u3 (q * N) vals → u3.ownBlock ≠ some gy := fun u3 h e => by
          have := (World.ownsRow.lt h gy e).2
          omega
        have HNe2 := Lib.hid (hne _ HOwn.out)
        clear hrl hrown hrv hb1 hne hgy
        go_wp2_with fail
        obtain ⟨wo, hwo⟩ : ∃ wo : World, wo = w1 := ⟨_, rfl⟩
        have HWo := Lib.hid hwo
        clear hwo
        go_loopw [5, 21] (fun s x wi => ∃ k : Nat, k ≤ N ∧ x = .int .i64 k ∧ OwnR wi w.heap.size s (q * N + k) (fun _ => M) (fun a => dg n M a) ∧ Below w.heap.size w wi ∧ wr.heap.size ≤ wi.heap.size ∧
          wi.ownsRow wr.heap.size 23 1 (.slice (some ⟨gy, 0, none⟩) N cy) N rvals ∧ OwnVals wi wr.heap.size rvals (fun _ => m) (fun a => dg n m a) ∧ s.ownBlock ≠ some gy) (fun _ x _ => N - (intOf x).toNat)
        case atStart => exact ⟨0, Nat.zero_le _, rfl, ⟨vals, HVl.out, HOwn1.out, HVals1.out⟩, HBel1.out, HW1.out, HROwn.out, HRv.out, HNe2.out⟩
        case round =>
          obtain ⟨k, hk, rfl, ⟨svals, hsl, hsown, hsvals⟩, hbeli, hszi, hrowi, hrvi, hnei⟩ := hrel
          by_cases hlt2 : k < N
          · have hkl : k < rvals.length := by have := HRl.out; omega
            obtain ⟨rx, hx⟩ : ∃ rx, rvals[k]? = some rx := ⟨_, List.getElem?_eq_getElem hkl⟩
            have hcell := World.ownsRow.cellAt hrowi k (by omega)
            rw [hx] at hcell
            have hrk := hrvi k _ hx
            obtain ⟨Ak, ck, hke, hIk⟩ := hrk.sl0'
            rw [hke] at hcell
            have HSl := Lib.hid hsl
            have HSOwn := Lib.hid hsown
            have HSVals := Lib.hid hsvals
            have HRowi := Lib.hid hrowi
            have HRvi := Lib.hid hrvi
            have HNei := Lib.hid hnei
            have HBi := Lib.hid hbeli
            have HIk := Lib.hid hIk
            have hbase := hbeli.size
            clear hsl hsown hsvals hrowi hrvi hnei hbeli hIk hrk hke hx
            have hb2 : Below wr.heap.size wr (wr.alloc (.cells #[.int .i64 q] 3)) := (Below.refl _ _).alloc (Nat.le_refl _) _
            have Hb2 := Lib.hid hb2
            clear hb2
            go_wp2_with (at_builtin; go_loud (refine wpList_append_ints rfl (.tmp 27) (.tmp 28) rfl w.heap.size (.slice (some ⟨wr.heap.size, 0, none⟩) 1 1) [(q : Int)] rfl (one_lst wr q w.heap.size hbase) Ak m ck (dg n m k) rfl (HIk.out.keep Hb2.out) (by simp; omega) (by simp; omega) ?_))
            intro v2 w2 hv2 hg2 _
            replace hv2 : OwnL w2 w.heap.size v2 ([(q : Int)] ++ lst m (dg n m k)) := hv2
            rw [← HTail.out q k hlt (by rw [← HNe.out]; exact hlt2), ← HNe.out] at hv2
            obtain ⟨A2, c2, rfl, -⟩ := hv2.sl0'
            have HV2 := Lib.hid hv2
            have HG2 := Lib.hid hg2
            have hs2 := hg2.size
            simp only [World.size_alloc] at hs2
            clear hv2 hg2
            have hqk : q * N + k ≤ 100000 := by
              have : q * N ≤ 4 * 4096 := Nat.mul_le_mul (by omega) hN
              omega
            have HQK := Lib.hid hqk
            clear hqk
            go_wp2_with (at_builtin; go_loud (refine wpList_append_own_at _ rfl (.tmp 25) (.tmp 30) 22 rfl w.heap.size 23 i0 (.slice none 0 0) 1 24 Try.underlying22 hi hz0 hz1 hz2 rfl (by decide) _ (q * N + k) svals rfl (World.ownsRow.alloc (kept2 HSOwn.out HG2.out) _) ⟨w2.heap.size, 0, none⟩ 1 1 [.slice A2 M c2] rfl rfl (news1 _ _ _) (one1 HV2.out.one) (by have := HQK.out; unfold maxLen; omega) (by have := HQK.out; omega) (by simp; omega) ?_))
            intro v4 w4 hv4 hg4 _ hat4
            have HV4 := Lib.hid hv4
            have HG4 := Lib.hid hg4
            have HAt := Lib.hid hat4
            clear hv4 hg4 hat4
            go_wp2
            go_roundw
            case rel =>
              have hs4 := HG4.out.size
              simp only [World.size_alloc] at hs4
              have hrow2 := World.ownsRow.lt HRowi.out gy rfl
              refine ⟨k + 1, by omega, by go_num, ⟨svals ++ [.slice A2 M c2], ?_, ?_, ?_⟩, ?_, by omega, ?_, ?_, ?_⟩
              · simp [HSl.out]; omega
              · rw [← Nat.add_assoc]; exact HV4.out
              · refine OwnVals.snoc (n := q * N + k) (fun i x hx => ?_) HSl.out ?_
                · exact kept4 (HSVals.out i x hx) HG2.out HG4.out (own_other (HSVals.out i x hx) HSOwn.out (by decide))
                · exact World.ownsRow.kept (World.ownsRow.alloc HV2.out _) HG4.out (own_other HV2.out (kept2 HSOwn.out HG2.out) (by decide))
              · have hb3 : Below w.heap.size w w2 := (HBi.out.alloc hbase _).grown HG2.out (by simp; omega) (fun g hg => by simp only [Value.ownBlock, Option.some.injEq] at hg; omega)
                exact (hb3.alloc (by omega) _).grown HG4.out (by simp; omega) (fun g hg => (World.ownsRow.lt HSOwn.out g hg).1)
              · exact kept4 HRowi.out HG2.out HG4.out (.inr (by simp only [Value.ownBlock]; exact fun e => HNei.out e.symm))
              · exact fun i x hx => kept4 (HRvi.out i x hx) HG2.out HG4.out (own_other (HRvi.out i x hx) HSOwn.out (by decide))
              · rcases HAt.out with e | e
                · rw [e]; exact HNei.out
                · rw [e]
                  intro e2
                  injection e2 with e2
                  try simp only [World.size_alloc] at e2
                  omega
            case measure => simp [intOf]; omega
          · obtain rfl : k = N := by omega
            go_wp2
            go_roundw
            case rel =>
              refine ⟨q + 1, by omega, by go_num, ⟨svals, ?_, ?_, hsvals⟩, hbeli⟩
              · rw [Nat.add_mul, Nat.one_mul]; exact hsl
              · rw [Nat.add_mul, Nat.one_mul]; exact hsown
            case measure => simp [intOf]; omega
      · obtain rfl : q = n := by omega
        go_wp2
        go_ret
        exact ⟨_, rfl, ⟨vals, by rw [HPow.out]; exact hvl, by rw [HPow.out]; exact hown, hvals⟩, hbel⟩
end Go.Proofs.Ytkgikehagkpmoaa
