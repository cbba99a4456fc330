import Derived.Test.YtkgikehagkpmoaaRm
import Derived.Test.YtkgikehagkpmoaaDivs
namespace Go.Proofs.Ytkgikehagkpmoaa
open Go.RowKit

/-- The slices in vals are the lists of SL, of k numbers each. -/
def OwnPs (w : World) (base : Nat) (vals : List Value) (SL : List (List Nat)) (k : Nat) : Prop := ∀ (i : Nat) (x : Value) (l : List Nat), vals[i]? = some x → SL[i]? = some l → OwnL w base x (lst k (fL l))
theorem OwnPs.below {w w' : World} {base : Nat} {vals : List Value} {SL : List (List Nat)} {k : Nat} (h : OwnPs w base vals SL k) (hb : Below w.heap.size w w') : OwnPs w' base vals SL k := fun i x l hx hl => (h i x l hx hl).below hb
theorem OwnPs.snoc {w : World} {base : Nat} {vals : List Value} {SL : List (List Nat)} {k : Nat} {x : Value} {l : List Nat} (h : OwnPs w base vals SL k) (hn : vals.length = SL.length) (hx : OwnL w base x (lst k (fL l))) : OwnPs w base (vals ++ [x]) (SL ++ [l]) k := by
  intro i y l' hy hl'
  rcases Nat.lt_or_ge i vals.length with hl | hl
  · rw [List.getElem?_append_left hl] at hy
    rw [List.getElem?_append_left (by omega)] at hl'
    exact h i y l' hy hl'
  · rw [List.getElem?_append_right hl] at hy
    rw [List.getElem?_append_right (by omega)] at hl'
    have h0 : i - vals.length = 0 := by
      have := (List.getElem?_eq_some_iff.1 hy).1
      simp at this
      omega
    rw [h0] at hy
    rw [← hn, h0] at hl'
    simp only [List.getElem?_cons_zero, Option.some.injEq] at hy hl'
    subst hy hl'
    exact hx
theorem ownsRow_base {w : World} {base base' size n : Nat} {e : TypeId} {x : Value} {xs : List Value} (h : w.ownsRow base e size x n xs) (hb : base' ≤ base) : w.ownsRow base' e size x n xs := by
  refine ⟨h.1, ?_⟩
  rcases h.2 with hn | ⟨g, cap, cur, e, hg, r⟩
  · exact .inl hn
  · exact .inr ⟨g, cap, cur, e, by omega, r⟩
theorem OwnPs.rebase {w : World} {base base' : Nat} {vals : List Value} {SL : List (List Nat)} {k : Nat} (h : OwnPs w base vals SL k) (hb : base' ≤ base) : OwnPs w base' vals SL k := fun i x l hx hl => (h i x l hx hl).rebase hb
theorem ownsRow_form {w : World} {base size n : Nat} {e : TypeId} {x : Value} {xs : List Value} (h : w.ownsRow base e size x n xs) : ∃ A c, x = .slice A n c ∧ (0 < n → ∃ g, A = some ⟨g, 0, none⟩ ∧ base ≤ g) := by
  rcases h.2 with ⟨rfl, h0⟩ | ⟨g, cap, cur, rfl, hg, _⟩
  · exact ⟨none, 0, by rw [h0], fun h => by omega⟩
  · exact ⟨_, _, rfl, fun _ => ⟨g, rfl, hg⟩⟩
/-- The lists of the first q of SL with one more number. -/
def outQ (n : Nat) (SL : List (List Nat)) (q : Nat) : List (List Nat) := (SL.take q).flatMap (nxL n)
/-- .. of which the number is below x. -/
def nxX (l : List Nat) (x : Nat) : List (List Nat) := ((List.range x).filter fun x => !l.contains x).map fun x => l ++ [x]
theorem nxX_yes {l : List Nat} {x : Nat} (h : l.contains x = false) : nxX l (x + 1) = nxX l x ++ [l ++ [x]] := by
  unfold nxX
  rw [List.range_succ, List.filter_append, List.map_append]
  congr 1
  simp only [List.filter_cons, h, Bool.not_false, List.filter_nil]
  rfl
theorem nxX_no {l : List Nat} {x : Nat} (h : l.contains x = true) : nxX l (x + 1) = nxX l x := by
  unfold nxX
  rw [List.range_succ, List.filter_append, List.map_append]
  simp only [List.filter_cons, h, Bool.not_true, List.filter_nil]
  simp
theorem outQ_succ {n q : Nat} {SL : List (List Nat)} {l : List Nat} (h : SL[q]? = some l) : outQ n SL (q + 1) = outQ n SL q ++ nxX l n := by
  unfold outQ
  rw [List.take_add_one, h, List.flatMap_append]
  simp [nxX, nxL]
theorem nil_lst2 (w : World) (base : Nat) (hb : base ≤ w.heap.size) : OwnL (w.alloc (.cells #[] 3)) base (.slice (some ⟨w.heap.size, 0, none⟩) 0 0) [] :=
  ⟨rfl, .inr ⟨w.heap.size, 0, _, rfl, hb, heap_alloc_new w _, Nat.le_refl _, by unfold maxLen; omega, rfl, rfl⟩⟩
/-- x is none of the first k. -/
def neP (l : List Nat) (x j : Nat) : Bool := decide (¬ x = l.getD j 0)
theorem neP_all {l : List Nat} {x : Nat} : allB (neP l x) l.length = !l.contains x := by
  cases h : l.contains x with
  | true =>
    rw [List.contains_iff_mem] at h
    obtain ⟨i, hi, e⟩ := List.mem_iff_getElem.1 h
    exact allB_f hi (by simp [neP, List.getD_eq_getElem?_getD, List.getElem?_eq_getElem hi, e])
  | false =>
    refine allB_t fun j hj => ?_
    simp only [neP, decide_eq_true_eq]
    intro e
    have : x ∈ l := by rw [e]; exact getD_mem hj
    rw [← List.contains_iff_mem, h] at this
    cases this

set_option maxHeartbeats 4000000 in
set_option maxRecDepth 1000000 in
theorem rsome_any (n : Nat) (hn4 : n ≤ 4) : ∀ k : Nat, k ≤ 4 → ∀ w : World,
    Calls Try.prog 67 #[.int .i64 n, .int .i64 k] w fun e w' => ∃ (x : Value) (vals : List Value), e = .returned x ∧ vals.length = (smL n k).length ∧ w'.ownsRow w.heap.size 23 1 x (smL n k).length vals ∧ OwnPs w' w.heap.size vals (smL n k) k ∧ Below w.heap.size w w' := by
  intro k
  induction k with
  | zero =>
    intro _ w
    go_enter Try.func67, Try.ntmps67
    go_wp2_with fail
    go_ret
    refine ⟨_, [.slice none 0 0], rfl, rfl, ⟨by simp [smL], .inr ⟨w.heap.size, 1, _, rfl, Nat.le_refl _, heap_alloc_new w _, by simp [smL], by unfold maxLen; omega, rfl, by simp [smL]⟩⟩, ?_, (Below.refl _ _).alloc (Nat.le_refl _) _⟩
    intro i x l hx hl
    rcases i with _ | i
    · simp at hx
      subst hx
      exact OwnL.nil_ _ _
    · simp at hx
  | succ k ih =>
    intro hk w
    obtain ⟨i0, hi, hz0, hz1, hz2⟩ := info_parts infoInts
    obtain ⟨i1, hi1, hy0, hy1, hy2⟩ := info_parts infoInt
    have HIH := Lib.hid (ih (by omega))
    have hN := (smL_len hn4 k (by omega)).2 (by omega)
    obtain ⟨SK, hSK⟩ : ∃ SK, SK = smL n k := ⟨_, rfl⟩
    have HSk : Hid (SK = smL n k) := Lib.hid hSK
    have HMem : Hid (∀ l, l ∈ SK → l.length = k ∧ ∀ x, x ∈ l → x < n) := Lib.hid (fun l hl => smL_mem k l (by rw [← hSK]; exact hl))
    rw [← hSK] at hN
    have HOut : Hid (smL n (k + 1) = outQ n SK SK.length) := Lib.hid (by
      unfold outQ
      rw [List.take_length, hSK]
      rfl)
    rw [← hSK] at HIH
    obtain ⟨N, hNe⟩ : ∃ N, N = SK.length := ⟨_, rfl⟩
    rw [← hNe] at hN HOut HIH
    have HNe := Lib.hid hNe
    obtain ⟨M, hM⟩ : ∃ M, M = k + 1 := ⟨_, rfl⟩
    have hB := beq_f (a := (M : Int)) (b := 0) (by omega)
    have HM := Lib.hid hM
    rw [← hM] at hk HOut ⊢
    have hM1 : 1 ≤ M := by omega
    have hk3 : k ≤ 3 := by omega
    clear ih hNe hM hSK
    go_enter Try.func67, Try.ntmps67
    go_wp2_with fail
    rw [show ((M : Int) - 1) = (k : Int) from by have := HM.out; omega]
    refine (HIH.out w).mono ?_
    rintro e w1 ⟨y, rvals, rfl, hrl, hrown, hrps, hb1⟩
    obtain ⟨Ay, cy, rfl, hAy⟩ := ownsRow_form hrown
    have HAy := Lib.hid hAy
    have HRl := Lib.hid hrl
    have HROwn := Lib.hid hrown
    have HRPs := Lib.hid hrps
    have Hb1 := Lib.hid hb1
    have hw1 := hb1.size
    clear hAy hrl hrown hrps hb1
    go_wp2_with fail
    go_loopw [5, 20] (fun s x wr => ∃ (q : Nat) (vals : List Value) (SL : List (List Nat)), q ≤ N ∧ x = .int .i64 q ∧ SL = outQ n SK q ∧ SL.length ≤ q * n ∧ vals.length = SL.length ∧ wr.ownsRow w1.heap.size 23 1 s SL.length vals ∧ OwnPs wr w1.heap.size vals SL M ∧ Below w1.heap.size w1 wr) (fun _ x _ => N - (intOf x).toNat)
    case atStart =>
      exact ⟨0, [], [], Nat.zero_le _, rfl, rfl, Nat.zero_le _, rfl, World.ownsRow_nil w1 w1.heap.size 23 1, fun i x l hx => by simp at hx, Below.refl _ _⟩
    case round =>
      obtain ⟨q, vals, SL, hq, rfl, hSL, hSLl, hvl, hown, hps, hbel⟩ := hrel
      by_cases hlt : q < N
      · obtain ⟨gy, rfl, hgy⟩ := HAy.out (by omega)
        have hkl : q < rvals.length := by have := HRl.out; omega
        have hkl2 : q < SK.length := by have := HNe.out; omega
        obtain ⟨rx, hx⟩ : ∃ rx, rvals[q]? = some rx := ⟨_, List.getElem?_eq_getElem hkl⟩
        obtain ⟨l, hl⟩ : ∃ l, SK[q]? = some l := ⟨_, List.getElem?_eq_getElem hkl2⟩
        have hrowi := ownsRow_below HROwn.out hbel
        have hcell := World.ownsRow.cellAt hrowi q (by omega)
        rw [hx] at hcell
        obtain ⟨Ak, ck, hke, hIk⟩ := (HRPs.out q rx l hx hl).sl0'
        rw [hke] at hcell
        have HIk := Lib.hid hIk
        obtain ⟨hll, hlx⟩ := HMem.out l (List.mem_of_getElem? hl)
        have HLl := Lib.hid hll
        have HLx := Lib.hid hlx
        have HOutS := Lib.hid (outQ_succ (n := n) hl)
        have HSL := Lib.hid hSL
        have HSLl := Lib.hid hSLl
        have HVl := Lib.hid hvl
        have HOwn := Lib.hid hown
        have HPs := Lib.hid hps
        have HBel := Lib.hid hbel
        clear hrowi hx hl hIk hll hlx hSL hSLl hvl hown hps hbel hke
        go_wp2_with fail
        obtain ⟨wo, hwo⟩ : ∃ wo : World, wo = wr := ⟨_, rfl⟩
        have HWo := Lib.hid hwo
        clear hwo
        go_loopw [5, 25] (fun s x wi => ∃ (p : Nat) (vals : List Value) (SI : List (List Nat)), p ≤ n ∧ x = .int .i64 p ∧ SI = SL ++ nxX l p ∧ SI.length ≤ q * n + p ∧ vals.length = SI.length ∧ wi.ownsRow w1.heap.size 23 1 s SI.length vals ∧ OwnPs wi w1.heap.size vals SI M ∧ Below w1.heap.size w1 wi) (fun _ x _ => n - (intOf x).toNat)
        case atStart => exact ⟨0, vals, SL, Nat.zero_le _, rfl, by simp [nxX], HSLl.out, HVl.out, HOwn.out, HPs.out, HBel.out⟩
        case round =>
          obtain ⟨p, svals, SI, hp, rfl, hSI, hSIl, hsl, hsown, hsps, hbeli⟩ := hrel
          have HSI := Lib.hid hSI
          have HSIl := Lib.hid hSIl
          have HSl := Lib.hid hsl
          have HSOwn := Lib.hid hsown
          have HSPs := Lib.hid hsps
          have HBi := Lib.hid hbeli
          clear hSI hSIl hsl hsown hsps hbeli
          by_cases hlt2 : p < n
          · go_wp2_with fail
            obtain ⟨wo2, hwo2⟩ : ∃ wo2 : World, wo2 = wr := ⟨_, rfl⟩
            have HWo2 := Lib.hid hwo2
            clear hwo2
            go_loopw [9, 30] (fun s x wj => ∃ (j : Nat) (b : Bool), j ≤ k ∧ x = .int .i64 j ∧ s = .bool b ∧ b = allB (neP l p) j ∧ wj = wr) (fun _ x _ => k - (intOf x).toNat)
            case atStart => exact ⟨0, true, Nat.zero_le _, rfl, rfl, rfl, rfl⟩
            case round =>
              obtain ⟨j, b, hj, rfl, rfl, hb, rfl⟩ := hrel
              have HBj := Lib.hid hb
              clear hb
              by_cases hlt3 : j < k
              · obtain ⟨bk, ok, rfl, hcj⟩ := (HIk.out.keep HBi.out).at hlt3
                have hE : Hid (allB (neP l p) (j + 1) = (b && neP l p j)) := Lib.hid (by rw [HBj.out]; rfl)
                by_cases hne : p = l.getD j 0
                · have hX : Hid (neP l p j = false) := Lib.hid (by simp [neP, hne])
                  have hbn := bne_f (a := (p : Int)) (b := fL l j) (by unfold fL; omega)
                  clear hne
                  cases b with
                  | true =>
                    go_wp2
                    go_roundw
                    case rel => exact ⟨j + 1, _, by omega, by go_num, rfl, by rw [hE.out, hX.out]; rfl, trivial⟩
                    case measure => simp [intOf]; omega
                  | false =>
                    go_wp2
                    go_roundw
                    case rel => exact ⟨j + 1, _, by omega, by go_num, rfl, by rw [hE.out]; rfl, trivial⟩
                    case measure => simp [intOf]; omega
                · have hX : Hid (neP l p j = true) := Lib.hid (by unfold neP; exact decide_eq_true hne)
                  have hbn := bne_t (a := (p : Int)) (b := fL l j) (by unfold fL; omega)
                  clear hne
                  cases b with
                  | true =>
                    go_wp2
                    go_roundw
                    case rel => exact ⟨j + 1, _, by omega, by go_num, rfl, by rw [hE.out, hX.out]; rfl, trivial⟩
                    case measure => simp [intOf]; omega
                  | false =>
                    go_wp2
                    go_roundw
                    case rel => exact ⟨j + 1, _, by omega, by go_num, rfl, by rw [hE.out]; rfl, trivial⟩
                    case measure => simp [intOf]; omega
              · obtain rfl : j = k := by omega
                have HCon : Hid (b = !l.contains p) := Lib.hid (by rw [HBj.out]; conv => lhs; rw [← HLl.out]
                                                                   exact neP_all)
                cases b with
                | false =>
                  have HC2 := Lib.hid (nxX_no (l := l) (x := p) (by have := HCon.out; cases h : l.contains p <;> simp_all))
                  go_wp2
                  go_roundw
                  case rel => exact ⟨p + 1, svals, SI, by omega, by go_num, by rw [HC2.out]; exact HSI.out, by have := HSIl.out; omega, HSl.out, HSOwn.out, HSPs.out, HBi.out⟩
                  case measure => simp [intOf]; omega
                | true =>
                  have HC2 := Lib.hid (nxX_yes (l := l) (x := p) (by have := HCon.out; cases h : l.contains p <;> simp_all))
                  obtain ⟨T, hT⟩ : ∃ T, T = SI.length := ⟨_, rfl⟩
                  have HT := Lib.hid hT
                  have HSOwn' := HSOwn
                  rw [← hT] at HSOwn'
                  have hqn : T ≤ 10000 := by
                    have h1 : q * n ≤ 64 * 4 := Nat.mul_le_mul (by omega) hn4
                    have h2 := HSIl.out
                    omega
                  clear hT
                  have hbase := HBi.out.size
                  have hb2 : Below wr.heap.size wr (wr.alloc (.cells #[] 3)) := (Below.refl _ _).alloc (Nat.le_refl _) _
                  have Hb2 := Lib.hid hb2
                  clear hb2
                  go_wp2_with (at_builtin; go_loud (refine wpList_append_ints rfl (.tmp 43) (.tmp 44) rfl wr.heap.size (.slice (some ⟨wr.heap.size, 0, none⟩) 0 0) [] rfl (nil_lst2 wr wr.heap.size (Nat.le_refl _)) Ak j ck (fL l) rfl ((HIk.out.keep HBi.out).keep Hb2.out) (by simp; omega) (by simp) ?_))
                  intro v2 w2 hv2 hg2 _
                  replace hv2 : OwnL w2 wr.heap.size v2 (lst j (fL l)) := hv2
                  have hbw2 : Below wr.heap.size wr w2 := Hb2.out.grown hg2 (by simp) (fun g hg => by
                    simp [Value.ownBlock] at hg
                    omega)
                  obtain ⟨A2, c2, rfl, -⟩ := hv2.sl0'
                  have HV2 := Lib.hid hv2
                  have Hbw2 := Lib.hid hbw2
                  have hs2 := hbw2.size
                  clear hv2 hg2 hbw2
                  go_wp2_with (at_builtin; go_loud (refine wpList_append_own _ rfl _ _ 23 rfl wr.heap.size 3 i1 (.int .i64 0) 1 8 Try.underlying23 hi1 hy0 hy1 hy2 rfl (by decide) _ _ _ rfl (World.ownsRow.alloc HV2.out _) ⟨w2.heap.size, 0, none⟩ 1 1 [.int .i64 p] rfl rfl (news1 _ _ _) (one1 rfl) (by simp only [lst_len]; unfold maxLen; omega) (by simp only [lst_len]; omega) (by simp; omega) ?_))
                  intro v3 w3 hown3 hgrow3 _
                  have hbw3 : Below wr.heap.size wr w3 := (Hbw2.out.alloc hs2 _).grown hgrow3 (by simp; omega) (fun g hg => (World.ownsRow.lt HV2.out g hg).1)
                  have hO3 : OwnL w3 wr.heap.size v3 (lst M (fL (l ++ [p]))) := by
                    have e := lst_fL l p
                    rw [HLl.out, ← HM.out] at e
                    rw [← e]
                    unfold OwnL
                    simpa [lst_len] using hown3
                  obtain ⟨A3, c3, rfl, -⟩ := hO3.sl0'
                  have HO3 := Lib.hid hO3
                  have Hbw3 := Lib.hid hbw3
                  have hs3 := hbw3.size
                  clear hown3 hgrow3 hO3 hbw3
                  go_wp2_with (at_builtin; go_loud (refine wpList_append_own _ rfl (.tmp 42) (.tmp 49) 22 rfl w1.heap.size 23 i0 (.slice none 0 0) 1 24 Try.underlying22 hi hz0 hz1 hz2 rfl (by decide) _ T svals rfl (World.ownsRow.alloc (ownsRow_below HSOwn'.out Hbw3.out) _) ⟨w3.heap.size, 0, none⟩ 1 1 [.slice A3 M c3] rfl rfl (news1 _ _ _) (one1 rfl) (by unfold maxLen; omega) (by omega) (by simp; omega) ?_))
                  intro v5 w5 hown5 hgrow5 _
                  have HOwn5 := Lib.hid hown5
                  have HGrow5 := Lib.hid hgrow5
                  clear hown5 hgrow5
                  go_wp2
                  go_roundw
                  case rel =>
                    have e : (SI ++ [l ++ [p]]).length = T + 1 := by simp [HT.out]
                    refine ⟨p + 1, svals ++ [.slice A3 M c3], SI ++ [l ++ [p]], by omega, by go_num, by rw [HC2.out, ← List.append_assoc, ← HSI.out], ?_, ?_, by rw [e]; exact HOwn5.out, ?_, ?_⟩
                    · have := HSIl.out
                      have := HT.out
                      rw [e]
                      omega
                    · simp [HSl.out]
                    · refine OwnPs.snoc (fun i x l' hx hl' => ?_) HSl.out ?_
                      · have h1 := (HSPs.out i x l' hx hl').below (Hbw3.out.mono (Nat.le_refl _))
                        exact World.ownsRow.kept (World.ownsRow.alloc h1 _) HGrow5.out (own_other h1 (ownsRow_below HSOwn'.out Hbw3.out) (by decide))
                      · exact World.ownsRow.kept (World.ownsRow.alloc (HO3.out.rebase hbase) _) HGrow5.out (own_other HO3.out (ownsRow_below HSOwn'.out Hbw3.out) (by decide))
                    · exact ((HBi.out.trans (Hbw3.out.mono hbase)).alloc (by omega) _).grown HGrow5.out (by simp; omega) (fun g hg => (World.ownsRow.lt HSOwn'.out g hg).1)
                  case measure => simp [intOf]; omega
          · obtain rfl : p = n := by omega
            go_wp2
            go_roundw
            case rel => exact ⟨q + 1, svals, SI, by omega, by go_num, by rw [HOutS.out, ← HSL.out]; exact HSI.out, by have := HSIl.out; rw [Nat.add_mul, Nat.one_mul]; exact this, HSl.out, HSOwn.out, HSPs.out, HBi.out⟩
            case measure => simp [intOf]; omega
      · obtain rfl : q = N := by omega
        go_wp2
        go_ret
        have hsz := Hb1.out.size
        have e : SL = smL n M := by rw [HOut.out]; exact hSL
        rw [e] at hvl hown hps
        exact ⟨_, vals, rfl, hvl, ownsRow_base hown hw1, hps.rebase hw1, Hb1.out.trans (hbel.mono hw1)⟩
end Go.Proofs.Ytkgikehagkpmoaa
