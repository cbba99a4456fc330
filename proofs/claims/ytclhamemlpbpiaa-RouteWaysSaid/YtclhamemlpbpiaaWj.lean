/- The reference's ways. -/
import Derived.Test.YtclhamemlpbpiaaWi
import Derived.Test.YtclhamemlpbpiaaHx
import Derived.ArgAppend
import Derived.Laws.Cover3
import Derived.Deep.CutRange
import Derived.Deep.DeepCutAuto
namespace Go.Proofs.Ytclhamemlpbpiaa
open Go.RowKit

theorem orS_keep {g : Nat → Option (List Int)} {k : Nat} {u : List Int} (h : orS g k = some u) : ∀ n, k ≤ n → orS g n = some u := by
  intro n
  induction n with
  | zero =>
    intro hk
    obtain rfl : k = 0 := by omega
    exact h
  | succ n ih =>
    intro hk
    by_cases e : k = n + 1
    · rw [← e]
      exact h
    · rw [orS, ih (by omega)]
      rfl
/-- What the search answers. -/
def AnsW (w : World) (v : Value) : Option (List Int) → Prop
  | none => v = .slice none 0 0
  | some u => ∃ b c, v = .slice (some b) u.length c ∧ Ints w (some b) u.length (fun i => u.getD i 0) ∧ u.length ≤ c
theorem AnsW.keep {w w' : World} {v : Value} {o : Option (List Int)} (h : AnsW w v o) (hb : Below w.heap.size w w') : AnsW w' v o := by
  cases o with
  | none => exact h
  | some u =>
    obtain ⟨b, c, e, hI, hc⟩ := h
    exact ⟨b, c, e, hI.keep hb, hc⟩
def WaysOk (A : Option Addr) (m c n : Nat) (F : Nat → Nat → Int) (b : Nat) (d : Int) (r : Nat) : Prop := ∀ (g cp : Nat) (L : List Int) (w : World), Recs 3 w A m F → Ints w (some ⟨g, 0, none⟩) L.length (fun i => L.getD i 0) → L.length ≤ cp → 0 < L.length → L.length + r ≤ 5000 →
  Calls Try.prog 36 #[.agg #[.int .i64 n, .slice A m c], .slice (some ⟨g, 0, none⟩) L.length cp, .int .i64 b, .int .i64 ((L.length + r : Nat) : Int), .int .i64 d] w fun e w' => ∃ v, e = .returned v ∧ AnsW w' v (wsF n m F b d r L) ∧ Below w.heap.size w w'
set_option maxHeartbeats 4000000 in
set_option maxRecDepth 1000000 in
theorem ways_leaf (A : Option Addr) (m c n : Nat) (F : Nat → Nat → Int) (b : Nat) (d : Int) (hok : okM n m F = true) : WaysOk A m c n F b d 0 := by
  intro g cp L w hR hI hcp hL hlen
  have hB1 := MapBR.new w n (.slice A m c)
  have hb1 := (Below.refl w.heap.size w).alloc (Nat.le_refl _) (.cells #[.int .i64 n, .slice A m c] 24)
  obtain ⟨W1, hW1⟩ : ∃ W1, W1 = w.alloc (.cells #[.int .i64 n, .slice A m c] 24) := ⟨_, rfl⟩
  rw [← hW1] at hB1 hb1
  have HWW : Hid (w.alloc (.cells #[.int .i64 n, .slice A m c] 24) = W1) := Lib.hid hW1.symm
  have HCo := Lib.hid (refCost_any A (some ⟨g, 0, none⟩) m c n L.length cp F (fun i => L.getD i 0) W1 (hR.keep hb1) (hI.keep hb1) hok (by omega) hcp)
  have q0 := hB1.c0
  have q1 := hB1.c1
  have HIn := Lib.hid hI
  have Hb1 := Lib.hid hb1
  have hcl : w.cell? ⟨g, 0 + (L.length - 1), none⟩ = some (.int .i64 (L.getD (L.length - 1) 0)) := hI.cell (show L.length - 1 < L.length by omega)
  have hcl2 := (hb1.cell (World.block_lt_of_cell? _ _ hcl)).trans hcl
  rw [Nat.zero_add] at hcl2
  have HF : Hid (wsF n m F b d 0 L = if L.getD (L.length - 1) 0 = (b : Int) ∧ coL n m F L = d then some L else none) := Lib.hid rfl
  have HCd : Hid (coR n m F (fun i => L.getD i 0) L.length = coL n m F L) := Lib.hid rfl
  rw [HCd.out] at HCo
  have HKe : Hid (∀ w', Below W1.heap.size W1 w' → AnsW w' (.slice (some ⟨g, 0, none⟩) L.length cp) (some L) ∧ Below w.heap.size w w') := Lib.hid (fun w' hb => ⟨⟨_, _, rfl, hI.keep (hb1.trans (hb.mono hb1.size)), hcp⟩, hb1.trans (hb.mono hb1.size)⟩)
  rw [Nat.add_zero]
  have hbb := beq_t (rfl : (L.length : Int) = L.length)
  clear hB1 hb1 hW1 hR hI hcl HCd
  generalize wsF n m F b d 0 L = R at *
  generalize coL n m F L = cl at *
  generalize L.getD (L.length - 1) 0 = x at *
  generalize hi : L.length = i at *
  have hi1 : (1 : Int) ≤ i := by omega
  have HLi := Lib.hid hi
  clear hi
  go_enter Try.func36, Try.ntmps36
  go_upto_region 1 with fail
  rw [HWW.out]
  by_cases hx : x = b
  · have hq := beq_t hx
    go_wp2_with fail
    refine HCo.out.use fun w3 hb3 => ?_
    have HB3 := Lib.hid hb3
    clear hb3 q0 q1 hcl2
    by_cases hc : cl = d
    · have hq2 := beq_t hc
      have HR := Lib.hid (show R = some L by rw [HF.out, if_pos ⟨hx, hc⟩])
      clear hx hc
      go_wp2
      go_returns
      exact ⟨_, rfl, by rw [HR.out]; exact (HKe.out _ HB3.out).1, (HKe.out _ HB3.out).2⟩
    · have hq2 := beq_f hc
      have HR := Lib.hid (show R = none by rw [HF.out, if_neg (fun h => hc h.2)])
      clear hx hc
      go_wp2
      go_returns
      exact ⟨_, rfl, by rw [HR.out]; rfl, (HKe.out _ HB3.out).2⟩
  · have hq := beq_f hx
    have HR := Lib.hid (show R = none by rw [HF.out, if_neg (fun h => hx h.1)])
    clear hx
    go_wp2
    go_returns
    exact ⟨_, rfl, by rw [HR.out]; rfl, Hb1.out⟩
set_option maxHeartbeats 8000000 in
set_option maxRecDepth 1000000 in
theorem ways_step (A : Option Addr) (m c n : Nat) (F : Nat → Nat → Int) (b : Nat) (d : Int) (hok : okM n m F = true) (r : Nat) (ih : WaysOk A m c n F b d r) : WaysOk A m c n F b d (r + 1) := by
  intro g cp L w hR hI hcp hL hlen
  have hn8 : n ≤ 8 := by have := (okM_iff.1 hok).1; omega
  obtain ⟨i1, hi1, hz01, hz11, hz21⟩ := info_parts infoInt
  have hB1 := MapBR.new w n (.slice A m c)
  have hb1 := (Below.refl w.heap.size w).alloc (Nat.le_refl _) (.cells #[.int .i64 n, .slice A m c] 24)
  obtain ⟨W1, hW1⟩ : ∃ W1, W1 = w.alloc (.cells #[.int .i64 n, .slice A m c] 24) := ⟨_, rfl⟩
  rw [← hW1] at hB1 hb1
  have HWW : Hid (w.alloc (.cells #[.int .i64 n, .slice A m c] 24) = W1) := Lib.hid hW1.symm
  have HMB : Hid (∀ w', Below W1.heap.size W1 w' → MapBR w' w.heap.size n (.slice A m c) ∧ Below w.heap.size w w' ∧ Recs 3 w' A m F ∧ Ints w' (some ⟨g, 0, none⟩) L.length (fun i => L.getD i 0)) := Lib.hid (fun w' hb => ⟨hB1.keep hb, hb1.trans (hb.mono hb1.size), hR.keep (hb1.trans (hb.mono hb1.size)), hI.keep (hb1.trans (hb.mono hb1.size))⟩)
  have HIH := Lib.hid ih
  have HOk := Lib.hid hok
  have q0 := hB1.c0
  have hS : ∀ k, orS (fun y => if 0 ≤ coL n m F (L ++ [(y : Int)]) ∧ coL n m F (L ++ [(y : Int)]) ≤ d then wsF n m F b d r (L ++ [(y : Int)]) else none) (k + 1) = (orS (fun y => if 0 ≤ coL n m F (L ++ [(y : Int)]) ∧ coL n m F (L ++ [(y : Int)]) ≤ d then wsF n m F b d r (L ++ [(y : Int)]) else none) k).or (if 0 ≤ coL n m F (L ++ [(k : Int)]) ∧ coL n m F (L ++ [(k : Int)]) ≤ d then wsF n m F b d r (L ++ [(k : Int)]) else none) := fun _ => rfl
  have HF : Hid (wsF n m F b d (r + 1) L = orS (fun y => if 0 ≤ coL n m F (L ++ [(y : Int)]) ∧ coL n m F (L ++ [(y : Int)]) ≤ d then wsF n m F b d r (L ++ [(y : Int)]) else none) n) := Lib.hid rfl
  have HKp := Lib.hid (fun k u => orS_keep (g := fun y => if 0 ≤ coL n m F (L ++ [(y : Int)]) ∧ coL n m F (L ++ [(y : Int)]) ≤ d then wsF n m F b d r (L ++ [(y : Int)]) else none) (k := k) (u := u))
  have HS := Lib.hid hS
  have HT0 : Hid (orS (fun y => if 0 ≤ coL n m F (L ++ [(y : Int)]) ∧ coL n m F (L ++ [(y : Int)]) ≤ d then wsF n m F b d r (L ++ [(y : Int)]) else none) 0 = none) := Lib.hid rfl
  clear hS
  generalize orS (fun y => if 0 ≤ coL n m F (L ++ [(y : Int)]) ∧ coL n m F (L ++ [(y : Int)]) ≤ d then wsF n m F b d r (L ++ [(y : Int)]) else none) = T at *
  have q : ∀ (w : World) (a : Option Addr) (l c : Nat), (binOp .neq 33 (.slice a l c) (.slice none 0 0)).run Try.prog w = .ok (.bool (!a.isNone)) w := fun w a l c => by apply run_neq_slice_nil; exact Try.underlying33
  obtain ⟨nn, hnn⟩ : ∃ nn, nn = L.length + (r + 1) := ⟨_, rfl⟩
  rw [← hnn]
  generalize hi : L.length = i at *
  have HLi := Lib.hid hi
  have hbb : ((i : Int) == (nn : Int)) = false := beq_f (by omega)
  have HNn := Lib.hid hnn
  clear hB1 hb1 hW1 hR hI ih hok hi hnn
  go_enter Try.func36, Try.ntmps36
  go_upto_region 1 with fail
  rw [HWW.out]
  go_wp2
  go_loopw [36] (fun j wr => ∃ k : Nat, k ≤ n ∧ j = .int .i64 k ∧ T k = none ∧ Below W1.heap.size W1 wr) (fun j _ => n - (intOf j).toNat)
  case atStart => exact ⟨0, Nat.zero_le _, rfl, HT0.out, Below.refl _ _⟩
  case round =>
    obtain ⟨k, hk, rfl, hT, hB⟩ := hrel
    have HT := Lib.hid hT
    have HB := Lib.hid hB
    have HG := Lib.hid ((HMB.out wr hB).2.2.2)
    have hsz := hB.size
    clear hT hB q0
    by_cases hlt : k < n
    · go_wp2_with (at_builtin; go_loud (refine wpList_append_grows _ rfl _ _ 33 rfl 3 i1 (.int .i64 0) 1 8 Try.underlying33 hi1 hz01 hz11 hz21 rfl (by decide) (some ⟨g, 0, none⟩) i i (L.map (Value.int .i64)) rfl ?q1 ?q2 ?q3 ⟨wr.heap.size, 0, none⟩ 1 1 [.int .i64 k] rfl rfl (news1 _ _ _) (one1 rfl) (by omega) (by unfold maxLen; omega) (by omega) ?_))
      case q1 => exact fun e => by cases e
      case q2 => simp [HLi.out]
      case q3 =>
        exact fun b e j u hu => by
          injection e with e
          subst e
          have hj : j < i := by
            have := (List.getElem?_eq_some_iff.1 hu).1
            simpa [HLi.out] using this
          rw [List.getElem?_map] at hu
          rw [Addr.add_lit]
          obtain ⟨b', o', e', h'⟩ := HG.out (by omega)
          injection e' with e'
          injection e' with e1 e2
          subst e1 e2
          refine Lib.cell?_alloc_some _ ((h' j hj).trans ?_)
          rw [← hu, List.getElem?_eq_getElem (by rw [HLi.out]; exact hj)]
          simp [List.getD, List.getElem?_eq_getElem (show j < L.length by rw [HLi.out]; exact hj)]
      intro v5 w5 hown hgrow
      have hll : (L ++ [(k : Int)]).length = i + 1 := by simp [HLi.out]
      have hO : OwnL w5 (wr.heap.size + 1) v5 (L ++ [(k : Int)]) := by
        unfold OwnL
        rw [hll, List.map_append]
        exact hown
      have hb5 : Below wr.heap.size wr w5 := ((Below.refl wr.heap.size wr).alloc (Nat.le_refl _) (.cells #[.int .i64 k] 3)).grown hgrow (by simp) (by intro q hq; cases hq)
      have HB5 := Lib.hid (HB.out.trans (hb5.mono hsz))
      obtain ⟨A4, c4, rfl, -, hI4, hg4, hc4⟩ := hO.form
      obtain ⟨b5, o5, rfl, -⟩ := hI4 (by omega)
      obtain ⟨-, -, rfl⟩ := hg4 b5 o5 rfl
      have hm5 := HMB.out w5 HB5.out
      have q0 := hm5.1.c0
      have q1 := hm5.1.c1
      have HCo := Lib.hid (refCost_any A (some ⟨b5, 0, none⟩) m c n (L ++ [(k : Int)]).length c4 F (fun i => (L ++ [(k : Int)]).getD i 0) w5 hm5.2.2.1 hI4 HOk.out (by omega) hc4)
      have HCd : Hid (coR n m F (fun i => (L ++ [(k : Int)]).getD i 0) (L ++ [(k : Int)]).length = coL n m F (L ++ [(k : Int)])) := Lib.hid rfl
      rw [HCd.out] at HCo
      have HI4 := Lib.hid hI4
      have HC4 := Lib.hid hc4
      have HIk := Lib.hid (fun w' (hr : Recs 3 w' A m F) (hi : Ints w' (some ⟨b5, 0, none⟩) (L ++ [(k : Int)]).length (fun i => (L ++ [(k : Int)]).getD i 0)) => HIH.out b5 c4 (L ++ [(k : Int)]) w' hr hi hc4 (by omega) (by have := HNn.out; rw [hll]; omega))
      have hnn2 : (L ++ [(k : Int)]).length + r = nn := by
        rw [hll]
        have := HNn.out
        omega
      have HSk := Lib.hid (HS.out k)
      rw [HT.out] at HSk
      rw [hnn2] at HIk
      rw [hll] at HCo HI4 HIk ⊢
      clear hown hgrow hO hb5 hI4 hg4 hc4 hm5 HCd hnn2 hll
      generalize coL n m F (L ++ [(k : Int)]) = cl at *
      generalize wsF n m F b d r (L ++ [(k : Int)]) = rs at *
      go_wp2_with fail
      refine HCo.out.use fun w6 hb6 => ?_
      have HB6 := Lib.hid (HB5.out.trans (hb6.mono HB5.out.size))
      have HI6 := Lib.hid (HI4.out.keep hb6)
      clear hb6 q0 q1 HI4 HCo
      by_cases p1 : 0 ≤ cl
      · have d1 : decide (0 ≤ cl) = true := decide_eq_true p1
        by_cases p2 : cl ≤ d
        · have d2 : decide (cl ≤ d) = true := decide_eq_true p2
          have HS2 := Lib.hid (show T (k + 1) = rs by rw [HSk.out, if_pos ⟨p1, p2⟩]; rfl)
          have hm6 := HMB.out w6 HB6.out
          have q0 := hm6.1.c0
          have q1 := hm6.1.c1
          have HCl := Lib.hid (HIk.out w6 hm6.2.2.1 HI6.out)
          clear hm6 p1 p2
          go_wp2_with fail
          refine HCl.out.mono ?_
          rintro e w7 ⟨v7, rfl, hA7, hb7⟩
          have HB7 := Lib.hid (HB6.out.trans (hb7.mono HB6.out.size))
          clear hb7 q0 q1
          cases rs with
          | none =>
            have hA7 : v7 = .slice none 0 0 := hA7
            subst hA7
            go_wp2
            first
              | exact ⟨⟨k + 1, by omega, by go_num, HS2.out, HB7.out⟩, by simp [intOf]; omega⟩
              | (go_roundw
                 case rel => exact ⟨k + 1, by omega, by go_num, HS2.out, HB7.out⟩
                 case measure => simp [intOf]; omega)
          | some u =>
            obtain ⟨b7, c7, rfl, hI7, hc7⟩ := hA7
            have HI7 := Lib.hid hI7
            clear hI7
            go_wp2
            go_returns
            exact ⟨_, rfl, by rw [HF.out, HKp.out (k + 1) u HS2.out n (by omega)]; exact ⟨b7, c7, rfl, HI7.out, hc7⟩, (HMB.out _ HB7.out).2.1⟩
        · have d2 : decide (cl ≤ d) = false := decide_eq_false p2
          have HS2 := Lib.hid (show T (k + 1) = none by rw [HSk.out, if_neg (fun h => p2 h.2)]; rfl)
          go_wp2
          first
            | exact ⟨⟨k + 1, by omega, by go_num, HS2.out, HB6.out⟩, by simp [intOf]; omega⟩
            | (go_roundw
               case rel => exact ⟨k + 1, by omega, by go_num, HS2.out, HB6.out⟩
               case measure => simp [intOf]; omega)
      · have d1 : decide (0 ≤ cl) = false := decide_eq_false p1
        have HS2 := Lib.hid (show T (k + 1) = none by rw [HSk.out, if_neg (fun h => p1 h.1)]; rfl)
        go_wp2
        first
          | exact ⟨⟨k + 1, by omega, by go_num, HS2.out, HB6.out⟩, by simp [intOf]; omega⟩
          | (go_roundw
             case rel => exact ⟨k + 1, by omega, by go_num, HS2.out, HB6.out⟩
             case measure => simp [intOf]; omega)
    · obtain rfl : k = n := by omega
      go_wp2
      go_returns
      exact ⟨_, rfl, by rw [HF.out, HT.out]; rfl, (HMB.out _ HB.out).2.1⟩
theorem ways_any (A : Option Addr) (m c n : Nat) (F : Nat → Nat → Int) (b : Nat) (d : Int) (hok : okM n m F = true) : ∀ r, WaysOk A m c n F b d r := by
  intro r
  induction r with
  | zero => exact ways_leaf A m c n F b d hok
  | succ r ih => exact ways_step A m c n F b d hok r ih
end Go.Proofs.Ytclhamemlpbpiaa
