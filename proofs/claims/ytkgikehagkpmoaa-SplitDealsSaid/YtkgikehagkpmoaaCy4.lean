import Derived.Test.YtkgikehagkpmoaaCy3
import Derived.IntWalk
namespace Go.Proofs.Ytkgikehagkpmoaa
open Go.RowKit

/-- A slice that stands for a cycle, or for none. -/
def CycRep (B : Nat) (w : World) (x : Value) : Option (List Nat) → Prop
  | none => x = .slice none 0 0
  | some C => ∃ b o c, x = .slice (some ⟨b, o, none⟩) C.length c ∧ Ints w (some ⟨b, o, none⟩) C.length (fL C) ∧ B ≤ b
theorem OwnL.sl0b {w : World} {base : Nat} {v : Value} {n : Nat} {f : Nat → Int} (h : OwnL w base v (lst n f)) : ∃ A c, v = .slice A n c ∧ Ints w A n f ∧ ∀ b o, A = some ⟨b, o, none⟩ → base ≤ b := by
  obtain ⟨A, c, e, hA, hI, hb, -⟩ := h.form
  rw [lst_len] at e hI
  exact ⟨A, c, e, hI.congr fun k hk => lst_getD _ _ _ hk, fun b o e => (hb b o e).1⟩
def envE (m : Nat) (v : Nat → Nat → Int) (d : Nat → Int) : Nat → Nat → Bool := fun i j => envB m v d i (j : Int)

theorem run_neq_nil (w : World) (t e : TypeId) (a : Option Addr) (n c n' c' : Nat) (h : Try.prog.underlying t = some (.slice e)) :
    (binOp .neq t (.slice a n c) (.slice none n' c')).run Try.prog w = .ok (.bool (!a.isNone)) w := by
  simp only [binOp]
  simp [Op.equal, Op.maxDepth, Lib.run_equalIn_slice_nil w 9999 t e a n c n' c' h]
theorem lst_fL (P : List Nat) (x : Nat) : lst P.length (fL P) ++ [(x : Int)] = lst (P.length + 1) (fL (P ++ [x])) := by
  rw [lst_succ]
  have e1 : fL (P ++ [x]) P.length = (x : Int) := by
    unfold fL
    simp [List.getD_eq_getElem?_getD]
  rw [e1]
  congr 1
  refine lst_congr fun k hk => ?_
  unfold fL
  simp [List.getD_eq_getElem?_getD, List.getElem?_append_left hk]
theorem hasB_list {P : List Nat} {x : Nat} : hasB (fL P) (x : Int) P.length = P.contains x := by
  rw [Bool.eq_iff_iff]
  unfold hasB
  rw [decide_eq_true_eq, List.contains_iff_mem]
  rcases idxI_cases (fL P) (x : Int) P.length with ⟨e, h⟩ | ⟨k, hk, e, h1, -⟩
  · rw [e]
    refine ⟨fun h0 => by omega, fun hm => ?_⟩
    obtain ⟨i, hi, e2⟩ := List.mem_iff_getElem.1 hm
    refine absurd ?_ (h i hi)
    unfold fL
    rw [List.getD_eq_getElem?_getD, List.getElem?_eq_getElem hi, Option.getD_some, e2]
  · rw [e]
    refine ⟨fun _ => ?_, fun _ => by omega⟩
    have : P.getD k 0 = x := by unfold fL at h1; omega
    rw [← this]
    exact getD_mem hk

set_option maxHeartbeats 1000000 in
set_option maxRecDepth 1000000 in
theorem closeCycle_any (A D : Option Addr) (n m c c' len : Nat) (v : Nat → Nat → Int) (d : Nat → Int) (hb : BdM n m v 100000) (hm : m ≤ 9) (hn : n ≤ 9) (hlen : 2 ≤ len) (hlen9 : len ≤ 9) (B : Nat) :
    ∀ (f : Nat) (P : List Nat) (Ap : Option Addr) (cp : Nat) (pl : Nat) (w : World), pl = P.length → P.length + f = len → (∀ x, x ∈ P → x < n) → Mat w A n m v → Ints w D m d → Ints w Ap pl (fL P) → B ≤ w.heap.size → (∀ b o, Ap = some ⟨b, o, none⟩ → B ≤ b) →
      Calls Try.prog 83 #[.slice A n c, .slice D m c', .slice Ap pl cp, .int .i64 len] w fun e w' => ∃ x, e = .returned x ∧ Below w.heap.size w w' ∧ CycRep B w' x (clF (envE m v d) n f P) := by
  intro f
  induction f with
  | zero =>
    intro P Ap cp pl w hpl hf hP hM hD hI hBw hBp
    have hpl2 : pl = len := by omega
    subst hpl2
    have HB := Lib.hid hb
    obtain ⟨bp, op, rfl, -⟩ := hI.at (show 0 < pl by omega)
    have hBb := hBp bp op rfl
    clear hBp hBw
    have p0 := hI.cell0 (by omega)
    have p1 := hI.cell (show pl - 1 < pl by omega)
    have hx0 : P.getD 0 0 < n := hP _ (getD_mem (by omega))
    have hx1 : P.getD (pl - 1) 0 < n := hP _ (getD_mem (by omega))
    have HE : Hid (envE m v d (P.getD (pl - 1) 0) (P.getD 0 0) = envE m v d (P.getLastD 0) (P.headD 0)) := Lib.hid (by rw [getLastD_eq, headD_eq, hpl])
    have HPl := Lib.hid hpl
    have HI := Lib.hid hI
    unfold fL at p0 p1
    generalize P.getD 0 0 = y at *
    generalize P.getD (pl - 1) 0 = z at *
    have u1 : IntKind.i64.wrap ((pl : Int) - 1) = (pl : Int) - 1 := IntWalk.i64_in _ ⟨by omega, by omega⟩
    have u2 : ((pl : Int) - 1).toNat = pl - 1 := by omega
    have u3 : (0 : Int) ≤ (pl : Int) - 1 := by omega
    have u4 : (pl : Int) - 1 < pl := by omega
    have u5 : (0 : Int) < pl := by omega
    clear hb hpl hf hP hI
    go_enter Try.func83, Try.ntmps83
    go_wp2_with fail
    go_quiet ((go_at_call 60; exact Ro.quiet (envies_any _ _ n m _ _ v d z (y : Int) _ hM hD HB.out hm hx1 hn)))
    cases he : envB m v d z (y : Int) with
    | true =>
      have HC : Hid (clF (envE m v d) n 0 P = some P) := Lib.hid (by
        simp only [clF]
        rw [if_pos (by rw [← HE.out]; exact he)])
      clear he p0 p1 u1 u2 u3 u4 u5
      go_wp2
      go_ret
      exact ⟨_, rfl, Dn.below ⟨_, rfl⟩ _, by
        rw [HC.out]
        exact ⟨_, _, cp, (by rw [← HPl.out]; rfl), (by rw [← HPl.out]; exact HI.out.keep (Dn.below ⟨_, rfl⟩ _)), hBb⟩⟩
    | false =>
      have HC : Hid (clF (envE m v d) n 0 P = none) := Lib.hid (by
        simp only [clF]
        rw [if_neg (by rw [← HE.out]; unfold envE; rw [he]; simp)])
      clear he p0 p1 u1 u2 u3 u4 u5
      go_wp2
      go_ret
      exact ⟨_, rfl, Dn.below ⟨_, rfl⟩ _, by
        rw [HC.out]
        rfl⟩
  | succ f ih =>
    intro P Ap cp pl w hpl hf hP hM hD hI hBw hBp
    have q := fun (w : World) (a : Option Addr) (n c n' c' : Nat) => run_neq_nil w 23 3 a n c n' c' Try.underlying23
    obtain ⟨i0, hi, hz0, hz1, hz2⟩ := info_parts infoInt
    have hne := beq_f (a := (pl : Int)) (b := (len : Int)) (by omega)
    obtain ⟨stp, hstp⟩ : ∃ stp : Nat → Option (List Nat), stp = fun x => if P.contains x then none else if P ≠ [] ∧ envE m v d (P.getLastD 0) x = false then none else clF (envE m v d) n f (P ++ [x]) := ⟨_, rfl⟩
    have HCl : Hid (clF (envE m v d) n (f + 1) P = fso stp n) := Lib.hid (by rw [hstp]; rfl)
    have HStp := Lib.hid hstp
    have HIh := Lib.hid ih
    have HB := Lib.hid hb
    have HM := Lib.hid hM
    have HD := Lib.hid hD
    have HI := Lib.hid hI
    have HP := Lib.hid hP
    have HPl := Lib.hid hpl
    have HF := Lib.hid hf
    clear hBp
    have hpl8 : pl < len := by omega
    clear ih hb hM hD hI hP hpl hf hstp
    go_enter Try.func83, Try.ntmps83
    go_wp2_with fail
    go_loopw [30] (fun x wr => ∃ k : Nat, k ≤ n ∧ x = .int .i64 k ∧ (∀ j, j < k → stp j = none) ∧ Below w.heap.size w wr) (fun x _ => n - (intOf x).toNat)
    case atStart => exact ⟨0, Nat.zero_le _, rfl, fun j hj => absurd hj (by omega), Below.refl _ _⟩
    case round =>
      obtain ⟨k, hk, rfl, hno, hbel⟩ := hrel
      have HNo := Lib.hid hno
      have Hbel := Lib.hid hbel
      clear hno hbel
      have HNx : Hid (stp k = none → ∀ j, j < k + 1 → stp j = none) := Lib.hid (fun h j hj => by
        rcases Nat.lt_or_ge j k with hl | hl
        · exact HNo.out j hl
        · obtain rfl : j = k := by omega
          exact h)
      by_cases hlt : k < n
      · go_wp2_with fail
        refine (contains_any Ap pl cp (fL P) (k : Int) _ (HI.out.keep Hbel.out) (by omega)).mono ?_
        rintro e w2 ⟨rfl, rfl⟩
        cases hcon : hasB (fL P) (k : Int) pl with
        | true =>
          have HS := Lib.hid (HNx.out (by
            rw [HStp.out]
            show (if P.contains k = true then none else _) = none
            rw [if_pos (by rw [← hasB_list, ← HPl.out]; exact hcon)]))
          clear hcon
          go_wp2
          go_roundw
          case rel => exact ⟨k + 1, by omega, by go_num, HS.out, Hbel.out⟩
          case measure => simp [intOf]; omega
        | false =>
          have HCon : Hid (¬ P.contains k = true) := Lib.hid (by rw [← hasB_list, ← HPl.out, hcon]; simp)
          clear hcon
          by_cases hP0 : pl = 0
          · obtain rfl : P = [] := List.eq_nil_of_length_eq_zero (by have := HPl.out; omega)
            have HSk : Hid (stp k = clF (envE m v d) n f ([] ++ [k])) := Lib.hid (by rw [HStp.out]; simp)
            have HbelX := Hbel
            have hP0' : ¬ (0 : Int) < (pl : Int) := by omega
            clear hP0
            go_wp2_with fail
            refine (clone_any Ap pl cp (fL []) _ (HI.out.keep HbelX.out) (by omega)).mono ?_
            rintro e w3 ⟨v3, rfl, hv3, -, hb3⟩
            have Hb3 := Lib.hid (HbelX.out.trans (hb3.mono HbelX.out.size))
            obtain ⟨A3, c3, rfl, -⟩ := hv3.sl0'
            have HV3 := Lib.hid (hv3.rebase (show w.heap.size ≤ _ from HbelX.out.size))
            have hsz3 := Hb3.out.size
            clear hb3 hv3
            go_wp2_with (at_builtin; go_loud (refine wpList_append_own _ rfl _ _ 23 rfl w.heap.size 3 i0 (.int .i64 0) 1 8 Try.underlying23 hi hz0 hz1 hz2 rfl (by decide) _ _ _ rfl (World.ownsRow.alloc HV3.out _) ⟨w3.heap.size, 0, none⟩ 1 1 [.int .i64 k] rfl rfl (news1 _ _ _) (one1 rfl) (by simp only [lst_len]; unfold maxLen; omega) (by simp only [lst_len]; omega) (by simp; omega) ?_))
            intro v4 w4 hown4 hgrow4 _
            have Hb4 : Hid (Below w.heap.size w w4) := Lib.hid ((Hb3.out.alloc hsz3 _).grown hgrow4 (by simp; omega) (fun g hg => (World.ownsRow.lt HV3.out g hg).1))
            have hO4 : OwnL w4 w.heap.size v4 (lst (pl + 1) (fL ([] ++ [k]))) := by
              have e := lst_fL [] k
              rw [← HPl.out] at e
              rw [← e]
              unfold OwnL
              simpa [lst_len] using hown4
            obtain ⟨A4, c4, rfl, hI4, hbl4⟩ := hO4.sl0b
            have HI4 := Lib.hid hI4
            have HCall := Lib.hid (HIh.out ([] ++ [k]) A4 c4 (pl + 1) w4 (by rw [List.length_append, List.length_singleton, ← HPl.out]) (by rw [List.length_append, List.length_singleton]; have := HF.out; omega) (fun y hy => by
              rcases List.mem_append.1 hy with h | h
              · exact HP.out y h
              · simp at h; omega) (HM.out.keep Hb4.out) (HD.out.keep Hb4.out) HI4.out (Nat.le_trans hBw Hb4.out.size) (fun b o e => Nat.le_trans hBw (hbl4 b o e)))
            clear hown4 hgrow4 hO4 hI4 hbl4
            go_wp2_with fail
            refine HCall.out.mono ?_
            rintro e w5 ⟨x5, rfl, hb5, hrep⟩
            have Hb5 := Lib.hid (Hb4.out.trans (hb5.mono Hb4.out.size))
            clear hb5
            cases hcl : clF (envE m v d) n f ([] ++ [k]) with
            | none =>
              rw [hcl] at hrep
              obtain rfl : x5 = .slice none 0 0 := hrep
              have HS := Lib.hid (HNx.out (HSk.out.trans hcl))
              clear hcl
              go_wp2
              go_roundw
              case rel => exact ⟨k + 1, by omega, by go_num, HS.out, Hb5.out⟩
              case measure => simp [intOf]; omega
            | some C =>
              rw [hcl] at hrep
              obtain ⟨a5, o5, c5, rfl, hI5, hB5⟩ := hrep
              have HR : Hid (clF (envE m v d) n (f + 1) [] = some C) := Lib.hid (by
                rw [HCl.out]
                exact fso_some HNo.out (HSk.out.trans hcl) n hlt)
              have HI5 := Lib.hid hI5
              clear hcl hI5
              go_wp2
              go_ret
              exact ⟨_, rfl, Hb5.out, by
                rw [HR.out]
                exact ⟨a5, o5, c5, rfl, HI5.out, hB5⟩⟩
          · have hz := (HI.out.keep Hbel.out).at (show pl - 1 < pl by omega)
            obtain ⟨bp, op, rfl, p1⟩ := hz
            have hx1 : P.getD (pl - 1) 0 < n := HP.out _ (getD_mem (by have := HPl.out; omega))
            have HLast : Hid (P.getLastD 0 = P.getD (pl - 1) 0) := Lib.hid (by rw [getLastD_eq, ← HPl.out])
            unfold fL at p1
            generalize hzz : P.getD (pl - 1) 0 = z at *
            clear hzz
            have hpn : P ≠ [] := by
              intro e
              have := HPl.out
              rw [e] at this
              exact hP0 this
            have HPn := Lib.hid hpn
            have u1 : IntKind.i64.wrap ((pl : Int) - 1) = (pl : Int) - 1 := IntWalk.i64_in _ ⟨by omega, by omega⟩
            have u2 : ((pl : Int) - 1).toNat = pl - 1 := by omega
            have u3 : (0 : Int) ≤ (pl : Int) - 1 := by omega
            have u4 : (pl : Int) - 1 < pl := by omega
            have u5 : (0 : Int) < pl := by omega
            clear hpn
            go_wp2_with fail
            refine Ro.use (envies_any _ _ n m _ _ v d z (k : Int) _ (HM.out.keep Hbel.out) (HD.out.keep Hbel.out) HB.out hm hx1 hn) ?_
            intro w2 hD2
            have HbelX := Lib.hid (Hbel.out.trans ((hD2.below _).mono Hbel.out.size))
            clear p1 u1 u2 u3 u4 u5 hD2
            cases he : envB m v d z (k : Int) with
            | false =>
              have HS := Lib.hid (HNx.out (by
                rw [HStp.out]
                show (if P.contains k = true then none else _) = none
                rw [if_neg HCon.out, if_pos ⟨HPn.out, by rw [HLast.out]; exact he⟩]))
              clear he
              go_wp2
              go_roundw
              case rel => exact ⟨k + 1, by omega, by go_num, HS.out, HbelX.out⟩
              case measure => simp [intOf]; omega
            | true =>
              have HSk : Hid (stp k = clF (envE m v d) n f (P ++ [k])) := Lib.hid (by
                rw [HStp.out]
                show (if P.contains k = true then none else _) = _
                rw [if_neg HCon.out, if_neg (fun h => by
                  have h2 := h.2
                  rw [HLast.out] at h2
                  unfold envE at h2
                  rw [he] at h2
                  cases h2)])
              clear he
              go_wp2_with fail
              refine (clone_any (some ⟨bp, op, none⟩) pl cp (fL P) _ (HI.out.keep HbelX.out) (by omega)).mono ?_
              rintro e w3 ⟨v3, rfl, hv3, -, hb3⟩
              have Hb3 := Lib.hid (HbelX.out.trans (hb3.mono HbelX.out.size))
              obtain ⟨A3, c3, rfl, -⟩ := hv3.sl0'
              have HV3 := Lib.hid (hv3.rebase (show w.heap.size ≤ _ from HbelX.out.size))
              have hsz3 := Hb3.out.size
              clear hb3 hv3
              go_wp2_with (at_builtin; go_loud (refine wpList_append_own _ rfl _ _ 23 rfl w.heap.size 3 i0 (.int .i64 0) 1 8 Try.underlying23 hi hz0 hz1 hz2 rfl (by decide) _ _ _ rfl (World.ownsRow.alloc HV3.out _) ⟨w3.heap.size, 0, none⟩ 1 1 [.int .i64 k] rfl rfl (news1 _ _ _) (one1 rfl) (by simp only [lst_len]; unfold maxLen; omega) (by simp only [lst_len]; omega) (by simp; omega) ?_))
              intro v4 w4 hown4 hgrow4 _
              have Hb4 : Hid (Below w.heap.size w w4) := Lib.hid ((Hb3.out.alloc hsz3 _).grown hgrow4 (by simp; omega) (fun g hg => (World.ownsRow.lt HV3.out g hg).1))
              have hO4 : OwnL w4 w.heap.size v4 (lst (pl + 1) (fL (P ++ [k]))) := by
                have e := lst_fL P k
                rw [← HPl.out] at e
                rw [← e]
                unfold OwnL
                simpa [lst_len] using hown4
              obtain ⟨A4, c4, rfl, hI4, hbl4⟩ := hO4.sl0b
              have HI4 := Lib.hid hI4
              have HCall := Lib.hid (HIh.out (P ++ [k]) A4 c4 (pl + 1) w4 (by rw [List.length_append, List.length_singleton, ← HPl.out]) (by rw [List.length_append, List.length_singleton]; have := HF.out; omega) (fun y hy => by
                rcases List.mem_append.1 hy with h | h
                · exact HP.out y h
                · simp at h; omega) (HM.out.keep Hb4.out) (HD.out.keep Hb4.out) HI4.out (Nat.le_trans hBw Hb4.out.size) (fun b o e => Nat.le_trans hBw (hbl4 b o e)))
              clear hown4 hgrow4 hO4 hI4 hbl4
              go_wp2_with fail
              refine HCall.out.mono ?_
              rintro e w5 ⟨x5, rfl, hb5, hrep⟩
              have Hb5 := Lib.hid (Hb4.out.trans (hb5.mono Hb4.out.size))
              clear hb5
              cases hcl : clF (envE m v d) n f (P ++ [k]) with
              | none =>
                rw [hcl] at hrep
                obtain rfl : x5 = .slice none 0 0 := hrep
                have HS := Lib.hid (HNx.out (HSk.out.trans hcl))
                clear hcl
                go_wp2
                go_roundw
                case rel => exact ⟨k + 1, by omega, by go_num, HS.out, Hb5.out⟩
                case measure => simp [intOf]; omega
              | some C =>
                rw [hcl] at hrep
                obtain ⟨a5, o5, c5, rfl, hI5, hB5⟩ := hrep
                have HR : Hid (clF (envE m v d) n (f + 1) P = some C) := Lib.hid (by
                  rw [HCl.out]
                  exact fso_some HNo.out (HSk.out.trans hcl) n hlt)
                have HI5 := Lib.hid hI5
                clear hcl hI5
                go_wp2
                go_ret
                exact ⟨_, rfl, Hb5.out, by
                  rw [HR.out]
                  exact ⟨a5, o5, c5, rfl, HI5.out, hB5⟩⟩
      · obtain rfl : n = k := by omega
        have HE : Hid (clF (envE m v d) n (f + 1) P = none) := Lib.hid (by rw [HCl.out]; exact fso_none HNo.out)
        go_wp2
        go_ret
        exact ⟨_, rfl, Hbel.out, by rw [HE.out]; rfl⟩
end Go.Proofs.Ytkgikehagkpmoaa
