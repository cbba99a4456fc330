/- The reference's Some. -/
import Derived.Test.YtnobbklnnkpdfaaLl
import Derived.Test.YtnobbklnnkpdfaaRv
import Derived.Test.YtnobbklnnkpdfaaRl
namespace Go.Proofs.Ytnobbklnnkpdfaa
open Go.RowKit

def intL (l : List Nat) : List Int := List.map (fun x : Nat => (x : Int)) l
def intLL (ls : List (List Nat)) : List (List Int) := ls.map intL
theorem intL_len (l : List Nat) : (intL l).length = l.length := by simp [intL]
theorem intLL_len (ls : List (List Nat)) : (intLL ls).length = ls.length := by simp [intLL]
theorem intL_lst (l : List Nat) : lst l.length (rowF l) = intL l := by
  apply List.ext_getElem?
  intro j
  rcases Nat.lt_or_ge j l.length with h | h
  · rw [lst_get _ _ _ h]
    simp [intL, rowF, List.getD, h]
  · rw [List.getElem?_eq_none (by rw [lst_len]; exact h), List.getElem?_eq_none (by simp [intL]; exact h)]
theorem intLL_at {ls : List (List Nat)} {i : Nat} (h : i < ls.length) : (intLL ls).getD i [] = intL ls[i] := by simp [intLL, List.getD, h]
theorem intL_at (l : List Nat) (k : Nat) : (intL l).getD k 0 = rowF l k := by
  unfold intL rowF
  rcases Nat.lt_or_ge k l.length with h | h
  · simp [List.getD, h]
  · simp [List.getD, List.getElem?_eq_none h]
theorem intLL_app (a b : List (List Nat)) : intLL (a ++ b) = intLL a ++ intLL b := by simp [intLL]
theorem intLL_one (l : List Nat) (x : Nat) : intLL [l ++ [x]] = [lst l.length (rowF l) ++ lst 1 (fun _ => (x : Int))] := by
  rw [intL_lst]
  simp [intLL, intL, lst]
/-- The rows that l and one below x give. -/
def exT (l : List Nat) (x : Nat) : List (List Nat) := ((List.range x).filter (fun y => !l.contains y)).map (fun y => l ++ [y])
theorem exT_in {l : List Nat} {x : Nat} (h : l.contains x = true) : exT l (x + 1) = exT l x := by
  unfold exT
  rw [List.range_succ, List.filter_append]
  simp at h
  simp [h]
theorem exT_out {l : List Nat} {x : Nat} (h : l.contains x = false) : exT l (x + 1) = exT l x ++ [l ++ [x]] := by
  unfold exT
  rw [List.range_succ, List.filter_append]
  simp at h
  simp [h]
theorem idx_has {l : List Nat} {x : Nat} : idxI (rowF l) (x : Int) l.length < 0 ↔ l.contains x = false := by
  rcases idxI_cases (rowF l) (x : Int) l.length with ⟨e, h⟩ | ⟨k, hk, e, h, -⟩
  · rw [e]
    refine ⟨fun _ => ?_, fun _ => by omega⟩
    cases hc : l.contains x with
    | false => rfl
    | true =>
      obtain ⟨j, hj, e2⟩ := List.getElem_of_mem (by simpa using hc)
      exact absurd (show rowF l j = (x : Int) by simp [rowF, List.getD, hj, e2]) (h j hj)
  · rw [e]
    refine ⟨fun h2 => by omega, fun h2 => ?_⟩
    have e3 : l[k] = x := by
      have : ((l.getD k 0 : Nat) : Int) = (x : Int) := h
      rw [show l.getD k 0 = l[k] by simp [List.getD, hk]] at this
      omega
    have : x ∈ l := e3 ▸ List.getElem_mem hk
    simp [this] at h2
theorem some_len {T : List Nat} {k : Nat} {l : List Nat} (h : l ∈ someL T k) : l.length = k := by
  rw [← ordL_some] at h
  obtain ⟨suf, e, h1, -⟩ := (mem_ordL _ _ _ _).1 h
  rw [e]
  simpa using h1
theorem flat_len {α β : Type} (f : α → List β) (B : Nat) : ∀ (L : List α), (∀ x ∈ L, (f x).length ≤ B) → (L.flatMap f).length ≤ B * L.length := by
  intro L
  induction L with
  | nil => intro _; simp
  | cons a L ih =>
    intro h
    have h1 := h a (by simp)
    have h2 := ih (fun x hx => h x (by simp [hx]))
    rw [List.flatMap_cons, List.length_append, List.length_cons, Nat.mul_add]
    omega
theorem exT_len (l : List Nat) (x : Nat) : (exT l x).length ≤ x := by
  unfold exT
  rw [List.length_map]
  exact Nat.le_trans (List.length_filter_le _ _) (by simp)
theorem some_count (N : Nat) : ∀ k, (someL (List.range N) k).length ≤ N ^ k := by
  intro k
  induction k with
  | zero => simp [someL]
  | succ k ih =>
    have h := flat_len (extL (List.range N)) N (someL (List.range N) k) (fun x _ => exT_len x N)
    have : N * (someL (List.range N) k).length ≤ N * N ^ k := Nat.mul_le_mul_left _ ih
    show ((someL (List.range N) k).flatMap (extL (List.range N))).length ≤ _
    rw [Nat.pow_succ, Nat.mul_comm (N ^ k)]
    omega
theorem count_small {N k : Nat} (hN : N ≤ 5) (hk : k ≤ 5) : N ^ k ≤ 3125 := by
  have h1 : N ^ k ≤ 5 ^ k := Nat.pow_le_pow_left hN k
  have h2 : 5 ^ k ≤ 5 ^ 5 := Nat.pow_le_pow_right (by omega) hk
  have h3 : 5 ^ 5 = 3125 := by decide
  omega
theorem take_flat {α β : Type} (f : α → List β) (L : List α) {i : Nat} (h : i < L.length) : (L.take (i + 1)).flatMap f = (L.take i).flatMap f ++ f L[i] := by
  rw [List.take_add_one, List.flatMap_append]
  simp [h]

theorem OwnL.alloc1 {w : World} {base : Nat} {y : Value} {l : List Int} (h : OwnL w base y l) (o : Obj) : OwnL (w.alloc o) base y l := World.ownsRow.alloc h o
theorem OwnLL.alloc1 {w : World} {base : Nat} {x : Value} {ls : List (List Int)} (h : OwnLL w base x ls) (o : Obj) : OwnLL (w.alloc o) base x ls := by
  obtain ⟨vals, h1, h2, h3⟩ := h
  exact ⟨vals, h1, World.ownsRow.alloc h2 o, fun i y hy => World.ownsRow.alloc (h3 i y hy) o⟩
theorem OwnLL.low {w : World} {base : Nat} {x : Value} {ls : List (List Int)} (h : OwnLL w base x ls) (g : Nat) (hg : x.ownBlock = some g) : base ≤ g := by
  obtain ⟨vals, h1, h2, h3⟩ := h
  exact (World.ownsRow.lt h2 g hg).1
theorem OwnLL.cell_eq {w W : World} {base p n c : Nat} {G : Nat} {v : Value} {ls : List (List Int)} (h : OwnLL w base (.slice (some ⟨G, 0, none⟩) n c) ls) (hb : Below w.heap.size w W) (hc : W.cell? ⟨G, p, none⟩ = some v) : w.cell? ⟨G, p, none⟩ = some v := by
  obtain ⟨vals, h1, h2, h3⟩ := h
  have := (World.ownsRow.lt h2 G rfl).2
  rw [← hc]
  exact (hb.cell this).symm

set_option maxHeartbeats 2000000 in
set_option maxRecDepth 1000000 in
theorem some_any (N : Nat) (hN : N ≤ 5) : ∀ (k : Nat), k ≤ N → ∀ w : World,
    Calls Try.prog 41 #[.int .i64 N, .int .i64 k] w fun e w' => ∃ x, e = .returned x ∧ OwnLL w' w.heap.size x (intLL (someL (List.range N) k)) ∧ Below w.heap.size w w' := by
  intro k
  induction k with
  | zero =>
    intro _ w
    have hb := (Below.refl w.heap.size w).alloc (Nat.le_refl _) (.cells #[.slice none 0 0] 23)
    have hh := heap_alloc_new w (.cells #[.slice none 0 0] 23)
    go_enter Try.func41, Try.ntmps41
    go_wp2
    go_ret
    refine ⟨_, rfl, ⟨[.slice none 0 0], rfl, ⟨rfl, .inr ⟨w.heap.size, 1, _, rfl, Nat.le_refl _, hh, Nat.le_refl _, by unfold maxLen; omega, rfl, rfl⟩⟩, fun i y hy => ?_⟩, hb⟩
    rcases i with _ | i
    · simp at hy
      subst hy
      exact OwnL.nil_ _ _
    · simp at hy
  | succ k ih =>
    intro hk w
    have HIh := Lib.hid (ih (by omega) w)
    have hk1 : ((k + 1 : Nat) : Int) - 1 = (k : Int) := by omega
    have HE : Hid (someL (List.range N) (k + 1) = (someL (List.range N) k).flatMap (fun l => exT l N)) := Lib.hid rfl
    have HLen : Hid (∀ l ∈ someL (List.range N) k, l.length = k) := Lib.hid (fun l hl => some_len hl)
    have hcnt := Nat.le_trans (some_count N k) (count_small hN (by omega))
    clear ih
    go_enter Try.func41, Try.ntmps41
    go_wp2_with fail
    refine HIh.out.mono ?_
    rintro e w1 ⟨x, rfl, hx, hb1⟩
    have HX := Lib.hid hx
    have Hb1 := Lib.hid hb1
    obtain ⟨A1, c1, rfl⟩ := hx.form
    rw [intLL_len]
    rw [intLL_len] at HX
    generalize someL (List.range N) k = R at *
    obtain ⟨M, hM⟩ : ∃ M, M = R.length := ⟨_, rfl⟩
    rw [← hM] at HX hcnt ⊢
    have HM := Lib.hid hM
    clear hx hb1 HIh hM
    go_wp2_with fail
    go_loopw [5, 17] (fun s i wr => ∃ j : Nat, j ≤ M ∧ i = .int .i64 j ∧ OwnLL wr w1.heap.size s (intLL ((R.take j).flatMap (fun l => exT l N))) ∧ Below w1.heap.size w1 wr) (fun _ i _ => M - (intOf i).toNat)
    case atStart => exact ⟨0, Nat.zero_le _, rfl, OwnLL.nil_ _ _, Below.refl _ _⟩
    case round =>
      obtain ⟨j, hj, rfl, hO, hB⟩ := hrel
      have HO := Lib.hid hO
      have HB := Lib.hid hB
      clear hO hB
      by_cases hlt : j < M
      · have hjR : j < R.length := by rw [← HM.out]; exact hlt
        obtain ⟨G, cG, cp, Ap, eG, hcell, hArg⟩ := (HX.out.below HB.out).at (p := j) (by rw [intLL_len]; exact hjR)
        injection eG with eG1 eG2 eG3
        subst eG1 eG3
        rw [intLL_at hjR, intL_len] at hcell hArg
        have hll := HLen.out R[j] (List.getElem_mem hjR)
        rw [hll] at hcell hArg
        simp only [intL_at] at hArg
        have HTk : Hid ((R.take (j + 1)).flatMap (fun l => exT l N) = (R.take j).flatMap (fun l => exT l N) ++ exT R[j] N) := Lib.hid (take_flat _ R hjR)
        have HTl : Hid (((R.take j).flatMap (fun l => exT l N)).length ≤ 15625) := Lib.hid (by
          have h1 := flat_len (fun l => exT l N) N (R.take j) (fun x _ => exT_len x N)
          have h2 : (R.take j).length ≤ 3125 := by rw [List.length_take]; omega
          have h3 : N * (R.take j).length ≤ 5 * 3125 := Nat.mul_le_mul hN h2
          omega)
        have HLl := Lib.hid hll
        have HArgK : Hid (∀ W : World, Below w1.heap.size w1 W → ArgI W Ap k cp (rowF R[j])) := Lib.hid (fun W hW => by
          obtain ⟨G', cG', cp', Ap', eG', hcell', hArg'⟩ := (HX.out.below hW).at (p := j) (by rw [intLL_len]; exact hjR)
          injection eG' with eG1 eG2 eG3
          injection eG1 with eG1
          injection eG1 with eG1 eG4
          subst eG1 eG3
          rw [intLL_at hjR, intL_len, hll] at hcell' hArg'
          simp only [intL_at] at hArg'
          have h1 := HX.out.cell_eq HB.out hcell
          have h2 := HX.out.cell_eq hW hcell'
          rw [h1] at h2
          injection h2 with h2
          injection h2 with h3 h4 h5
          rw [h3, h5]
          exact hArg')
        have HArg := Lib.hid hArg
        generalize R[j] = l at *
        generalize (R.take j).flatMap (fun l => exT l N) = P at *
        clear hll hArg eG2 hjR
        have hNp : N ≤ 1000 := by omega
        obtain ⟨Y, rfl⟩ : ∃ Y, Y = wr := ⟨wr, rfl⟩
        go_wp2_with fail
        go_loopw [5, 22] (fun s i wx => ∃ x : Nat, x ≤ N ∧ i = .int .i64 x ∧ OwnLL wx w1.heap.size s (intLL (P ++ exT l x)) ∧ Below w1.heap.size w1 wx) (fun _ i _ => N - (intOf i).toNat)
        case atStart => exact ⟨0, Nat.zero_le _, rfl, (by simpa [exT] using HO.out), HB.out⟩
        case round =>
          obtain ⟨x, hx, rfl, hO, hB⟩ := hrel
          have HOx := Lib.hid hO
          have HBx := Lib.hid hB
          clear hO hB
          by_cases hlx : x < N
          · have HRk := Lib.hid (rank_any Ap k cp (rowF l) (x : Int) wr (HArgK.out _ HBx.out))
            have hbd := idxI_bdV (rowF l) (x : Int) k
            have hidx := idx_has (l := l) (x := x)
            rw [HLl.out] at hidx
            generalize idxI (rowF l) (x : Int) k = r at *
            go_wp2_with fail
            refine Ro.use HRk.out ?_
            intro w3 hd3
            have HO3 := Lib.hid (HOx.out.below (hd3.below _))
            have HB3 := Lib.hid (HBx.out.trans (hd3.below _))
            have HA3 := Lib.hid (HArgK.out _ HB3.out)
            clear hd3 HRk
            cases hc : l.contains x with
            | true =>
              have hr : ¬ r < 0 := fun h => by rw [hidx.1 h] at hc; cases hc
              have HN := Lib.hid (exT_in hc)
              clear hc hidx
              go_wp2
              go_roundw
              case rel => exact ⟨x + 1, by omega, by go_num, by rw [HN.out]; exact HO3.out, HB3.out⟩
              case measure => simp [intOf]; omega
            | false =>
              have hr : r < 0 := hidx.2 hc
              have HN := Lib.hid (exT_out hc)
              clear hc hidx
              have hb0 : Below w3.heap.size w3 (w3.alloc (.cells #[] 3)) := (Below.refl _ _).alloc (Nat.le_refl _) _
              have Hb0 := Lib.hid hb0
              have hs3 := HB3.out.size
              clear hb0
              go_wp2_with (at_builtin; go_loud (refine wpList_append_ints rfl (.tmp 30) (.tmp 31) rfl w3.heap.size (.slice (some ⟨w3.heap.size, 0, none⟩) 0 0) [] rfl (nil_lst2 w3 w3.heap.size (Nat.le_refl _)) Ap k cp (rowF l) rfl (HA3.out.2.2.2.keep Hb0.out) (by simp; omega) (by simp) ?_))
              intro v4 w4 hv4 hg4 _
              replace hv4 : OwnL w4 w3.heap.size v4 (lst k (rowF l)) := hv4
              have hbw4 : Below w3.heap.size w3 w4 := Hb0.out.grown hg4 (by simp) (fun g hg => by
                simp [Value.ownBlock] at hg
                omega)
              obtain ⟨A4, N4, c4, rfl⟩ := hv4.shape
              have HV4 := Lib.hid hv4
              have HB4 := Lib.hid hbw4
              have hs4 := hbw4.size
              clear hv4 hg4 hbw4
              go_wp2_with (at_builtin; go_loud (refine wpList_append_ints rfl (.tmp 32) (.tmp 34) rfl w3.heap.size (.slice A4 N4 c4) (lst k (rowF l)) rfl (World.ownsRow.alloc HV4.out _) (some ⟨w4.heap.size, 0, none⟩) 1 1 (fun _ => (x : Int)) rfl (row1 rfl _).ints (by simp [lst_len]; omega) (by simp; omega) ?_))
              intro v5 w5 hv5 hg5 _
              have hbw5 : Below w3.heap.size w3 w5 := (HB4.out.alloc hs4 _).grown hg5 (by simp; omega) (fun g hg => (World.ownsRow.lt HV4.out g hg).1)
              obtain ⟨A5, N5, c5, rfl⟩ := hv5.shape
              have HV5 := Lib.hid hv5
              have HB5 := Lib.hid hbw5
              have hs5 := hbw5.size
              have HO5 := Lib.hid (HO3.out.below hbw5)
              clear hv5 hg5 hbw5
              go_wp2_with (at_builtin; go_loud (refine wpList_append_ll rfl (.tmp 29) (.tmp 36) rfl w1.heap.size u5 (.slice A5 N5 c5) (intLL (P ++ exT l x)) (lst k (rowF l) ++ lst 1 (fun _ => (x : Int))) rfl (HO5.out.alloc1 _) ⟨w5.heap.size, 0, none⟩ 1 rfl (news1 _ _ _) ((HV5.out.rebase hs3).alloc1 _) (by rw [intLL_len, List.length_append]; have := HTl.out; have := exT_len l x; omega) (by simp; omega) ?_))
              intro v6 w6 hv6 hg6
              have HV6 := Lib.hid hv6
              have hb6 : Below w1.heap.size w1 w6 := ((HB3.out.trans (HB5.out.mono hs3)).alloc (by omega) _).grown hg6 (by simp; omega) (fun g hg => HO5.out.low g hg)
              have HB6 := Lib.hid hb6
              have HE6 := Lib.hid (show intLL (P ++ exT l (x + 1)) = intLL (P ++ exT l x) ++ [lst k (rowF l) ++ lst 1 (fun _ => (x : Int))] by rw [HN.out, ← List.append_assoc, intLL_app (P ++ exT l x), intLL_one, HLl.out])
              clear hv6 hg6 hb6
              go_wp2
              go_roundw
              case rel => exact ⟨x + 1, by omega, by go_num, by rw [HE6.out]; exact HV6.out, HB6.out⟩
              case measure => simp [intOf]; omega
          · have hxn : x = N := by omega
            rw [hxn] at HOx
            have HN := Lib.hid (show OwnLL wr w1.heap.size u5 (intLL ((R.take (j + 1)).flatMap (fun l => exT l N))) by rw [HTk.out]; exact HOx.out)
            go_wp2
            go_roundw
            case rel => exact ⟨j + 1, by omega, by go_num, HN.out, HBx.out⟩
            case measure => simp [intOf]; omega
      · have hjm : j = M := by omega
        have HN := Lib.hid (show intLL (someL (List.range N) (k + 1)) = intLL ((R.take j).flatMap (fun l => exT l N)) by rw [HE.out, List.take_of_length_le (by rw [← HM.out]; omega)])
        have HBw := Lib.hid (Hb1.out.trans (HB.out.mono Hb1.out.size))
        clear hjm
        go_wp2
        go_ret
        exact ⟨_, rfl, by rw [HN.out]; exact HO.out.rebase Hb1.out.size, HBw.out⟩
end Go.Proofs.Ytnobbklnnkpdfaa
