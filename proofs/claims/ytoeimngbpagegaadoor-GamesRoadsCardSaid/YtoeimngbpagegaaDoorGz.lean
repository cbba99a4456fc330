/- All orders, as the reference lists them. -/
import Derived.Test.YtoeimngbpagegaaDoorGw
import Derived.Test.YtoeimngbpagegaaDoorLl
import Derived.ArgAppend
namespace Go.Proofs.YtoeimngbpagegaaDoor
open Go.RowKit

def intG (l : List Nat) : List Int := List.map (fun x : Nat => (x : Int)) l
theorem intG_len (l : List Nat) : (intG l).length = l.length := by simp [intG]
/-- All orders of n that begin so; r are wanted yet. -/
def ordG (n : Nat) : Nat → List Nat → List (List Nat)
  | 0, b => [b]
  | r + 1, b => (List.range n).flatMap fun i => if b.contains i = true then [] else ordG n r (b ++ [i])
theorem flatG_len {α β : Type} (f : α → List β) (B : Nat) : ∀ (L : List α), (∀ x ∈ L, (f x).length ≤ B) → (L.flatMap f).length ≤ B * L.length := by
  intro L
  induction L with
  | nil => intro _; simp
  | cons a L ih =>
    intro h
    have h1 := h a (by simp)
    have h2 := ih (fun x hx => h x (List.mem_cons_of_mem _ hx))
    simp only [List.flatMap_cons, List.length_append, List.length_cons, Nat.mul_succ]
    omega
theorem ordG_len (n : Nat) : ∀ r b, (ordG n r b).length ≤ n ^ r := by
  intro r
  induction r with
  | zero => intro b; simp [ordG]
  | succ r ih =>
    intro b
    rw [ordG]
    have := flatG_len (fun i => if b.contains i = true then [] else ordG n r (b ++ [i])) (n ^ r) (List.range n) (fun x _ => by
      show (if b.contains x = true then [] else ordG n r (b ++ [x])).length ≤ _
      split
      · simp
      · exact ih _)
    rw [List.length_range] at this
    rw [Nat.pow_succ]
    exact this
theorem flatG_succ {β : Type} (f : Nat → List β) (i : Nat) : (List.range (i + 1)).flatMap f = (List.range i).flatMap f ++ f i := by
  rw [List.range_succ, List.flatMap_append]
  simp
theorem pow_small {n r : Nat} (hn : n ≤ 4) (hr : r ≤ 4) : n ^ r ≤ 256 := by
  have h1 := Nat.pow_le_pow_left hn r
  have h2 := Nat.pow_le_pow_right (n := 4) (by omega) hr
  omega
theorem hasG_succ (f : Nat → Int) (x : Int) (k : Nat) : hasB f x (k + 1) = (hasB f x k || decide (f k = x)) := by
  rw [Bool.eq_iff_iff, Bool.or_eq_true, hasG_iff, hasG_iff, decide_eq_true_iff]
  constructor
  · rintro ⟨j, h1, h2⟩
    rcases Nat.lt_or_ge j k with h | h
    · exact .inl ⟨j, h, h2⟩
    · obtain rfl : j = k := by omega
      exact .inr h2
  · rintro (⟨j, h1, h2⟩ | h)
    · exact ⟨j, by omega, h2⟩
    · exact ⟨k, by omega, h⟩
theorem hasG_list (b : List Nat) (i : Nat) : hasB (fun k => (intG b).getD k 0) (i : Int) b.length = b.contains i := by
  rw [Bool.eq_iff_iff, hasG_iff, List.contains_iff_mem]
  constructor
  · rintro ⟨j, h1, h2⟩
    have : (intG b).getD j 0 = (b[j] : Int) := by simp [intG, List.getD, h1]
    rw [this] at h2
    have : b[j] = i := by omega
    rw [← this]
    exact List.getElem_mem h1
  · intro h
    obtain ⟨j, h1, h2⟩ := List.getElem_of_mem h
    exact ⟨j, h1, by simp [intG, List.getD, h1, h2]⟩
/-- A slice of the call's own, from bo on, of slices from br on. -/
def OL2 (w : World) (bo br : Nat) (x : Value) (ls : List (List Int)) : Prop :=
  ∃ vals : List Value, vals.length = ls.length ∧ w.ownsRow bo 22 1 x ls.length vals ∧ ∀ i y, vals[i]? = some y → OwnL w br y (ls.getD i [])
theorem OL2.nil_ (w : World) (bo br : Nat) : OL2 w bo br (.slice none 0 0) [] := ⟨[], rfl, World.ownsRow_nil w bo _ 1, fun i y h => by simp at h⟩
theorem OL2.below {w w' : World} {bo br : Nat} {x : Value} {ls : List (List Int)} (h : OL2 w bo br x ls) (hb : Below w.heap.size w w') : OL2 w' bo br x ls := by
  obtain ⟨vals, h1, h2, h3⟩ := h
  exact ⟨vals, h1, ownsRow_below h2 hb, fun i y hy => (h3 i y hy).below hb⟩
theorem OL2.low {w : World} {bo br : Nat} {x : Value} {ls : List (List Int)} (h : OL2 w bo br x ls) (g : Nat) (hg : x.ownBlock = some g) : bo ≤ g := by
  obtain ⟨vals, h1, h2, h3⟩ := h
  exact (World.ownsRow.lt h2 g hg).1
theorem OL2.ll {w : World} {b : Nat} {x : Value} {ls : List (List Int)} (h : OL2 w b b x ls) : OwnLL w b x ls := h

set_option maxRecDepth 1000000 in
/-- append(v, y...) of slices of slices. -/
theorem wpList_append_lls {w : World} {ops : Array Oper} {rest : List Oper} {o : Oper} {a : Act} {Q : Exit → Act → World → Prop} (hgd : o.guard = none) (s x : Operand)
    (ho : o.op = .call { callee := .builtin .append, args := #[s, x], argTypes := #[63, 63] })
    (base bo2 br : Nat) (v y : Value) (ls ms : List (List Int)) (hs : a.eval s = v) (hown : OL2 w base br v ls) (hx : a.eval x = y) (hy : OL2 w bo2 br y ms)
    (hsz : ls.length + ms.length ≤ 100000) (hbase : base ≤ w.heap.size)
    (h : ∀ v' w', OL2 w' base br v' (ls ++ ms) → w.grownBy w' v.ownBlock → wpList Tryd.prog ops Q rest (a.put o.dst v') w') : wpList Tryd.prog ops Q (o :: rest) a w := by
  obtain ⟨i0, hi, hz0, hz1, hz2⟩ := info_parts infoInts
  have hown' := hown
  obtain ⟨vals, h1, h2, h3⟩ := hown
  obtain ⟨vals', g1, g2, g3⟩ := hy
  rcases g2.2 with ⟨hnil, hz⟩ | ⟨G, cap, cur, rfl, hG, hh, hnc, hcm, hcs, ht⟩
  · have hms : ms = [] := List.length_eq_zero_iff.1 hz
    subst hms
    have hrun := run_append_of_nil (P := Tryd.prog) w base 63 o.type 22 i0 1 Tryd.underlying63 hi v ls.length vals h2 0
    refine wpList_plain hgd fun K hK => ?_
    unfold Oper.wp execOp
    simp only [ho, resolve, invoke, builtin, Sem.run_bind, Sem.run_pure, Result.andThen_ok, List.map_toArray, List.map_cons, List.map_nil, hs, hx, hnil, hrun]
    exact hK _ _ (h v w (by rw [List.append_nil]; exact hown') (World.grownBy.refl w _))
  · obtain ⟨v', w', hrun, k1, k2, -, -⟩ := run_append_own_at (P := Tryd.prog) w base 63 o.type 22 i0 (.slice none 0 0) 1 24 Tryd.underlying63 hi hz0 hz1 hz2 rfl (by decide) v ls.length vals h2 ⟨G, 0, none⟩ ms.length cap vals' (by rw [g1]; omega)
      (fun j u hu => by
        have hj : j < ms.length := by
          have := (List.getElem?_eq_some_iff.1 hu).1
          omega
        rw [Addr.add_lit, Nat.zero_add, World.ownsRow.cellAt g2 j (by omega)]
        exact hu)
      (fun u hu => by
        obtain ⟨j, hj, e⟩ := List.getElem_of_mem hu
        exact (g3 j u (by rw [List.getElem?_eq_getElem hj, e])).one) (by unfold maxLen; omega) (by omega) hbase
    refine wpList_plain hgd fun K hK => ?_
    unfold Oper.wp execOp
    simp only [ho, resolve, invoke, builtin, Sem.run_bind, Sem.run_pure, Result.andThen_ok, List.map_toArray, List.map_cons, List.map_nil, hs, hx, hrun]
    refine hK _ _ (h v' w' ⟨vals ++ vals', by simp [h1, g1], by simpa using k1, fun i z hz => ?_⟩ k2)
    rcases Nat.lt_or_ge i vals.length with hl | hl
    · rw [List.getElem?_append_left hl] at hz
      have e : (ls ++ ms).getD i [] = ls.getD i [] := by
        simp [List.getD, List.getElem?_append_left (show i < ls.length by omega)]
      rw [e]
      exact World.ownsRow.kept (h3 i z hz) k2 (own_other (h3 i z hz) h2 (by decide))
    · rw [List.getElem?_append_right hl] at hz
      have e : (ls ++ ms).getD i [] = ms.getD (i - vals.length) [] := by
        simp [List.getD, List.getElem?_append_right (show ls.length ≤ i by omega), h1]
      rw [e]
      exact World.ownsRow.kept (g3 _ z hz) k2 (own_other (g3 _ z hz) h2 (by decide))
theorem OwnL.cells {w : World} {base : Nat} {A : Option Addr} {N c : Nat} {xs : List Int} (h : OwnL w base (.slice A N c) xs) : N = xs.length ∧ (A = none → N = 0 ∧ c = 0) ∧ (∀ b, A = some b → ∀ j u, (xs.map (Value.int .i64))[j]? = some u → w.cell? (b.add j) = some u) ∧ N ≤ c ∧ (A = none ∨ ∃ g, A = some ⟨g, 0, none⟩) := by
  rcases h.2 with ⟨e, hn⟩ | ⟨g, cap, cur, e, hg, hh, hnc, hcm, hcs, ht⟩
  · injection e with e1 e2 e3
    subst e1 e2 e3
    exact ⟨by omega, (fun _ => ⟨rfl, rfl⟩), (fun b hb => by cases hb), Nat.le_refl _, .inl rfl⟩
  · injection e with e1 e2 e3
    subst e1 e2 e3
    refine ⟨rfl, (fun hA => by cases hA), (fun b hb j u hu => ?_), hnc, .inr ⟨g, rfl⟩⟩
    injection hb with hb
    subst hb
    have hj : j < xs.length := by simpa using (List.getElem?_eq_some_iff.1 hu).1
    rw [Addr.add_lit, Nat.zero_add, World.ownsRow.cellAt h j (by omega)]
    exact hu

set_option maxHeartbeats 4000000 in
set_option maxRecDepth 1000000 in
theorem orders_any (n : Nat) (hn : n ≤ 4) : ∀ (r : Nat) (b : List Nat) (w : World) (base : Nat) (v : Value), b.length + r = n → base ≤ w.heap.size → OwnL w base v (intG b) →
    Calls Tryd.prog 73 #[.int .i64 n, v] w fun e w' => ∃ x, e = .returned x ∧ OL2 w' w.heap.size base x ((ordG n r b).map intG) ∧ Below w.heap.size w w' := by
  intro r
  induction r with
  | zero =>
    intro b w base v hb hbase hv
    obtain ⟨A, N, c, rfl⟩ := hv.shape
    obtain ⟨hN, -⟩ := hv.cells
    rw [intG_len] at hN
    have hNn : N = n := by omega
    subst hNn
    have HV := Lib.hid hv
    have hbb := (Below.refl w.heap.size w).alloc (Nat.le_refl _) (.cells #[.slice A N c] 22)
    have hh := heap_alloc_new w (.cells #[.slice A N c] 22)
    have HBB := Lib.hid hbb
    have HH := Lib.hid hh
    have hq := beq_t (a := (N : Int)) rfl
    clear hv hbb hh hb hN
    go_enter Tryd.func73, Tryd.ntmps73
    go_wp2
    go_ret
    refine ⟨_, rfl, ⟨[.slice A N c], rfl, ⟨rfl, .inr ⟨w.heap.size, 1, _, rfl, Nat.le_refl _, HH.out, Nat.le_refl _, by unfold maxLen; omega, rfl, rfl⟩⟩, fun i y hy => ?_⟩, HBB.out⟩
    rcases i with _ | i
    · simp at hy
      subst hy
      exact World.ownsRow.alloc HV.out _
    · simp at hy
  | succ r ih =>
    intro b w base v hb hbase hv
    obtain ⟨A, N, c, rfl⟩ := hv.shape
    obtain ⟨hN, -⟩ := hv.cells
    rw [intG_len] at hN
    subst hN
    have HV := Lib.hid hv
    have HIH := Lib.hid ih
    have HE : Hid (ordG n (r + 1) b = (List.range n).flatMap (fun i => if b.contains i = true then [] else ordG n r (b ++ [i]))) := Lib.hid rfl
    obtain ⟨f, hf⟩ : ∃ f : Nat → List (List Nat), f = fun i => if b.contains i = true then [] else ordG n r (b ++ [i]) := ⟨_, rfl⟩
    rw [← hf] at HE
    have HF : Hid (∀ i, f i = if b.contains i = true then [] else ordG n r (b ++ [i])) := Lib.hid (fun i => by rw [hf])
    have hr4 : r ≤ 3 := by omega
    have HLen : Hid (∀ i, (f i).length ≤ 256) := Lib.hid (fun i => by
      rw [hf]
      show (if b.contains i = true then [] else ordG n r (b ++ [i])).length ≤ _
      split
      · simp
      · exact Nat.le_trans (ordG_len n r _) (pow_small hn (by omega)))
    have HAcc : Hid (∀ i, i ≤ 4 → ((List.range i).flatMap f).length ≤ 1024) := Lib.hid (fun i hi => by
      have := flatG_len f 256 (List.range i) (fun x _ => HLen.out x)
      rw [List.length_range] at this
      omega)
    have HSu : Hid (∀ i, (List.range (i + 1)).flatMap f = (List.range i).flatMap f ++ f i) := Lib.hid (fun i => flatG_succ f i)
    have HL := Lib.hid (fun i => hasG_list b i)
    have hne : b.length ≠ n := by omega
    have hq := beq_f (a := (b.length : Int)) (b := (n : Int)) (by omega)
    have hbl : b.length ≤ 3 := by omega
    have Hb := Lib.hid hb
    clear hv ih hf hb hne
    go_enter Tryd.func73, Tryd.ntmps73
    go_wp2
    go_loopw [5, 17] (fun s i wr => ∃ j : Nat, j ≤ n ∧ i = .int .i64 j ∧ OL2 wr w.heap.size base s (((List.range j).flatMap f).map intG) ∧ Below w.heap.size w wr) (fun _ i _ => n - (intOf i).toNat)
    case atStart => exact ⟨0, Nat.zero_le _, rfl, OL2.nil_ _ _ _, Below.refl _ _⟩
    case round =>
      obtain ⟨j, hj, rfl, hO, hB⟩ := hrel
      have HO := Lib.hid hO
      have HB := Lib.hid hB
      clear hO hB
      by_cases hlt : j < n
      · obtain ⟨Y, rfl⟩ : ∃ Y, Y = wr := ⟨wr, rfl⟩
        go_wp2_with fail
        go_loopw [7, 22] (fun me i wx => ∃ k : Nat, k ≤ b.length ∧ i = .int .i64 k ∧ me = .bool (hasB (fun k => (intG b).getD k 0) (j : Int) k) ∧ Dn Y wx) (fun _ i _ => b.length - (intOf i).toNat)
        case atStart => exact ⟨0, Nat.zero_le _, rfl, rfl, Dn.refl _⟩
        case round =>
          obtain ⟨k, hk, rfl, rfl, hD⟩ := hrel
          have HD := Lib.hid hD
          have HBx := Lib.hid (HB.out.trans (hD.below _))
          clear hD
          have HVx := Lib.hid (HV.out.below HBx.out)
          by_cases hkl : k < b.length
          · obtain ⟨A', c', e1, -, hI, -⟩ := HVx.out.form
            injection e1 with e1 e2 e3
            subst e1 e3
            rw [intG_len] at hI
            obtain ⟨g, o, rfl, hc⟩ := hI.at hkl
            have HS := Lib.hid (hasG_succ (fun k => (intG b).getD k 0) (j : Int) k)
            generalize (intG b).getD k 0 = x at *
            clear hI e2
            cases hh : hasB (fun k => (intG b).getD k 0) (j : Int) k with
            | true =>
              have HZ : Hid (hasB (fun k => (intG b).getD k 0) (j : Int) (k + 1) = true) := Lib.hid (by rw [HS.out, hh]; rfl)
              clear hh
              go_wp2
              go_roundw
              case rel => exact ⟨k + 1, by omega, by go_num, by rw [HZ.out], HD.out⟩
              case measure => simp [intOf]; omega
            | false =>
              have HZ : Hid (hasB (fun k => (intG b).getD k 0) (j : Int) (k + 1) = decide (x = (j : Int))) := Lib.hid (by rw [HS.out, hh]; rfl)
              clear hh
              by_cases e : x = (j : Int)
              · have hz := beq_t e
                have HZ2 : Hid (hasB (fun k => (intG b).getD k 0) (j : Int) (k + 1) = true) := Lib.hid (by rw [HZ.out, decide_eq_true e])
                clear e
                go_wp2
                go_roundw
                case rel => exact ⟨k + 1, by omega, by go_num, by rw [HZ2.out], HD.out⟩
                case measure => simp [intOf]; omega
              · have hz := beq_f e
                have HZ2 : Hid (hasB (fun k => (intG b).getD k 0) (j : Int) (k + 1) = false) := Lib.hid (by rw [HZ.out, decide_eq_false e])
                clear e
                go_wp2
                go_roundw
                case rel => exact ⟨k + 1, by omega, by go_num, by rw [HZ2.out], HD.out⟩
                case measure => simp [intOf]; omega
          · obtain rfl : k = b.length := by omega
            rw [HL.out j]
            have HO2 := Lib.hid (HO.out.below (HD.out.below _))
            have HFj := Lib.hid (HF.out j)
            have HSj := Lib.hid (HSu.out j)
            have hacc := HAcc.out j (by omega)
            have hfl := HLen.out j
            cases hc : b.contains j with
            | true =>
              have HZ : Hid ((List.range (j + 1)).flatMap f = (List.range j).flatMap f) := Lib.hid (by rw [HSj.out, HFj.out, hc]; simp)
              clear hc
              go_wp2
              go_roundw
              case rel => exact ⟨j + 1, by omega, by go_num, by rw [HZ.out]; exact HO2.out, HBx.out⟩
              case measure => simp [intOf]; omega
            | false =>
              have HZ : Hid (((List.range (j + 1)).flatMap f).map intG = ((List.range j).flatMap f).map intG ++ (ordG n r (b ++ [j])).map intG) := Lib.hid (by rw [HSj.out, HFj.out, hc, List.map_append]; simp)
              have hfl2 : (ordG n r (b ++ [j])).length ≤ 256 := by rw [HFj.out, hc] at hfl; exact hfl
              clear hc hfl
              obtain ⟨-, cn, cc, ccap, cform⟩ := HVx.out.cells
              have Hcn := Lib.hid cn
              have Hcc := Lib.hid cc
              clear cn cc
              obtain ⟨i0, hi, hz0, hz1, hz2⟩ := info_parts infoInt
              have hszx : w.heap.size ≤ wr.heap.size := HBx.out.size
              go_wp2_with (at_builtin; go_loud (refine wpList_append_grows _ rfl (.tmp 42) (.tmp 44) _ rfl 3 i0 (.int .i64 0) 1 8 Tryd.underlying22 hi hz0 hz1 hz2 rfl (by decide) A b.length b.length ((intG b).map (Value.int .i64)) rfl (fun e => ⟨(Hcn.out e).1, (Hcn.out e).1⟩) (by simp [intG_len]) (fun q hq j u hu => Lib.cell?_alloc_some _ (Hcc.out q hq j u hu)) ⟨wr.heap.size, 0, none⟩ 1 1 [.int .i64 (j : Int)] rfl rfl (news1 _ _ _) (one1 rfl) (by omega) (by unfold maxLen; omega) (by omega) ?_))
              intro v4 w4 hv4 hg4
              have hb4 : Below wr.heap.size wr w4 := ((Below.refl _ wr).alloc (Nat.le_refl _) _).grown hg4 (by simp) (by intro g hg; simp at hg)
              have hs4 : wr.heap.size ≤ w4.heap.size := hb4.size
              have hv5 : OwnL w4 base v4 (intG (b ++ [j])) := by
                have h0 : OwnL w4 (wr.heap.size + 1) v4 (intG (b ++ [j])) := by
                  unfold OwnL
                  have e1 : (intG (b ++ [j])).map (Value.int .i64) = (intG b).map (Value.int .i64) ++ [.int .i64 (j : Int)] := by simp [intG]
                  have e2 : (intG (b ++ [j])).length = b.length + 1 := by simp [intG]
                  rw [e1, e2]
                  simpa using hv4
                exact h0.rebase (by omega)
              have HV5 := Lib.hid hv5
              have HB4 := Lib.hid (HBx.out.trans (hb4.mono hszx))
              have HO4 := Lib.hid (HO2.out.below hb4)
              have HC := Lib.hid (HIH.out (b ++ [j]) w4 base v4 (by rw [List.length_append, List.length_singleton]; have := Hb.out; omega) (by omega) HV5.out)
              clear hv4 hg4 hb4 hv5
              go_wp2_with fail
              refine HC.out.mono ?_
              rintro e w6 ⟨x6, rfl, hx6, hb6⟩
              have HX6 := Lib.hid hx6
              have HB6 := Lib.hid (HB4.out.trans (hb6.mono (by omega)))
              have HO6 := Lib.hid (HO4.out.below hb6)
              have hs6 : w4.heap.size ≤ w6.heap.size := hb6.size
              clear hx6 hb6
              go_wp2_with (at_builtin; go_loud (refine wpList_append_lls rfl (.tmp 35) (.tmp 46) rfl w.heap.size w4.heap.size base u5 x6 _ _ rfl HO6.out rfl HX6.out (by rw [List.length_map, List.length_map]; omega) (by omega) ?_))
              intro v7 w7 hv7 hg7
              have HV7 := Lib.hid hv7
              have hb7 : Below w.heap.size w w7 := HB6.out.grown hg7 (by omega) (fun g hg => HO6.out.low g hg)
              have HB7 := Lib.hid hb7
              clear hv7 hg7 hb7
              go_wp2
              go_roundw
              case rel => exact ⟨j + 1, by omega, by go_num, by rw [HZ.out]; exact HV7.out, HB7.out⟩
              case measure => simp [intOf]; omega
      · obtain rfl : j = n := by omega
        go_wp2
        go_ret
        exact ⟨_, rfl, by rw [HE.out]; exact HO.out, HB.out⟩
end Go.Proofs.YtoeimngbpagegaaDoor
