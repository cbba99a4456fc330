/- A part of the proof: Sbz. -/
import Derived.Test.YtiigcjcolpmafaaRzz
import Derived.Test.YtiigcjcolpmafaaAY
import Derived.Test.YtiigcjcolpmafaaBqz
import Derived.Test.YtiigcjcolpmafaaTurnsJoinsz
import Derived.Test.YtiigcjcolpmafaaPairEq
namespace Go.Proofs.Ytiigcjcolpmafaa
open Go.RowKit

theorem okMat_n {p : PlanD} {n : Nat} {m : Nat → Int} (h : okMat p n m = true) : n = p.nH := by
  unfold okMat at h
  rw [Bool.and_eq_true, Bool.and_eq_true] at h
  exact of_decide_eq_true h.1.2
theorem OwnLL.rows {w : World} {base : Nat} {x : Value} {ls : List (List Int)} (h : OwnLL w base x ls) : ∃ A c, x = .slice A ls.length c ∧ Rows2 w A ls.length (fun i => (ls.getD i []).length) (fun i k => (ls.getD i []).getD k 0) := by
  obtain ⟨vals, hl, ho, hv⟩ := h
  have hR : OwnR w base x ls.length (fun i => (ls.getD i []).length) (fun i k => (ls.getD i []).getD k 0) := ⟨vals, hl, ho, fun i y hy => by rw [lst_of]; exact hv i y hy⟩
  obtain ⟨A, c, e, hr, -⟩ := hR.rows
  exact ⟨A, c, e, hr⟩
theorem stL_few {p : PlanD} (hok : okPlan p = true) : ∀ d h m, h + d = p.nH → stL (fewP p) d h m = stL p d h m := by
  obtain ⟨e1, e2, e3, e4⟩ := few_n hok
  obtain ⟨⟨a1, a2, a3, a4, -⟩, -, -, -⟩ := okPlan_of hok
  intro d
  induction d with
  | zero =>
    intro h m _
    have := okMat_few p p.nH m
    rw [Nat.min_eq_left (by omega)] at this
    simp only [stL, e1, this, stab_few hok]
  | succ d ih =>
    intro h m hd
    simp only [stL, e2, ih (h + 1) _ (by omega)]
    congr 1
    exact fmTo_congr (fun s _ => by rw [poss_few hok (by omega)])
theorem prRow_congr {B B' : Nat → Nat → Bool} {i : Nat} : ∀ {k : Nat}, (∀ s, s < k → B i s = B' i s) → prRow B i k = prRow B' i k := by
  intro k
  induction k with
  | zero => intro _; rfl
  | succ k ih =>
    intro h
    simp only [prRow, ih (fun s hs => h s (by omega)), h k (by omega)]
theorem prAll_congr {B B' : Nat → Nat → Bool} {n : Nat} : ∀ {i : Nat}, (∀ h s, h < i → s < n → B h s = B' h s) → prAll B n i = prAll B' n i := by
  intro i
  induction i with
  | zero => intro _; rfl
  | succ i ih =>
    intro h
    simp only [prAll, ih (fun h' s hh hs => h h' s (by omega) hs), prRow_congr (fun s hs => h i s (by omega) hs)]
theorem prAll_few {p : PlanD} (hok : okPlan p = true) (m : Nat → Int) : prAll (blkB (fewP p) m) (fewP p).nS (fewP p).nH = prAll (blkB p m) p.nS p.nH := by
  obtain ⟨e1, e2, e3, e4⟩ := few_n hok
  rw [e1, e2]
  exact prAll_congr (fun h s hh hs => blk_few hok m hh hs)

set_option maxHeartbeats 1000000 in
set_option maxRecDepth 1000000 in
theorem rStable_any (AH AS AP : Option Addr) (cH cS cP : Nat) (p : PlanD) (hok : okPlan p = true) (w : World) (hp : PlanArg w AH AS AP cH cS cP p) :
    Calls Try.prog 42 #[.agg #[.slice AH p.nH cH, .slice AS p.nS cS, .slice AP p.nP cP]] w fun e w' => ∃ x, e = .returned x ∧ OwnLL w' w.heap.size x (stL p p.nH 0 (fun _ => -1)) ∧ Below w.heap.size w w' := by
  have HA : Hid (∀ w' : World, Below w.heap.size w w' → Calls Try.prog 75 #[.agg #[.slice AH p.nH cH, .slice AS p.nS cS, .slice AP p.nP cP], .slice none 0 0] w' fun e w'' => ∃ x, e = .returned x ∧ OwnLL w'' w'.heap.size x (stL p p.nH 0 (fun _ => -1)) ∧ Below w'.heap.size w' w'') :=
    Lib.hid (fun w' hb => rstable_any AH AS AP cH cS cP p hok p.nH 0 (fun _ => -1) none 0 w' (by omega) (hp.keep hb) ⟨Nat.le_refl _, Nat.zero_le _, fun _ => rfl, Ints.zero⟩)
  have Hb0 := Lib.hid (below_box w (.cells #[.slice AH p.nH cH, .slice AS p.nS cS, .slice AP p.nP cP] 25))
  have hB0 := BoxP.newR w AH AS AP p.nH p.nS p.nP cH cS cP
  obtain ⟨z0, z1, z2⟩ := hB0
  clear hok hp
  go_enter Try.func42, Try.ntmps42
  go_wp2_with fail
  refine (HA.out _ Hb0.out).mono ?_
  rintro e w2 ⟨x, rfl, hx, hb2⟩
  have HX := Lib.hid (hx.rebase Hb0.out.size)
  have Hb2 := Lib.hid (Hb0.out.trans (hb2.mono Hb0.out.size))
  clear hx hb2
  go_wp2
  go_ret
  exact ⟨x, rfl, HX.out, Hb2.out⟩

set_option maxHeartbeats 1000000 in
set_option maxRecDepth 1000000 in
/-- slices.EqualFunc of slices.Equal over rows that read the same. -/
theorem equalFunc_same (A B : Option Addr) (n c c' : Nat) (L : Nat → Nat) (v : Nat → Nat → Int) (w : World) (ha : Rows2 w A n L v) (hb : Rows2 w B n L v) (hn : n ≤ 100000) (hL : ∀ i, i < n → L i ≤ 10000) :
    Ro 80 #[.slice A n c, .slice B n c', .func (.func 25) #[] #[]] w (.bool true) := by
  refine Ro.of ?_
  have HL := Lib.hid hL
  have HA := Lib.hid ha
  have HB := Lib.hid hb
  clear ha hb hL
  have hBn := bne_f (a := (n : Int)) rfl
  go_enter Try.func80, Try.ntmps80
  go_wp2
  go_loopw [17] (fun i wr => ∃ k : Nat, k ≤ n ∧ i = .int .i64 k ∧ Dn w wr) (fun i _ => n - (intOf i).toNat)
  case atStart => exact ⟨0, Nat.zero_le _, rfl, Dn.refl _⟩
  case round =>
    obtain ⟨k, hk, rfl, hD⟩ := hrel
    by_cases hlt : k < n
    · obtain ⟨b, o, A', c1, rfl, hc, hI⟩ := (HA.out.dn hD).at hlt
      obtain ⟨b', o', B', c2, rfl, hc', hI'⟩ := (HB.out.dn hD).at hlt
      have HEq := Lib.hid (equal_any A' B' (L k) (L k) c1 c2 (v k) (v k) wr hI hI' (HL.out k hlt) (HL.out k hlt))
      have HT := Lib.hid (eqB_id (L k) (v k))
      clear hI hI'
      go_wp2_with fail
      refine Ro.use HEq.out ?_
      intro w3 hd3
      rw [HT.out]
      have HD := Lib.hid (hD.trans hd3)
      clear hd3 hD
      go_wp2
      go_roundw
      case rel => exact ⟨k + 1, by omega, by go_num, HD.out⟩
      case measure => simp [intOf]; omega
    · obtain rfl : k = n := by omega
      go_wp2
      go_ret
      exact ⟨rfl, hD⟩

set_option maxHeartbeats 1000000 in
set_option maxRecDepth 1000000 in
theorem same_any (x y : Value) (base base' : Nat) (ls : List (List Int)) (w : World) (hx : OwnLL w base x ls) (hy : OwnLL w base' y ls) (hn : ls.length ≤ 100000) (hL : ∀ i, i < ls.length → (ls.getD i []).length ≤ 10000) :
    Ro 50 #[x, y] w (.bool true) := by
  refine Ro.of ?_
  obtain ⟨A, c, rfl, hA⟩ := hx.rows
  obtain ⟨B, c', rfl, hB⟩ := hy.rows
  have HE := Lib.hid (equalFunc_same A B ls.length c c' _ _ w hA hB hn hL)
  clear hx hy hA hB hL hn
  go_enter Try.func50, Try.ntmps50
  go_wp2_with fail
  refine Ro.use HE.out ?_
  intro w3 hd3
  have HD := Lib.hid hd3
  clear hd3
  go_wp2
  go_ret
  exact ⟨rfl, HD.out⟩

/-- A slice of pairs that is read. -/
def Prs (w : World) (A : Option Addr) (xs : List (Int × Int)) : Prop := 0 < xs.length → ∃ b, A = some ⟨b, 0, none⟩ ∧ ∀ k, k < xs.length → w.cell? ⟨b, k * 2, none⟩ = some (.int .i64 (xs.getD k (0, 0)).1) ∧ w.cell? ⟨b, k * 2 + 1, none⟩ = some (.int .i64 (xs.getD k (0, 0)).2)
theorem Prs.keep {w w' : World} {A : Option Addr} {xs : List (Int × Int)} (h : Prs w A xs) (hb : Below w.heap.size w w') : Prs w' A xs := fun hn => by
  obtain ⟨b, hA, hc⟩ := h hn
  exact ⟨b, hA, fun k hk => ⟨(hb.cell (World.block_lt_of_cell? _ _ (hc k hk).1)).trans (hc k hk).1, (hb.cell (World.block_lt_of_cell? _ _ (hc k hk).2)).trans (hc k hk).2⟩⟩
theorem Prs.dn {w w' : World} {A : Option Addr} {xs : List (Int × Int)} (h : Prs w A xs) (hd : Dn w w') : Prs w' A xs := h.keep (hd.below _)
theorem ownsRow_dn {w w' : World} {base size n : Nat} {e : TypeId} {x : Value} {xs : List Value} (h : w.ownsRow base e size x n xs) (hd : Dn w w') : w'.ownsRow base e size x n xs := by
  obtain ⟨q, rfl⟩ := hd
  exact h

/-- Two slices of pairs that hold the same. -/
theorem ownP_cell {w : World} {base g n cap : Nat} {xs : List (Int × Int)} (h : w.ownsRow base 43 2 (.slice (some ⟨g, 0, none⟩) n cap) n (cellsP xs)) (hn : n = xs.length) {k : Nat} (hk : k < n) :
    w.cell? ⟨g, k * 2, none⟩ = some (.int .i64 (xs.getD k (0, 0)).1) ∧ w.cell? ⟨g, k * 2 + 1, none⟩ = some (.int .i64 (xs.getD k (0, 0)).2) := by
  have key : ∀ (l : List (Int × Int)) (k : Nat), k < l.length → (cellsP l)[k * 2]? = some (.int .i64 (l.getD k (0, 0)).1) ∧ (cellsP l)[k * 2 + 1]? = some (.int .i64 (l.getD k (0, 0)).2) := by
    intro l
    induction l with
    | nil => intro k hk; simp at hk
    | cons x l ih =>
      intro k hk
      rcases k with _ | k
      · simp [cellsP]
      · have := ih k (by simpa using hk)
        simp only [cellsP, List.flatMap_cons] at this ⊢
        rw [show (k + 1) * 2 = k * 2 + 1 + 1 by omega]
        simpa using this
  have := key xs k (by omega)
  rw [World.ownsRow.cellAt h _ (by omega), World.ownsRow.cellAt h _ (by omega)]
  exact this

theorem OwnP.prs {w : World} {base : Nat} {v : Value} {xs : List (Int × Int)} (h : OwnP w base v xs) : ∃ A c, v = .slice A xs.length c ∧ Prs w A xs := by
  rcases h.2 with ⟨rfl, h0⟩ | ⟨g, cap, cur, rfl, -⟩
  · exact ⟨none, 0, by rw [h0], fun hn => absurd hn (by omega)⟩
  · exact ⟨_, cap, rfl, fun _ => ⟨g, rfl, fun k hk => ownP_cell (n := xs.length) h rfl hk⟩⟩

set_option maxHeartbeats 1000000 in
set_option maxRecDepth 1000000 in
theorem eqPrs_any (A B : Option Addr) (c c' : Nat) (xs : List (Int × Int)) (w : World) (hx : Prs w A xs) (hy : Prs w B xs) (hn : xs.length ≤ 1000) :
    Ro 40 #[.slice A xs.length c, .slice B xs.length c'] w (.bool true) := by
  refine Ro.of ?_
  obtain ⟨n, hnn⟩ : ∃ n, n = xs.length := ⟨_, rfl⟩
  have HX := Lib.hid hx
  have HY := Lib.hid hy
  have HN := Lib.hid hnn
  rw [← hnn] at hn ⊢
  have hB := bne_f (a := (n : Int)) rfl
  clear hx hy hnn
  go_enter Try.func40, Try.ntmps40
  go_wp2
  go_loopw [13] (fun i wr => ∃ k : Nat, k ≤ n ∧ i = .int .i64 k ∧ Dn w wr) (fun i _ => n - (intOf i).toNat)
  case atStart => exact ⟨0, Nat.zero_le _, rfl, Dn.refl _⟩
  case round =>
    obtain ⟨k, hk, rfl, hD⟩ := hrel
    by_cases hlt : k < n
    · obtain ⟨ba, rfl, ha⟩ := (HX.out.dn hD) (by have := HN.out; omega)
      obtain ⟨bb, rfl, hb⟩ := (HY.out.dn hD) (by have := HN.out; omega)
      obtain ⟨x1, x2⟩ := ha k (by have := HN.out; omega)
      obtain ⟨y1, y2⟩ := hb k (by have := HN.out; omega)
      clear ha hb
      generalize (xs.getD k (0, 0)).1 = p at *
      generalize (xs.getD k (0, 0)).2 = q at *
      have hpq : ∀ W, (binOp .neq 43 (.agg #[.int .i64 p, .int .i64 q]) (.agg #[.int .i64 p, .int .i64 q])).run Try.prog W = .ok (.bool false) W := fun W => by rw [pair_neq]; simp
      go_wp2
      go_quiet (fail)
      go_wp2
      go_roundw
      case rel => exact ⟨k + 1, by omega, by go_num, hD.drewN _⟩
      case measure => simp [intOf]; omega
    · obtain rfl : n = k := by omega
      go_wp2
      go_ret
      exact ⟨rfl, hD⟩

theorem stL_row {p : PlanD} : ∀ d h m l, l ∈ stL p d h m → l.length = p.nH := by
  intro d
  induction d with
  | zero =>
    intro h m l hl
    simp only [stL] at hl
    split at hl
    · simp at hl
      rw [hl, lst_len]
    · simp at hl
  | succ d ih =>
    intro h m l hl
    simp only [stL, List.mem_append] at hl
    rcases hl with hl | hl
    · exact ih _ _ _ hl
    · have key : ∀ n, l ∈ fmTo (fun s : Nat => if possB p h (s : Int) then stL p d (h + 1) (upd m h (s : Int)) else []) n → l.length = p.nH := by
        intro n
        induction n with
        | zero => intro h; simp [fmTo] at h
        | succ n ihn =>
          intro h
          simp only [fmTo, List.mem_append] at h
          rcases h with h | h
          · exact ihn h
          · split at h
            · exact ih _ _ _ h
            · simp at h
      exact key _ hl
theorem stL_rows {p : PlanD} (hok : okPlan p = true) {i : Nat} {d h : Nat} {m : Nat → Int} (hi : i < (stL p d h m).length) : ((stL p d h m).getD i []).length ≤ 10000 := by
  obtain ⟨⟨a1, a2, -⟩, -⟩ := okPlan_of hok
  have : (stL p d h m).getD i [] ∈ stL p d h m := by
    rw [List.getD_eq_getElem?_getD, List.getElem?_eq_getElem hi, Option.getD_some]
    exact List.getElem_mem hi
  rw [stL_row d h m _ this]
  omega
end Go.Proofs.Ytiigcjcolpmafaa

