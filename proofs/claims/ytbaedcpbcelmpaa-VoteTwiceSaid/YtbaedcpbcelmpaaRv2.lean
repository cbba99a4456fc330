/- slices.Reverse of rows; rows one behind the other. -/
import Derived.Test.YtbaedcpbcelmpaaDo
import Derived.Test.YtbaedcpbcelmpaaLl
import Derived.RegionTactic
import Derived.Deep.DeepCutAuto
namespace Go.Proofs.Ytbaedcpbcelmpaa
open Go.RowKit

def updG (D : Nat → Value) (i : Nat) (x : Value) : Nat → Value := fun k => if k = i then x else D k
/-- Block g of cap cells begins with m slices. -/
def RowV (w : World) (g cap m : Nat) (D : Nat → Value) : Prop := ∃ F : Nat → Value, w.rowIs g 27 cap F ∧ m ≤ cap ∧ ∀ i, i < m → F i = D i
theorem RowV.cell {w : World} {g cap m : Nat} {D : Nat → Value} (h : RowV w g cap m D) {i : Nat} (hi : i < m) : w.cell? ⟨g, i, none⟩ = some (D i) := by
  obtain ⟨F, hr, hc, hF⟩ := h
  rw [World.rowIs.cell hr (by omega), hF i hi]
theorem RowV.frozen {w : World} {g cap m : Nat} {D : Nat → Value} (h : RowV w g cap m D) (i : Nat) : w.frozen? ⟨g, i, none⟩ = false := by
  obtain ⟨F, hr, -⟩ := h
  exact World.rowIs.frozen hr i
theorem RowV.congr {w : World} {g cap m : Nat} {D D' : Nat → Value} (h : RowV w g cap m D) (e : ∀ i, i < m → D i = D' i) : RowV w g cap m D' := by
  obtain ⟨F, hr, hc, hF⟩ := h
  exact ⟨F, hr, hc, fun i hi => by rw [hF i hi, e i hi]⟩
theorem RowV.set {w : World} {g cap m : Nat} {D : Nat → Value} (h : RowV w g cap m D) (i : Nat) (x : Value) : RowV (w.setCell ⟨g, i, none⟩ x) g cap m (updG D i x) := by
  obtain ⟨F, hr, hc, hF⟩ := h
  refine ⟨_, World.rowIs.set hr i x, hc, fun j hj => ?_⟩
  by_cases e : j = i
  · simp [e, updG]
  · simp [e, updG, hF j hj]
/-- The first i places and the last i of m are turned. -/
def revG (D : Nat → Value) (m i : Nat) : Nat → Value := fun k => if k < i ∨ m - i ≤ k then D (m - 1 - k) else D k
theorem revG_zero (D : Nat → Value) (m k : Nat) (hk : k < m) : revG D m 0 k = D k := by
  unfold revG
  rw [if_neg (by omega)]
theorem revG_end {D : Nat → Value} {m i k : Nat} (h : m ≤ 2 * i + 1) (hi : i ≤ m) (hk : k < m) : revG D m i k = D (m - 1 - k) := by
  unfold revG
  by_cases e : k < i ∨ m - i ≤ k
  · rw [if_pos e]
  · rw [if_neg e]
    have : m - 1 - k = k := by omega
    rw [this]
theorem revG_next {D : Nat → Value} {m i : Nat} (h : 2 * i + 1 < m) (k : Nat) (hk : k < m) : updG (updG (revG D m i) i (revG D m i (m - 1 - i))) (m - 1 - i) (revG D m i i) k = revG D m (i + 1) k := by
  unfold updG
  by_cases e1 : k = m - 1 - i
  · rw [if_pos e1]
    unfold revG
    rw [if_neg (by omega), if_pos (by omega)]
    congr 1
    omega
  · rw [if_neg e1]
    by_cases e2 : k = i
    · rw [if_pos e2]
      unfold revG
      rw [if_neg (by omega), if_pos (by omega), e2]
    · rw [if_neg e2]
      unfold revG
      by_cases e3 : k < i ∨ m - i ≤ k
      · rw [if_pos e3, if_pos (by omega)]
      · rw [if_neg e3, if_neg (by omega)]

set_option maxHeartbeats 1000000 in
set_option maxRecDepth 1000000 in
theorem reverseV_any (g cap cs m : Nat) (D : Nat → Value) (w : World) (h : RowV w g cap m D) (hm : m ≤ 1000) (hm1 : 1 ≤ m) (hD : ∀ k, k < m → ∃ a l c, D k = .slice a l c) :
    Calls Try.prog 41 #[.slice (some ⟨g, 0, none⟩) m cs] w fun e w' => (∃ v, e = .returned v) ∧ RowV w' g cap m (fun k => D (m - 1 - k)) ∧ Exc g w w' := by
  have H := Lib.hid (h.congr (D' := revG D m 0) (fun i hi => (revG_zero D m i hi).symm))
  clear h
  go_enter Try.func41, Try.ntmps41
  go_wp2
  go_loopw [2, 3] (fun x y wr => ∃ i : Nat, i ≤ m ∧ 2 * i ≤ m + 1 ∧ x = .int .i64 i ∧ y = .int .i64 ((m : Int) - 1 - i) ∧ RowV wr g cap m (revG D m i) ∧ Exc g w wr) (fun x _ _ => m - (intOf x).toNat)
  case atStart => exact ⟨0, Nat.zero_le _, by omega, rfl, by first | go_num | (congr 1; omega), H.out, Exc.refl _ _⟩
  case round =>
    obtain ⟨i, hi, hi2, rfl, rfl, hR, hE⟩ := hrel
    have HR := Lib.hid hR
    have HE := Lib.hid hE
    clear hR hE H
    by_cases hlt : 2 * i + 1 < m
    · have hlt' : (i : Int) < (m : Int) - 1 - i := by omega
      obtain ⟨j, hj⟩ : ∃ j : Nat, j = m - 1 - i := ⟨_, rfl⟩
      have hji : ((m : Int) - 1 - i) = (j : Int) := by omega
      have hjm : j < m := by omega
      have him : i < m := by omega
      have hc1 := HR.out.cell him
      have hc2 := HR.out.cell hjm
      have hf1 := HR.out.frozen i
      have hf2 := HR.out.frozen j
      have HN : Hid (∀ k, k < m → updG (updG (revG D m i) i (revG D m i j)) j (revG D m i i) k = revG D m (i + 1) k) := Lib.hid (by rw [hj]; exact fun k hk => revG_next hlt k hk)
      have HF : Hid (∀ k, k < m → ∃ a l c, revG D m i k = .slice a l c) := Lib.hid (fun k hk => by
        unfold revG
        split
        · exact hD _ (by omega)
        · exact hD _ hk)
      generalize revG D m i = D1 at *
      have HS := Lib.hid ((HR.out.set i (D1 j)).set j (D1 i))
      have HX := Lib.hid ((HE.out.set i (D1 j)).set j (D1 i))
      have HJ := Lib.hid hji
      have hij : i ≠ j := by omega
      rw [hji] at hlt' ⊢
      clear hji hj
      obtain ⟨x1, y1, z1, e1⟩ := HF.out i him
      obtain ⟨x2, y2, z2, e2⟩ := HF.out j hjm
      rw [e1] at hc1 HS HX HN
      rw [e2] at hc2 HS HX HN
      clear e1 e2
      go_wp2
      go_region
      clear hc1 hc2 hf1 hf2
      generalize World.setCell (World.setCell _ ⟨g, i, none⟩ (.slice x2 y2 z2)) ⟨g, j, none⟩ (.slice x1 y1 z1) = W2 at *
      go_wp2
      go_roundw
      case rel => exact ⟨i + 1, by omega, by omega, by go_num, val_int (by have := HJ.out; omega), (RowV.congr HS.out HN.out), HX.out.drew⟩
      case measure => simp [intOf]; omega
    · have hlt' : ¬ (i : Int) < (m : Int) - 1 - i := by omega
      have HC := Lib.hid (HR.out.congr (D' := fun k => D (m - 1 - k)) (fun k hk => revG_end (by omega) hi hk))
      go_wp2
      go_end0
      exact ⟨⟨_, rfl⟩, HC.out, HE.out⟩

theorem RowV.own {w : World} {base g cap m : Nat} {D : Nat → Value} (h : RowV w g cap m D) (hb : base ≤ g) (hm : cap ≤ maxLen) : w.ownsRow base 27 1 (.slice (some ⟨g, 0, none⟩) m cap) m ((List.range m).map D) := by
  obtain ⟨F, ⟨c, hc, hs, hF⟩, hmc, hD⟩ := h
  refine ⟨by simp, .inr ⟨g, cap, c, rfl, hb, hc, hmc, hm, by omega, ?_⟩⟩
  apply List.ext_getElem?
  intro i
  rw [Nat.mul_one]
  by_cases hi : i < m
  · rw [List.getElem?_take_of_lt hi, Array.getElem?_toList, hF i (by omega), hD i hi, List.getElem?_map, List.getElem?_range hi]
    rfl
  · rw [List.getElem?_eq_none (by simp; omega), List.getElem?_eq_none (by simp; omega)]
theorem OwnR.rev {w : World} {base N : Nat} {x : Value} {L : Nat → Nat} {v : Nat → Nat → Int} (h : OwnR w base x N L v) (hN1 : 1 ≤ N) (hN : N ≤ 1000) :
    ∃ G cap, x = .slice (some ⟨G, 0, none⟩) N cap ∧ base ≤ G ∧ N ≤ cap ∧ Calls Try.prog 41 #[x] w fun e w' => (∃ u, e = .returned u) ∧ OwnR w' base x N (fun i => L (N - 1 - i)) (fun i => v (N - 1 - i)) ∧ Exc G w w' := by
  obtain ⟨vals, hl, hown, hv⟩ := h
  have hown0 := hown
  rcases hown0.2 with ⟨-, h0⟩ | ⟨G, cap, cur, rfl, hb, hh, hnc, hcm, hcs, ht⟩
  · omega
  refine ⟨G, cap, rfl, hb, hnc, ?_⟩
  have hr : w.rowIs G 27 cap (fun i => cur[i]?.getD (.int .i64 0)) := ⟨cur, hh, by omega, fun i hi => by
    have hi' : i < cur.size := by omega
    simp [Array.getElem?_eq_getElem hi']⟩
  have hR : RowV w G cap N (fun i => vals.getD i (.slice none 0 0)) := ⟨_, hr, hnc, fun i hi => by
    have hc := World.ownsRow.cellAt hown i (by omega)
    rw [World.rowIs.cell hr (by omega), List.getElem?_eq_getElem (by omega)] at hc
    injection hc with hc
    have hil : i < vals.length := by omega
    simp only [List.getD, List.getElem?_eq_getElem hil, Option.getD_some]
    exact hc⟩
  have hg : ∀ i, i < N → ∃ y, vals[i]? = some y ∧ vals.getD i (.slice none 0 0) = y := fun i hi => ⟨vals[i]'(by omega), List.getElem?_eq_getElem (by omega), by
    have hil : i < vals.length := by omega
    simp [List.getD, hil]⟩
  refine (reverseV_any G cap cap N _ w hR hN hN1 (fun k hk => by
    obtain ⟨y, hy, e⟩ := hg k hk
    obtain ⟨A, c, ey, -⟩ := (hv k y hy).form
    exact ⟨A, _, c, by rw [e, ey]⟩)).mono ?_
  rintro e w' ⟨hu, hR', hE⟩
  refine ⟨hu, ⟨_, by simp, hR'.own hb hcm, fun i z hz => ?_⟩, hE⟩
  have hi : i < N := by
    have := (List.getElem?_eq_some_iff.1 hz).1
    simpa using this
  rw [List.getElem?_map, List.getElem?_range hi] at hz
  simp only [Option.map_some] at hz
  injection hz with hz
  obtain ⟨y, hy, ey⟩ := hg (N - 1 - i) (by omega)
  rw [ey] at hz
  subst hz
  exact World.ownsRow.kept (hv (N - 1 - i) y hy) hE (own_other (hv (N - 1 - i) y hy) hown (by decide))

set_option maxRecDepth 1000000 in
/-- append(v, x...) of rows of the call's own. -/
theorem run_append_rows {w : World} (T : TypeId) (base base2 : Nat) (x y : Value) (n1 n2 : Nat) (L1 L2 : Nat → Nat) (v1 v2 : Nat → Nat → Int) (h1 : OwnR w base x n1 L1 v1) (h2 : OwnR w base2 y n2 L2 v2) (hb2 : base ≤ base2) (hn2 : 1 ≤ n2) (hsz : n1 + n2 ≤ 100000) (hbase : base ≤ w.heap.size) :
    ∃ x' w', (Builtin.append_ #[22, 22] T #[x, y]).run Try.prog w = .ok x' w' ∧ OwnR w' base x' (n1 + n2) (fun i => if i < n1 then L1 i else L2 (i - n1)) (fun i => if i < n1 then v1 i else v2 (i - n1)) ∧ w.grownBy w' x.ownBlock := by
  obtain ⟨i0, hi, hz0, hz1, hz2⟩ := info_parts infoInts
  obtain ⟨vals, hl, hown, hv⟩ := h1
  obtain ⟨vals2, hl2, hown2, hv2⟩ := h2
  have hown20 := hown2
  rcases hown20.2 with ⟨-, h0⟩ | ⟨G2, cap2, cur2, rfl, hbb, hh, hnc, hcm, hcs, ht⟩
  · omega
  have hnews : ∀ j u, vals2[j]? = some u → w.cell? ((⟨G2, 0, none⟩ : Addr).add j) = some u := fun j u hu => by
    have hj : j < vals2.length := (List.getElem?_eq_some_iff.1 hu).1
    rw [Addr.add_lit, Nat.zero_add, World.ownsRow.cellAt hown2 j (by omega)]
    exact hu
  have hone : ∀ u ∈ vals2, u.oneCell' = true := fun u hu => by
    obtain ⟨j, hj, e⟩ := List.getElem_of_mem hu
    exact (hv2 j u (by rw [List.getElem?_eq_getElem hj, e])).one
  obtain ⟨x', w', hrun, r1, r2, -, -⟩ := run_append_own_at (P := Try.prog) w base 22 T 27 i0 (.slice none 0 0) 1 24 Try.underlying22 hi hz0 hz1 hz2 rfl (by decide) x n1 vals hown ⟨G2, 0, none⟩ n2 cap2 vals2 (by omega) hnews hone (by unfold maxLen; omega) (by omega) hbase
  refine ⟨x', w', hrun, ⟨vals ++ vals2, by simp [hl, hl2], r1, fun i z hz => ?_⟩, r2⟩
  rcases Nat.lt_or_ge i vals.length with hlt | hge
  · rw [List.getElem?_append_left hlt] at hz
    simp only [if_pos (show i < n1 by omega)]
    exact World.ownsRow.kept (hv i z hz) r2 (own_other (hv i z hz) hown (by decide))
  · rw [List.getElem?_append_right hge] at hz
    simp only [if_neg (show ¬ i < n1 by omega)]
    rw [← hl]
    exact World.ownsRow.kept ((hv2 _ z hz).rebase hb2) r2 (own_other (hv2 _ z hz) hown (by decide))
set_option maxRecDepth 1000000 in
theorem wpList_append_rows {w : World} {ops : Array Oper} {rest : List Oper} {o : Oper} {a : Act} {Q : Exit → Act → World → Prop} (hgd : o.guard = none) (s x : Operand)
    (ho : o.op = .call { callee := .builtin .append, args := #[s, x], argTypes := #[22, 22] })
    (base base2 : Nat) (vs vx : Value) (n1 n2 : Nat) (L1 L2 : Nat → Nat) (v1 v2 : Nat → Nat → Int) (hs : a.eval s = vs) (h1 : OwnR w base vs n1 L1 v1) (hx : a.eval x = vx) (h2 : OwnR w base2 vx n2 L2 v2) (hb2 : base ≤ base2) (hn2 : 1 ≤ n2) (hsz : n1 + n2 ≤ 100000) (hbase : base ≤ w.heap.size)
    (h : ∀ v' w', OwnR w' base v' (n1 + n2) (fun i => if i < n1 then L1 i else L2 (i - n1)) (fun i => if i < n1 then v1 i else v2 (i - n1)) → w.grownBy w' vs.ownBlock → wpList Try.prog ops Q rest (a.put o.dst v') w') : wpList Try.prog ops Q (o :: rest) a w := by
  obtain ⟨x', w', hrun, k1, k2⟩ := run_append_rows o.type base base2 vs vx n1 n2 L1 L2 v1 v2 h1 h2 hb2 hn2 hsz hbase
  refine wpList_plain hgd fun K hK => ?_
  unfold Oper.wp execOp
  simp only [ho, resolve, invoke, builtin, Sem.run_bind, Sem.run_pure, Result.andThen_ok, List.map_toArray, List.map_cons, List.map_nil, hs, hx, hrun]
  exact hK _ _ (h x' w' k1 k2)
theorem OwnR.low {w : World} {base n : Nat} {x : Value} {L : Nat → Nat} {v : Nat → Nat → Int} (h : OwnR w base x n L v) (g : Nat) (hg : x.ownBlock = some g) : base ≤ g := by
  obtain ⟨vals, h1, h2, h3⟩ := h
  exact (World.ownsRow.lt h2 g hg).1
theorem OwnR.belowR {w w' : World} {base n : Nat} {x : Value} {L : Nat → Nat} {v : Nat → Nat → Int} (h : OwnR w base x n L v) (hb : Below w.heap.size w w') : OwnR w' base x n L v := by
  obtain ⟨vals, h1, h2, h3⟩ := h
  exact ⟨vals, h1, ownsRow_below h2 hb, h3.below hb⟩
theorem OwnR.rowsT {w : World} {base n : Nat} {A : Option Addr} {cA : Nat} {L : Nat → Nat} {v : Nat → Nat → Int} (h : OwnR w base (.slice A n cA) n L v) {L' : Nat → Nat} {v' : Nat → Nat → Int} (e : ∀ i, i < n → L i = L' i ∧ v i = v' i) : RowsK w A n L' v' ∧ n ≤ cA := by
  obtain ⟨A', c', e', hK, hc⟩ := h.rowsKc
  injection e' with e1 e2 e3
  subst e1 e3
  refine ⟨fun hn => ?_, hc⟩
  obtain ⟨b, o, hA, hcell⟩ := hK hn
  refine ⟨b, o, hA, fun i hi => ?_⟩
  obtain ⟨e4, e5⟩ := e i hi
  rw [← e4, ← e5]
  exact hcell i hi
end Go.Proofs.Ytbaedcpbcelmpaa
