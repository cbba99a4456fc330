/- Distances: the rows. -/
import Derived.Test.YtclhamemlpbpiaaHj
namespace Go.Proofs.Ytclhamemlpbpiaa
open Go.RowKit

theorem infoRows : (Try.prog.info? 33).map (fun i => (i.zero, i.size, i.bytes)) = some (some (.slice none 0 0), 1, 24) := by kernel_rfl
theorem mk_rowsD (n : Nat) (hn : n ≤ 10000) (w : World) :
    (Instr.makeSlice 25 (.int .i64 (n : Int)) (.int .i64 (n : Int))).run Try.prog w = .ok (.slice (some ⟨w.heap.size, 0, none⟩) n n) (w.alloc (.cells (madeCells #[.slice none 0 0] n) 33)) := by
  obtain ⟨i0, hi, hz0, hz1, hz2⟩ := info_parts infoRows
  have := run_make_rowN (P := Try.prog) 25 33 i0 (.slice none 0 0) Try.underlying25 hi hz0 .i64 .i64 n n (Nat.le_refl _) (by rw [hz2]; omega) (by omega) w
  rw [hz1, Nat.mul_one] at this
  exact this
theorem ownL_exc {w w' : World} {base g : Nat} {x : Value} {xs : List Int} (h : OwnL w base x xs) (he : Exc g w w') (hg : g < base) : OwnL w' base x xs := by
  refine he.ownL h ?_
  cases hb : x.ownBlock with
  | none => exact .inl rfl
  | some k =>
    refine .inr (fun e => ?_)
    injection e with e
    have := (World.ownsRow.lt h k hb).1
    omega
theorem Exc.low {g : Nat} {w w1 w2 : World} (h : Exc g w w1) (k : Below w.heap.size w1 w2) : Exc g w w2 :=
  ⟨k.os.trans h.os, k.tape.trans h.tape, k.output.trans h.output, Nat.le_trans h.size k.size, fun i hi hne => (k.block i hi).trans (h.block i hi hne)⟩
/-- Distances' number. -/
def dOf (x : Int) : Int := if x = 400 then -1 else x
def rowD (T : Nat → Int) (a : Nat) : Nat → Int := fun b => dOf (T (8 * a + b))
def putV (V : Nat → Value) (a : Nat) (v : Value) : Nat → Value := fun j => if j = a then v else V j

set_option maxHeartbeats 4000000 in
set_option maxRecDepth 1000000 in
theorem Distances_ok (A : Option Addr) (m c n : Nat) (F : Nat → Nat → Int) (w : World) (h : Recs 3 w A m F) (hok : okM n m F = true) :
    Calls Try.prog 9 #[.agg #[.int .i64 n, .slice A m c]] w fun e w' => ∃ G V, e = .returned (.tuple #[.slice (some ⟨G, 0, none⟩) n n, .int .i64 0]) ∧ w.heap.size ≤ G ∧ w'.rowIs G 33 n V ∧ (∀ j, j < n → OwnL w' (G + 1) (V j) (lst n (rowD (dsT n m F) j))) ∧ Below w.heap.size w w' := by
  obtain ⟨⟨-, hn8⟩, hm16, hrd⟩ := okM_iff.1 hok
  have hn8 : n ≤ 8 := by omega
  obtain ⟨i1, hi1, hz01, hz11, hz21⟩ := info_parts infoInt
  have hmk := mk_rowsD n (by omega)
  have HB1 := MapB.new w n (.slice A m c)
  have Hb1 := (Below.refl w.heap.size w).alloc (Nat.le_refl _) (.cells #[.int .i64 n, .slice A m c] 31)
  have hz1 : (w.alloc (.cells #[.int .i64 n, .slice A m c] 31)).heap.size = w.heap.size + 1 := by simp
  obtain ⟨W1, hW1⟩ : ∃ W1, W1 = w.alloc (.cells #[.int .i64 n, .slice A m c] 31) := ⟨_, rfl⟩
  rw [← hW1] at HB1 Hb1 hz1
  have HV := Lib.hid (fun w' (hb : Below W1.heap.size W1 w') => validM_any A m c n F w' (h.keep (Hb1.trans (hb.mono Hb1.size))) (by unfold maxLen; omega))
  have HD := Lib.hid (fun w' (hb : Below W1.heap.size W1 w') => distances_any A m c n F w' (h.keep (Hb1.trans (hb.mono Hb1.size))) hm16 hn8 (fun k hk => ⟨(hrd k hk).1, (hrd k hk).2.1, (hrd k hk).2.2.1⟩) (fun k hk => by have := hrd k hk; omega))
  have HOk := Lib.hid hok
  have HMB : Hid (∀ w', Below W1.heap.size W1 w' → MapB w' w.heap.size n (.slice A m c) ∧ Below w.heap.size w w') := Lib.hid (fun w' hb => ⟨HB1.keep hb, Hb1.trans (hb.mono Hb1.size)⟩)
  have HWW : Hid (w.alloc (.cells #[.int .i64 n, .slice A m c] 31) = W1) := Lib.hid hW1.symm
  have Hz1 := Lib.hid hz1
  have HDS : Hid (dS n (stT n m F) n = dsT n m F) := Lib.hid rfl
  clear HB1 Hb1 hz1 hW1 h hok hrd
  generalize dsT n m F = T at *
  go_enter Try.func9, Try.ntmps9
  go_wp2_with fail
  rw [HWW.out]
  clear HWW
  refine (HV.out W1 (Below.refl _ _)).use fun w2 hb2 => ?_
  rw [HOk.out]
  have HB2 := Lib.hid hb2
  obtain ⟨q0, q1⟩ : w2.cell? ⟨w.heap.size, 0, none⟩ = some (.int .i64 n) ∧ w2.cell? ⟨w.heap.size, 1, none⟩ = some (.slice A m c) := ⟨(HMB.out w2 hb2).1.c0, (HMB.out w2 hb2).1.c1⟩
  clear hb2
  go_wp2_with fail
  refine (HD.out w2 HB2.out).mono ?_
  rintro e w4 ⟨rfl, hb4⟩
  rw [HDS.out]
  have HB4 := Lib.hid (HB2.out.trans (hb4.mono HB2.out.size))
  clear hb4 q0 q1
  go_wp2_with fail
  have HY5 := TabI.zero w4
  rw [run_storeTab _ _ _ T HY5]
  simp only [Result.andThen_ok]
  rw [Oper.upon_skip]
  have HY6 := Lib.hid (TabI.stored (T := T) HY5)
  have HB6 := Lib.hid (below_setCells (tabL T) 0 (show W1.heap.size ≤ w4.heap.size from HB4.out.size) (HB4.out.trans ((tab_below w4).mono HB4.out.size)))
  clear HY5
  generalize World.setCells _ w4.heap.size 0 (tabL T) = W6 at *
  have q0 : W6.cell? ⟨w.heap.size, 0, none⟩ = some (.int .i64 n) := (HMB.out W6 HB6.out).1.c0
  go_wp2
  clear q0 hmk
  have HG7 := Lib.hid (World.rowIs_made W6 (.slice none 0 0) n 33)
  have HY7 := Lib.hid (TabI.keep HY6.out ((Below.refl W6.heap.size W6).alloc (Nat.le_refl _) (.cells (madeCells #[.slice none 0 0] n) 33)))
  have HB7 := Lib.hid (HB6.out.alloc HB6.out.size (.cells (madeCells #[.slice none 0 0] n) 33))
  have hYG : w4.heap.size < W6.heap.size := HY6.out.lt
  have hz7 : W6.heap.size + 1 ≤ (W6.alloc (.cells (madeCells #[.slice none 0 0] n) 33)).heap.size := by simp
  have HSG : Hid (W1.heap.size ≤ W6.heap.size) := Lib.hid HB6.out.size
  have HZ7 := Lib.hid hz7
  clear HY6 hz7
  generalize W6.alloc (.cells (madeCells #[.slice none 0 0] n) 33) = W7 at *
  generalize w4.heap.size = Y at *
  generalize W6.heap.size = G at *
  have HYG := Lib.hid hYG
  clear hYG
  go_loopw [19] (fun i wr => ∃ (a : Nat) (V : Nat → Value), a ≤ n ∧ i = .int .i64 a ∧ wr.rowIs G 33 n V ∧ (∀ j, a ≤ j → j < n → V j = .slice none 0 0) ∧ (∀ j, j < a → OwnL wr (G + 1) (V j) (lst n (rowD T j))) ∧ TabI wr Y T ∧ Below W1.heap.size W1 wr ∧ G + 1 ≤ wr.heap.size) (fun i _ => n - (intOf i).toNat)
  case atStart => exact ⟨0, _, Nat.zero_le _, rfl, HG7.out, fun _ _ _ => rfl, fun j hj => absurd hj (Nat.not_lt_zero _), HY7.out, HB7.out, HZ7.out⟩
  case round =>
    obtain ⟨a, V, ha, rfl, hG, hnil, hown, hY, hB, hsz⟩ := hrel
    have HGr := Lib.hid hG
    have HNil := Lib.hid hnil
    have HOwn := Lib.hid hown
    have HYr := Lib.hid hY
    have HBr := Lib.hid hB
    have HSr := Lib.hid hsz
    clear hG hnil hown hY hB hsz HG7 HY7 HB7 HZ7
    by_cases hla : a < n
    · have q0 : wr.cell? ⟨w.heap.size, 0, none⟩ = some (.int .i64 n) := (HMB.out wr HBr.out).1.c0
      have hsl := slice_eight ⟨Y, a * 8, none⟩ n hn8
      have ha8 : a < 8 := by omega
      have ha8i : (a : Int) < 8 := by omega
      go_wp2
      go_region
      clear q0 hsl ha8i
      have HE0 : Hid (Exc G wr.drew wr.drew) := Lib.hid (Exc.refl _ _)
      have HGk : Hid (wr.drew.rowIs G 33 n (putV V a (.slice none 0 0))) := Lib.hid (World.rowIs.congr (show wr.drew.rowIs G 33 n V from HGr.out) (fun j hj => by
        unfold putV
        by_cases e : j = a
        · rw [if_pos e, e]
          exact HNil.out a (Nat.le_refl _) hla
        · rw [if_neg e]))
      have HYk : Hid (TabI wr.drew Y T) := Lib.hid HYr.out
      have HBk := Lib.hid (HBr.out.trans ((Dn.refl wr).drew.below _))
      have HOk2 : Hid (∀ j, j < a → OwnL wr.drew (G + 1) (V j) (lst n (rowD T j))) := Lib.hid HOwn.out
      have HSk : Hid (G + 1 ≤ wr.drew.heap.size) := Lib.hid HSr.out
      clear HGr HYr HBr HOwn HSr
      generalize wr.drew = Wk at *
      go_wp2
      go_loopw [28] (fun i wx => ∃ (b : Nat) (v : Value), b ≤ n ∧ i = .int .i64 b ∧ wx.rowIs G 33 n (putV V a v) ∧ OwnL wx Wk.heap.size v (lst b (rowD T a)) ∧ Exc G Wk wx) (fun i _ => n - (intOf i).toNat)
      case atStart => exact ⟨0, _, Nat.zero_le _, rfl, HGk.out, OwnL.nil_ _ _, HE0.out⟩
      case round =>
        obtain ⟨b, v, hb, rfl, hG, hown, hE⟩ := hrel
        have HGx := Lib.hid hG
        have HOx := Lib.hid hown
        have HEx := Lib.hid hE
        obtain ⟨A1, c1, rfl, -⟩ := hown.form
        rw [lst_len] at HGx HOx
        clear hG hown hE HE0
        by_cases hlb : b < n
        · have hYx : TabI wr Y T := World.rowIs.of_block HYk.out (HEx.out.block Y HYk.out.lt (fun e => by injection e with e; have := HYG.out; omega))
          have hb8 : b < 8 := by omega
          have hx1 := hYx.cell ha8 hb8
          have hg1 : wr.cell? ⟨G, a, none⟩ = some (.slice A1 b c1) := by
            have := World.rowIs.cell HGx.out hla
            unfold putV at this
            rw [if_pos rfl] at this
            exact this
          have hsz0 : Wk.heap.size ≤ wr.heap.size := HEx.out.size
          have hwl := HOx.out
          unfold OwnL at hwl
          rw [lst_len] at hwl
          have HWL := Lib.hid hwl
          have HRow : Hid (rowD T a b = dOf (T (8 * a + b))) := Lib.hid rfl
          clear hYx hwl
          generalize T (8 * a + b) = x at *
          by_cases hx : x = 400
          · have hbx := beq_t hx
            have HVal : Hid (rowD T a b = -1) := Lib.hid (by rw [HRow.out]; unfold dOf; rw [if_pos hx])
            subst hx
            go_wp2_with (at_builtin; go_loud (refine wpList_append_own _ rfl _ _ 33 rfl Wk.heap.size 3 i1 (.int .i64 0) 1 8 Try.underlying33 hi1 hz01 hz11 hz21 rfl (by decide) _ _ _ rfl (World.ownsRow.alloc HWL.out _) ⟨wr.heap.size, 0, none⟩ 1 1 [.int .i64 (-1)] rfl rfl (news1 _ _ _) (one1 rfl) (by unfold maxLen; omega) (by omega) (by simp; omega) ?_))
            intro v5 w5 hown5 hgrow _
            have hb5 : Below Wk.heap.size wr w5 := ((Below.refl Wk.heap.size wr).alloc hsz0 _).grown hgrow (by simp; omega) (fun g hg => (World.ownsRow.lt HWL.out g hg).1)
            have hO5 : OwnL w5 Wk.heap.size v5 (lst (b + 1) (rowD T a)) := by
              unfold OwnL
              rw [lst_len, lst_succ, List.map_append, HVal.out]
              exact hown5
            have hG5 : w5.rowIs G 33 n (putV V a (.slice A1 b c1)) := World.rowIs.of_block HGx.out (hb5.block G (by have := HSk.out; omega))
            have hg5 : w5.cell? ⟨G, a, none⟩ = some (.slice A1 b c1) := by
              have := World.rowIs.cell hG5 hla
              unfold putV at this
              rw [if_pos rfl] at this
              exact this
            have hf5 := World.rowIs.frozen hG5 a
            obtain ⟨A5, c5, e5, -⟩ := hO5.form
            rw [lst_len] at e5
            subst e5
            have HG6 := Lib.hid (World.rowIs.set hG5 a (.slice A5 (b + 1) c5))
            have HO6 := Lib.hid (ownL_exc hO5 ((Exc.refl G w5).set a (.slice A5 (b + 1) c5)) (by have := HSk.out; omega))
            have HE6 := Lib.hid ((HEx.out.low hb5).set a (.slice A5 (b + 1) c5))
            clear hown5 hgrow hb5 hO5 hG5 hg1 hx1
            go_wp2
            go_roundw
            case rel => exact ⟨b + 1, _, by omega, by go_num, World.rowIs.congr HG6.out (fun j hj => by unfold putV; by_cases e : j = a <;> simp [e]), HO6.out, HE6.out⟩
            case measure => simp [intOf]; omega
          · have hbx := beq_f hx
            have HVal : Hid (rowD T a b = x) := Lib.hid (by rw [HRow.out]; unfold dOf; rw [if_neg hx])
            clear hx
            go_wp2_with (at_builtin; go_loud (refine wpList_append_own _ rfl _ _ 33 rfl Wk.heap.size 3 i1 (.int .i64 0) 1 8 Try.underlying33 hi1 hz01 hz11 hz21 rfl (by decide) _ _ _ rfl (World.ownsRow.alloc HWL.out _) ⟨wr.heap.size, 0, none⟩ 1 1 [.int .i64 (x)] rfl rfl (news1 _ _ _) (one1 rfl) (by unfold maxLen; omega) (by omega) (by simp; omega) ?_))
            intro v5 w5 hown5 hgrow _
            have hb5 : Below Wk.heap.size wr w5 := ((Below.refl Wk.heap.size wr).alloc hsz0 _).grown hgrow (by simp; omega) (fun g hg => (World.ownsRow.lt HWL.out g hg).1)
            have hO5 : OwnL w5 Wk.heap.size v5 (lst (b + 1) (rowD T a)) := by
              unfold OwnL
              rw [lst_len, lst_succ, List.map_append, HVal.out]
              exact hown5
            have hG5 : w5.rowIs G 33 n (putV V a (.slice A1 b c1)) := World.rowIs.of_block HGx.out (hb5.block G (by have := HSk.out; omega))
            have hg5 : w5.cell? ⟨G, a, none⟩ = some (.slice A1 b c1) := by
              have := World.rowIs.cell hG5 hla
              unfold putV at this
              rw [if_pos rfl] at this
              exact this
            have hf5 := World.rowIs.frozen hG5 a
            obtain ⟨A5, c5, e5, -⟩ := hO5.form
            rw [lst_len] at e5
            subst e5
            have HG6 := Lib.hid (World.rowIs.set hG5 a (.slice A5 (b + 1) c5))
            have HO6 := Lib.hid (ownL_exc hO5 ((Exc.refl G w5).set a (.slice A5 (b + 1) c5)) (by have := HSk.out; omega))
            have HE6 := Lib.hid ((HEx.out.low hb5).set a (.slice A5 (b + 1) c5))
            clear hown5 hgrow hb5 hO5 hG5 hg1 hx1
            go_wp2
            go_roundw
            case rel => exact ⟨b + 1, _, by omega, by go_num, World.rowIs.congr HG6.out (fun j hj => by unfold putV; by_cases e : j = a <;> simp [e]), HO6.out, HE6.out⟩
            case measure => simp [intOf]; omega
        · obtain rfl : b = n := by omega
          go_wp2
          go_roundw
          case rel =>
            refine ⟨a + 1, putV V a (.slice A1 b c1), by omega, by go_num, HGx.out, fun j hj hj2 => ?_, fun j hj => ?_, World.rowIs.of_block HYk.out (HEx.out.block Y HYk.out.lt (fun e => by injection e with e; have := HYG.out; omega)), HBk.out.trans (HEx.out.below (by have := HSG.out; omega) HBk.out.size), Nat.le_trans HSk.out HEx.out.size⟩
            · unfold putV
              rw [if_neg (by omega)]
              exact HNil.out j (by omega) hj2
            · unfold putV
              by_cases e : j = a
              · rw [if_pos e, e]
                exact HOx.out.rebase HSk.out
              · rw [if_neg e]
                exact ownL_exc (HOk2.out j (by omega)) HEx.out (by omega)
          case measure => simp [intOf]; omega
    · obtain rfl : a = n := by omega
      go_wp2
      go_returns
      exact ⟨G, V, rfl, by have := HSG.out; have := Hz1.out; omega, HGr.out, HOwn.out, (HMB.out _ HBr.out).2⟩
end Go.Proofs.Ytclhamemlpbpiaa
