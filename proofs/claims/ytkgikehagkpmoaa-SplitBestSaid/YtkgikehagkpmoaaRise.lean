import Derived.Test.YtkgikehagkpmoaaRiseM
import Derived.Test.YtkgikehagkpmoaaDivs
import Derived.Deep.RegionHeld3
namespace Go.Proofs.Ytkgikehagkpmoaa
open Go.RowKit

theorem Ints.first {w : World} {b o n p : Nat} {f : Nat → Int} (h : Ints w (some ⟨b, o, none⟩) n f) (hp : p ≤ n) : Ints w (some ⟨b, o, none⟩) p f := fun hn => ⟨b, o, rfl, fun k hk => h.cell (by omega)⟩
theorem Ints.rest {w : World} {b o n p : Nat} {f : Nat → Int} (h : Ints w (some ⟨b, o, none⟩) n f) (hp : p ≤ n) : Ints w (some ⟨b, o + p, none⟩) (n - p) (fun j => f (p + j)) := fun hn => ⟨b, o + p, rfl, fun k hk => by rw [Nat.add_assoc]; exact h.cell (by omega)⟩
theorem take_lst {l : List Int} {g : Nat → Int} {k p : Nat} (hl : l.length = k) (hg : ∀ j, l.getD j 0 = g j) (hp : p ≤ k) : lst p g = l.take p ∧ lst (k - p) (fun j => g (p + j)) = l.drop p := by
  constructor
  · apply List.ext_getElem?
    intro j
    rcases Nat.lt_or_ge j p with h | h
    · rw [lst_get _ _ _ h, List.getElem?_take_of_lt h, ← hg, List.getD_eq_getElem?_getD, List.getElem?_eq_getElem (by omega), Option.getD_some]
    · rw [List.getElem?_eq_none (by rw [lst_len]; exact h), List.getElem?_eq_none (by simp; omega)]
  · apply List.ext_getElem?
    intro j
    rcases Nat.lt_or_ge j (k - p) with h | h
    · rw [lst_get _ _ _ h, List.getElem?_drop, ← hg, List.getD_eq_getElem?_getD, List.getElem?_eq_getElem (by omega), Option.getD_some]
    · rw [List.getElem?_eq_none (by rw [lst_len]; exact h), List.getElem?_eq_none (by simp; omega)]

theorem row1 {w : World} {b : Nat} (h : w.heap.size = b) (x : Int) : RowI (w.alloc (.cells #[.int .i64 x] 3)) b 1 (fun _ => x) := by
  subst h
  exact World.rowIs_alloc w #[.int .i64 x] 3 _ (fun i hi => by
    have : i = 0 := by simp at hi; omega
    subst this
    rfl)
theorem OwnL.shape {w : World} {base : Nat} {v : Value} {xs : List Int} (h : OwnL w base v xs) : ∃ A N c, v = .slice A N c := by
  obtain ⟨A, c, e, -⟩ := h.form
  exact ⟨A, _, c, e⟩
theorem nil_in (w : World) (base B : Nat) (hb : base ≤ B) (hh : w.heap[B]? = some (.cells #[] 3 (0, 0))) : OwnL w base (.slice (some ⟨B, 0, none⟩) 0 0) [] :=
  ⟨rfl, .inr ⟨B, 0, _, rfl, hb, hh, Nat.le_refl _, by unfold maxLen; omega, rfl, rfl⟩⟩

set_option maxRecDepth 1000000 in
/-- append(v, xs...) of integers: what it leaves. -/
theorem run_append_ints (w : World) (T : TypeId) (base : Nat) (v : Value) (xs : List Int) (hown : OwnL w base v xs) (A : Option Addr) (m c : Nat) (f : Nat → Int) (hI : Ints w A m f) (hsz : xs.length + m ≤ 100000) (hbase : base ≤ w.heap.size) :
    ∃ v' w', (Builtin.append_ #[23, 23] T #[v, .slice A m c]).run Try.prog w = .ok v' w' ∧ OwnL w' base v' (xs ++ lst m f) ∧ w.grownBy w' v.ownBlock := by
  obtain ⟨i0, hi, hz0, hz1, hz2⟩ := info_parts infoInt
  rcases A with _ | ad
  · obtain rfl := hI.none_
    exact ⟨v, w, run_append_of_nil (P := Try.prog) w base 23 T 3 i0 1 Try.underlying23 hi v xs.length (xs.map (Value.int .i64)) hown c, by simpa [lst] using hown, World.grownBy.refl w _⟩
  · have hnews : ∀ j u, ((lst m f).map (Value.int .i64))[j]? = some u → w.cell? (ad.add j) = some u := by
      intro j u hu
      have hj : 0 < m := by
        have := (List.getElem?_eq_some_iff.1 hu).1
        simp [lst] at this
        omega
      obtain ⟨b, o, e, _⟩ := hI.at hj
      injection e with e
      subst e
      exact cells_of_ints hI j u hu
    obtain ⟨v', w', hrun, h1, h2, -, -⟩ := run_append_own_at (P := Try.prog) w base 23 T 3 i0 (.int .i64 0) 1 8 Try.underlying23 hi hz0 hz1 hz2 rfl (by decide) v xs.length (xs.map (Value.int .i64)) hown ad m c ((lst m f).map (Value.int .i64)) (by simp [lst_len]) hnews (one_of_ints _) (by unfold maxLen; omega) (by omega) hbase
    refine ⟨v', w', hrun, ?_, h2⟩
    unfold OwnL
    simpa [lst_len] using h1
/-- .. as one step of a region that draws its order. -/
theorem step_append_ints {w : World} {ops : Array Oper} {o : Oper} {a : Act} {K : Act → World → Prop} {Q : Exit → Act → World → Prop} {E : Prop} (hgd : o.guard = none) (s x : Operand)
    (ho : o.op = .call { callee := .builtin .append, args := #[s, x], argTypes := #[23, 23] })
    (base : Nat) (v : Value) (xs : List Int) (hs : a.eval s = v) (hown : OwnL w base v xs)
    (A : Option Addr) (m c : Nat) (f : Nat → Int) (hx : a.eval x = .slice A m c) (hI : Ints w A m f)
    (hsz : xs.length + m ≤ 100000) (hbase : base ≤ w.heap.size)
    (h : ∀ v' w', OwnL w' base v' (xs ++ lst m f) → Below base w w' → (∀ g n F, RowI w g n F → v.ownBlock ≠ some g → RowI w' g n F) → K (a.put o.dst v') w') :
    if Region.wanted o (yielded ops a.tmps) = true then Oper.wp Try.prog o a w K Q else E := by
  have hw : Region.wanted o (yielded ops a.tmps) = true := by simp [Region.wanted, hgd]
  rw [if_pos hw]
  obtain ⟨v', w', hrun, h1, h2⟩ := run_append_ints w o.type base v xs hown A m c f hI hsz hbase
  unfold Oper.wp execOp
  simp only [ho, resolve, invoke, builtin, Sem.run_bind, Sem.run_pure, Result.andThen_ok, List.map_toArray, List.map_cons, List.map_nil, hs, hx, hrun]
  refine h v' w' h1 ((Below.refl _ _).grown h2 hbase (fun k hk => (World.ownsRow.lt hown k hk).1)) (fun g n F hr hne => World.rowIs.of_block hr (h2.block g hr.lt (fun e => hne e.symm)))

set_option maxHeartbeats 1000000 in
set_option maxRecDepth 1000000 in
theorem rising_any (A : Option Addr) (n c : Nat) (f : Nat → Int) (w : World) (h : Ints w A n f) (hn : n ≤ 4) :
    Calls Try.prog 56 #[.slice A n c] w fun e w' => ∃ x, e = .returned x ∧ OwnL w' w.heap.size x (lst n (scoreL n f)) ∧ Below w.heap.size w w' := by
  have H := Lib.hid h
  clear h
  go_enter Try.func56, Try.ntmps56
  go_wp2_with fail
  go_loopw [3, 9] (fun s x wr => ∃ (k : Nat) (l : List Int), k ≤ n ∧ x = .int .i64 k ∧ OwnL wr w.heap.size s l ∧ Ris l ∧ l.Perm (lst k f) ∧ Below w.heap.size w wr) (fun _ x _ => n - (intOf x).toNat)
  case atStart => exact ⟨0, [], Nat.zero_le _, rfl, OwnL.nil_ _ _, List.Pairwise.nil, by rw [lst_zero], Below.refl _ _⟩
  case round =>
    obtain ⟨k, l, hk, rfl, hown, hris, hperm, hbel⟩ := hrel
    by_cases hlt : k < n
    · obtain ⟨bb, oo, rfl, hc⟩ := (H.out.keep hbel).at hlt
      have hlen : l.length = k := by rw [hperm.length_eq, lst_len]
      obtain ⟨As, cs, rfl, hnil, hIs, hblk, hcs⟩ := hown.form
      rw [hlen] at hnil hIs hcs ⊢
      obtain ⟨g, hg⟩ : ∃ g : Nat → Int, g = fun j => l.getD j 0 := ⟨_, rfl⟩
      rw [← hg] at hIs
      have HG : Hid (∀ j, l.getD j 0 = g j) := Lib.hid (fun j => by rw [hg])
      have HOwn := Lib.hid hown
      have HRis := Lib.hid hris
      have HPerm := Lib.hid hperm
      have HBel := Lib.hid hbel
      have HIs := Lib.hid hIs
      have HLen := Lib.hid hlen
      have hsz := hbel.size
      have hA : (As = none ∧ k = 0 ∧ cs = 0) ∨ ∃ b0, As = some ⟨b0, 0, none⟩ ∧ b0 < wr.heap.size ∧ w.heap.size ≤ b0 := by
        rcases hown.2 with ⟨e1, e2⟩ | ⟨g0, cap, cur, e1, e2, e3, -⟩
        · injection e1 with e1 e2 e3
          exact .inl ⟨e1, by omega, e3⟩
        · injection e1 with e1 _ _
          have := (World.ownsRow.lt hown g0 (by rw [e1]; rfl)).2
          exact .inr ⟨g0, e1, this, e2⟩
      have HA := Lib.hid hA
      clear hown hris hperm hbel hIs hnil hblk hlen hg hA
      go_wp2_with fail
      go_loop [6] (fun a => ∃ p : Nat, p ≤ k ∧ a = .int .i64 p ∧ ∀ j, j < p → g j ≤ f k) (fun a => k - (intOf a).toNat)
      case atStart => exact ⟨0, Nat.zero_le _, rfl, fun j hj => absurd hj (by omega)⟩
      case round =>
        obtain ⟨p, hp, rfl, hle⟩ := hrel
        have HLe := Lib.hid hle
        clear hle
        by_cases hgo : p < k ∧ g p ≤ f k
        · obtain ⟨hpk, e⟩ := hgo
          rcases HA.out with ⟨-, e0, -⟩ | ⟨b0, rfl, hb0, hb1⟩
          · omega
          have hcp := HIs.out.cell hpk
          rw [Nat.zero_add] at hcp
          go_wp2
          go_round
          case rel => exact ⟨p + 1, by omega, by go_num, fun j hj => (by
            rcases Nat.lt_or_ge j p with h | h
            · exact HLe.out j h
            · obtain rfl : j = p := (by omega)
              exact e)⟩
          case measure => simp [intOf]; omega
        · have HGt : Hid (p < k → f k < g p) := Lib.hid (fun h => by omega)
          have HNew : Hid (∀ l', l' = l.take p ++ f k :: l.drop p → Ris l' ∧ l'.Perm (lst (k + 1) f)) := Lib.hid (fun l' e => by
            rw [e]
            exact ⟨ris_ins HRis.out (fun j hj => by rw [HG.out]; exact HLe.out j hj) (by have := HLen.out; omega) (fun h => by rw [HG.out]; exact HGt.out (by have := HLen.out; omega)), perm_ins p HPerm.out⟩)
          by_cases hpk : p < k
          · have hgp := HGt.out hpk
            clear hgo
            rcases HA.out with ⟨-, e0, -⟩ | ⟨b0, rfl, hb0, hb1⟩
            · omega
            have hcp := HIs.out.cell hpk
            rw [Nat.zero_add] at hcp
            go_wp2_with fail
            have HFi := Lib.hid (HIs.out.first hp)
            have hre := HIs.out.rest hp
            rw [Nat.zero_add] at hre
            have HRe := Lib.hid hre
            clear hre
            have HTL := Lib.hid (take_lst HLen.out HG.out hp)
            have Ha := Lib.hid ((Below.refl wr.heap.size wr).alloc (Nat.le_refl _) (.cells #[] 3))
            have Hb := Lib.hid (((Below.refl wr.heap.size wr).alloc (Nat.le_refl _) (.cells #[] 3)).alloc (by simp) (.cells #[.int .i64 (f k)] 3))
            have Hc := Lib.hid (((Below.refl wr.heap.size wr).alloc (Nat.le_refl _) (.cells #[.int .i64 (f k)] 3)).alloc (by simp) (.cells #[] 3))
            have h27a : OwnL (wr.alloc (.cells #[] 3)) wr.heap.size (.slice (some ⟨wr.heap.size, 0, none⟩) 0 0) [] := nil_in _ _ _ (Nat.le_refl _) (heap_alloc_new wr _)
            have H27a := Lib.hid h27a
            have H27b : Hid (OwnL ((wr.alloc (.cells #[] 3)).alloc (.cells #[.int .i64 (f k)] 3)) wr.heap.size (.slice (some ⟨wr.heap.size, 0, none⟩) 0 0) []) := Lib.hid (World.ownsRow.alloc h27a _)
            have H27c : Hid (OwnL ((wr.alloc (.cells #[.int .i64 (f k)] 3)).alloc (.cells #[] 3)) wr.heap.size (.slice (some ⟨wr.heap.size + 1, 0, none⟩) 0 0) []) := Lib.hid (nil_in _ _ _ (by omega) (by
              have := heap_alloc_new (wr.alloc (.cells #[.int .i64 (f k)] 3)) (.cells #[] 3)
              rw [World.size_alloc] at this
              exact this))
            have H33b : Hid (RowI ((wr.alloc (.cells #[] 3)).alloc (.cells #[.int .i64 (f k)] 3)) (wr.heap.size + 1) 1 (fun _ => f k)) := Lib.hid (row1 (by simp) _)
            have H33c : Hid (RowI ((wr.alloc (.cells #[.int .i64 (f k)] 3)).alloc (.cells #[] 3)) wr.heap.size 1 (fun _ => f k)) := Lib.hid ((row1 rfl _).alloc _)
            clear h27a
            have hcs0 : ¬ cs = 0 := by omega
            have hcsp : ¬ cs = p := by omega
            have hpcs : (p : Int) ≤ (cs : Int) := by omega
            have hp0 : (0 : Int) ≤ (p : Int) := by omega
            have hpk' : (p : Int) ≤ (k : Int) := by omega
            go_region_held3 (fun _ => True) (trivial)
              (first
                | ((refine step_append_ints (by rfl) (.tmp 27) (.tmp 30) (by rfl) wr.heap.size _ [] (by rfl) (by first | exact H27a.out | exact H27b.out | exact H27c.out) (some ⟨b0, 0, none⟩) p cs g (by rfl) (by first | exact HFi.out.keep Ha.out.drew | exact HFi.out.keep Hb.out.drew | exact HFi.out.keep Hc.out.drew) (by first | (simp; done) | (simp; omega)) (by first | exact Ha.out.drew.size | exact Hb.out.drew.size | exact Hc.out.drew.size) ?_; intro v2 w2 hv2 hb2 hr2; have hB2 : Below wr.heap.size wr w2 := (by first | exact Ha.out.drew.trans hb2 | exact Hb.out.drew.trans hb2 | exact Hc.out.drew.trans hb2)))
                | ((refine step_append_ints (by rfl) (.tmp 31) (.tmp 33) (by rfl) wr.heap.size _ ([] ++ lst p g) (by rfl) (by first | exact hv2 | exact World.ownsRow.alloc hv2 _) _ 1 _ (fun _ => f k) (by rfl) (by first | exact (row1 rfl (f k)).ints | exact (hr2 _ _ _ H33b.out (show (some wr.heap.size : Option Nat) ≠ some (wr.heap.size + 1) from by simp)).ints | exact (hr2 _ _ _ H33c.out (show (some (wr.heap.size + 1) : Option Nat) ≠ some wr.heap.size from by simp)).ints) (by first | (simp [lst_len]; done) | (simp [lst_len]; omega)) (by first | exact hB2.size | exact (hB2.alloc hB2.size _).size) ?_; intro v3 w3 hv3 hb3 hr3; have hB3 : Below wr.heap.size wr w3 := (by first | exact hB2.trans hb3 | exact (hB2.alloc hB2.size _).trans hb3)))
                | ((refine step_append_ints (by rfl) (.tmp 34) (.tmp 37) (by rfl) wr.heap.size _ ([] ++ lst p g ++ lst 1 (fun _ => f k)) (by rfl) hv3 (some ⟨b0, p, none⟩) (k - p) (cs - p) (fun j => g (p + j)) (by rfl) (HRe.out.keep hB3) (by first | (simp [lst_len]; done) | (simp [lst_len]; omega)) hB3.size ?_; intro v4 w4 hv4 hb4 hr4; have hB4 : Below wr.heap.size wr w4 := hB3.trans hb4; obtain ⟨A4, N4, c4, rfl⟩ := hv4.shape))
                | fail)
            all_goals
              have hl4 : ∀ vv, OwnL w4 w.heap.size vv ([] ++ lst p g ++ lst 1 (fun _ => f k) ++ lst (k - p) (fun j => g (p + j))) → OwnL w4 w.heap.size vv (l.take p ++ f k :: l.drop p) := fun vv h => by
                obtain ⟨t1, t2⟩ := HTL.out
                rw [← t1, ← t2]
                simpa [lst_succ, lst_zero] using h
              have Hl4 := Lib.hid (hl4 _ (hv4.rebase hsz))
              have HB4 := Lib.hid (HBel.out.trans (hB4.mono hsz))
              clear hl4 hv2 hb2 hr2 hB2 hv3 hb3 hr3 hB3 hv4 hb4 hr4 hB4
              go_wp2
              go_roundw
              case rel => exact ⟨k + 1, _, by omega, by go_num, Hl4.out, (HNew.out _ rfl).1, (HNew.out _ rfl).2, HB4.out⟩
              case measure => simp [intOf]; omega
          · obtain rfl : p = k := by omega
            clear hgo
            have HTL : Hid (lst p g = l.take p ∧ lst 0 (fun j => g (p + j)) = l.drop p) := Lib.hid (by
              have h := take_lst HLen.out HG.out (Nat.le_refl p)
              rw [Nat.sub_self] at h
              exact h)
            have Ha := Lib.hid ((Below.refl wr.heap.size wr).alloc (Nat.le_refl _) (.cells #[] 3))
            have Hb := Lib.hid (((Below.refl wr.heap.size wr).alloc (Nat.le_refl _) (.cells #[] 3)).alloc (by simp) (.cells #[.int .i64 (f p)] 3))
            have Hc := Lib.hid (((Below.refl wr.heap.size wr).alloc (Nat.le_refl _) (.cells #[.int .i64 (f p)] 3)).alloc (by simp) (.cells #[] 3))
            have h27a : OwnL (wr.alloc (.cells #[] 3)) wr.heap.size (.slice (some ⟨wr.heap.size, 0, none⟩) 0 0) [] := nil_in _ _ _ (Nat.le_refl _) (heap_alloc_new wr _)
            have H27a := Lib.hid h27a
            have H27b : Hid (OwnL ((wr.alloc (.cells #[] 3)).alloc (.cells #[.int .i64 (f p)] 3)) wr.heap.size (.slice (some ⟨wr.heap.size, 0, none⟩) 0 0) []) := Lib.hid (World.ownsRow.alloc h27a _)
            have H27c : Hid (OwnL ((wr.alloc (.cells #[.int .i64 (f p)] 3)).alloc (.cells #[] 3)) wr.heap.size (.slice (some ⟨wr.heap.size + 1, 0, none⟩) 0 0) []) := Lib.hid (nil_in _ _ _ (by omega) (by
              have := heap_alloc_new (wr.alloc (.cells #[.int .i64 (f p)] 3)) (.cells #[] 3)
              rw [World.size_alloc] at this
              exact this))
            have H33b : Hid (RowI ((wr.alloc (.cells #[] 3)).alloc (.cells #[.int .i64 (f p)] 3)) (wr.heap.size + 1) 1 (fun _ => f p)) := Lib.hid (row1 (by simp) _)
            have H33c : Hid (RowI ((wr.alloc (.cells #[.int .i64 (f p)] 3)).alloc (.cells #[] 3)) wr.heap.size 1 (fun _ => f p)) := Lib.hid ((row1 rfl _).alloc _)
            clear h27a
            rcases HA.out with ⟨rfl, rfl, rfl⟩ | ⟨b0, rfl, hb0, hb1⟩
            · have HFi : Hid (Ints wr none 0 g) := Lib.hid Ints.zero
              go_wp2_with fail
              go_region_held3 (fun _ => True) (trivial)
                (first
                  | ((refine step_append_ints (by rfl) (.tmp 27) (.tmp 30) (by rfl) wr.heap.size _ [] (by rfl) (by first | exact H27a.out | exact H27b.out | exact H27c.out) none 0 0 g (by rfl) (by first | exact HFi.out.keep Ha.out.drew | exact HFi.out.keep Hb.out.drew | exact HFi.out.keep Hc.out.drew) (by first | (simp; done) | (simp; omega)) (by first | exact Ha.out.drew.size | exact Hb.out.drew.size | exact Hc.out.drew.size) ?_; intro v2 w2 hv2 hb2 hr2; have hB2 : Below wr.heap.size wr w2 := (by first | exact Ha.out.drew.trans hb2 | exact Hb.out.drew.trans hb2 | exact Hc.out.drew.trans hb2)))
                  | ((refine step_append_ints (by rfl) (.tmp 31) (.tmp 33) (by rfl) wr.heap.size _ ([] ++ lst 0 g) (by rfl) (by first | exact hv2 | exact World.ownsRow.alloc hv2 _) _ 1 _ (fun _ => f 0) (by rfl) (by first | exact (row1 rfl (f 0)).ints | exact (hr2 _ _ _ H33b.out (show (some wr.heap.size : Option Nat) ≠ some (wr.heap.size + 1) from by simp)).ints | exact (hr2 _ _ _ H33c.out (show (some (wr.heap.size + 1) : Option Nat) ≠ some wr.heap.size from by simp)).ints) (by first | (simp [lst_len]; done) | (simp [lst_len]; omega)) (by first | exact hB2.size | exact (hB2.alloc hB2.size _).size) ?_; intro v3 w3 hv3 hb3 hr3; have hB3 : Below wr.heap.size wr w3 := (by first | exact hB2.trans hb3 | exact (hB2.alloc hB2.size _).trans hb3)))
                  | ((refine step_append_ints (by rfl) (.tmp 34) (.tmp 37) (by rfl) wr.heap.size _ ([] ++ lst 0 g ++ lst 1 (fun _ => f 0)) (by rfl) hv3 none 0 0 (fun j => g (0 + j)) (by rfl) Ints.zero (by first | (simp [lst_len]; done) | (simp [lst_len]; omega)) hB3.size ?_; intro v4 w4 hv4 hb4 hr4; have hB4 : Below wr.heap.size wr w4 := hB3.trans hb4; obtain ⟨A4, N4, c4, rfl⟩ := hv4.shape))
                  | fail)
              all_goals
                have hl4 : ∀ vv, OwnL w4 w.heap.size vv ([] ++ lst 0 g ++ lst 1 (fun _ => f 0) ++ lst 0 (fun j => g (0 + j))) → OwnL w4 w.heap.size vv (l.take 0 ++ f 0 :: l.drop 0) := fun vv h => by
                  obtain ⟨t1, t2⟩ := HTL.out
                  rw [← t1, ← t2]
                  simpa [lst_succ, lst_zero] using h
                have Hl4 := Lib.hid (hl4 _ (hv4.rebase hsz))
                have HB4 := Lib.hid (HBel.out.trans (hB4.mono hsz))
                clear hl4 hv2 hb2 hr2 hB2 hv3 hb3 hr3 hB3 hv4 hb4 hr4 hB4
                go_wp2
                go_roundw
                case rel => exact ⟨0 + 1, _, by omega, by go_num, Hl4.out, (HNew.out _ rfl).1, (HNew.out _ rfl).2, HB4.out⟩
                case measure => simp [intOf]; omega
            · have HFi := Lib.hid (HIs.out.first (Nat.le_refl p))
              have hcsp := HIs.out
              clear hcsp
              by_cases hc0 : cs = 0
              · obtain rfl : p = 0 := by omega
                subst hc0
                go_wp2_with fail
                go_region_held3 (fun _ => True) (trivial)
                  (first
                    | ((refine step_append_ints (by rfl) (.tmp 27) (.tmp 30) (by rfl) wr.heap.size _ [] (by rfl) (by first | exact H27a.out | exact H27b.out | exact H27c.out) (some ⟨b0, 0, none⟩) 0 0 g (by rfl) (by first | exact HFi.out.keep Ha.out.drew | exact HFi.out.keep Hb.out.drew | exact HFi.out.keep Hc.out.drew) (by first | (simp; done) | (simp; omega)) (by first | exact Ha.out.drew.size | exact Hb.out.drew.size | exact Hc.out.drew.size) ?_; intro v2 w2 hv2 hb2 hr2; have hB2 : Below wr.heap.size wr w2 := (by first | exact Ha.out.drew.trans hb2 | exact Hb.out.drew.trans hb2 | exact Hc.out.drew.trans hb2)))
                    | ((refine step_append_ints (by rfl) (.tmp 31) (.tmp 33) (by rfl) wr.heap.size _ ([] ++ lst 0 g) (by rfl) (by first | exact hv2 | exact World.ownsRow.alloc hv2 _) _ 1 _ (fun _ => f 0) (by rfl) (by first | exact (row1 rfl (f 0)).ints | exact (hr2 _ _ _ H33b.out (show (some wr.heap.size : Option Nat) ≠ some (wr.heap.size + 1) from by simp)).ints | exact (hr2 _ _ _ H33c.out (show (some (wr.heap.size + 1) : Option Nat) ≠ some wr.heap.size from by simp)).ints) (by first | (simp [lst_len]; done) | (simp [lst_len]; omega)) (by first | exact hB2.size | exact (hB2.alloc hB2.size _).size) ?_; intro v3 w3 hv3 hb3 hr3; have hB3 : Below wr.heap.size wr w3 := (by first | exact hB2.trans hb3 | exact (hB2.alloc hB2.size _).trans hb3)))
                    | ((refine step_append_ints (by rfl) (.tmp 34) (.tmp 37) (by rfl) wr.heap.size _ ([] ++ lst 0 g ++ lst 1 (fun _ => f 0)) (by rfl) hv3 (some ⟨b0, 0, none⟩) 0 0 (fun j => g (0 + j)) (by rfl) Ints.zero (by first | (simp [lst_len]; done) | (simp [lst_len]; omega)) hB3.size ?_; intro v4 w4 hv4 hb4 hr4; have hB4 : Below wr.heap.size wr w4 := hB3.trans hb4; obtain ⟨A4, N4, c4, rfl⟩ := hv4.shape))
                    | fail)
                all_goals
                  have hl4 : ∀ vv, OwnL w4 w.heap.size vv ([] ++ lst 0 g ++ lst 1 (fun _ => f 0) ++ lst 0 (fun j => g (0 + j))) → OwnL w4 w.heap.size vv (l.take 0 ++ f 0 :: l.drop 0) := fun vv h => by
                    obtain ⟨t1, t2⟩ := HTL.out
                    rw [← t1, ← t2]
                    simpa [lst_succ, lst_zero] using h
                  have Hl4 := Lib.hid (hl4 _ (hv4.rebase hsz))
                  have HB4 := Lib.hid (HBel.out.trans (hB4.mono hsz))
                  clear hl4 hv2 hb2 hr2 hB2 hv3 hb3 hr3 hB3 hv4 hb4 hr4 hB4
                  go_wp2
                  go_roundw
                  case rel => exact ⟨0 + 1, _, by omega, by go_num, Hl4.out, (HNew.out _ rfl).1, (HNew.out _ rfl).2, HB4.out⟩
                  case measure => simp [intOf]; omega
              · by_cases hcp : cs = p
                · subst hcp
                  go_wp2_with fail
                  go_region_held3 (fun _ => True) (trivial)
                    (first
                      | ((refine step_append_ints (by rfl) (.tmp 27) (.tmp 30) (by rfl) wr.heap.size _ [] (by rfl) (by first | exact H27a.out | exact H27b.out | exact H27c.out) (some ⟨b0, 0, none⟩) cs cs g (by rfl) (by first | exact HFi.out.keep Ha.out.drew | exact HFi.out.keep Hb.out.drew | exact HFi.out.keep Hc.out.drew) (by first | (simp; done) | (simp; omega)) (by first | exact Ha.out.drew.size | exact Hb.out.drew.size | exact Hc.out.drew.size) ?_; intro v2 w2 hv2 hb2 hr2; have hB2 : Below wr.heap.size wr w2 := (by first | exact Ha.out.drew.trans hb2 | exact Hb.out.drew.trans hb2 | exact Hc.out.drew.trans hb2)))
                      | ((refine step_append_ints (by rfl) (.tmp 31) (.tmp 33) (by rfl) wr.heap.size _ ([] ++ lst cs g) (by rfl) (by first | exact hv2 | exact World.ownsRow.alloc hv2 _) _ 1 _ (fun _ => f cs) (by rfl) (by first | exact (row1 rfl (f cs)).ints | exact (hr2 _ _ _ H33b.out (show (some wr.heap.size : Option Nat) ≠ some (wr.heap.size + 1) from by simp)).ints | exact (hr2 _ _ _ H33c.out (show (some (wr.heap.size + 1) : Option Nat) ≠ some wr.heap.size from by simp)).ints) (by first | (simp [lst_len]; done) | (simp [lst_len]; omega)) (by first | exact hB2.size | exact (hB2.alloc hB2.size _).size) ?_; intro v3 w3 hv3 hb3 hr3; have hB3 : Below wr.heap.size wr w3 := (by first | exact hB2.trans hb3 | exact (hB2.alloc hB2.size _).trans hb3)))
                      | ((refine step_append_ints (by rfl) (.tmp 34) (.tmp 37) (by rfl) wr.heap.size _ ([] ++ lst cs g ++ lst 1 (fun _ => f cs)) (by rfl) hv3 (some ⟨b0, 0, none⟩) 0 0 (fun j => g (cs + j)) (by rfl) Ints.zero (by first | (simp [lst_len]; done) | (simp [lst_len]; omega)) hB3.size ?_; intro v4 w4 hv4 hb4 hr4; have hB4 : Below wr.heap.size wr w4 := hB3.trans hb4; obtain ⟨A4, N4, c4, rfl⟩ := hv4.shape))
                      | fail)
                  all_goals
                    have hl4 : ∀ vv, OwnL w4 w.heap.size vv ([] ++ lst cs g ++ lst 1 (fun _ => f cs) ++ lst 0 (fun j => g (cs + j))) → OwnL w4 w.heap.size vv (l.take cs ++ f cs :: l.drop cs) := fun vv h => by
                      obtain ⟨t1, t2⟩ := HTL.out
                      rw [← t1, ← t2]
                      simpa [lst_succ, lst_zero] using h
                    have Hl4 := Lib.hid (hl4 _ (hv4.rebase hsz))
                    have HB4 := Lib.hid (HBel.out.trans (hB4.mono hsz))
                    clear hl4 hv2 hb2 hr2 hB2 hv3 hb3 hr3 hB3 hv4 hb4 hr4 hB4
                    go_wp2
                    go_roundw
                    case rel => exact ⟨cs + 1, _, by omega, by go_num, Hl4.out, (HNew.out _ rfl).1, (HNew.out _ rfl).2, HB4.out⟩
                    case measure => simp [intOf]; omega
                · go_wp2_with fail
                  go_region_held3 (fun _ => True) (trivial)
                    (first
                      | ((refine step_append_ints (by rfl) (.tmp 27) (.tmp 30) (by rfl) wr.heap.size _ [] (by rfl) (by first | exact H27a.out | exact H27b.out | exact H27c.out) (some ⟨b0, 0, none⟩) p cs g (by rfl) (by first | exact HFi.out.keep Ha.out.drew | exact HFi.out.keep Hb.out.drew | exact HFi.out.keep Hc.out.drew) (by first | (simp; done) | (simp; omega)) (by first | exact Ha.out.drew.size | exact Hb.out.drew.size | exact Hc.out.drew.size) ?_; intro v2 w2 hv2 hb2 hr2; have hB2 : Below wr.heap.size wr w2 := (by first | exact Ha.out.drew.trans hb2 | exact Hb.out.drew.trans hb2 | exact Hc.out.drew.trans hb2)))
                      | ((refine step_append_ints (by rfl) (.tmp 31) (.tmp 33) (by rfl) wr.heap.size _ ([] ++ lst p g) (by rfl) (by first | exact hv2 | exact World.ownsRow.alloc hv2 _) _ 1 _ (fun _ => f p) (by rfl) (by first | exact (row1 rfl (f p)).ints | exact (hr2 _ _ _ H33b.out (show (some wr.heap.size : Option Nat) ≠ some (wr.heap.size + 1) from by simp)).ints | exact (hr2 _ _ _ H33c.out (show (some (wr.heap.size + 1) : Option Nat) ≠ some wr.heap.size from by simp)).ints) (by first | (simp [lst_len]; done) | (simp [lst_len]; omega)) (by first | exact hB2.size | exact (hB2.alloc hB2.size _).size) ?_; intro v3 w3 hv3 hb3 hr3; have hB3 : Below wr.heap.size wr w3 := (by first | exact hB2.trans hb3 | exact (hB2.alloc hB2.size _).trans hb3)))
                      | ((refine step_append_ints (by rfl) (.tmp 34) (.tmp 37) (by rfl) wr.heap.size _ ([] ++ lst p g ++ lst 1 (fun _ => f p)) (by rfl) hv3 (some ⟨b0, p, none⟩) 0 (cs - p) (fun j => g (p + j)) (by rfl) Ints.zero (by first | (simp [lst_len]; done) | (simp [lst_len]; omega)) hB3.size ?_; intro v4 w4 hv4 hb4 hr4; have hB4 : Below wr.heap.size wr w4 := hB3.trans hb4; obtain ⟨A4, N4, c4, rfl⟩ := hv4.shape))
                      | fail)
                  all_goals
                    have hl4 : ∀ vv, OwnL w4 w.heap.size vv ([] ++ lst p g ++ lst 1 (fun _ => f p) ++ lst 0 (fun j => g (p + j))) → OwnL w4 w.heap.size vv (l.take p ++ f p :: l.drop p) := fun vv h => by
                      obtain ⟨t1, t2⟩ := HTL.out
                      rw [← t1, ← t2]
                      simpa [lst_succ, lst_zero] using h
                    have Hl4 := Lib.hid (hl4 _ (hv4.rebase hsz))
                    have HB4 := Lib.hid (HBel.out.trans (hB4.mono hsz))
                    clear hl4 hv2 hb2 hr2 hB2 hv3 hb3 hr3 hB3 hv4 hb4 hr4 hB4
                    go_wp2
                    go_roundw
                    case rel => exact ⟨p + 1, _, by omega, by go_num, Hl4.out, (HNew.out _ rfl).1, (HNew.out _ rfl).2, HB4.out⟩
                    case measure => simp [intOf]; omega
    · obtain rfl : k = n := by omega
      rw [ris_sort hris hperm] at hown
      go_wp2
      go_ret
      exact ⟨_, rfl, hown, hbel⟩
end Go.Proofs.Ytkgikehagkpmoaa
