/- A part of the proof: Twz. -/
import Derived.Test.YtiigcjcolpmafaaTvz
namespace Go.Proofs.Ytiigcjcolpmafaa
open Go.RowKit

theorem infoPair : (Try.prog.info? 43).map (fun i => (i.zero, i.size, i.bytes)) = some (some (.agg #[.int .i64 0, .int .i64 0]), 2, 16) := by kernel_rfl
/-- A slice of pairs of the call's own. -/
def cellsP (xs : List (Int × Int)) : List Value := xs.flatMap fun p => [.int .i64 p.1, .int .i64 p.2]
theorem cellsP_snoc (xs : List (Int × Int)) (a b : Int) : cellsP (xs ++ [(a, b)]) = cellsP xs ++ [.int .i64 a, .int .i64 b] := by simp [cellsP]
def OwnP (w : World) (base : Nat) (v : Value) (xs : List (Int × Int)) : Prop := w.ownsRow base 43 2 v xs.length (cellsP xs)
theorem OwnP.below {w w' : World} {base : Nat} {v : Value} {xs : List (Int × Int)} (h : OwnP w base v xs) (hb : Below w.heap.size w w') : OwnP w' base v xs := ownsRow_below h hb
theorem OwnP.base {w : World} {base base' : Nat} {v : Value} {xs : List (Int × Int)} (h : OwnP w base v xs) (hb : base' ≤ base) : OwnP w base' v xs := by
  refine ⟨h.1, ?_⟩
  rcases h.2 with hn | ⟨g, cap, cur, e, hg, r⟩
  · exact .inl hn
  · exact .inr ⟨g, cap, cur, e, by omega, r⟩
theorem OwnP.form {w : World} {base : Nat} {v : Value} {xs : List (Int × Int)} (h : OwnP w base v xs) : ∃ A c, v = .slice A xs.length c := by
  rcases h.2 with ⟨rfl, hn⟩ | ⟨g, cap, cur, rfl, _⟩
  · exact ⟨none, 0, by rw [hn]⟩
  · exact ⟨_, _, rfl⟩
/-- The pairs (i, j), j < k, of which B holds; and those of the first i rows. -/
def prRow (B : Nat → Nat → Bool) (i : Nat) : Nat → List (Int × Int)
  | 0 => []
  | k + 1 => if B i k then prRow B i k ++ [((i : Int), (k : Int))] else prRow B i k
def prAll (B : Nat → Nat → Bool) (n : Nat) : Nat → List (Int × Int)
  | 0 => []
  | i + 1 => prAll B n i ++ prRow B i n
theorem prRow_len (B : Nat → Nat → Bool) (i k : Nat) : (prRow B i k).length ≤ k := by
  induction k with
  | zero => simp [prRow]
  | succ k ih =>
    simp only [prRow]
    split
    · simp; omega
    · omega
theorem prAll_len (B : Nat → Nat → Bool) (n i : Nat) : (prAll B n i).length ≤ i * n := by
  induction i with
  | zero => simp [prAll]
  | succ i ih =>
    have := prRow_len B i n
    simp only [prAll, List.length_append, Nat.add_mul]
    omega
theorem newsP (w : World) (a b : Int) (T : TypeId) : ∀ j u, ([.int .i64 a, .int .i64 b] : List Value)[j]? = some u → (w.alloc (.cells #[.int .i64 a, .int .i64 b] T)).cell? ((⟨w.heap.size, 0, none⟩ : Addr).add j) = some u := by
  intro j u hu
  rcases j with _ | _ | j
  · simp at hu
    subst hu
    rw [Addr.add_lit]
    simp [World.cell?_alloc_at]
  · simp at hu
    subst hu
    rw [Addr.add_lit]
    simp [World.cell?_alloc_at]
  · simp at hu
theorem oneP2 (a b : Int) : ∀ u ∈ ([.int .i64 a, .int .i64 b] : List Value), u.oneCell' = true := by
  intro u hu
  simp at hu
  rcases hu with rfl | rfl <;> rfl
theorem prRow_nil {B : Nat → Nat → Bool} {i : Nat} : ∀ k, prRow B i k = [] ↔ ∀ j, j < k → B i j = false := by
  intro k
  induction k with
  | zero => simp [prRow]
  | succ k ih =>
    simp only [prRow]
    cases hb : B i k with
    | true =>
      simp only [if_true]
      constructor
      · intro h; simp at h
      · intro h; rw [h k (by omega)] at hb; cases hb
    | false =>
      rw [if_neg (by simp), ih]
      constructor
      · intro h j hj
        rcases Nat.lt_or_ge j k with hl | hl
        · exact h j hl
        · obtain rfl : j = k := by omega
          exact hb
      · exact fun h j hj => h j (by omega)
theorem prAll_nil {B : Nat → Nat → Bool} {n : Nat} : ∀ i, prAll B n i = [] ↔ ∀ h, h < i → ∀ j, j < n → B h j = false := by
  intro i
  induction i with
  | zero => simp [prAll]
  | succ i ih =>
    simp only [prAll, List.append_eq_nil_iff, ih, prRow_nil]
    constructor
    · rintro ⟨h1, h2⟩ h hh
      rcases Nat.lt_or_ge h i with hl | hl
      · exact h1 h hl
      · obtain rfl : h = i := by omega
        exact h2
    · exact fun h => ⟨fun x hx => h x (by omega), h i (by omega)⟩

set_option maxHeartbeats 2000000 in
set_option maxRecDepth 1000000 in
theorem rBlocks_any (AH AS AP D : Option Addr) (cH cS cP n c : Nat) (p : PlanD) (m : Nat → Int) (w : World) (hp : PlanArg w AH AS AP cH cS cP p) (hd : Ints w D n m) (hn : n = p.nH) (hok : okPlan p = true) (hl : Lstd p m) (hhas : Has p m) :
    Calls Try.prog 51 #[.agg #[.slice AH p.nH cH, .slice AS p.nS cS, .slice AP p.nP cP], .slice D n c] w fun e w' => ∃ x, e = .returned x ∧ OwnP w' w.heap.size x (prAll (blkB p m) p.nS p.nH) ∧ Below w.heap.size w w' := by
  obtain ⟨i0, hi, hz0, hz1, hz2⟩ := info_parts infoPair
  have Hb0 := Lib.hid (below_box w (.cells #[.slice AH p.nH cH, .slice AS p.nS cS, .slice AP p.nP cP] 25))
  have HB0 := Lib.hid (BoxP.newR w AH AS AP p.nH p.nS p.nP cH cS cP)
  have HBl : Hid (∀ (w' : World) (h s : Nat), Below w.heap.size w w' → h < p.nH → s < p.nS → Lr 81 #[.agg #[.slice AH p.nH cH, .slice AS p.nS cS, .slice AP p.nP cP], .slice D n c, .int .i64 h, .int .i64 s] w' (.bool (blkB p m h s))) := Lib.hid (fun w' h s hb hh hs =>
    rblocks_any AH AS AP D cH cS cP n c p m h s w' (hp.keep hb) (hd.keep hb) hn hok hl hhas hh hs)
  obtain ⟨⟨a1, a2, a3, a4, -⟩, -, -, -⟩ := okPlan_of hok
  clear hp hd hn hok hl hhas
  go_enter Try.func51, Try.ntmps51
  go_wp2
  go_loopw [5, 11] (fun s x wr => ∃ k : Nat, k ≤ p.nH ∧ x = .int .i64 k ∧ OwnP wr (w.heap.size + 1) s (prAll (blkB p m) p.nS k) ∧ Below w.heap.size w wr ∧ BoxP wr w.heap.size AH AS AP p.nH p.nS p.nP cH cS cP) (fun _ x _ => p.nH - (intOf x).toNat)
  case atStart => exact ⟨0, Nat.zero_le _, rfl, World.ownsRow_nil _ _ _ _, Hb0.out, HB0.out⟩
  case round =>
    obtain ⟨i, hk, rfl, hown, hbel, hbox⟩ := hrel
    have HOwn := Lib.hid hown
    have Hbel := Lib.hid hbel
    have HBox := Lib.hid hbox
    obtain ⟨q0, q1, q2⟩ := hbox
    clear hown hbel
    by_cases hlt : i < p.nH
    · go_wp2
      obtain ⟨wo, hwo⟩ : ∃ wo : World, wo = wr := ⟨_, rfl⟩
      have HWo := Lib.hid hwo
      clear hwo q0 q1 q2
      go_loopw [5, 17] (fun s x wi => ∃ k : Nat, k ≤ p.nS ∧ x = .int .i64 k ∧ OwnP wi (w.heap.size + 1) s (prAll (blkB p m) p.nS i ++ prRow (blkB p m) i k) ∧ Below w.heap.size w wi ∧ BoxP wi w.heap.size AH AS AP p.nH p.nS p.nP cH cS cP) (fun _ x _ => p.nS - (intOf x).toNat)
      case atStart => exact ⟨0, Nat.zero_le _, rfl, by simpa [prRow] using HOwn.out, Hbel.out, HBox.out⟩
      case round =>
        obtain ⟨k, hk2, rfl, hown2, hbel2, hbox2⟩ := hrel
        have HOwn2 := Lib.hid hown2
        have Hbel2 := Lib.hid hbel2
        have HBox2 := Lib.hid hbox2
        obtain ⟨q0, q1, q2⟩ := hbox2
        clear hown2 hbel2
        by_cases hlt2 : k < p.nS
        · have HC := Lib.hid (HBl.out wr i k Hbel2.out hlt hlt2)
          go_wp2_with fail
          refine Lr.use HC.out ?_
          intro w2 hb2
          have HOwn3 := Lib.hid (HOwn2.out.below hb2)
          have Hb2 := Lib.hid (Hbel2.out.trans (hb2.mono Hbel2.out.size))
          have HBx2 := Lib.hid (HBox2.out.keep hb2)
          have hsz : w.heap.size + 1 ≤ w2.heap.size := World.block_lt_of_cell? _ _ HBx2.out.1
          clear hb2 q0 q1 q2 HC
          cases he : blkB p m i k with
          | false =>
            have HE := Lib.hid he
            clear he
            go_wp2
            go_roundw
            case rel => exact ⟨k + 1, by omega, by go_num, by simpa [prRow, HE.out] using HOwn3.out, Hb2.out, HBx2.out⟩
            case measure => simp [intOf]; omega
          | true =>
            have HE := Lib.hid he
            clear he
            have hlen : (prAll (blkB p m) p.nS i ++ prRow (blkB p m) i k).length + 1 ≤ 1000 := by
              have e1 := prAll_len (blkB p m) p.nS i
              have e2 := prRow_len (blkB p m) i k
              have e3 : i * p.nS ≤ 6 * 4 := Nat.mul_le_mul (by omega) (by omega)
              simp only [List.length_append]
              omega
            have HLen := Lib.hid hlen
            clear hlen
            go_wp2_with (at_builtin; go_loud (refine wpList_append_own _ rfl _ _ 38 rfl (w.heap.size + 1) 43 i0 (.agg #[.int .i64 0, .int .i64 0]) 2 16 Try.underlying38 hi hz0 hz1 hz2 rfl (by decide) _ _ _ rfl (World.ownsRow.alloc HOwn3.out _) ⟨w2.heap.size, 0, none⟩ 1 1 [.int .i64 i, .int .i64 k] rfl rfl (newsP _ _ _ _) (oneP2 _ _) (by have := HLen.out; unfold maxLen; omega) (by have := HLen.out; omega) (by simp; omega) ?_))
            intro v' w3 hown3 hgrow3 _
            have HO3 := Lib.hid hown3
            have HG3 := Lib.hid hgrow3
            have Hb3 : Hid (Below w.heap.size w w3) := Lib.hid ((Hb2.out.alloc (by omega) _).grown HG3.out (by simp; omega) (fun g hg => by have := (World.ownsRow.lt HOwn3.out g hg).1; omega))
            have HBx3 : Hid (BoxP w3 w.heap.size AH AS AP p.nH p.nS p.nP cH cS cP) := Lib.hid (by
              obtain ⟨z0, z1, z2⟩ := HBx2.out
              have hk : ∀ {i : Nat} {v : Value}, w2.cell? ⟨w.heap.size, i, none⟩ = some v → w3.cell? ⟨w.heap.size, i, none⟩ = some v := fun {i v} hc => by
                refine World.grownBy.cell HG3.out (old_cell hc (below_box w2 _)) (fun e => ?_)
                have hlt3 := (World.ownsRow.lt HOwn3.out w.heap.size e.symm).1
                omega
              exact ⟨hk z0, hk z1, hk z2⟩)
            clear hown3 hgrow3
            go_wp2
            go_roundw
            case rel =>
              refine ⟨k + 1, by omega, by go_num, ?_, Hb3.out, HBx3.out⟩
              unfold OwnP
              simp only [prRow, HE.out, if_true]
              rw [← List.append_assoc, cellsP_snoc]
              simpa [Nat.add_assoc] using HO3.out
            case measure => simp [intOf]; omega
        · obtain rfl : k = p.nS := by omega
          go_wp2
          go_roundw
          case rel => exact ⟨i + 1, by omega, by go_num, by simpa [prAll] using HOwn2.out, Hbel2.out, HBox2.out⟩
          case measure => simp [intOf]; omega
    · obtain rfl : i = p.nH := by omega
      go_wp2
      go_ret
      exact ⟨_, rfl, HOwn.out.base (by omega), Hbel.out⟩

theorem stabB_nil {p : PlanD} {m : Nat → Int} : stabB p m = decide ((prAll (blkB p m) p.nS p.nH).length = 0) := by
  rw [Bool.eq_iff_iff, decide_eq_true_eq, List.length_eq_zero_iff, prAll_nil, stabB_def, allB_iff]
  constructor
  · intro h x hx j hj
    have := (allB_iff.1 (h x hx)) j hj
    simpa using this
  · intro h x hx
    refine allB_iff.2 (fun j hj => ?_)
    rw [h x hx j hj]
    rfl

set_option maxHeartbeats 2000000 in
set_option maxRecDepth 1000000 in
theorem rIsStable_any (AH AS AP D : Option Addr) (cH cS cP n c : Nat) (p : PlanD) (m : Nat → Int) (w : World) (h : PlanArg w AH AS AP cH cS cP p) (hd : ArgI w D n c m) (hok : okPlan p = true) :
    Lr 45 #[.agg #[.slice AH p.nH cH, .slice AS p.nS cS, .slice AP p.nP cP], .slice D n c] w (.bool (okMat p n m && stabB p m)) := by
  have Hb0 := Lib.hid (below_box w (.cells #[.slice AH p.nH cH, .slice AS p.nS cS, .slice AP p.nP cP] 25))
  have HB0 := Lib.hid (BoxP.newR w AH AS AP p.nH p.nS p.nP cH cS cP)
  have HM := Lib.hid (rMatching_any AH AS AP D cH cS cP n c p m _ (h.keep Hb0.out) (hd.below Hb0.out) hok)
  have HBk : Hid (okMat p n m = true → ∀ w' : World, Below w.heap.size w w' → Calls Try.prog 51 #[.agg #[.slice AH p.nH cH, .slice AS p.nS cS, .slice AP p.nP cP], .slice D n c] w' fun e w'' => ∃ A c, e = .returned (.slice A (prAll (blkB p m) p.nS p.nH).length c) ∧ Below w'.heap.size w' w'') := Lib.hid (fun hm w' hb => by
    have e := hm
    unfold okMat at e
    rw [Bool.and_eq_true, Bool.and_eq_true] at e
    refine (rBlocks_any AH AS AP D cH cS cP n c p m w' (h.keep hb) (hd.2.2.2.keep hb) (of_decide_eq_true e.1.2) hok (okMat_lstd hm) (okMat_has hm)).mono ?_
    rintro e w'' ⟨x, rfl, hx, hb2⟩
    obtain ⟨A, c, rfl⟩ := hx.form
    exact ⟨A, c, rfl, hb2⟩)
  have HSt := Lib.hid (stabB_nil (p := p) (m := m))
  clear h hd hok
  show Calls _ _ _ _ _
  cases hm : okMat p n m with
  | false =>
    rw [hm] at HM
    clear hm
    go_enter Try.func45, Try.ntmps45
    go_wp2_with fail
    refine Lr.use HM.out ?_
    intro w1 hb1
    have Hb1 := Lib.hid (Hb0.out.trans (hb1.mono Hb0.out.size))
    clear hb1
    go_wp2
    go_ret
    exact ⟨rfl, Hb1.out⟩
  | true =>
    rw [hm] at HM
    have HBk2 := Lib.hid (HBk.out hm)
    clear hm HBk
    go_enter Try.func45, Try.ntmps45
    go_wp2_with fail
    refine Lr.use HM.out ?_
    intro w1 hb1
    have Hb1 := Lib.hid (Hb0.out.trans (hb1.mono Hb0.out.size))
    obtain ⟨q0, q1, q2⟩ := HB0.out.keep hb1
    clear hb1
    go_wp2_with fail
    refine (HBk2.out w1 Hb1.out).mono ?_
    rintro e w2 ⟨A, c2, rfl, hb2⟩
    have Hb2 := Lib.hid (Hb1.out.trans (hb2.mono Hb1.out.size))
    clear hb2 q0 q1 q2
    generalize (prAll (blkB p m) p.nS p.nH).length = ln at *
    by_cases h0 : ln = 0
    · have hB := beq_t (a := (ln : Int)) (b := 0) (by omega)
      have HE : Hid (stabB p m = true) := Lib.hid (by rw [HSt.out]; exact decide_eq_true h0)
      clear h0
      go_wp2
      go_ret
      exact ⟨by rw [HE.out]; rfl, Hb2.out⟩
    · have hB := beq_f (a := (ln : Int)) (b := 0) (by omega)
      have HE : Hid (stabB p m = false) := Lib.hid (by rw [HSt.out]; exact decide_eq_false h0)
      clear h0
      go_wp2
      go_ret
      exact ⟨by rw [HE.out]; rfl, Hb2.out⟩
end Go.Proofs.Ytiigcjcolpmafaa

