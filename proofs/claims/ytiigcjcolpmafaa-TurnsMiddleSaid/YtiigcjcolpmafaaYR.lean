/- Part of the proof: YR. -/
import Derived.Test.YtiigcjcolpmafaaYM
import Derived.Test.YtiigcjcolpmafaaYN
import Derived.OrdersHeld
import Derived.Deep.CutRange
import Derived.Deep.DeepCutAuto
/- The reference's Middle: draft; its region 13 is left. -/
namespace Go.Proofs.Ytiigcjcolpmafaa
open Go.RowKit

theorem atI_none {r : Int → Int} {x : Int} : ∀ {l : List Int} {a : Nat}, a ≤ l.length → (∀ i, i < a → ¬ r x < r (l.getD i 0)) → (a < l.length → r x < r (l.getD a 0)) → atI r x l = a := by
  intro l
  induction l with
  | nil => intro a h _ _; exact (Nat.le_zero.1 h).symm
  | cons y l ih =>
    intro a h1 h2 h3
    cases a with
    | zero =>
      have : r x < r y := h3 (Nat.succ_pos _)
      show (if _ then _ else _) = _
      exact if_pos this
    | succ a =>
      have h4 : ¬ r x < r y := h2 0 (Nat.succ_pos _)
      show (if _ then _ else _) = _
      rw [if_neg h4]
      exact congrArg (· + 1) (ih (Nat.le_of_succ_le_succ h1) (fun i hi => h2 (i + 1) (Nat.succ_lt_succ hi)) (fun h => h3 (Nat.succ_lt_succ h)))
theorem had_mem {p : PlanD} (hok : okPlan p = true) {h j i : Nat} (hh : h < p.nH) (hj : j ≤ kP p) (hi : i < j) : (hadI (rkI (p.vH h) (p.LH h)) (fun j => mmP p j h) j).getD i 0 = -1 ∨ 0 ≤ idxI (p.vH h) ((hadI (rkI (p.vH h) (p.LH h)) (fun j => mmP p j h) j).getD i 0) (p.LH h) := by
  have hl := hadI_len (rkI (p.vH h) (p.LH h)) (fun j => mmP p j h) j
  have hp := hadI_perm (rkI (p.vH h) (p.LH h)) (fun j => mmP p j h) j
  generalize hadI (rkI (p.vH h) (p.LH h)) (fun j => mmP p j h) j = L at *
  have hm : L.getD i 0 ∈ L := by
    rw [List.getD_eq_getElem?_getD, List.getElem?_eq_getElem (by omega : i < L.length), Option.getD_some]
    exact List.getElem_mem _
  obtain ⟨k, hk, e⟩ := lst_mem.1 (hp.mem_iff.1 hm)
  rw [← e]
  exact ((mm_stb hok (by omega : k < kP p)).mat h hh).imp id (fun e => (poss_if2.1 e).1)
end Go.Proofs.Ytiigcjcolpmafaa

/- A new list that is put together by appends: its steps in a region that draws its order. -/
set_option maxRecDepth 1000000
set_option maxHeartbeats 2000000
namespace Go.Proofs.Ytiigcjcolpmafaa
open Go.RowKit

theorem grown_below {w w' : World} {B : Nat} {v : Value} {L : List Int} (ho : OwnL w B v L) (hB : B ≤ w.heap.size) (hk : w.grownBy w' v.ownBlock) : Below B w w' := by
  cases hv : v.ownBlock with
  | none => rw [hv] at hk; exact (Kp.of_none (bs := []) hk).below (by simp) hB
  | some g => rw [hv] at hk; exact Exc.below hk (own_lt ho hv).1 hB
/-- The literal of none. -/
theorem own_empty (w : World) (base : Nat) (hb : base ≤ w.heap.size) : OwnL (w.alloc (.cells #[] 3)) base (.slice (some ⟨w.heap.size, 0, none⟩) 0 0) [] :=
  ⟨rfl, .inr ⟨w.heap.size, 0, #[], rfl, hb, heap_alloc_new w _, Nat.le_refl _, by unfold maxLen; omega, rfl, rfl⟩⟩
/-- Append of a list of integers: w0 is the world of before. -/
theorem cell_of_blkY {W W' : World} {a : Addr} {v : Value} (h : W'.heap[a.block]? = W.heap[a.block]?) (hc : W.cell? a = some v) : W'.cell? a = some v := by
  unfold World.cell? at hc ⊢
  rw [h]
  exact hc
theorem grown_cell {w w' : World} {v x : Value} {b : Nat} (hk : w.grownBy w' v.ownBlock) (hc : w.cell? ⟨b, 0, none⟩ = some x) (hne : v.ownBlock ≠ some b) : w'.cell? ⟨b, 0, none⟩ = some x :=
  cell_of_blkY (hk.block b (World.block_lt_of_cell? _ _ hc) (fun e => hne e.symm)) hc
theorem own_cases {w : World} {base : Nat} {v : Value} {xs : List Int} (h : OwnL w base v xs) : (v = .slice none 0 0 ∧ xs = []) ∨ ∃ g c, v = .slice (some ⟨g, 0, none⟩) xs.length c ∧ Ints w (some ⟨g, 0, none⟩) xs.length (fun k => xs.getD k 0) ∧ xs.length ≤ c := by
  obtain ⟨A, c, e, h1, h2, h3, h4⟩ := h.form
  rcases h.2 with ⟨e2, hn⟩ | ⟨g, cap, cur, e2, -⟩
  · exact .inl ⟨e2, List.length_eq_zero_iff.1 hn⟩
  · refine .inr ⟨g, c, ?_, ?_, h4⟩ <;> (rw [e] at e2; injection e2 with e3; subst e3)
    · exact e
    · exact h2
theorem ints_front {w : World} {b n p : Nat} {f : Nat → Int} (h : Ints w (some ⟨b, 0, none⟩) n f) (hp : p ≤ n) : Ints w (some ⟨b, 0, none⟩) p f := fun hn => ⟨b, 0, rfl, fun k hk => h.cell (by omega)⟩
theorem ints_back {w : World} {b n p c o : Nat} {f : Nat → Int} (h : Ints w (some ⟨b, 0, none⟩) n f) (hp : p ≤ n) (hc : n ≤ c) (ho : (c = p ∧ o = 0) ∨ (c ≠ p ∧ o = p)) : Ints w (some ⟨b, o, none⟩) (n - p) (fun j => f (p + j)) := fun hn => ⟨b, o, rfl, fun k hk => by
  rcases ho with ⟨e1, -⟩ | ⟨-, rfl⟩
  · omega
  · have := h.cell (show o + k < n by omega)
    rwa [Nat.zero_add] at this⟩
theorem wp_gr {w : World} {o : Oper} {a : Act} {K : Act → World → Prop} {Q : Exit → Act → World → Prop} (s x : Operand)
    (ho : o.op = .call { callee := .builtin .append, args := #[s, x], argTypes := #[23, 23] })
    (w0 : World) (v : Value) (L : List Int) (hs : a.eval s = v) (hown : OwnL w w0.heap.size v L) (hB : Below w0.heap.size w0 w) (X : Option Addr) (n c : Nat) (f : Nat → Int) (hx : a.eval x = .slice X n c) (hX : Ints w X n f) (hXn : X = none → n = 0 ∧ c = 0) (hn : L.length + n ≤ 1000000)
    (h : ∀ v' w', OwnL w' w0.heap.size v' (L ++ lst n f) → Below w0.heap.size w0 w' → w.grownBy w' v.ownBlock → K (a.put o.dst v') w') :
    Oper.wp Try.prog o a w K Q := by
  obtain ⟨v', w', hr, h2, h3, h4⟩ := run_append_ints w w0.heap.size o.type v L hown X n c f hX hXn hn hB.size
  unfold Oper.wp execOp
  simp only [ho, resolve, invoke, builtin, Sem.run_bind, Sem.run_pure, Result.andThen_ok, List.map_toArray, List.map_cons, List.map_nil, hs, hx, hr]
  exact h v' w' h2 (hB.trans (grown_below hown hB.size h3)) h3
theorem insI_of {r : Int → Int} {L : List Int} {x : Int} {j a : Nat} (hl : L.length = j) (ha : a ≤ j) (e : atI r x L = a) : ((([] : List Int) ++ lst a (fun i => L.getD i 0)) ++ lst 1 (fun _ => x)) ++ lst (j - a) (fun i => L.getD (a + i) 0) = insI r L x := by
  unfold insI
  rw [e, List.nil_append]
  have e1 : lst a (fun i => L.getD i 0) = L.take a := by
    apply List.ext_getElem?
    intro i
    rcases Nat.lt_or_ge i a with g | g
    · rw [lst_get _ _ _ g, List.getElem?_take, if_pos g, List.getElem?_eq_getElem (by omega : i < L.length), List.getD_eq_getElem?_getD, List.getElem?_eq_getElem (by omega : i < L.length), Option.getD_some]
    · rw [List.getElem?_eq_none (by rw [lst_len]; exact g), List.getElem?_take, if_neg (by omega)]
  have e2 : lst (j - a) (fun i => L.getD (a + i) 0) = L.drop a := by
    apply List.ext_getElem?
    intro i
    rw [List.getElem?_drop]
    rcases Nat.lt_or_ge i (j - a) with g | g
    · rw [lst_get _ _ _ g, List.getD_eq_getElem?_getD, List.getElem?_eq_getElem (by omega : a + i < L.length), Option.getD_some]
    · rw [List.getElem?_eq_none (by rw [lst_len]; exact g), List.getElem?_eq_none (by omega)]
  rw [e1, e2, List.append_assoc]
  rfl
/-- A new list beside the old one. -/
theorem Two.anew {w w0 : World} {B : Nat} {x v : Value} {X L : List Int} (hx : OwnL w0 B x X) (hB : B ≤ w0.heap.size) (hb : Below w0.heap.size w0 w) (ho : OwnL w w0.heap.size v L) : Two w B x X v L := by
  refine ⟨hx.below hb, ?_, fun g e1 e2 => ?_⟩
  · refine ⟨ho.1, ?_⟩
    rcases ho.2 with hn | ⟨g, cap, cur, rfl, hg, r⟩
    · exact .inl hn
    · exact .inr ⟨g, cap, cur, rfl, Nat.le_trans hB hg, r⟩
  · have h1 := own_lt hx e1
    have h2 := own_lt ho e2
    omega
end Go.Proofs.Ytiigcjcolpmafaa

/- The reference's Middle. -/
namespace Go.Proofs.Ytiigcjcolpmafaa
open Go.RowKit

theorem all_mat3 {w : World} {base : Nat} {x : Value} {p : PlanD} (hok : okPlan p = true) (h : OwnLL w base x (LsP p)) : ∃ b o c, x = .slice (some ⟨b, o, none⟩) (kP p) c ∧ Mat w (some ⟨b, o, none⟩) (kP p) p.nH (mmP p) := by
  obtain ⟨A, c, rfl, hM⟩ := all_mat hok h
  obtain ⟨b, o, A0, d0, rfl, -, -⟩ := hM.at (kP_pos hok)
  exact ⟨b, o, c, rfl, hM⟩
set_option maxHeartbeats 16000000 in
set_option maxRecDepth 1000000 in
theorem rMiddle_any (AH AS AP : Option Addr) (cH cS cP : Nat) (p : PlanD) (k : Nat) (w : World) (hp : PlanArg w AH AS AP cH cS cP p) (hok : okPlan p = true) (hk : k < kP p) :
    Calls Try.prog 43 #[.agg #[.slice AH p.nH cH, .slice AS p.nS cS, .slice AP p.nP cP], .int .i64 ((k + 1 : Nat) : Int)] w fun e w' => ∃ A c, e = .returned (.slice A p.nH c) ∧ Ints w' A p.nH (midG p k) ∧ Below w.heap.size w w' := by
  have Hb0 := Lib.hid (below_box w (.cells #[.slice AH p.nH cH, .slice AS p.nS cS, .slice AP p.nP cP] 25))
  have HB0 := Lib.hid (BoxP.newR w AH AS AP p.nH p.nS p.nP cH cS cP)
  have HP := Lib.hid (fun w' (h : Below w.heap.size w w') => hp.keep h)
  have HOk := Lib.hid hok
  have HC := Lib.hid (rStable_any AH AS AP cH cS cP p hok _ (hp.keep Hb0.out))
  have hkl := kP_le hok
  have hkl2 : ((kP p : Nat) : Int) ≤ 100000 := by omega
  have hn6 : p.nH ≤ 6 := (okPlan_of hok).1.2.1
  obtain ⟨K, hK⟩ : ∃ K : Int, K = ((k + 1 : Nat) : Int) := ⟨_, rfl⟩
  have HK := Lib.hid hK
  rw [← hK]
  clear hp hok hK
  go_enter Try.func43, Try.ntmps43
  go_wp2_with fail
  refine HC.out.mono ?_
  rintro e w0 ⟨x, rfl, hx, hb0⟩
  obtain ⟨bY, oY, cY, rfl, hM⟩ := all_mat3 HOk.out hx
  have Hbw := Lib.hid (Hb0.out.trans (hb0.mono Hb0.out.size))
  have HBx := Lib.hid (HB0.out.keep hb0)
  have HM := Lib.hid hM
  clear hx hb0 hM HC
  have hsz0 : w.heap.size + 1 ≤ w0.heap.size := World.block_lt_of_cell? _ _ HBx.out.1
  obtain ⟨q0, q1, q2⟩ := HBx.out
  go_wp2
  clear q0 q1 q2
  go_loopw [5, 17] (fun s x wr => ∃ h : Nat, h ≤ p.nH ∧ x = .int .i64 h ∧ OwnL wr w0.heap.size s (lst h (midG p k)) ∧ Below w0.heap.size w0 wr) (fun _ x _ => p.nH - (intOf x).toNat)
  case atStart => exact ⟨0, Nat.zero_le _, rfl, OwnL.nil_ _ _, Below.refl _ _⟩
  case round =>
    obtain ⟨h, hh, rfl, hown, hbel⟩ := hrel
    have HOwn := Lib.hid hown
    have Hbel := Lib.hid hbel
    clear hown hbel
    by_cases hlt : h < p.nH
    · have hhi : (h : Int) < p.nH := by omega
      have HMid := Lib.hid (mid_ref HOk.out hlt hk)
      have HMem := Lib.hid (fun j i (hj : j ≤ kP p) (hi : i < j) => had_mem HOk.out hlt hj hi)
      have HLen := Lib.hid (hadI_len (rkI (p.vH h) (p.LH h)) (fun j => mmP p j h))
      have HSuc : Hid (∀ j, hadI (rkI (p.vH h) (p.LH h)) (fun j => mmP p j h) (j + 1) = insI (rkI (p.vH h) (p.LH h)) (hadI (rkI (p.vH h) (p.LH h)) (fun j => mmP p j h) j) (mmP p j h)) := Lib.hid (fun _ => rfl)
      have HNil : Hid (hadI (rkI (p.vH h) (p.LH h)) (fun j => mmP p j h) 0 = []) := Lib.hid rfl
      obtain ⟨L, hL⟩ : ∃ L : Nat → List Int, L = hadI (rkI (p.vH h) (p.LH h)) (fun j => mmP p j h) := ⟨_, rfl⟩
      rw [← hL] at HMid HLen HSuc HNil HMem
      clear hL
      go_wp2
      go_loopw [8, 22] (fun v x wr => ∃ j : Nat, j ≤ kP p ∧ x = .int .i64 j ∧ Two wr w0.heap.size u5 (lst h (midG p k)) v (L j) ∧ Below w0.heap.size w0 wr) (fun _ x _ => kP p - (intOf x).toNat)
      case atStart => exact ⟨0, Nat.zero_le _, rfl, ⟨HOwn.out, by rw [HNil.out]; exact OwnL.nil_ _ _, fun g _ e => by cases e⟩, Hbel.out⟩
      case round =>
        obtain ⟨j, hj, rfl, hT, hbel2⟩ := hrel
        have HT := Lib.hid hT
        have Hbel2 := Lib.hid hbel2
        clear hbel2
        obtain ⟨AV, cV, rfl, -, hIV, -⟩ := OwnL.form hT.oy
        rw [HLen.out j] at hIV ⊢
        have HIV := Lib.hid hIV
        clear hT hIV
        by_cases hltj : j < kP p
        · obtain ⟨AJ, cJ, eJ, hJ⟩ := HM.out.cell hltj
          have HJ := Lib.hid hJ
          have eJ := old_cell eJ Hbel2.out
          have hji : (j : Int) < (kP p : Nat) := by omega
          clear hJ
          go_wp2
          clear eJ
          rename World => wj
          go_loopw [11] (fun x wi => ∃ a : Nat, a ≤ j ∧ x = .int .i64 a ∧ (∀ i, i < a → ¬ rkI (p.vH h) (p.LH h) (mmP p j h) < rkI (p.vH h) (p.LH h) ((L j).getD i 0)) ∧ Below wj.heap.size wj wi) (fun x _ => j - (intOf x).toNat)
          case atStart => exact ⟨0, Nat.zero_le _, rfl, fun i hi => absurd hi (Nat.not_lt_zero _), Below.refl _ _⟩
          case round =>
            obtain ⟨a, ha, rfl, hno, hba⟩ := hrel
            have HNo := Lib.hid hno
            have HBa := Lib.hid hba
            clear hno hba
            have HOwT := Lib.hid (HT.out.below HBa.out)
            have Hb4 := Lib.hid (Hbel2.out.trans (HBa.out.mono Hbel2.out.size))
            obtain ⟨bj, oj, rfl, cm⟩ := (HJ.out.keep Hb4.out).at hlt
            by_cases haj : a < j
            · obtain ⟨bv, ov, rfl, cv⟩ := (HIV.out.keep HBa.out).at haj
              have hai : (a : Int) < j := by omega
              have hlk : likB p h (mmP p j h) ((L j).getD a 0) = decide (rkI (p.vH h) (p.LH h) (mmP p j h) < rkI (p.vH h) (p.LH h) ((L j).getD a 0)) := lik_rk HOk.out hlt (((mm_stb HOk.out hltj).mat h hlt).imp id (fun e => (poss_if2.1 e).1)) (HMem.out j a (by omega) haj)
              have HA1 := Lib.hid (fun q : Later wr => likes_any AH AS AP cH cS cP p h (mmP p j h) ((L j).getD a 0) q.to (HP.out q.to (Hbw.out.trans ((Hb4.out.trans (q.below.mono Hb4.out.size)).mono Hbw.out.size))).hands.rows HOk.out hlt)
              rw [hlk] at HA1
              obtain ⟨y0, y1, y2⟩ := HBx.out.keep Hb4.out
              have HNo2 : Hid (¬ rkI (p.vH h) (p.LH h) (mmP p j h) < rkI (p.vH h) (p.LH h) ((L j).getD a 0) → ∀ i, i < a + 1 → ¬ rkI (p.vH h) (p.LH h) (mmP p j h) < rkI (p.vH h) (p.LH h) ((L j).getD i 0)) := Lib.hid (fun e i hi => by
                rcases Nat.lt_succ_iff_lt_or_eq.1 hi with g | g
                · exact HNo.out i g
                · rw [g]; exact e)
              have k0 : ∀ q : Later wr, q.to.cell? ⟨w.heap.size, 0, none⟩ = some (.slice AH p.nH cH) := fun q => q.cell y0
              have k1 : ∀ q : Later wr, q.to.cell? ⟨w.heap.size, 1, none⟩ = some (.slice AS p.nS cS) := fun q => q.cell y1
              have k4 : ∀ q : Later wr, q.to.cell? ⟨w.heap.size, 2, none⟩ = some (.slice AP p.nP cP) := fun q => q.cell y2
              have k2 : ∀ q : Later wr, q.to.cell? ⟨bj, oj + h, none⟩ = some (.int .i64 (mmP p j h)) := fun q => q.cell cm
              have k3 : ∀ q : Later wr, q.to.cell? ⟨bv, ov + a, none⟩ = some (.int .i64 ((L j).getD a 0)) := fun q => q.cell cv
              clear y0 y1 y2 cv cm hlk
              by_cases hlx : rkI (p.vH h) (p.LH h) (mmP p j h) < rkI (p.vH h) (p.LH h) ((L j).getD a 0)
              · have HAt : Hid (atI (rkI (p.vH h) (p.LH h)) (mmP p j h) (L j) = a) := Lib.hid (atI_none (by rw [HLen.out j]; omega) HNo.out (fun _ => hlx))
                rw [decide_eq_true hlx] at HA1
                clear hlx HNo2
                generalize (L j).getD a 0 = av at *
                go_wp2_with fail
                refine wp_region_later (by kernel_rfl) (by kernel_rfl) ?_
                repeat
                  (with_reducible refine wpQuiet_step ?_
                   intro K' hK
                   go_simp
                   first
                     | (refine hK _ ?_; clear hK K')
                     | (apply Exists.intro
                        refine ⟨fun _ => ?_, hK _ ?_⟩
                        (go_at_call 76; exact Lr.later (HA1.out _))
                        clear hK K'))
                with_reducible refine wpQuiet_nil ?_
                intro _ hw'
                obtain ⟨q, rfl⟩ := hw'
                have HTq := Lib.hid (HOwT.out.below q.below)
                have Hb5 := Lib.hid (Hb4.out.trans (q.below.mono Hb4.out.size))
                have HIq := Lib.hid ((HIV.out.keep HBa.out).keep q.below)
                clear k0 k1 k2 k3 k4
                generalize q.to = wy at *
                go_wp2_with fail
                obtain ⟨bj2, oj2, ej2, cm2⟩ := (HJ.out.keep Hb5.out).at hlt
                injection ej2 with ej2
                injection ej2 with ej3 ej4
                subst ej3 ej4
                have HLn := Lib.hid (HLen.out j)
                have HIns := Lib.hid (insI_of HLn.out (show a ≤ j by omega) HAt.out)
                rw [← HSuc.out] at HIns
                have hAJ : a ≤ j := by omega
                have hJk : j ≤ 100000 := by omega
                have haj2 : (a : Int) ≤ j := by omega
                have ha0 : (0 : Int) ≤ a := by omega
                rcases own_cases HTq.out.oy with ⟨eV, eL⟩ | ⟨gV, cW, eV, hIW, hcW⟩
                · injection eV with eV1 eV2 eV3
                  cases eV1
                · injection eV with eV1 eV2 eV3
                  injection eV1 with eV1
                  injection eV1 with eA eB
                  have eA2 := eA.symm
                  subst eA2 eB eV3
                  rw [HLn.out] at hcW hIW
                  have hcV2 : (j : Int) ≤ cV := by omega
                  have hcV3 : (a : Int) ≤ cV := by omega
                  obtain ⟨oa, hoa⟩ : ∃ o : Nat, (cV = a ∧ o = 0) ∨ (cV ≠ a ∧ o = a) := by
                    by_cases e : cV = a
                    · exact ⟨0, .inl ⟨e, rfl⟩⟩
                    · exact ⟨a, .inr ⟨e, rfl⟩⟩
                  have HOa := Lib.hid hoa
                  clear hoa
                  clear eV2
                  refine wp_region_held (S := fun w' => w'.cell? ⟨bj, oj + h, none⟩ = some (.int .i64 (mmP p j h))) (by kernel_rfl) ?_
                  change wpAnyH _ _ _ _ _ _ _ _ wy.drew
                  have hbz : Below wy.heap.size wy wy.drew := (Dn.refl _).drew.below _
                  have HZx := Lib.hid (HTq.out.ox.below hbz)
                  have HZi := Lib.hid (HIq.out.keep hbz)
                  have HZb := Lib.hid (Hb5.out.trans (hbz.mono Hb5.out.size))
                  have HZc := Lib.hid (old_cell cm2 hbz)
                  clear hbz cm2
                  generalize wy.drew = z0 at *
                  have hHeld := HZc.out
                  have HK := Lib.hid (fun w' (hb : Below z0.heap.size z0 w') => old_cell HZc.out hb)
                  have HBz0 := Lib.hid (Below.refl z0.heap.size z0)
                  refine wpAnyH_take (i := 1) (v := .slice (some ⟨gV, 0, none⟩) j cV) rfl (by kernel_rfl) (by kernel_rfl) (by kernel_rfl) (fun _ _ _ h => h) (Or.inl ⟨by rfl, fun w' hS => by (try dsimp only at hS); go_simp⟩) hHeld ?_
                  refine wpAnyH_take (i := 2) (v := .int .i64 a) rfl (by kernel_rfl) (by kernel_rfl) (by kernel_rfl) (fun _ _ _ h => h) (Or.inl ⟨by rfl, fun w' hS => by (try dsimp only at hS); go_simp⟩) hHeld ?_
                  refine wpAnyH_take (i := 3) (v := .slice (some ⟨gV, 0, none⟩) a cV) rfl (by kernel_rfl) (by kernel_rfl) (by kernel_rfl) (fun _ _ _ h => h) (Or.inl ⟨by rfl, fun w' hS => by (try dsimp only at hS); go_simp⟩) hHeld ?_
                  refine wpAnyH_take (i := 5) (v := .slice (some ⟨bj, oj, none⟩) p.nH cJ) rfl (by kernel_rfl) (by kernel_rfl) (by kernel_rfl) (fun _ _ _ h => h) (Or.inl ⟨by rfl, fun w' hS => by (try dsimp only at hS); go_simp⟩) hHeld ?_
                  refine wpAnyH_take (i := 6) (v := .int .i64 h) rfl (by kernel_rfl) (by kernel_rfl) (by kernel_rfl) (fun _ _ _ h => h) (Or.inl ⟨by rfl, fun w' hS => by (try dsimp only at hS); go_simp⟩) hHeld ?_
                  refine wpAnyH_take (i := 7) (v := .pointer (some ⟨bj, oj + h, none⟩)) rfl (by kernel_rfl) (by kernel_rfl) (by kernel_rfl) (fun _ _ _ h => h) (Or.inl ⟨by rfl, fun w' hS => by (try dsimp only at hS); go_simp⟩) hHeld ?_
                  refine wpAnyH_take (i := 8) (v := .int .i64 (mmP p j h)) rfl (by kernel_rfl) (by kernel_rfl) (by kernel_rfl) (fun _ _ _ h => h) (Or.inl ⟨by rfl, fun w' hS => by (try dsimp only at hS); go_simp⟩) hHeld ?_
                  refine wpAnyH_take (i := 11) (v := .slice (some ⟨gV, 0, none⟩) j cV) rfl (by kernel_rfl) (by kernel_rfl) (by kernel_rfl) (fun _ _ _ h => h) (Or.inl ⟨by rfl, fun w' hS => by (try dsimp only at hS); go_simp⟩) hHeld ?_
                  refine wpAnyH_take (i := 12) (v := .int .i64 a) rfl (by kernel_rfl) (by kernel_rfl) (by kernel_rfl) (fun _ _ _ h => h) (Or.inl ⟨by rfl, fun w' hS => by (try dsimp only at hS); go_simp⟩) hHeld ?_
                  refine wpAnyH_take (i := 13) (v := .slice (some ⟨gV, oa, none⟩) (j - a) (cV - a)) rfl (by kernel_rfl) (by kernel_rfl) (by kernel_rfl) (fun _ _ _ h => h) (Or.inl ⟨by rfl, fun w' hS => by (try dsimp only at hS); (rcases HOa.out with ⟨g1, g2⟩ | ⟨g1, g2⟩ <;> (rw [g2]; go_simp; try omega))⟩) hHeld ?_
                  refine wpAnyH_all (rs := [0, 9]) (by kernel_rfl) (by simp) (fun i hi => ?_)
                  rcases (show i = 0 ∨ i = 9 by simpa using hi) with rfl | rfl
                  · refine wpOp_ofW (by rfl) (by rfl) ?_
                    go_simp
                    obtain ⟨n1, hn1⟩ : ∃ z, z = World.alloc z0 (.cells #[] 3) := ⟨_, rfl⟩
                    rw [← hn1]
                    have HBn1 := Lib.hid (show Below z0.heap.size z0 n1 by rw [hn1]; exact HBz0.out.trans ((below_box _ _).mono HBz0.out.size))
                    have HSn1 := Lib.hid (show n1.heap.size = z0.heap.size + 1 by rw [hn1]; simp)
                    have HOn1 := Lib.hid (show OwnL n1 z0.heap.size (.slice (some ⟨z0.heap.size, 0, none⟩) 0 0) [] by rw [hn1]; exact own_empty _ _ HBz0.out.size)
                    clear hn1
                    refine ⟨HK.out _ HBn1.out, ?_⟩
                    refine wpAnyH_all (rs := [4, 9]) (by kernel_rfl) (by simp) (fun i hi => ?_)
                    rcases (show i = 4 ∨ i = 9 by simpa using hi) with rfl | rfl
                    · refine wpOp_ofW (by rfl) (by rfl) ?_
                      have hI_ : Ints n1 (some ⟨gV, 0, none⟩) a (fun i => (L j).getD i 0) := ints_front (HZi.out.keep HBn1.out) hAJ
                      refine wp_gr _ _ rfl z0 _ _ rfl HOn1.out HBn1.out (some ⟨gV, 0, none⟩) a cV (fun i => (L j).getD i 0) rfl hI_ (fun e => by cases e) (by simp [lst_len]; omega) ?_
                      intro v1 n2 hO hB hG
                      have HOn2 := Lib.hid hO
                      have HBn2 := Lib.hid hB
                      clear hO hB hG hI_
                      refine ⟨HK.out _ HBn2.out, ?_⟩
                      refine wpAnyH_all (rs := [9]) (by kernel_rfl) (by simp) (fun i hi => ?_)
                      obtain rfl : i = 9 := by simpa using hi
                      refine wpOp_ofW (by rfl) (by rfl) ?_
                      go_simp
                      obtain ⟨n3, hn3⟩ : ∃ z, z = World.alloc n2 (.cells #[.int .i64 (mmP p j h)] 3) := ⟨_, rfl⟩
                      rw [← hn3]
                      have HBn3 := Lib.hid (show Below z0.heap.size z0 n3 by rw [hn3]; exact HBn2.out.trans ((below_box _ _).mono HBn2.out.size))
                      have HSn3 := Lib.hid (show n3.heap.size = n2.heap.size + 1 by rw [hn3]; simp)
                      have HCn3 := Lib.hid (show n3.cell? ⟨n2.heap.size, 0, none⟩ = some (.int .i64 (mmP p j h)) by rw [hn3]; simp [World.cell?_alloc_at])
                      have HOn3 := Lib.hid (show OwnL n3 z0.heap.size _ _ by rw [hn3]; exact HOn2.out.below (below_box _ _))
                      clear hn3
                      refine ⟨HK.out _ HBn3.out, ?_⟩
                      refine wpAnyH_all (rs := [10]) (by kernel_rfl) (by simp) (fun i hi => ?_)
                      obtain rfl : i = 10 := by simpa using hi
                      refine wpOp_ofW (by rfl) (by rfl) ?_
                      have hI_ : Ints n3 (some ⟨n2.heap.size, 0, none⟩) 1 (fun _ => mmP p j h) := (fun _ => ⟨_, 0, rfl, fun k hk => by obtain rfl : k = 0 := Nat.lt_one_iff.1 hk; exact HCn3.out⟩)
                      refine wp_gr _ _ rfl z0 _ _ rfl HOn3.out HBn3.out (some ⟨n2.heap.size, 0, none⟩) 1 1 (fun _ => mmP p j h) rfl hI_ (fun e => by cases e) (by simp [lst_len]; omega) ?_
                      intro v2 n4 hO hB hG
                      have HOn4 := Lib.hid hO
                      have HBn4 := Lib.hid hB
                      clear hO hB hG hI_
                      refine ⟨HK.out _ HBn4.out, ?_⟩
                      refine wpAnyH_all (rs := [14]) (by kernel_rfl) (by simp) (fun i hi => ?_)
                      obtain rfl : i = 14 := by simpa using hi
                      refine wpOp_ofW (by rfl) (by rfl) ?_
                      have hI_ : Ints n4 (some ⟨gV, oa, none⟩) (j - a) (fun i => (L j).getD (a + i) 0) := ints_back (HZi.out.keep HBn4.out) hAJ (by omega) HOa.out
                      refine wp_gr _ _ rfl z0 _ _ rfl HOn4.out HBn4.out (some ⟨gV, oa, none⟩) (j - a) (cV - a) (fun i => (L j).getD (a + i) 0) rfl hI_ (fun e => by cases e) (by simp [lst_len]; omega) ?_
                      intro v3 n5 hO hB hG
                      have HOn5 := Lib.hid hO
                      have HBn5 := Lib.hid hB
                      clear hO hB hG hI_
                      refine ⟨HK.out _ HBn5.out, ?_⟩
                      refine wpAnyH_take (i := 15) (v := v3) rfl (by kernel_rfl) (by kernel_rfl) (by kernel_rfl) (fun _ _ _ h => h) (Or.inl ⟨by rfl, fun w' hS => by (try dsimp only at hS); go_simp⟩) (HK.out _ HBn5.out) ?_
                      refine wpAnyH_done (by kernel_rfl) ?_ _
                      have hOe := HOn5.out
                      rw [HIns.out] at hOe
                      have HTe := Lib.hid (Two.anew HZx.out HZb.out.size HBn5.out hOe)
                      have HBe := Lib.hid (HZb.out.trans (HBn5.out.mono HZb.out.size))
                      clear hOe
                      go_wp2
                      go_roundw
                      case rel => exact ⟨j + 1, by omega, by go_num, HTe.out, HBe.out⟩
                      case measure => simp [intOf]; omega
                    · refine wpOp_ofW (by rfl) (by rfl) ?_
                      go_simp
                      obtain ⟨n6, hn6⟩ : ∃ z, z = World.alloc n1 (.cells #[.int .i64 (mmP p j h)] 3) := ⟨_, rfl⟩
                      rw [← hn6]
                      have HBn6 := Lib.hid (show Below z0.heap.size z0 n6 by rw [hn6]; exact HBn1.out.trans ((below_box _ _).mono HBn1.out.size))
                      have HSn6 := Lib.hid (show n6.heap.size = n1.heap.size + 1 by rw [hn6]; simp)
                      have HCn6 := Lib.hid (show n6.cell? ⟨n1.heap.size, 0, none⟩ = some (.int .i64 (mmP p j h)) by rw [hn6]; simp [World.cell?_alloc_at])
                      have HOn6 := Lib.hid (show OwnL n6 z0.heap.size _ _ by rw [hn6]; exact HOn1.out.below (below_box _ _))
                      clear hn6
                      refine ⟨HK.out _ HBn6.out, ?_⟩
                      refine wpAnyH_all (rs := [4]) (by kernel_rfl) (by simp) (fun i hi => ?_)
                      obtain rfl : i = 4 := by simpa using hi
                      refine wpOp_ofW (by rfl) (by rfl) ?_
                      have hI_ : Ints n6 (some ⟨gV, 0, none⟩) a (fun i => (L j).getD i 0) := ints_front (HZi.out.keep HBn6.out) hAJ
                      refine wp_gr _ _ rfl z0 _ _ rfl HOn6.out HBn6.out (some ⟨gV, 0, none⟩) a cV (fun i => (L j).getD i 0) rfl hI_ (fun e => by cases e) (by simp [lst_len]; omega) ?_
                      intro v1 n7 hO hB hG
                      have HOn7 := Lib.hid hO
                      have HBn7 := Lib.hid hB
                      have HCn7 := Lib.hid (grown_cell hG HCn6.out (fun e => by have e2 : z0.heap.size = n1.heap.size := Option.some.inj e; have := HSn1.out; have := HSn6.out; omega))
                      clear hO hB hG hI_
                      refine ⟨HK.out _ HBn7.out, ?_⟩
                      refine wpAnyH_all (rs := [10]) (by kernel_rfl) (by simp) (fun i hi => ?_)
                      obtain rfl : i = 10 := by simpa using hi
                      refine wpOp_ofW (by rfl) (by rfl) ?_
                      have hI_ : Ints n7 (some ⟨n1.heap.size, 0, none⟩) 1 (fun _ => mmP p j h) := (fun _ => ⟨_, 0, rfl, fun k hk => by obtain rfl : k = 0 := Nat.lt_one_iff.1 hk; exact HCn7.out⟩)
                      refine wp_gr _ _ rfl z0 _ _ rfl HOn7.out HBn7.out (some ⟨n1.heap.size, 0, none⟩) 1 1 (fun _ => mmP p j h) rfl hI_ (fun e => by cases e) (by simp [lst_len]; omega) ?_
                      intro v2 n8 hO hB hG
                      have HOn8 := Lib.hid hO
                      have HBn8 := Lib.hid hB
                      clear hO hB hG hI_
                      refine ⟨HK.out _ HBn8.out, ?_⟩
                      refine wpAnyH_all (rs := [14]) (by kernel_rfl) (by simp) (fun i hi => ?_)
                      obtain rfl : i = 14 := by simpa using hi
                      refine wpOp_ofW (by rfl) (by rfl) ?_
                      have hI_ : Ints n8 (some ⟨gV, oa, none⟩) (j - a) (fun i => (L j).getD (a + i) 0) := ints_back (HZi.out.keep HBn8.out) hAJ (by omega) HOa.out
                      refine wp_gr _ _ rfl z0 _ _ rfl HOn8.out HBn8.out (some ⟨gV, oa, none⟩) (j - a) (cV - a) (fun i => (L j).getD (a + i) 0) rfl hI_ (fun e => by cases e) (by simp [lst_len]; omega) ?_
                      intro v3 n9 hO hB hG
                      have HOn9 := Lib.hid hO
                      have HBn9 := Lib.hid hB
                      clear hO hB hG hI_
                      refine ⟨HK.out _ HBn9.out, ?_⟩
                      refine wpAnyH_take (i := 15) (v := v3) rfl (by kernel_rfl) (by kernel_rfl) (by kernel_rfl) (fun _ _ _ h => h) (Or.inl ⟨by rfl, fun w' hS => by (try dsimp only at hS); go_simp⟩) (HK.out _ HBn9.out) ?_
                      refine wpAnyH_done (by kernel_rfl) ?_ _
                      have hOe := HOn9.out
                      rw [HIns.out] at hOe
                      have HTe := Lib.hid (Two.anew HZx.out HZb.out.size HBn9.out hOe)
                      have HBe := Lib.hid (HZb.out.trans (HBn9.out.mono HZb.out.size))
                      clear hOe
                      go_wp2
                      go_roundw
                      case rel => exact ⟨j + 1, by omega, by go_num, HTe.out, HBe.out⟩
                      case measure => simp [intOf]; omega
                  · refine wpOp_ofW (by rfl) (by rfl) ?_
                    go_simp
                    obtain ⟨n10, hn10⟩ : ∃ z, z = World.alloc z0 (.cells #[.int .i64 (mmP p j h)] 3) := ⟨_, rfl⟩
                    rw [← hn10]
                    have HBn10 := Lib.hid (show Below z0.heap.size z0 n10 by rw [hn10]; exact HBz0.out.trans ((below_box _ _).mono HBz0.out.size))
                    have HSn10 := Lib.hid (show n10.heap.size = z0.heap.size + 1 by rw [hn10]; simp)
                    have HCn10 := Lib.hid (show n10.cell? ⟨z0.heap.size, 0, none⟩ = some (.int .i64 (mmP p j h)) by rw [hn10]; simp [World.cell?_alloc_at])
                    clear hn10
                    refine ⟨HK.out _ HBn10.out, ?_⟩
                    refine wpAnyH_all (rs := [0]) (by kernel_rfl) (by simp) (fun i hi => ?_)
                    obtain rfl : i = 0 := by simpa using hi
                    refine wpOp_ofW (by rfl) (by rfl) ?_
                    go_simp
                    obtain ⟨n11, hn11⟩ : ∃ z, z = World.alloc n10 (.cells #[] 3) := ⟨_, rfl⟩
                    rw [← hn11]
                    have HBn11 := Lib.hid (show Below z0.heap.size z0 n11 by rw [hn11]; exact HBn10.out.trans ((below_box _ _).mono HBn10.out.size))
                    have HSn11 := Lib.hid (show n11.heap.size = n10.heap.size + 1 by rw [hn11]; simp)
                    have HOn11 := Lib.hid (show OwnL n11 z0.heap.size (.slice (some ⟨n10.heap.size, 0, none⟩) 0 0) [] by rw [hn11]; exact own_empty _ _ HBn10.out.size)
                    have HCn11 := Lib.hid (show n11.cell? ⟨z0.heap.size, 0, none⟩ = some (.int .i64 (mmP p j h)) by rw [hn11]; exact old_cell HCn10.out (below_box _ _))
                    clear hn11
                    refine ⟨HK.out _ HBn11.out, ?_⟩
                    refine wpAnyH_all (rs := [4]) (by kernel_rfl) (by simp) (fun i hi => ?_)
                    obtain rfl : i = 4 := by simpa using hi
                    refine wpOp_ofW (by rfl) (by rfl) ?_
                    have hI_ : Ints n11 (some ⟨gV, 0, none⟩) a (fun i => (L j).getD i 0) := ints_front (HZi.out.keep HBn11.out) hAJ
                    refine wp_gr _ _ rfl z0 _ _ rfl HOn11.out HBn11.out (some ⟨gV, 0, none⟩) a cV (fun i => (L j).getD i 0) rfl hI_ (fun e => by cases e) (by simp [lst_len]; omega) ?_
                    intro v1 n12 hO hB hG
                    have HOn12 := Lib.hid hO
                    have HBn12 := Lib.hid hB
                    have HCn12 := Lib.hid (grown_cell hG HCn11.out (fun e => by have e2 : n10.heap.size = z0.heap.size := Option.some.inj e; have := HSn10.out; have := HSn11.out; omega))
                    clear hO hB hG hI_
                    refine ⟨HK.out _ HBn12.out, ?_⟩
                    refine wpAnyH_all (rs := [10]) (by kernel_rfl) (by simp) (fun i hi => ?_)
                    obtain rfl : i = 10 := by simpa using hi
                    refine wpOp_ofW (by rfl) (by rfl) ?_
                    have hI_ : Ints n12 (some ⟨z0.heap.size, 0, none⟩) 1 (fun _ => mmP p j h) := (fun _ => ⟨_, 0, rfl, fun k hk => by obtain rfl : k = 0 := Nat.lt_one_iff.1 hk; exact HCn12.out⟩)
                    refine wp_gr _ _ rfl z0 _ _ rfl HOn12.out HBn12.out (some ⟨z0.heap.size, 0, none⟩) 1 1 (fun _ => mmP p j h) rfl hI_ (fun e => by cases e) (by simp [lst_len]; omega) ?_
                    intro v2 n13 hO hB hG
                    have HOn13 := Lib.hid hO
                    have HBn13 := Lib.hid hB
                    clear hO hB hG hI_
                    refine ⟨HK.out _ HBn13.out, ?_⟩
                    refine wpAnyH_all (rs := [14]) (by kernel_rfl) (by simp) (fun i hi => ?_)
                    obtain rfl : i = 14 := by simpa using hi
                    refine wpOp_ofW (by rfl) (by rfl) ?_
                    have hI_ : Ints n13 (some ⟨gV, oa, none⟩) (j - a) (fun i => (L j).getD (a + i) 0) := ints_back (HZi.out.keep HBn13.out) hAJ (by omega) HOa.out
                    refine wp_gr _ _ rfl z0 _ _ rfl HOn13.out HBn13.out (some ⟨gV, oa, none⟩) (j - a) (cV - a) (fun i => (L j).getD (a + i) 0) rfl hI_ (fun e => by cases e) (by simp [lst_len]; omega) ?_
                    intro v3 n14 hO hB hG
                    have HOn14 := Lib.hid hO
                    have HBn14 := Lib.hid hB
                    clear hO hB hG hI_
                    refine ⟨HK.out _ HBn14.out, ?_⟩
                    refine wpAnyH_take (i := 15) (v := v3) rfl (by kernel_rfl) (by kernel_rfl) (by kernel_rfl) (fun _ _ _ h => h) (Or.inl ⟨by rfl, fun w' hS => by (try dsimp only at hS); go_simp⟩) (HK.out _ HBn14.out) ?_
                    refine wpAnyH_done (by kernel_rfl) ?_ _
                    have hOe := HOn14.out
                    rw [HIns.out] at hOe
                    have HTe := Lib.hid (Two.anew HZx.out HZb.out.size HBn14.out hOe)
                    have HBe := Lib.hid (HZb.out.trans (HBn14.out.mono HZb.out.size))
                    clear hOe
                    go_wp2
                    go_roundw
                    case rel => exact ⟨j + 1, by omega, by go_num, HTe.out, HBe.out⟩
                    case measure => simp [intOf]; omega
              · have HNo3 := Lib.hid (HNo2.out hlx)
                rw [decide_eq_false hlx] at HA1
                clear hlx HNo2
                generalize (L j).getD a 0 = av at *
                go_wp2_with fail
                refine wp_region_later (by kernel_rfl) (by kernel_rfl) ?_
                repeat
                  (with_reducible refine wpQuiet_step ?_
                   intro K' hK
                   go_simp
                   first
                     | (refine hK _ ?_; clear hK K')
                     | (apply Exists.intro
                        refine ⟨fun _ => ?_, hK _ ?_⟩
                        (go_at_call 76; exact Lr.later (HA1.out _))
                        clear hK K'))
                with_reducible refine wpQuiet_nil ?_
                intro _ hw'
                obtain ⟨q, rfl⟩ := hw'
                have HBa2 := Lib.hid (HBa.out.trans (q.below.mono HBa.out.size))
                clear k0 k1 k2 k3 k4
                generalize q.to = wy at *
                go_wp2
                go_roundw
                case rel => exact ⟨a + 1, by omega, by go_num, (fun i hi => by have := HNo3.out i hi; omega), HBa2.out⟩
                case measure => simp [intOf]; omega
            · obtain rfl : a = j := by omega
              have HAt : Hid (atI (rkI (p.vH h) (p.LH h)) (mmP p a h) (L a) = a) := Lib.hid (atI_none (by rw [HLen.out a]; omega) HNo.out (fun g => by rw [HLen.out a] at g; omega))
              go_wp2_with fail
              go_quiet (fail)
              rename_i nq
              have HB9 := Lib.hid (((Dn.refl wr).drewN nq).below wr.heap.size)
              have HTq := Lib.hid (HOwT.out.below HB9.out)
              have Hb5 := Lib.hid (Hb4.out.trans (HB9.out.mono Hb4.out.size))
              have HIq := Lib.hid ((HIV.out.keep HBa.out).keep HB9.out)
              clear HB9
              generalize wr.drewN nq = wq at *
              go_wp2_with fail
              obtain ⟨bj2, oj2, ej2, cm2⟩ := (HJ.out.keep Hb5.out).at hlt
              injection ej2 with ej2
              injection ej2 with ej3 ej4
              subst ej3 ej4
              have HLn := Lib.hid (HLen.out a)
              have HIns := Lib.hid (insI_of HLn.out (show a ≤ a by omega) HAt.out)
              rw [← HSuc.out] at HIns
              rw [Nat.sub_self] at HIns
              have hAJ : a ≤ a := by omega
              have hJk : a ≤ 100000 := by omega
              have haj2 : (a : Int) ≤ a := by omega
              have ha0 : (0 : Int) ≤ a := by omega
              rcases own_cases HTq.out.oy with ⟨eV, eL⟩ | ⟨gV, cW, eV, hIW, hcW⟩
              · injection eV with eV1 eV2 eV3
                subst eV1 eV3
                have ej0 : a = 0 := by have h_ := HLn.out; rw [eL] at h_; exact h_.symm
                have HJ0 : Hid (a = 0 ∧ a = 0) := Lib.hid ⟨ej0, by omega⟩
                have haz : (a : Int) ≤ 0 := by omega
                clear eV2 eL ej0
                refine wp_region_held (S := fun w' => w'.cell? ⟨bj, oj + h, none⟩ = some (.int .i64 (mmP p a h))) (by kernel_rfl) ?_
                change wpAnyH _ _ _ _ _ _ _ _ wq.drew
                have hbz : Below wq.heap.size wq wq.drew := (Dn.refl _).drew.below _
                have HZx := Lib.hid (HTq.out.ox.below hbz)
                have HZi := Lib.hid (HIq.out.keep hbz)
                have HZb := Lib.hid (Hb5.out.trans (hbz.mono Hb5.out.size))
                have HZc := Lib.hid (old_cell cm2 hbz)
                clear hbz cm2
                generalize wq.drew = z0 at *
                have hHeld := HZc.out
                have HK := Lib.hid (fun w' (hb : Below z0.heap.size z0 w') => old_cell HZc.out hb)
                have HBz0 := Lib.hid (Below.refl z0.heap.size z0)
                refine wpAnyH_take (i := 1) (v := .slice none a 0) rfl (by kernel_rfl) (by kernel_rfl) (by kernel_rfl) (fun _ _ _ h => h) (Or.inl ⟨by rfl, fun w' hS => by (try dsimp only at hS); go_simp⟩) hHeld ?_
                refine wpAnyH_take (i := 2) (v := .int .i64 a) rfl (by kernel_rfl) (by kernel_rfl) (by kernel_rfl) (fun _ _ _ h => h) (Or.inl ⟨by rfl, fun w' hS => by (try dsimp only at hS); go_simp⟩) hHeld ?_
                refine wpAnyH_take (i := 3) (v := .slice none a 0) rfl (by kernel_rfl) (by kernel_rfl) (by kernel_rfl) (fun _ _ _ h => h) (Or.inl ⟨by rfl, fun w' hS => by (try dsimp only at hS); (rw [HJ0.out.2]; go_simp)⟩) hHeld ?_
                refine wpAnyH_take (i := 5) (v := .slice (some ⟨bj, oj, none⟩) p.nH cJ) rfl (by kernel_rfl) (by kernel_rfl) (by kernel_rfl) (fun _ _ _ h => h) (Or.inl ⟨by rfl, fun w' hS => by (try dsimp only at hS); go_simp⟩) hHeld ?_
                refine wpAnyH_take (i := 6) (v := .int .i64 h) rfl (by kernel_rfl) (by kernel_rfl) (by kernel_rfl) (fun _ _ _ h => h) (Or.inl ⟨by rfl, fun w' hS => by (try dsimp only at hS); go_simp⟩) hHeld ?_
                refine wpAnyH_take (i := 7) (v := .pointer (some ⟨bj, oj + h, none⟩)) rfl (by kernel_rfl) (by kernel_rfl) (by kernel_rfl) (fun _ _ _ h => h) (Or.inl ⟨by rfl, fun w' hS => by (try dsimp only at hS); go_simp⟩) hHeld ?_
                refine wpAnyH_take (i := 8) (v := .int .i64 (mmP p a h)) rfl (by kernel_rfl) (by kernel_rfl) (by kernel_rfl) (fun _ _ _ h => h) (Or.inl ⟨by rfl, fun w' hS => by (try dsimp only at hS); go_simp⟩) hHeld ?_
                refine wpAnyH_take (i := 11) (v := .slice none a 0) rfl (by kernel_rfl) (by kernel_rfl) (by kernel_rfl) (fun _ _ _ h => h) (Or.inl ⟨by rfl, fun w' hS => by (try dsimp only at hS); go_simp⟩) hHeld ?_
                refine wpAnyH_take (i := 12) (v := .int .i64 a) rfl (by kernel_rfl) (by kernel_rfl) (by kernel_rfl) (fun _ _ _ h => h) (Or.inl ⟨by rfl, fun w' hS => by (try dsimp only at hS); go_simp⟩) hHeld ?_
                refine wpAnyH_take (i := 13) (v := .slice none 0 0) rfl (by kernel_rfl) (by kernel_rfl) (by kernel_rfl) (fun _ _ _ h => h) (Or.inl ⟨by rfl, fun w' hS => by (try dsimp only at hS); (rw [HJ0.out.2]; go_simp)⟩) hHeld ?_
                refine wpAnyH_all (rs := [0, 9]) (by kernel_rfl) (by simp) (fun i hi => ?_)
                rcases (show i = 0 ∨ i = 9 by simpa using hi) with rfl | rfl
                · refine wpOp_ofW (by rfl) (by rfl) ?_
                  go_simp
                  obtain ⟨n1, hn1⟩ : ∃ z, z = World.alloc z0 (.cells #[] 3) := ⟨_, rfl⟩
                  rw [← hn1]
                  have HBn1 := Lib.hid (show Below z0.heap.size z0 n1 by rw [hn1]; exact HBz0.out.trans ((below_box _ _).mono HBz0.out.size))
                  have HSn1 := Lib.hid (show n1.heap.size = z0.heap.size + 1 by rw [hn1]; simp)
                  have HOn1 := Lib.hid (show OwnL n1 z0.heap.size (.slice (some ⟨z0.heap.size, 0, none⟩) 0 0) [] by rw [hn1]; exact own_empty _ _ HBz0.out.size)
                  clear hn1
                  refine ⟨HK.out _ HBn1.out, ?_⟩
                  refine wpAnyH_all (rs := [4, 9]) (by kernel_rfl) (by simp) (fun i hi => ?_)
                  rcases (show i = 4 ∨ i = 9 by simpa using hi) with rfl | rfl
                  · refine wpOp_ofW (by rfl) (by rfl) ?_
                    have hI_ : Ints n1 none a (fun i => (L a).getD i 0) := by rw [HJ0.out.2]; exact Ints.zero
                    refine wp_gr _ _ rfl z0 _ _ rfl HOn1.out HBn1.out none a 0 (fun i => (L a).getD i 0) rfl hI_ (fun _ => ⟨HJ0.out.2, rfl⟩) (by simp [lst_len]; omega) ?_
                    intro v1 n2 hO hB hG
                    have HOn2 := Lib.hid hO
                    have HBn2 := Lib.hid hB
                    clear hO hB hG hI_
                    refine ⟨HK.out _ HBn2.out, ?_⟩
                    refine wpAnyH_all (rs := [9]) (by kernel_rfl) (by simp) (fun i hi => ?_)
                    obtain rfl : i = 9 := by simpa using hi
                    refine wpOp_ofW (by rfl) (by rfl) ?_
                    go_simp
                    obtain ⟨n3, hn3⟩ : ∃ z, z = World.alloc n2 (.cells #[.int .i64 (mmP p a h)] 3) := ⟨_, rfl⟩
                    rw [← hn3]
                    have HBn3 := Lib.hid (show Below z0.heap.size z0 n3 by rw [hn3]; exact HBn2.out.trans ((below_box _ _).mono HBn2.out.size))
                    have HSn3 := Lib.hid (show n3.heap.size = n2.heap.size + 1 by rw [hn3]; simp)
                    have HCn3 := Lib.hid (show n3.cell? ⟨n2.heap.size, 0, none⟩ = some (.int .i64 (mmP p a h)) by rw [hn3]; simp [World.cell?_alloc_at])
                    have HOn3 := Lib.hid (show OwnL n3 z0.heap.size _ _ by rw [hn3]; exact HOn2.out.below (below_box _ _))
                    clear hn3
                    refine ⟨HK.out _ HBn3.out, ?_⟩
                    refine wpAnyH_all (rs := [10]) (by kernel_rfl) (by simp) (fun i hi => ?_)
                    obtain rfl : i = 10 := by simpa using hi
                    refine wpOp_ofW (by rfl) (by rfl) ?_
                    have hI_ : Ints n3 (some ⟨n2.heap.size, 0, none⟩) 1 (fun _ => mmP p a h) := (fun _ => ⟨_, 0, rfl, fun k hk => by obtain rfl : k = 0 := Nat.lt_one_iff.1 hk; exact HCn3.out⟩)
                    refine wp_gr _ _ rfl z0 _ _ rfl HOn3.out HBn3.out (some ⟨n2.heap.size, 0, none⟩) 1 1 (fun _ => mmP p a h) rfl hI_ (fun e => by cases e) (by simp [lst_len]; omega) ?_
                    intro v2 n4 hO hB hG
                    have HOn4 := Lib.hid hO
                    have HBn4 := Lib.hid hB
                    clear hO hB hG hI_
                    refine ⟨HK.out _ HBn4.out, ?_⟩
                    refine wpAnyH_all (rs := [14]) (by kernel_rfl) (by simp) (fun i hi => ?_)
                    obtain rfl : i = 14 := by simpa using hi
                    refine wpOp_ofW (by rfl) (by rfl) ?_
                    have hI_ : Ints n4 none 0 (fun i => (L a).getD (a + i) 0) := Ints.zero
                    refine wp_gr _ _ rfl z0 _ _ rfl HOn4.out HBn4.out none 0 0 (fun i => (L a).getD (a + i) 0) rfl hI_ (fun _ => ⟨rfl, rfl⟩) (by simp [lst_len]; omega) ?_
                    intro v3 n5 hO hB hG
                    have HOn5 := Lib.hid hO
                    have HBn5 := Lib.hid hB
                    clear hO hB hG hI_
                    refine ⟨HK.out _ HBn5.out, ?_⟩
                    refine wpAnyH_take (i := 15) (v := v3) rfl (by kernel_rfl) (by kernel_rfl) (by kernel_rfl) (fun _ _ _ h => h) (Or.inl ⟨by rfl, fun w' hS => by (try dsimp only at hS); go_simp⟩) (HK.out _ HBn5.out) ?_
                    refine wpAnyH_done (by kernel_rfl) ?_ _
                    have hOe := HOn5.out
                    rw [HIns.out] at hOe
                    have HTe := Lib.hid (Two.anew HZx.out HZb.out.size HBn5.out hOe)
                    have HBe := Lib.hid (HZb.out.trans (HBn5.out.mono HZb.out.size))
                    clear hOe
                    go_wp2
                    go_roundw
                    case rel => exact ⟨a + 1, by omega, by go_num, HTe.out, HBe.out⟩
                    case measure => simp [intOf]; omega
                  · refine wpOp_ofW (by rfl) (by rfl) ?_
                    go_simp
                    obtain ⟨n6, hn6⟩ : ∃ z, z = World.alloc n1 (.cells #[.int .i64 (mmP p a h)] 3) := ⟨_, rfl⟩
                    rw [← hn6]
                    have HBn6 := Lib.hid (show Below z0.heap.size z0 n6 by rw [hn6]; exact HBn1.out.trans ((below_box _ _).mono HBn1.out.size))
                    have HSn6 := Lib.hid (show n6.heap.size = n1.heap.size + 1 by rw [hn6]; simp)
                    have HCn6 := Lib.hid (show n6.cell? ⟨n1.heap.size, 0, none⟩ = some (.int .i64 (mmP p a h)) by rw [hn6]; simp [World.cell?_alloc_at])
                    have HOn6 := Lib.hid (show OwnL n6 z0.heap.size _ _ by rw [hn6]; exact HOn1.out.below (below_box _ _))
                    clear hn6
                    refine ⟨HK.out _ HBn6.out, ?_⟩
                    refine wpAnyH_all (rs := [4]) (by kernel_rfl) (by simp) (fun i hi => ?_)
                    obtain rfl : i = 4 := by simpa using hi
                    refine wpOp_ofW (by rfl) (by rfl) ?_
                    have hI_ : Ints n6 none a (fun i => (L a).getD i 0) := by rw [HJ0.out.2]; exact Ints.zero
                    refine wp_gr _ _ rfl z0 _ _ rfl HOn6.out HBn6.out none a 0 (fun i => (L a).getD i 0) rfl hI_ (fun _ => ⟨HJ0.out.2, rfl⟩) (by simp [lst_len]; omega) ?_
                    intro v1 n7 hO hB hG
                    have HOn7 := Lib.hid hO
                    have HBn7 := Lib.hid hB
                    have HCn7 := Lib.hid (grown_cell hG HCn6.out (fun e => by have e2 : z0.heap.size = n1.heap.size := Option.some.inj e; have := HSn1.out; have := HSn6.out; omega))
                    clear hO hB hG hI_
                    refine ⟨HK.out _ HBn7.out, ?_⟩
                    refine wpAnyH_all (rs := [10]) (by kernel_rfl) (by simp) (fun i hi => ?_)
                    obtain rfl : i = 10 := by simpa using hi
                    refine wpOp_ofW (by rfl) (by rfl) ?_
                    have hI_ : Ints n7 (some ⟨n1.heap.size, 0, none⟩) 1 (fun _ => mmP p a h) := (fun _ => ⟨_, 0, rfl, fun k hk => by obtain rfl : k = 0 := Nat.lt_one_iff.1 hk; exact HCn7.out⟩)
                    refine wp_gr _ _ rfl z0 _ _ rfl HOn7.out HBn7.out (some ⟨n1.heap.size, 0, none⟩) 1 1 (fun _ => mmP p a h) rfl hI_ (fun e => by cases e) (by simp [lst_len]; omega) ?_
                    intro v2 n8 hO hB hG
                    have HOn8 := Lib.hid hO
                    have HBn8 := Lib.hid hB
                    clear hO hB hG hI_
                    refine ⟨HK.out _ HBn8.out, ?_⟩
                    refine wpAnyH_all (rs := [14]) (by kernel_rfl) (by simp) (fun i hi => ?_)
                    obtain rfl : i = 14 := by simpa using hi
                    refine wpOp_ofW (by rfl) (by rfl) ?_
                    have hI_ : Ints n8 none 0 (fun i => (L a).getD (a + i) 0) := Ints.zero
                    refine wp_gr _ _ rfl z0 _ _ rfl HOn8.out HBn8.out none 0 0 (fun i => (L a).getD (a + i) 0) rfl hI_ (fun _ => ⟨rfl, rfl⟩) (by simp [lst_len]; omega) ?_
                    intro v3 n9 hO hB hG
                    have HOn9 := Lib.hid hO
                    have HBn9 := Lib.hid hB
                    clear hO hB hG hI_
                    refine ⟨HK.out _ HBn9.out, ?_⟩
                    refine wpAnyH_take (i := 15) (v := v3) rfl (by kernel_rfl) (by kernel_rfl) (by kernel_rfl) (fun _ _ _ h => h) (Or.inl ⟨by rfl, fun w' hS => by (try dsimp only at hS); go_simp⟩) (HK.out _ HBn9.out) ?_
                    refine wpAnyH_done (by kernel_rfl) ?_ _
                    have hOe := HOn9.out
                    rw [HIns.out] at hOe
                    have HTe := Lib.hid (Two.anew HZx.out HZb.out.size HBn9.out hOe)
                    have HBe := Lib.hid (HZb.out.trans (HBn9.out.mono HZb.out.size))
                    clear hOe
                    go_wp2
                    go_roundw
                    case rel => exact ⟨a + 1, by omega, by go_num, HTe.out, HBe.out⟩
                    case measure => simp [intOf]; omega
                · refine wpOp_ofW (by rfl) (by rfl) ?_
                  go_simp
                  obtain ⟨n10, hn10⟩ : ∃ z, z = World.alloc z0 (.cells #[.int .i64 (mmP p a h)] 3) := ⟨_, rfl⟩
                  rw [← hn10]
                  have HBn10 := Lib.hid (show Below z0.heap.size z0 n10 by rw [hn10]; exact HBz0.out.trans ((below_box _ _).mono HBz0.out.size))
                  have HSn10 := Lib.hid (show n10.heap.size = z0.heap.size + 1 by rw [hn10]; simp)
                  have HCn10 := Lib.hid (show n10.cell? ⟨z0.heap.size, 0, none⟩ = some (.int .i64 (mmP p a h)) by rw [hn10]; simp [World.cell?_alloc_at])
                  clear hn10
                  refine ⟨HK.out _ HBn10.out, ?_⟩
                  refine wpAnyH_all (rs := [0]) (by kernel_rfl) (by simp) (fun i hi => ?_)
                  obtain rfl : i = 0 := by simpa using hi
                  refine wpOp_ofW (by rfl) (by rfl) ?_
                  go_simp
                  obtain ⟨n11, hn11⟩ : ∃ z, z = World.alloc n10 (.cells #[] 3) := ⟨_, rfl⟩
                  rw [← hn11]
                  have HBn11 := Lib.hid (show Below z0.heap.size z0 n11 by rw [hn11]; exact HBn10.out.trans ((below_box _ _).mono HBn10.out.size))
                  have HSn11 := Lib.hid (show n11.heap.size = n10.heap.size + 1 by rw [hn11]; simp)
                  have HOn11 := Lib.hid (show OwnL n11 z0.heap.size (.slice (some ⟨n10.heap.size, 0, none⟩) 0 0) [] by rw [hn11]; exact own_empty _ _ HBn10.out.size)
                  have HCn11 := Lib.hid (show n11.cell? ⟨z0.heap.size, 0, none⟩ = some (.int .i64 (mmP p a h)) by rw [hn11]; exact old_cell HCn10.out (below_box _ _))
                  clear hn11
                  refine ⟨HK.out _ HBn11.out, ?_⟩
                  refine wpAnyH_all (rs := [4]) (by kernel_rfl) (by simp) (fun i hi => ?_)
                  obtain rfl : i = 4 := by simpa using hi
                  refine wpOp_ofW (by rfl) (by rfl) ?_
                  have hI_ : Ints n11 none a (fun i => (L a).getD i 0) := by rw [HJ0.out.2]; exact Ints.zero
                  refine wp_gr _ _ rfl z0 _ _ rfl HOn11.out HBn11.out none a 0 (fun i => (L a).getD i 0) rfl hI_ (fun _ => ⟨HJ0.out.2, rfl⟩) (by simp [lst_len]; omega) ?_
                  intro v1 n12 hO hB hG
                  have HOn12 := Lib.hid hO
                  have HBn12 := Lib.hid hB
                  have HCn12 := Lib.hid (grown_cell hG HCn11.out (fun e => by have e2 : n10.heap.size = z0.heap.size := Option.some.inj e; have := HSn10.out; have := HSn11.out; omega))
                  clear hO hB hG hI_
                  refine ⟨HK.out _ HBn12.out, ?_⟩
                  refine wpAnyH_all (rs := [10]) (by kernel_rfl) (by simp) (fun i hi => ?_)
                  obtain rfl : i = 10 := by simpa using hi
                  refine wpOp_ofW (by rfl) (by rfl) ?_
                  have hI_ : Ints n12 (some ⟨z0.heap.size, 0, none⟩) 1 (fun _ => mmP p a h) := (fun _ => ⟨_, 0, rfl, fun k hk => by obtain rfl : k = 0 := Nat.lt_one_iff.1 hk; exact HCn12.out⟩)
                  refine wp_gr _ _ rfl z0 _ _ rfl HOn12.out HBn12.out (some ⟨z0.heap.size, 0, none⟩) 1 1 (fun _ => mmP p a h) rfl hI_ (fun e => by cases e) (by simp [lst_len]; omega) ?_
                  intro v2 n13 hO hB hG
                  have HOn13 := Lib.hid hO
                  have HBn13 := Lib.hid hB
                  clear hO hB hG hI_
                  refine ⟨HK.out _ HBn13.out, ?_⟩
                  refine wpAnyH_all (rs := [14]) (by kernel_rfl) (by simp) (fun i hi => ?_)
                  obtain rfl : i = 14 := by simpa using hi
                  refine wpOp_ofW (by rfl) (by rfl) ?_
                  have hI_ : Ints n13 none 0 (fun i => (L a).getD (a + i) 0) := Ints.zero
                  refine wp_gr _ _ rfl z0 _ _ rfl HOn13.out HBn13.out none 0 0 (fun i => (L a).getD (a + i) 0) rfl hI_ (fun _ => ⟨rfl, rfl⟩) (by simp [lst_len]; omega) ?_
                  intro v3 n14 hO hB hG
                  have HOn14 := Lib.hid hO
                  have HBn14 := Lib.hid hB
                  clear hO hB hG hI_
                  refine ⟨HK.out _ HBn14.out, ?_⟩
                  refine wpAnyH_take (i := 15) (v := v3) rfl (by kernel_rfl) (by kernel_rfl) (by kernel_rfl) (fun _ _ _ h => h) (Or.inl ⟨by rfl, fun w' hS => by (try dsimp only at hS); go_simp⟩) (HK.out _ HBn14.out) ?_
                  refine wpAnyH_done (by kernel_rfl) ?_ _
                  have hOe := HOn14.out
                  rw [HIns.out] at hOe
                  have HTe := Lib.hid (Two.anew HZx.out HZb.out.size HBn14.out hOe)
                  have HBe := Lib.hid (HZb.out.trans (HBn14.out.mono HZb.out.size))
                  clear hOe
                  go_wp2
                  go_roundw
                  case rel => exact ⟨a + 1, by omega, by go_num, HTe.out, HBe.out⟩
                  case measure => simp [intOf]; omega
              · injection eV with eV1 eV2 eV3
                subst eV1 eV3
                rw [HLn.out] at hcW hIW
                have hcV2 : (a : Int) ≤ cV := by omega
                have hcV3 : (a : Int) ≤ cV := by omega
                obtain ⟨oa, hoa⟩ : ∃ o : Nat, (cV = a ∧ o = 0) ∨ (cV ≠ a ∧ o = a) := by
                  by_cases e : cV = a
                  · exact ⟨0, .inl ⟨e, rfl⟩⟩
                  · exact ⟨a, .inr ⟨e, rfl⟩⟩
                have HOa := Lib.hid hoa
                clear hoa
                clear eV2
                refine wp_region_held (S := fun w' => w'.cell? ⟨bj, oj + h, none⟩ = some (.int .i64 (mmP p a h))) (by kernel_rfl) ?_
                change wpAnyH _ _ _ _ _ _ _ _ wq.drew
                have hbz : Below wq.heap.size wq wq.drew := (Dn.refl _).drew.below _
                have HZx := Lib.hid (HTq.out.ox.below hbz)
                have HZi := Lib.hid (HIq.out.keep hbz)
                have HZb := Lib.hid (Hb5.out.trans (hbz.mono Hb5.out.size))
                have HZc := Lib.hid (old_cell cm2 hbz)
                clear hbz cm2
                generalize wq.drew = z0 at *
                have hHeld := HZc.out
                have HK := Lib.hid (fun w' (hb : Below z0.heap.size z0 w') => old_cell HZc.out hb)
                have HBz0 := Lib.hid (Below.refl z0.heap.size z0)
                refine wpAnyH_take (i := 1) (v := .slice (some ⟨gV, 0, none⟩) a cV) rfl (by kernel_rfl) (by kernel_rfl) (by kernel_rfl) (fun _ _ _ h => h) (Or.inl ⟨by rfl, fun w' hS => by (try dsimp only at hS); go_simp⟩) hHeld ?_
                refine wpAnyH_take (i := 2) (v := .int .i64 a) rfl (by kernel_rfl) (by kernel_rfl) (by kernel_rfl) (fun _ _ _ h => h) (Or.inl ⟨by rfl, fun w' hS => by (try dsimp only at hS); go_simp⟩) hHeld ?_
                refine wpAnyH_take (i := 3) (v := .slice (some ⟨gV, 0, none⟩) a cV) rfl (by kernel_rfl) (by kernel_rfl) (by kernel_rfl) (fun _ _ _ h => h) (Or.inl ⟨by rfl, fun w' hS => by (try dsimp only at hS); go_simp⟩) hHeld ?_
                refine wpAnyH_take (i := 5) (v := .slice (some ⟨bj, oj, none⟩) p.nH cJ) rfl (by kernel_rfl) (by kernel_rfl) (by kernel_rfl) (fun _ _ _ h => h) (Or.inl ⟨by rfl, fun w' hS => by (try dsimp only at hS); go_simp⟩) hHeld ?_
                refine wpAnyH_take (i := 6) (v := .int .i64 h) rfl (by kernel_rfl) (by kernel_rfl) (by kernel_rfl) (fun _ _ _ h => h) (Or.inl ⟨by rfl, fun w' hS => by (try dsimp only at hS); go_simp⟩) hHeld ?_
                refine wpAnyH_take (i := 7) (v := .pointer (some ⟨bj, oj + h, none⟩)) rfl (by kernel_rfl) (by kernel_rfl) (by kernel_rfl) (fun _ _ _ h => h) (Or.inl ⟨by rfl, fun w' hS => by (try dsimp only at hS); go_simp⟩) hHeld ?_
                refine wpAnyH_take (i := 8) (v := .int .i64 (mmP p a h)) rfl (by kernel_rfl) (by kernel_rfl) (by kernel_rfl) (fun _ _ _ h => h) (Or.inl ⟨by rfl, fun w' hS => by (try dsimp only at hS); go_simp⟩) hHeld ?_
                refine wpAnyH_take (i := 11) (v := .slice (some ⟨gV, 0, none⟩) a cV) rfl (by kernel_rfl) (by kernel_rfl) (by kernel_rfl) (fun _ _ _ h => h) (Or.inl ⟨by rfl, fun w' hS => by (try dsimp only at hS); go_simp⟩) hHeld ?_
                refine wpAnyH_take (i := 12) (v := .int .i64 a) rfl (by kernel_rfl) (by kernel_rfl) (by kernel_rfl) (fun _ _ _ h => h) (Or.inl ⟨by rfl, fun w' hS => by (try dsimp only at hS); go_simp⟩) hHeld ?_
                refine wpAnyH_take (i := 13) (v := .slice (some ⟨gV, oa, none⟩) 0 (cV - a)) rfl (by kernel_rfl) (by kernel_rfl) (by kernel_rfl) (fun _ _ _ h => h) (Or.inl ⟨by rfl, fun w' hS => by (try dsimp only at hS); (rcases HOa.out with ⟨g1, g2⟩ | ⟨g1, g2⟩ <;> (rw [g2]; go_simp; try omega))⟩) hHeld ?_
                refine wpAnyH_all (rs := [0, 9]) (by kernel_rfl) (by simp) (fun i hi => ?_)
                rcases (show i = 0 ∨ i = 9 by simpa using hi) with rfl | rfl
                · refine wpOp_ofW (by rfl) (by rfl) ?_
                  go_simp
                  obtain ⟨n1, hn1⟩ : ∃ z, z = World.alloc z0 (.cells #[] 3) := ⟨_, rfl⟩
                  rw [← hn1]
                  have HBn1 := Lib.hid (show Below z0.heap.size z0 n1 by rw [hn1]; exact HBz0.out.trans ((below_box _ _).mono HBz0.out.size))
                  have HSn1 := Lib.hid (show n1.heap.size = z0.heap.size + 1 by rw [hn1]; simp)
                  have HOn1 := Lib.hid (show OwnL n1 z0.heap.size (.slice (some ⟨z0.heap.size, 0, none⟩) 0 0) [] by rw [hn1]; exact own_empty _ _ HBz0.out.size)
                  clear hn1
                  refine ⟨HK.out _ HBn1.out, ?_⟩
                  refine wpAnyH_all (rs := [4, 9]) (by kernel_rfl) (by simp) (fun i hi => ?_)
                  rcases (show i = 4 ∨ i = 9 by simpa using hi) with rfl | rfl
                  · refine wpOp_ofW (by rfl) (by rfl) ?_
                    have hI_ : Ints n1 (some ⟨gV, 0, none⟩) a (fun i => (L a).getD i 0) := ints_front (HZi.out.keep HBn1.out) hAJ
                    refine wp_gr _ _ rfl z0 _ _ rfl HOn1.out HBn1.out (some ⟨gV, 0, none⟩) a cV (fun i => (L a).getD i 0) rfl hI_ (fun e => by cases e) (by simp [lst_len]; omega) ?_
                    intro v1 n2 hO hB hG
                    have HOn2 := Lib.hid hO
                    have HBn2 := Lib.hid hB
                    clear hO hB hG hI_
                    refine ⟨HK.out _ HBn2.out, ?_⟩
                    refine wpAnyH_all (rs := [9]) (by kernel_rfl) (by simp) (fun i hi => ?_)
                    obtain rfl : i = 9 := by simpa using hi
                    refine wpOp_ofW (by rfl) (by rfl) ?_
                    go_simp
                    obtain ⟨n3, hn3⟩ : ∃ z, z = World.alloc n2 (.cells #[.int .i64 (mmP p a h)] 3) := ⟨_, rfl⟩
                    rw [← hn3]
                    have HBn3 := Lib.hid (show Below z0.heap.size z0 n3 by rw [hn3]; exact HBn2.out.trans ((below_box _ _).mono HBn2.out.size))
                    have HSn3 := Lib.hid (show n3.heap.size = n2.heap.size + 1 by rw [hn3]; simp)
                    have HCn3 := Lib.hid (show n3.cell? ⟨n2.heap.size, 0, none⟩ = some (.int .i64 (mmP p a h)) by rw [hn3]; simp [World.cell?_alloc_at])
                    have HOn3 := Lib.hid (show OwnL n3 z0.heap.size _ _ by rw [hn3]; exact HOn2.out.below (below_box _ _))
                    clear hn3
                    refine ⟨HK.out _ HBn3.out, ?_⟩
                    refine wpAnyH_all (rs := [10]) (by kernel_rfl) (by simp) (fun i hi => ?_)
                    obtain rfl : i = 10 := by simpa using hi
                    refine wpOp_ofW (by rfl) (by rfl) ?_
                    have hI_ : Ints n3 (some ⟨n2.heap.size, 0, none⟩) 1 (fun _ => mmP p a h) := (fun _ => ⟨_, 0, rfl, fun k hk => by obtain rfl : k = 0 := Nat.lt_one_iff.1 hk; exact HCn3.out⟩)
                    refine wp_gr _ _ rfl z0 _ _ rfl HOn3.out HBn3.out (some ⟨n2.heap.size, 0, none⟩) 1 1 (fun _ => mmP p a h) rfl hI_ (fun e => by cases e) (by simp [lst_len]; omega) ?_
                    intro v2 n4 hO hB hG
                    have HOn4 := Lib.hid hO
                    have HBn4 := Lib.hid hB
                    clear hO hB hG hI_
                    refine ⟨HK.out _ HBn4.out, ?_⟩
                    refine wpAnyH_all (rs := [14]) (by kernel_rfl) (by simp) (fun i hi => ?_)
                    obtain rfl : i = 14 := by simpa using hi
                    refine wpOp_ofW (by rfl) (by rfl) ?_
                    have hI_ : Ints n4 (some ⟨gV, oa, none⟩) 0 (fun i => (L a).getD (a + i) 0) := Ints.zero
                    refine wp_gr _ _ rfl z0 _ _ rfl HOn4.out HBn4.out (some ⟨gV, oa, none⟩) 0 (cV - a) (fun i => (L a).getD (a + i) 0) rfl hI_ (fun e => by cases e) (by simp [lst_len]; omega) ?_
                    intro v3 n5 hO hB hG
                    have HOn5 := Lib.hid hO
                    have HBn5 := Lib.hid hB
                    clear hO hB hG hI_
                    refine ⟨HK.out _ HBn5.out, ?_⟩
                    refine wpAnyH_take (i := 15) (v := v3) rfl (by kernel_rfl) (by kernel_rfl) (by kernel_rfl) (fun _ _ _ h => h) (Or.inl ⟨by rfl, fun w' hS => by (try dsimp only at hS); go_simp⟩) (HK.out _ HBn5.out) ?_
                    refine wpAnyH_done (by kernel_rfl) ?_ _
                    have hOe := HOn5.out
                    rw [HIns.out] at hOe
                    have HTe := Lib.hid (Two.anew HZx.out HZb.out.size HBn5.out hOe)
                    have HBe := Lib.hid (HZb.out.trans (HBn5.out.mono HZb.out.size))
                    clear hOe
                    go_wp2
                    go_roundw
                    case rel => exact ⟨a + 1, by omega, by go_num, HTe.out, HBe.out⟩
                    case measure => simp [intOf]; omega
                  · refine wpOp_ofW (by rfl) (by rfl) ?_
                    go_simp
                    obtain ⟨n6, hn6⟩ : ∃ z, z = World.alloc n1 (.cells #[.int .i64 (mmP p a h)] 3) := ⟨_, rfl⟩
                    rw [← hn6]
                    have HBn6 := Lib.hid (show Below z0.heap.size z0 n6 by rw [hn6]; exact HBn1.out.trans ((below_box _ _).mono HBn1.out.size))
                    have HSn6 := Lib.hid (show n6.heap.size = n1.heap.size + 1 by rw [hn6]; simp)
                    have HCn6 := Lib.hid (show n6.cell? ⟨n1.heap.size, 0, none⟩ = some (.int .i64 (mmP p a h)) by rw [hn6]; simp [World.cell?_alloc_at])
                    have HOn6 := Lib.hid (show OwnL n6 z0.heap.size _ _ by rw [hn6]; exact HOn1.out.below (below_box _ _))
                    clear hn6
                    refine ⟨HK.out _ HBn6.out, ?_⟩
                    refine wpAnyH_all (rs := [4]) (by kernel_rfl) (by simp) (fun i hi => ?_)
                    obtain rfl : i = 4 := by simpa using hi
                    refine wpOp_ofW (by rfl) (by rfl) ?_
                    have hI_ : Ints n6 (some ⟨gV, 0, none⟩) a (fun i => (L a).getD i 0) := ints_front (HZi.out.keep HBn6.out) hAJ
                    refine wp_gr _ _ rfl z0 _ _ rfl HOn6.out HBn6.out (some ⟨gV, 0, none⟩) a cV (fun i => (L a).getD i 0) rfl hI_ (fun e => by cases e) (by simp [lst_len]; omega) ?_
                    intro v1 n7 hO hB hG
                    have HOn7 := Lib.hid hO
                    have HBn7 := Lib.hid hB
                    have HCn7 := Lib.hid (grown_cell hG HCn6.out (fun e => by have e2 : z0.heap.size = n1.heap.size := Option.some.inj e; have := HSn1.out; have := HSn6.out; omega))
                    clear hO hB hG hI_
                    refine ⟨HK.out _ HBn7.out, ?_⟩
                    refine wpAnyH_all (rs := [10]) (by kernel_rfl) (by simp) (fun i hi => ?_)
                    obtain rfl : i = 10 := by simpa using hi
                    refine wpOp_ofW (by rfl) (by rfl) ?_
                    have hI_ : Ints n7 (some ⟨n1.heap.size, 0, none⟩) 1 (fun _ => mmP p a h) := (fun _ => ⟨_, 0, rfl, fun k hk => by obtain rfl : k = 0 := Nat.lt_one_iff.1 hk; exact HCn7.out⟩)
                    refine wp_gr _ _ rfl z0 _ _ rfl HOn7.out HBn7.out (some ⟨n1.heap.size, 0, none⟩) 1 1 (fun _ => mmP p a h) rfl hI_ (fun e => by cases e) (by simp [lst_len]; omega) ?_
                    intro v2 n8 hO hB hG
                    have HOn8 := Lib.hid hO
                    have HBn8 := Lib.hid hB
                    clear hO hB hG hI_
                    refine ⟨HK.out _ HBn8.out, ?_⟩
                    refine wpAnyH_all (rs := [14]) (by kernel_rfl) (by simp) (fun i hi => ?_)
                    obtain rfl : i = 14 := by simpa using hi
                    refine wpOp_ofW (by rfl) (by rfl) ?_
                    have hI_ : Ints n8 (some ⟨gV, oa, none⟩) 0 (fun i => (L a).getD (a + i) 0) := Ints.zero
                    refine wp_gr _ _ rfl z0 _ _ rfl HOn8.out HBn8.out (some ⟨gV, oa, none⟩) 0 (cV - a) (fun i => (L a).getD (a + i) 0) rfl hI_ (fun e => by cases e) (by simp [lst_len]; omega) ?_
                    intro v3 n9 hO hB hG
                    have HOn9 := Lib.hid hO
                    have HBn9 := Lib.hid hB
                    clear hO hB hG hI_
                    refine ⟨HK.out _ HBn9.out, ?_⟩
                    refine wpAnyH_take (i := 15) (v := v3) rfl (by kernel_rfl) (by kernel_rfl) (by kernel_rfl) (fun _ _ _ h => h) (Or.inl ⟨by rfl, fun w' hS => by (try dsimp only at hS); go_simp⟩) (HK.out _ HBn9.out) ?_
                    refine wpAnyH_done (by kernel_rfl) ?_ _
                    have hOe := HOn9.out
                    rw [HIns.out] at hOe
                    have HTe := Lib.hid (Two.anew HZx.out HZb.out.size HBn9.out hOe)
                    have HBe := Lib.hid (HZb.out.trans (HBn9.out.mono HZb.out.size))
                    clear hOe
                    go_wp2
                    go_roundw
                    case rel => exact ⟨a + 1, by omega, by go_num, HTe.out, HBe.out⟩
                    case measure => simp [intOf]; omega
                · refine wpOp_ofW (by rfl) (by rfl) ?_
                  go_simp
                  obtain ⟨n10, hn10⟩ : ∃ z, z = World.alloc z0 (.cells #[.int .i64 (mmP p a h)] 3) := ⟨_, rfl⟩
                  rw [← hn10]
                  have HBn10 := Lib.hid (show Below z0.heap.size z0 n10 by rw [hn10]; exact HBz0.out.trans ((below_box _ _).mono HBz0.out.size))
                  have HSn10 := Lib.hid (show n10.heap.size = z0.heap.size + 1 by rw [hn10]; simp)
                  have HCn10 := Lib.hid (show n10.cell? ⟨z0.heap.size, 0, none⟩ = some (.int .i64 (mmP p a h)) by rw [hn10]; simp [World.cell?_alloc_at])
                  clear hn10
                  refine ⟨HK.out _ HBn10.out, ?_⟩
                  refine wpAnyH_all (rs := [0]) (by kernel_rfl) (by simp) (fun i hi => ?_)
                  obtain rfl : i = 0 := by simpa using hi
                  refine wpOp_ofW (by rfl) (by rfl) ?_
                  go_simp
                  obtain ⟨n11, hn11⟩ : ∃ z, z = World.alloc n10 (.cells #[] 3) := ⟨_, rfl⟩
                  rw [← hn11]
                  have HBn11 := Lib.hid (show Below z0.heap.size z0 n11 by rw [hn11]; exact HBn10.out.trans ((below_box _ _).mono HBn10.out.size))
                  have HSn11 := Lib.hid (show n11.heap.size = n10.heap.size + 1 by rw [hn11]; simp)
                  have HOn11 := Lib.hid (show OwnL n11 z0.heap.size (.slice (some ⟨n10.heap.size, 0, none⟩) 0 0) [] by rw [hn11]; exact own_empty _ _ HBn10.out.size)
                  have HCn11 := Lib.hid (show n11.cell? ⟨z0.heap.size, 0, none⟩ = some (.int .i64 (mmP p a h)) by rw [hn11]; exact old_cell HCn10.out (below_box _ _))
                  clear hn11
                  refine ⟨HK.out _ HBn11.out, ?_⟩
                  refine wpAnyH_all (rs := [4]) (by kernel_rfl) (by simp) (fun i hi => ?_)
                  obtain rfl : i = 4 := by simpa using hi
                  refine wpOp_ofW (by rfl) (by rfl) ?_
                  have hI_ : Ints n11 (some ⟨gV, 0, none⟩) a (fun i => (L a).getD i 0) := ints_front (HZi.out.keep HBn11.out) hAJ
                  refine wp_gr _ _ rfl z0 _ _ rfl HOn11.out HBn11.out (some ⟨gV, 0, none⟩) a cV (fun i => (L a).getD i 0) rfl hI_ (fun e => by cases e) (by simp [lst_len]; omega) ?_
                  intro v1 n12 hO hB hG
                  have HOn12 := Lib.hid hO
                  have HBn12 := Lib.hid hB
                  have HCn12 := Lib.hid (grown_cell hG HCn11.out (fun e => by have e2 : n10.heap.size = z0.heap.size := Option.some.inj e; have := HSn10.out; have := HSn11.out; omega))
                  clear hO hB hG hI_
                  refine ⟨HK.out _ HBn12.out, ?_⟩
                  refine wpAnyH_all (rs := [10]) (by kernel_rfl) (by simp) (fun i hi => ?_)
                  obtain rfl : i = 10 := by simpa using hi
                  refine wpOp_ofW (by rfl) (by rfl) ?_
                  have hI_ : Ints n12 (some ⟨z0.heap.size, 0, none⟩) 1 (fun _ => mmP p a h) := (fun _ => ⟨_, 0, rfl, fun k hk => by obtain rfl : k = 0 := Nat.lt_one_iff.1 hk; exact HCn12.out⟩)
                  refine wp_gr _ _ rfl z0 _ _ rfl HOn12.out HBn12.out (some ⟨z0.heap.size, 0, none⟩) 1 1 (fun _ => mmP p a h) rfl hI_ (fun e => by cases e) (by simp [lst_len]; omega) ?_
                  intro v2 n13 hO hB hG
                  have HOn13 := Lib.hid hO
                  have HBn13 := Lib.hid hB
                  clear hO hB hG hI_
                  refine ⟨HK.out _ HBn13.out, ?_⟩
                  refine wpAnyH_all (rs := [14]) (by kernel_rfl) (by simp) (fun i hi => ?_)
                  obtain rfl : i = 14 := by simpa using hi
                  refine wpOp_ofW (by rfl) (by rfl) ?_
                  have hI_ : Ints n13 (some ⟨gV, oa, none⟩) 0 (fun i => (L a).getD (a + i) 0) := Ints.zero
                  refine wp_gr _ _ rfl z0 _ _ rfl HOn13.out HBn13.out (some ⟨gV, oa, none⟩) 0 (cV - a) (fun i => (L a).getD (a + i) 0) rfl hI_ (fun e => by cases e) (by simp [lst_len]; omega) ?_
                  intro v3 n14 hO hB hG
                  have HOn14 := Lib.hid hO
                  have HBn14 := Lib.hid hB
                  clear hO hB hG hI_
                  refine ⟨HK.out _ HBn14.out, ?_⟩
                  refine wpAnyH_take (i := 15) (v := v3) rfl (by kernel_rfl) (by kernel_rfl) (by kernel_rfl) (fun _ _ _ h => h) (Or.inl ⟨by rfl, fun w' hS => by (try dsimp only at hS); go_simp⟩) (HK.out _ HBn14.out) ?_
                  refine wpAnyH_done (by kernel_rfl) ?_ _
                  have hOe := HOn14.out
                  rw [HIns.out] at hOe
                  have HTe := Lib.hid (Two.anew HZx.out HZb.out.size HBn14.out hOe)
                  have HBe := Lib.hid (HZb.out.trans (HBn14.out.mono HZb.out.size))
                  clear hOe
                  go_wp2
                  go_roundw
                  case rel => exact ⟨a + 1, by omega, by go_num, HTe.out, HBe.out⟩
                  case measure => simp [intOf]; omega
        · obtain rfl : j = kP p := by omega
          have hki : (k : Int) < (kP p : Nat) := by omega
          have hk0 : (0 : Int) ≤ k := by omega
          obtain ⟨bv, ov, rfl, cv⟩ := HIV.out.at hk
          rw [HMid.out] at cv
          have hKm : wrap64 (K - 1) = (k : Int) := by rw [HK.out]; unfold wrap64; omega
          have hz3 : w0.heap.size ≤ wr.heap.size := Hbel2.out.size
          have HSu : Hid (lst (h + 1) (midG p k) = lst h (midG p k) ++ [midG p k h]) := Lib.hid (lst_succ _ _)
          have HTu := Lib.hid (HT.out.below (below_box wr (.cells #[.int .i64 (midG p k h)] 3)))
          have HBl := Lib.hid (Hbel2.out.trans ((below_box wr (.cells #[.int .i64 (midG p k h)] 3)).mono Hbel2.out.size))
          generalize midG p k h = v at *
          go_wp2_with (at_builtin; go_loud (refine wpList_append_way rfl _ _ rfl w0.heap.size _ _ rfl HTu.out.ox ⟨wr.heap.size, 0, none⟩ rfl v (by simp [World.cell?_alloc_at]) (by rw [lst_len]; omega) HBl.out.size ?_))
          intro g1 cap1 v1 hO hk2
          obtain ⟨hT, hb⟩ := Two.push HTu.out HBl.out.size hO (by rw [World.size_alloc]; exact hk2)
          have HOv := Lib.hid hT.ox
          have HBv := Lib.hid (HBl.out.trans hb)
          clear hO hk2 hT hb HTu HBl cv
          go_wp2
          go_roundw
          case rel => exact ⟨h + 1, by omega, by go_num, by rw [HSu.out]; exact HOv.out, HBv.out⟩
          case measure => simp [intOf]; omega
    · obtain rfl : h = p.nH := by omega
      go_wp2
      go_ret
      obtain ⟨A, c, rfl, -, hI, -⟩ := OwnL.form HOwn.out
      rw [lst_len] at hI ⊢
      exact ⟨A, c, rfl, hI.congr (fun q hq => lst_getD _ _ _ hq), Hbw.out.trans (Hbel.out.mono Hbw.out.size)⟩
end Go.Proofs.Ytiigcjcolpmafaa

