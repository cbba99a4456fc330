/- A part of the proof: TurnsJoinsz. -/
import Derived.Test.YtiigcjcolpmafaaTxz
import Derived.Test.YtiigcjcolpmafaaAwz
namespace Go.Proofs.Ytiigcjcolpmafaa
open Go.RowKit

section
variable {p : PlanD}
theorem few_n (hok : okPlan p = true) : (fewP p).nH = p.nH ∧ (fewP p).nS = p.nS ∧ (∀ h, h < p.nH → (fewP p).LH h = p.LH h) ∧ ∀ s, s < p.nS → (fewP p).LS s = p.LS s := by
  obtain ⟨⟨h1, h2, h3, h4, h5⟩, -, h7, h8⟩ := okPlan_of hok
  refine ⟨?_, ?_, fun h hh => ?_, fun s hs => ?_⟩
  · show min p.nH 8 = p.nH; omega
  · show min p.nS 8 = p.nS; omega
  · have := (h7 h hh).1
    show min (p.LH h) 9 = p.LH h
    omega
  · have := (h8 s hs).1
    show min (p.LS s) 9 = p.LS s
    omega
theorem poss_few (hok : okPlan p = true) {h : Nat} (hh : h < p.nH) (s : Int) : possB (fewP p) h s = possB p h s := by
  obtain ⟨e1, e2, e3, e4⟩ := few_n hok
  obtain ⟨-, -, h7, -⟩ := okPlan_of hok
  unfold possB
  rw [e3 h hh]
  by_cases hx : 0 ≤ idxI (p.vH h) s (p.LH h)
  · have := (h7 h hh).rng hx
    rw [e4 s.toNat (by omega)]
    rfl
  · rw [show (fewP p).vH = p.vH from rfl, decide_eq_false hx, Bool.false_and, Bool.false_and]
theorem okMat_few (p : PlanD) (n : Nat) (m : Nat → Int) : okMat (fewP p) (min n 9) m = okMat p n m := by
  unfold okMat
  rw [okPlan_few]
  cases hok : okPlan p with
  | false => rfl
  | true =>
    obtain ⟨e1, e2, e3, e4⟩ := few_n hok
    obtain ⟨⟨h1, h2, -, -, -⟩, -, -, -⟩ := okPlan_of hok
    rw [e1, allB_congr (q := matP p m) (fun h hh => by
      unfold matP
      rw [poss_few hok hh, e1]
      rfl)]
    congr 1
    congr 1
    rw [decide_eq_decide]
    omega
theorem blk_few (hok : okPlan p = true) (m : Nat → Int) {h s : Nat} (hh : h < p.nH) (hs : s < p.nS) : blkB (fewP p) m h s = blkB p m h s := by
  obtain ⟨e1, e2, e3, e4⟩ := few_n hok
  unfold blkB
  rw [poss_few hok hh, e1, e3 h hh]
  congr 2
  refine anyB_congr (fun x _ => ?_)
  unfold lessP
  rw [e4 s hs]
  rfl
theorem stab_few (hok : okPlan p = true) (m : Nat → Int) : stabB (fewP p) m = stabB p m := by
  obtain ⟨e1, e2, e3, e4⟩ := few_n hok
  unfold stabB
  rw [e1, e2]
  exact allB_congr (fun h hh => allB_congr (fun s hs => by rw [blk_few hok m hh hs]))
end
theorem two_ok (AH AS AP DA DB : Option Addr) (cH cS cP na nb ca cb k : Nat) (K : Int) (p : PlanD) (a b mid : Nat → Int) (w : World) (hp : PlanIn w AH AS AP p) (ha : Ints w DA na a) (hb : Ints w DB nb b) (hna : na = p.nH) (hnb : nb = p.nH) (h1 : okMat p na a = true) (h2 : okMat p nb b = true) (h3 : stabB p a = true) (h4 : stabB p b = true) (hk : k < 2) (hK : K = ((k + 1 : Nat) : Int))
    (hmid : ∀ h, h < p.nH → ∀ F : Nat → Int, (lst 2 F).Perm (lst 2 (fun j => two a b j h)) → Srt (rkI (p.vH h) (p.LH h)) F 2 → F k = mid h) :
    Calls Try.prog 66 #[.agg #[.slice AH p.nH cH, .slice AS p.nS cS, .slice AP p.nP cP], .int .i64 K, .slice DA na ca, .slice DB nb cb] w fun e w' => ∃ g, e = .returned (.tuple #[.slice (some ⟨g, 0, none⟩) p.nH p.nH, .int .i64 0]) ∧ RowI w' g p.nH mid ∧ Below w.heap.size w w' := by
  subst hna hnb hK
  exact ofTwo_ok AH AS AP DA DB cH cS cP ca cb k p a b mid w hp ha hb h1 h2 h3 h4 hk hmid
theorem Lr.pair {f : FuncId} {args : Array Value} {w : World} {x y : Value} (h : Lr f args w (.tuple #[x, y])) : Calls Try.prog f args w fun e w' => ∃ u v, e = .returned (.tuple #[u, v]) ∧ Value.tuple #[u, v] = .tuple #[x, y] ∧ Below w.heap.size w w' :=
  h.mono fun _ _ ⟨he, hb⟩ => ⟨x, y, he, rfl, hb⟩
theorem tie_eq {p : PlanD} {h : Nat} {x y : Int} (hok : okPlan p = true) (hh : h < p.nH) (hx : x = -1 ∨ 0 ≤ idxI (p.vH h) x (p.LH h)) (hy : y = -1 ∨ 0 ≤ idxI (p.vH h) y (p.LH h)) (e : rkI (p.vH h) (p.LH h) x = rkI (p.vH h) (p.LH h) y) : x = y := by
  have hn := none_not hok hh
  rcases hx with rfl | hx
  · rcases hy with rfl | hy
    · rfl
    · have := rkI_listed hy
      have := idxI_bd (p.vH h) y (p.LH h)
      omega
  · rcases hy with rfl | hy
    · have := rkI_listed hx
      have := idxI_bd (p.vH h) x (p.LH h)
      omega
    · exact rkI_inj hx hy e
theorem two_cases {a b : Nat → Int} {h : Nat} {F : Nat → Int} (hp : (lst 2 F).Perm (lst 2 (fun j => two a b j h))) : (F 0 = a h ∧ F 1 = b h) ∨ (F 0 = b h ∧ F 1 = a h) := by
  have e1 : lst 2 F = [F 0, F 1] := rfl
  have e2 : lst 2 (fun j => two a b j h) = [a h, b h] := rfl
  rw [e1, e2] at hp
  have m0 : F 0 ∈ [a h, b h] := hp.mem_iff.1 (by simp)
  have h1 : a h ∈ [F 0, F 1] := hp.mem_iff.2 (by simp)
  have h2 : b h ∈ [F 0, F 1] := hp.mem_iff.2 (by simp)
  have m1 : F 1 ∈ [a h, b h] := hp.mem_iff.1 (by simp)
  simp only [List.mem_cons, List.not_mem_nil, or_false] at m0 m1 h1 h2
  rcases m0 with e | e
  · rcases m1 with e' | e'
    · have : b h = F 0 ∨ b h = F 1 := h2
      refine .inl ⟨e, ?_⟩
      rcases this with t | t
      · rw [e', t, e]
      · exact t.symm
    · exact .inl ⟨e, e'⟩
  · rcases m1 with e' | e'
    · exact .inr ⟨e, e'⟩
    · have : a h = F 0 ∨ a h = F 1 := h1
      refine .inr ⟨e, ?_⟩
      rcases this with t | t
      · rw [e', t, e]
      · exact t.symm
theorem mid_jn {p : PlanD} {a b : Nat → Int} {h : Nat} (hok : okPlan p = true) (hh : h < p.nH) (hx : Has p a) (hy : Has p b) (F : Nat → Int) (hp : (lst 2 F).Perm (lst 2 (fun j => two a b j h))) (hs : Srt (rkI (p.vH h) (p.LH h)) F 2) : F 0 = jnF p a b h ∧ F 1 = mtF p a b h := by
  have h01 := hs 0 1 (by omega) (by omega)
  unfold jnF mtF
  rcases two_cases hp with ⟨e0, e1⟩ | ⟨e0, e1⟩
  · rw [e0, e1] at h01
    rw [if_neg (by omega), if_neg (by omega)]
    exact ⟨e0, e1⟩
  · rw [e0, e1] at h01
    by_cases hl : rkI (p.vH h) (p.LH h) (b h) < rkI (p.vH h) (p.LH h) (a h)
    · rw [if_pos hl, if_pos hl]
      exact ⟨e0, e1⟩
    · rw [if_neg hl, if_neg hl]
      have := tie_eq hok hh (hx h hh) (hy h hh) (by omega)
      rw [e0, e1, this]
      exact ⟨rfl, rfl⟩
theorem jn_few {p : PlanD} {a b : Nat → Int} {h : Nat} (hok : okPlan p = true) (hh : h < p.nH) : jnF (fewP p) a b h = jnF p a b h ∧ mtF (fewP p) a b h = mtF p a b h := by
  obtain ⟨e1, e2, e3, e4⟩ := few_n hok
  unfold jnF mtF
  rw [e3 h hh]
  exact ⟨rfl, rfl⟩

set_option maxHeartbeats 4000000 in
set_option maxRecDepth 1000000 in
theorem turnsJoins_arg (AH AS AP DA DB : Option Addr) (cH cS cP na ca nb cb : Nat) (p : PlanD) (a b : Nat → Int) (w : World) (hp : PlanArg w AH AS AP cH cS cP p) (ha : ArgI w DA na ca a) (hb : ArgI w DB nb cb b) (hbad : (okMat (fewP p) (min na 9) a && okMat (fewP p) (min nb 9) b) = false) :
    Calls Try.prog 14 #[.agg #[.slice AH p.nH cH, .slice AS p.nS cS, .slice AP p.nP cP], .slice DA na ca, .slice DB nb cb] w fun e w' => e = .returned (.bool true) ∧ Below w.heap.size w w' := by
  have Hb0 := Lib.hid (below_box w (.cells #[.slice AH p.nH cH, .slice AS p.nS cS, .slice AP p.nP cP] 25))
  have HB0 := Lib.hid (BoxP.newR w AH AS AP p.nH p.nS p.nP cH cS cP)
  have HP := Lib.hid hp
  have HA := Lib.hid ha
  have HB := Lib.hid hb
  have Hm1 := Lib.hid (okMat_few p na a)
  have Hm2 := Lib.hid (okMat_few p nb b)
  have HBad := Lib.hid hbad
  clear hbad
  clear hp ha hb
  go_enter Try.func14, Try.ntmps14
  go_wp2_with fail
  refine (of_any AH AS AP cH cS cP p _ (HP.out.keep Hb0.out)).mono ?_
  rintro e w1 ⟨BH, dH, BS, dS, BP, dP, rfl, hpl, hb1⟩
  have Hb1 := Lib.hid (Hb0.out.trans (hb1.mono Hb0.out.size))
  have HPl1 := Lib.hid hpl
  have HBx1 := Lib.hid (HB0.out.keep hb1)
  clear hpl hb1
  go_wp2_with fail
  refine (list_any DA na ca a _ (HA.out.below Hb1.out)).mono ?_
  rintro e w2 ⟨x1, rfl, hx1, hb2⟩
  obtain ⟨A1, c1, rfl, hI1⟩ := hx1.shp (lst_len _ _)
  have HI1 := Lib.hid (hI1.congr (g := a) (fun q hq => lst_getD _ _ _ hq))
  have Hb2 := Lib.hid (Hb1.out.trans (hb2.mono Hb1.out.size))
  have HPl2 := Lib.hid (HPl1.out.keep hb2)
  have HBx2 := Lib.hid (HBx1.out.keep hb2)
  clear hI1 hx1 hb2
  go_wp2_with fail
  refine (list_any DB nb cb b _ (HB.out.below Hb2.out)).mono ?_
  rintro e w3 ⟨x2, rfl, hx2, hb3⟩
  obtain ⟨A2, c2, rfl, hI2⟩ := hx2.shp (lst_len _ _)
  have HI2 := Lib.hid (hI2.congr (g := b) (fun q hq => lst_getD _ _ _ hq))
  have HI1b := Lib.hid (HI1.out.keep hb3)
  have Hb3 := Lib.hid (Hb2.out.trans (hb3.mono Hb2.out.size))
  have HPl3 := Lib.hid (HPl2.out.keep hb3)
  have HBx3 := Lib.hid (HBx2.out.keep hb3)
  clear hI2 hx2 hb3
  go_wp2_with fail
  refine (Join_any BH BS BP A1 A2 dH dS dP (min na 9) c1 (min nb 9) c2 (fewP p) (fun v _ => v = .tuple #[.slice none 0 0, .int .i64 2]) _ (fun w' hb' => Lr.pair (ofTwo_arg BH BS BP A1 A2 dH dS dP (min na 9) c1 (min nb 9) c2 1 (fewP p) a b w' (HPl3.out.keep hb') (HI1b.out.keep hb') (HI2.out.keep hb') (Nat.min_le_right _ _) (Nat.min_le_right _ _) HBad.out))).mono ?_
  rintro e w4 ⟨v4, rfl, hR4, hb4⟩
  have Hb4 := Lib.hid (Hb3.out.trans (hb4.mono Hb3.out.size))
  have HBx4 := Lib.hid (HBx3.out.keep hb4)
  obtain ⟨q0, q1, q2⟩ := HBx4.out
  subst hR4
  clear hb4
  go_wp2_with fail
  refine (of_any AH AS AP cH cS cP p _ (HP.out.keep Hb4.out)).mono ?_
  rintro e w5 ⟨CH, fH, CS, fS, CP, fP, rfl, hpl, hb5⟩
  have Hb5 := Lib.hid (Hb4.out.trans (hb5.mono Hb4.out.size))
  have HPl5 := Lib.hid hpl
  have HBx5 := Lib.hid (HBx4.out.keep hb5)
  clear hpl hb5 q0 q1 q2
  go_wp2_with fail
  refine (list_any DA na ca a _ (HA.out.below Hb5.out)).mono ?_
  rintro e w6 ⟨x6, rfl, hx6, hb6⟩
  obtain ⟨A6, c6, rfl, hI6⟩ := hx6.shp (lst_len _ _)
  have HI6 := Lib.hid (hI6.congr (g := a) (fun q hq => lst_getD _ _ _ hq))
  have Hb6 := Lib.hid (Hb5.out.trans (hb6.mono Hb5.out.size))
  have HPl6 := Lib.hid (HPl5.out.keep hb6)
  have HBx6 := Lib.hid (HBx5.out.keep hb6)
  clear hI6 hx6 hb6
  go_wp2_with fail
  refine (list_any DB nb cb b _ (HB.out.below Hb6.out)).mono ?_
  rintro e w7 ⟨x7, rfl, hx7, hb7⟩
  obtain ⟨A7, c7, rfl, hI7⟩ := hx7.shp (lst_len _ _)
  have HI7 := Lib.hid (hI7.congr (g := b) (fun q hq => lst_getD _ _ _ hq))
  have HI6b := Lib.hid (HI6.out.keep hb7)
  have Hb7 := Lib.hid (Hb6.out.trans (hb7.mono Hb6.out.size))
  have HPl7 := Lib.hid (HPl6.out.keep hb7)
  have HBx7 := Lib.hid (HBx6.out.keep hb7)
  clear hI7 hx7 hb7
  go_wp2_with fail
  refine (Meet_any CH CS CP A6 A7 fH fS fP (min na 9) c6 (min nb 9) c7 (fewP p) (fun v _ => v = .tuple #[.slice none 0 0, .int .i64 2]) _ (fun w' hb' => Lr.pair (ofTwo_arg CH CS CP A6 A7 fH fS fP (min na 9) c6 (min nb 9) c7 2 (fewP p) a b w' (HPl7.out.keep hb') (HI6b.out.keep hb') (HI7.out.keep hb') (Nat.min_le_right _ _) (Nat.min_le_right _ _) HBad.out))).mono ?_
  rintro e w8 ⟨v8, rfl, hR8, hb8⟩
  have Hb8 := Lib.hid (Hb7.out.trans (hb8.mono Hb7.out.size))
  have HBx8 := Lib.hid (HBx7.out.keep hb8)
  obtain ⟨q0, q1, q2⟩ := HBx8.out
  subst hR8
  clear hb8
  have HV := Lib.hid (rValid_any AH AS AP cH cS cP p w8 (HP.out.keep Hb8.out))
  go_wp2_with fail
  refine Lr.use HV.out ?_
  intro w9 hb9
  have Hb9 := Lib.hid (Hb8.out.trans (hb9.mono Hb8.out.size))
  have HBx9 := Lib.hid (HBx8.out.keep hb9)
  clear hb9 q0 q1 q2
  cases hok : okPlan p with
  | false =>
    clear hok
    go_wp2_with fail
    refine (awake_any _).mono ?_
    rintro e wz ⟨rfl, hbz⟩
    have Hbz := Lib.hid (Hb9.out.trans (hbz.mono Hb9.out.size))
    clear hbz
    go_wp2
    go_ret
    exact ⟨rfl, Hbz.out⟩
  | true =>
    obtain ⟨q0, q1, q2⟩ := HBx9.out
    have HM1 := Lib.hid (rMatching_any AH AS AP DA cH cS cP na ca p a w9 (HP.out.keep Hb9.out) (HA.out.below Hb9.out) hok)
    have HM2 : Hid (∀ w' : World, Below w.heap.size w w' → Lr 44 #[.agg #[.slice AH p.nH cH, .slice AS p.nS cS, .slice AP p.nP cP], .slice DB nb cb] w' (.bool (okMat p nb b))) := Lib.hid (fun w' h => rMatching_any AH AS AP DB cH cS cP nb cb p b w' (HP.out.keep h) (HB.out.below h) hok)
    have hbad := HBad.out
    rw [Hm1.out, Hm2.out] at hbad
    clear hok
    generalize okMat p na a = x at *
    generalize okMat p nb b = y at *
    go_wp2_with fail
    refine Lr.use HM1.out ?_
    intro w10 hb10
    have Hb10 := Lib.hid (Hb9.out.trans (hb10.mono Hb9.out.size))
    have HBx10 := Lib.hid (HBx9.out.keep hb10)
    clear hb10 q0 q1 q2
    cases x with
    | false =>
      go_wp2_with fail
      refine (awake_any _).mono ?_
      rintro e wz ⟨rfl, hbz⟩
      have Hbz := Lib.hid (Hb10.out.trans (hbz.mono Hb10.out.size))
      clear hbz
      go_wp2
      go_ret
      exact ⟨rfl, Hbz.out⟩
    | true =>
      obtain rfl : y = false := by simpa using hbad
      obtain ⟨q0, q1, q2⟩ := HBx10.out
      go_wp2_with fail
      refine Lr.use (HM2.out w10 Hb10.out) ?_
      intro w11 hb11
      have Hb11 := Lib.hid (Hb10.out.trans (hb11.mono Hb10.out.size))
      clear hb11 q0 q1 q2
      go_wp2_with fail
      refine (awake_any _).mono ?_
      rintro e wz ⟨rfl, hbz⟩
      have Hbz := Lib.hid (Hb11.out.trans (hbz.mono Hb11.out.size))
      clear hbz
      go_wp2
      go_ret
      exact ⟨rfl, Hbz.out⟩

set_option maxHeartbeats 4000000 in
set_option maxRecDepth 1000000 in
theorem turnsJoins_state (AH AS AP DA DB : Option Addr) (cH cS cP na ca nb cb : Nat) (p : PlanD) (a b : Nat → Int) (w : World) (hp : PlanArg w AH AS AP cH cS cP p) (ha : ArgI w DA na ca a) (hb : ArgI w DB nb cb b) (hok : okPlan p = true) (h1 : okMat p na a = true) (h2 : okMat p nb b = true) (hbad : (stabB (fewP p) a && stabB (fewP p) b) = false) :
    Calls Try.prog 14 #[.agg #[.slice AH p.nH cH, .slice AS p.nS cS, .slice AP p.nP cP], .slice DA na ca, .slice DB nb cb] w fun e w' => e = .returned (.bool true) ∧ Below w.heap.size w w' := by
  have Hb0 := Lib.hid (below_box w (.cells #[.slice AH p.nH cH, .slice AS p.nS cS, .slice AP p.nP cP] 25))
  have HB0 := Lib.hid (BoxP.newR w AH AS AP p.nH p.nS p.nP cH cS cP)
  have HP := Lib.hid hp
  have HA := Lib.hid ha
  have HB := Lib.hid hb
  have Hm1 := Lib.hid (okMat_few p na a)
  have Hm2 := Lib.hid (okMat_few p nb b)
  have HBad := Lib.hid hbad
  have HOk := Lib.hid hok
  have H1 := Lib.hid h1
  have H2 := Lib.hid h2
  clear hbad hok h1 h2
  clear hp ha hb
  go_enter Try.func14, Try.ntmps14
  go_wp2_with fail
  refine (of_any AH AS AP cH cS cP p _ (HP.out.keep Hb0.out)).mono ?_
  rintro e w1 ⟨BH, dH, BS, dS, BP, dP, rfl, hpl, hb1⟩
  have Hb1 := Lib.hid (Hb0.out.trans (hb1.mono Hb0.out.size))
  have HPl1 := Lib.hid hpl
  have HBx1 := Lib.hid (HB0.out.keep hb1)
  clear hpl hb1
  go_wp2_with fail
  refine (list_any DA na ca a _ (HA.out.below Hb1.out)).mono ?_
  rintro e w2 ⟨x1, rfl, hx1, hb2⟩
  obtain ⟨A1, c1, rfl, hI1⟩ := hx1.shp (lst_len _ _)
  have HI1 := Lib.hid (hI1.congr (g := a) (fun q hq => lst_getD _ _ _ hq))
  have Hb2 := Lib.hid (Hb1.out.trans (hb2.mono Hb1.out.size))
  have HPl2 := Lib.hid (HPl1.out.keep hb2)
  have HBx2 := Lib.hid (HBx1.out.keep hb2)
  clear hI1 hx1 hb2
  go_wp2_with fail
  refine (list_any DB nb cb b _ (HB.out.below Hb2.out)).mono ?_
  rintro e w3 ⟨x2, rfl, hx2, hb3⟩
  obtain ⟨A2, c2, rfl, hI2⟩ := hx2.shp (lst_len _ _)
  have HI2 := Lib.hid (hI2.congr (g := b) (fun q hq => lst_getD _ _ _ hq))
  have HI1b := Lib.hid (HI1.out.keep hb3)
  have Hb3 := Lib.hid (Hb2.out.trans (hb3.mono Hb2.out.size))
  have HPl3 := Lib.hid (HPl2.out.keep hb3)
  have HBx3 := Lib.hid (HBx2.out.keep hb3)
  clear hI2 hx2 hb3
  go_wp2_with fail
  refine (Join_any BH BS BP A1 A2 dH dS dP (min na 9) c1 (min nb 9) c2 (fewP p) (fun v _ => v = .tuple #[.slice none 0 0, .int .i64 5]) _ (fun w' hb' => Lr.pair (ofTwo_state BH BS BP A1 A2 dH dS dP (min na 9) c1 (min nb 9) c2 1 (fewP p) a b w' (HPl3.out.keep hb') (HI1b.out.keep hb') (HI2.out.keep hb') (Nat.min_le_right _ _) (Nat.min_le_right _ _) (Hm1.out.trans H1.out) (Hm2.out.trans H2.out) HBad.out))).mono ?_
  rintro e w4 ⟨v4, rfl, hR4, hb4⟩
  have Hb4 := Lib.hid (Hb3.out.trans (hb4.mono Hb3.out.size))
  have HBx4 := Lib.hid (HBx3.out.keep hb4)
  obtain ⟨q0, q1, q2⟩ := HBx4.out
  subst hR4
  clear hb4
  go_wp2_with fail
  refine (of_any AH AS AP cH cS cP p _ (HP.out.keep Hb4.out)).mono ?_
  rintro e w5 ⟨CH, fH, CS, fS, CP, fP, rfl, hpl, hb5⟩
  have Hb5 := Lib.hid (Hb4.out.trans (hb5.mono Hb4.out.size))
  have HPl5 := Lib.hid hpl
  have HBx5 := Lib.hid (HBx4.out.keep hb5)
  clear hpl hb5 q0 q1 q2
  go_wp2_with fail
  refine (list_any DA na ca a _ (HA.out.below Hb5.out)).mono ?_
  rintro e w6 ⟨x6, rfl, hx6, hb6⟩
  obtain ⟨A6, c6, rfl, hI6⟩ := hx6.shp (lst_len _ _)
  have HI6 := Lib.hid (hI6.congr (g := a) (fun q hq => lst_getD _ _ _ hq))
  have Hb6 := Lib.hid (Hb5.out.trans (hb6.mono Hb5.out.size))
  have HPl6 := Lib.hid (HPl5.out.keep hb6)
  have HBx6 := Lib.hid (HBx5.out.keep hb6)
  clear hI6 hx6 hb6
  go_wp2_with fail
  refine (list_any DB nb cb b _ (HB.out.below Hb6.out)).mono ?_
  rintro e w7 ⟨x7, rfl, hx7, hb7⟩
  obtain ⟨A7, c7, rfl, hI7⟩ := hx7.shp (lst_len _ _)
  have HI7 := Lib.hid (hI7.congr (g := b) (fun q hq => lst_getD _ _ _ hq))
  have HI6b := Lib.hid (HI6.out.keep hb7)
  have Hb7 := Lib.hid (Hb6.out.trans (hb7.mono Hb6.out.size))
  have HPl7 := Lib.hid (HPl6.out.keep hb7)
  have HBx7 := Lib.hid (HBx6.out.keep hb7)
  clear hI7 hx7 hb7
  go_wp2_with fail
  refine (Meet_any CH CS CP A6 A7 fH fS fP (min na 9) c6 (min nb 9) c7 (fewP p) (fun v _ => v = .tuple #[.slice none 0 0, .int .i64 5]) _ (fun w' hb' => Lr.pair (ofTwo_state CH CS CP A6 A7 fH fS fP (min na 9) c6 (min nb 9) c7 2 (fewP p) a b w' (HPl7.out.keep hb') (HI6b.out.keep hb') (HI7.out.keep hb') (Nat.min_le_right _ _) (Nat.min_le_right _ _) (Hm1.out.trans H1.out) (Hm2.out.trans H2.out) HBad.out))).mono ?_
  rintro e w8 ⟨v8, rfl, hR8, hb8⟩
  have Hb8 := Lib.hid (Hb7.out.trans (hb8.mono Hb7.out.size))
  have HBx8 := Lib.hid (HBx7.out.keep hb8)
  obtain ⟨q0, q1, q2⟩ := HBx8.out
  subst hR8
  clear hb8
  have HV := Lib.hid (rValid_any AH AS AP cH cS cP p w8 (HP.out.keep Hb8.out))
  rw [HOk.out] at HV
  go_wp2_with fail
  refine Lr.use HV.out ?_
  intro w9 hb9
  have Hb9 := Lib.hid (Hb8.out.trans (hb9.mono Hb8.out.size))
  have HBx9 := Lib.hid (HBx8.out.keep hb9)
  clear hb9 q0 q1 q2
  obtain ⟨q0, q1, q2⟩ := HBx9.out
  have HM1 := Lib.hid (rMatching_any AH AS AP DA cH cS cP na ca p a w9 (HP.out.keep Hb9.out) (HA.out.below Hb9.out) HOk.out)
  rw [H1.out] at HM1
  go_wp2_with fail
  refine Lr.use HM1.out ?_
  intro w10 hb10
  have Hb10 := Lib.hid (Hb9.out.trans (hb10.mono Hb9.out.size))
  have HBx10 := Lib.hid (HBx9.out.keep hb10)
  clear hb10 q0 q1 q2
  obtain ⟨q0, q1, q2⟩ := HBx10.out
  have HM2 := Lib.hid (rMatching_any AH AS AP DB cH cS cP nb cb p b w10 (HP.out.keep Hb10.out) (HB.out.below Hb10.out) HOk.out)
  rw [H2.out] at HM2
  go_wp2_with fail
  refine Lr.use HM2.out ?_
  intro w11 hb11
  have Hb11 := Lib.hid (Hb10.out.trans (hb11.mono Hb10.out.size))
  have HBx11 := Lib.hid (HBx10.out.keep hb11)
  clear hb11 q0 q1 q2
  obtain ⟨q0, q1, q2⟩ := HBx11.out
  have HS1 := Lib.hid (rIsStable_any AH AS AP DA cH cS cP na ca p a w11 (HP.out.keep Hb11.out) (HA.out.below Hb11.out) HOk.out)
  rw [H1.out, Bool.true_and] at HS1
  have hbad := HBad.out
  rw [stab_few HOk.out, stab_few HOk.out] at hbad
  have HS2 : Hid (∀ w' : World, Below w.heap.size w w' → Lr 45 #[.agg #[.slice AH p.nH cH, .slice AS p.nS cS, .slice AP p.nP cP], .slice DB nb cb] w' (.bool (stabB p b))) := Lib.hid (fun w' h => by
    have := rIsStable_any AH AS AP DB cH cS cP nb cb p b w' (HP.out.keep h) (HB.out.below h) HOk.out
    rw [H2.out, Bool.true_and] at this
    exact this)
  generalize stabB p a = x at *
  generalize stabB p b = y at *
  go_wp2_with fail
  refine Lr.use HS1.out ?_
  intro w12 hb12
  have Hb12 := Lib.hid (Hb11.out.trans (hb12.mono Hb11.out.size))
  have HBx12 := Lib.hid (HBx11.out.keep hb12)
  clear hb12 q0 q1 q2
  cases x with
  | false =>
    go_wp2_with fail
    refine (awake_any _).mono ?_
    rintro e wz ⟨rfl, hbz⟩
    have Hbz := Lib.hid (Hb12.out.trans (hbz.mono Hb12.out.size))
    clear hbz
    go_wp2
    go_ret
    exact ⟨rfl, Hbz.out⟩
  | true =>
    obtain rfl : y = false := by simpa using hbad
    obtain ⟨q0, q1, q2⟩ := HBx12.out
    go_wp2_with fail
    refine Lr.use (HS2.out w12 Hb12.out) ?_
    intro w13 hb13
    have Hb13 := Lib.hid (Hb12.out.trans (hb13.mono Hb12.out.size))
    clear hb13 q0 q1 q2
    go_wp2_with fail
    refine (awake_any _).mono ?_
    rintro e wz ⟨rfl, hbz⟩
    have Hbz := Lib.hid (Hb13.out.trans (hbz.mono Hb13.out.size))
    clear hbz
    go_wp2
    go_ret
    exact ⟨rfl, Hbz.out⟩

set_option maxHeartbeats 4000000 in
set_option maxRecDepth 1000000 in
theorem turnsJoins_fine (AH AS AP DA DB : Option Addr) (cH cS cP na ca nb cb : Nat) (p : PlanD) (a b : Nat → Int) (w : World) (hp : PlanArg w AH AS AP cH cS cP p) (ha : ArgI w DA na ca a) (hb : ArgI w DB nb cb b) (hok : okPlan p = true) (h1 : okMat p na a = true) (h2 : okMat p nb b = true) (h3 : stabB p a = true) (h4 : stabB p b = true) :
    Calls Try.prog 14 #[.agg #[.slice AH p.nH cH, .slice AS p.nS cS, .slice AP p.nP cP], .slice DA na ca, .slice DB nb cb] w fun e w' => e = .returned (.bool true) ∧ Below w.heap.size w w' := by
  have Hb0 := Lib.hid (below_box w (.cells #[.slice AH p.nH cH, .slice AS p.nS cS, .slice AP p.nP cP] 25))
  have HB0 := Lib.hid (BoxP.newR w AH AS AP p.nH p.nS p.nP cH cS cP)
  have HP := Lib.hid hp
  have HA := Lib.hid ha
  have HB := Lib.hid hb
  have Hm1 := Lib.hid (okMat_few p na a)
  have Hm2 := Lib.hid (okMat_few p nb b)
  have HOk := Lib.hid hok
  have H1 := Lib.hid h1
  have H2 := Lib.hid h2
  have H3 := Lib.hid h3
  have H4 := Lib.hid h4
  obtain ⟨e1, e2, e3, e4⟩ := few_n hok
  have hna : na = p.nH := by
    have := h1
    unfold okMat at this
    rw [Bool.and_eq_true, Bool.and_eq_true] at this
    exact of_decide_eq_true this.1.2
  have hnb : nb = p.nH := by
    have := h2
    unfold okMat at this
    rw [Bool.and_eq_true, Bool.and_eq_true] at this
    exact of_decide_eq_true this.1.2
  obtain ⟨⟨a1, a2, -, -, -⟩, -, -, -⟩ := okPlan_of hok
  have HE1 := Lib.hid e1
  have HNa : Hid (min na 9 = (fewP p).nH) := Lib.hid (by rw [e1]; omega)
  have HNb : Hid (min nb 9 = (fewP p).nH) := Lib.hid (by rw [e1]; omega)
  have HNa2 := Lib.hid hna
  have HNb2 := Lib.hid hnb
  have Hk1 := Lib.hid (okMat_has ((okMat_few p na a).trans h1))
  have Hk2 := Lib.hid (okMat_has ((okMat_few p nb b).trans h2))
  have HokF : Hid (okPlan (fewP p) = true) := Lib.hid (by rw [okPlan_few]; exact hok)
  have hn6 : p.nH ≤ 6 := a2
  clear hok h1 h2 h3 h4 e1 e2 e3 e4 hna hnb a1 a2
  clear hp ha hb
  go_enter Try.func14, Try.ntmps14
  go_wp2_with fail
  refine (of_any AH AS AP cH cS cP p _ (HP.out.keep Hb0.out)).mono ?_
  rintro e w1 ⟨BH, dH, BS, dS, BP, dP, rfl, hpl, hb1⟩
  have Hb1 := Lib.hid (Hb0.out.trans (hb1.mono Hb0.out.size))
  have HPl1 := Lib.hid hpl
  have HBx1 := Lib.hid (HB0.out.keep hb1)
  clear hpl hb1
  go_wp2_with fail
  refine (list_any DA na ca a _ (HA.out.below Hb1.out)).mono ?_
  rintro e w2 ⟨x1, rfl, hx1, hb2⟩
  obtain ⟨A1, c1, rfl, hI1⟩ := hx1.shp (lst_len _ _)
  have HI1 := Lib.hid (hI1.congr (g := a) (fun q hq => lst_getD _ _ _ hq))
  have Hb2 := Lib.hid (Hb1.out.trans (hb2.mono Hb1.out.size))
  have HPl2 := Lib.hid (HPl1.out.keep hb2)
  have HBx2 := Lib.hid (HBx1.out.keep hb2)
  clear hI1 hx1 hb2
  go_wp2_with fail
  refine (list_any DB nb cb b _ (HB.out.below Hb2.out)).mono ?_
  rintro e w3 ⟨x2, rfl, hx2, hb3⟩
  obtain ⟨A2, c2, rfl, hI2⟩ := hx2.shp (lst_len _ _)
  have HI2 := Lib.hid (hI2.congr (g := b) (fun q hq => lst_getD _ _ _ hq))
  have HI1b := Lib.hid (HI1.out.keep hb3)
  have Hb3 := Lib.hid (Hb2.out.trans (hb3.mono Hb2.out.size))
  have HPl3 := Lib.hid (HPl2.out.keep hb3)
  have HBx3 := Lib.hid (HBx2.out.keep hb3)
  clear hI2 hx2 hb3
  go_wp2_with fail
  refine (Join_any BH BS BP A1 A2 dH dS dP (min na 9) c1 (min nb 9) c2 (fewP p) (fun v w' => ∃ g, v = .tuple #[.slice (some ⟨g, 0, none⟩) (fewP p).nH (fewP p).nH, .int .i64 0] ∧ RowI w' g (fewP p).nH (jnF (fewP p) a b)) _ (fun w' hb' => (two_ok BH BS BP A1 A2 dH dS dP (min na 9) (min nb 9) c1 c2 0 1 (fewP p) a b _ w' (HPl3.out.keep hb') (HI1b.out.keep hb') (HI2.out.keep hb') HNa.out HNb.out (Hm1.out.trans H1.out) (Hm2.out.trans H2.out) ((stab_few HOk.out a).trans H3.out) ((stab_few HOk.out b).trans H4.out) (by omega) rfl (fun h hh F hp hs => (mid_jn HokF.out hh Hk1.out Hk2.out F hp hs).1)).mono (by
    rintro e w'' ⟨g, rfl, hR, hb''⟩
    exact ⟨_, _, rfl, ⟨g, rfl, hR⟩, hb''⟩))).mono ?_
  rintro e w4 ⟨v4, rfl, hR4, hb4⟩
  have Hb4 := Lib.hid (Hb3.out.trans (hb4.mono Hb3.out.size))
  have HBx4 := Lib.hid (HBx3.out.keep hb4)
  obtain ⟨q0, q1, q2⟩ := HBx4.out
  obtain ⟨g4, rfl, hr4⟩ := hR4
  rw [HE1.out] at hr4 ⊢
  have HX4 := Lib.hid (hr4.ints.congr (g := jnF p a b) (fun i hi => (jn_few HOk.out hi).1))
  clear hr4 hb4
  go_wp2_with fail
  refine (of_any AH AS AP cH cS cP p _ (HP.out.keep Hb4.out)).mono ?_
  rintro e w5 ⟨CH, fH, CS, fS, CP, fP, rfl, hpl, hb5⟩
  have Hb5 := Lib.hid (Hb4.out.trans (hb5.mono Hb4.out.size))
  have HPl5 := Lib.hid hpl
  have HBx5 := Lib.hid (HBx4.out.keep hb5)
  have HX5 := Lib.hid (HX4.out.keep hb5)
  clear hpl hb5 q0 q1 q2
  go_wp2_with fail
  refine (list_any DA na ca a _ (HA.out.below Hb5.out)).mono ?_
  rintro e w6 ⟨x6, rfl, hx6, hb6⟩
  obtain ⟨A6, c6, rfl, hI6⟩ := hx6.shp (lst_len _ _)
  have HI6 := Lib.hid (hI6.congr (g := a) (fun q hq => lst_getD _ _ _ hq))
  have Hb6 := Lib.hid (Hb5.out.trans (hb6.mono Hb5.out.size))
  have HPl6 := Lib.hid (HPl5.out.keep hb6)
  have HBx6 := Lib.hid (HBx5.out.keep hb6)
  have HX6 := Lib.hid (HX5.out.keep hb6)
  clear hI6 hx6 hb6
  go_wp2_with fail
  refine (list_any DB nb cb b _ (HB.out.below Hb6.out)).mono ?_
  rintro e w7 ⟨x7, rfl, hx7, hb7⟩
  obtain ⟨A7, c7, rfl, hI7⟩ := hx7.shp (lst_len _ _)
  have HI7 := Lib.hid (hI7.congr (g := b) (fun q hq => lst_getD _ _ _ hq))
  have HI6b := Lib.hid (HI6.out.keep hb7)
  have Hb7 := Lib.hid (Hb6.out.trans (hb7.mono Hb6.out.size))
  have HPl7 := Lib.hid (HPl6.out.keep hb7)
  have HBx7 := Lib.hid (HBx6.out.keep hb7)
  have HX7 := Lib.hid (HX6.out.keep hb7)
  clear hI7 hx7 hb7
  go_wp2_with fail
  refine (Meet_any CH CS CP A6 A7 fH fS fP (min na 9) c6 (min nb 9) c7 (fewP p) (fun v w' => ∃ g, v = .tuple #[.slice (some ⟨g, 0, none⟩) (fewP p).nH (fewP p).nH, .int .i64 0] ∧ RowI w' g (fewP p).nH (mtF (fewP p) a b)) _ (fun w' hb' => (two_ok CH CS CP A6 A7 fH fS fP (min na 9) (min nb 9) c6 c7 1 2 (fewP p) a b _ w' (HPl7.out.keep hb') (HI6b.out.keep hb') (HI7.out.keep hb') HNa.out HNb.out (Hm1.out.trans H1.out) (Hm2.out.trans H2.out) ((stab_few HOk.out a).trans H3.out) ((stab_few HOk.out b).trans H4.out) (by omega) rfl (fun h hh F hp hs => (mid_jn HokF.out hh Hk1.out Hk2.out F hp hs).2)).mono (by
    rintro e w'' ⟨g, rfl, hR, hb''⟩
    exact ⟨_, _, rfl, ⟨g, rfl, hR⟩, hb''⟩))).mono ?_
  rintro e w8 ⟨v8, rfl, hR8, hb8⟩
  have Hb8 := Lib.hid (Hb7.out.trans (hb8.mono Hb7.out.size))
  have HBx8 := Lib.hid (HBx7.out.keep hb8)
  obtain ⟨q0, q1, q2⟩ := HBx8.out
  have HX8 := Lib.hid (HX7.out.keep hb8)
  obtain ⟨g8, rfl, hr8⟩ := hR8
  rw [HE1.out] at hr8 ⊢
  have HY8 := Lib.hid (hr8.ints.congr (g := mtF p a b) (fun i hi => (jn_few HOk.out hi).2))
  clear hr8 hb8
  have HV := Lib.hid (rValid_any AH AS AP cH cS cP p w8 (HP.out.keep Hb8.out))
  rw [HOk.out] at HV
  go_wp2_with fail
  refine Lr.use HV.out ?_
  intro w9 hb9
  have Hb9 := Lib.hid (Hb8.out.trans (hb9.mono Hb8.out.size))
  have HBx9 := Lib.hid (HBx8.out.keep hb9)
  have HX9 := Lib.hid (HX8.out.keep hb9)
  have HY9 := Lib.hid (HY8.out.keep hb9)
  clear hb9 q0 q1 q2
  obtain ⟨q0, q1, q2⟩ := HBx9.out
  have HM1 := Lib.hid (rMatching_any AH AS AP DA cH cS cP na ca p a w9 (HP.out.keep Hb9.out) (HA.out.below Hb9.out) HOk.out)
  rw [H1.out] at HM1
  go_wp2_with fail
  refine Lr.use HM1.out ?_
  intro w10 hb10
  have Hb10 := Lib.hid (Hb9.out.trans (hb10.mono Hb9.out.size))
  have HBx10 := Lib.hid (HBx9.out.keep hb10)
  have HX10 := Lib.hid (HX9.out.keep hb10)
  have HY10 := Lib.hid (HY9.out.keep hb10)
  clear hb10 q0 q1 q2
  obtain ⟨q0, q1, q2⟩ := HBx10.out
  have HM2 := Lib.hid (rMatching_any AH AS AP DB cH cS cP nb cb p b w10 (HP.out.keep Hb10.out) (HB.out.below Hb10.out) HOk.out)
  rw [H2.out] at HM2
  go_wp2_with fail
  refine Lr.use HM2.out ?_
  intro w11 hb11
  have Hb11 := Lib.hid (Hb10.out.trans (hb11.mono Hb10.out.size))
  have HBx11 := Lib.hid (HBx10.out.keep hb11)
  have HX11 := Lib.hid (HX10.out.keep hb11)
  have HY11 := Lib.hid (HY10.out.keep hb11)
  clear hb11 q0 q1 q2
  obtain ⟨q0, q1, q2⟩ := HBx11.out
  have HS1 := Lib.hid (rIsStable_any AH AS AP DA cH cS cP na ca p a w11 (HP.out.keep Hb11.out) (HA.out.below Hb11.out) HOk.out)
  rw [H1.out, Bool.true_and] at HS1
  rw [H3.out] at HS1
  go_wp2_with fail
  refine Lr.use HS1.out ?_
  intro w12 hb12
  have Hb12 := Lib.hid (Hb11.out.trans (hb12.mono Hb11.out.size))
  have HBx12 := Lib.hid (HBx11.out.keep hb12)
  have HX12 := Lib.hid (HX11.out.keep hb12)
  have HY12 := Lib.hid (HY11.out.keep hb12)
  clear hb12 q0 q1 q2
  obtain ⟨q0, q1, q2⟩ := HBx12.out
  have HS2 := Lib.hid (rIsStable_any AH AS AP DB cH cS cP nb cb p b w12 (HP.out.keep Hb12.out) (HB.out.below Hb12.out) HOk.out)
  rw [H2.out, Bool.true_and, H4.out] at HS2
  go_wp2_with fail
  refine Lr.use HS2.out ?_
  intro w13 hb13
  have Hb13 := Lib.hid (Hb12.out.trans (hb13.mono Hb12.out.size))
  have HBx13 := Lib.hid (HBx12.out.keep hb13)
  have HX13 := Lib.hid (HX12.out.keep hb13)
  have HY13 := Lib.hid (HY12.out.keep hb13)
  clear hb13 q0 q1 q2
  obtain ⟨q0, q1, q2⟩ := HBx13.out
  have HJ := Lib.hid (rJoin_any AH AS AP DA DB cH cS cP na ca nb cb p a b w13 (HP.out.keep Hb13.out) (HA.out.below Hb13.out).2.2.2 (HB.out.below Hb13.out).2.2.2 HNa2.out HNb2.out HOk.out (okMat_has H1.out) (okMat_has H2.out))
  go_wp2_with fail
  refine HJ.out.mono ?_
  rintro e w14 ⟨A14, c14, rfl, hI14, hb14⟩
  have Hb14 := Lib.hid (Hb13.out.trans (hb14.mono Hb13.out.size))
  have HBx14 := Lib.hid (HBx13.out.keep hb14)
  have HX14 := Lib.hid (HX13.out.keep hb14)
  have HY14 := Lib.hid (HY13.out.keep hb14)
  have HI14 := Lib.hid hI14
  clear hb14 hI14 q0 q1 q2
  have hna9 : na ≤ 10000 := by have := HNa2.out; omega
  have HQ : Hid (eqB p.nH na (jnF p a b) (jnF p a b) = true) := Lib.hid (by rw [HNa2.out]; exact eqB_id _ _)
  have HQ2 : Hid (eqB p.nH na (mtF p a b) (mtF p a b) = true) := Lib.hid (by rw [HNa2.out]; exact eqB_id _ _)
  have HE := Lib.hid (equal_any (some ⟨g4, 0, none⟩) A14 p.nH na p.nH c14 (jnF p a b) (jnF p a b) w14 HX14.out HI14.out (by omega) hna9)
  go_wp2_with fail
  refine Ro.use HE.out ?_
  intro w15 hd15
  rw [HQ.out]
  have Hb15 := Lib.hid (Hb14.out.trans ((hd15.below _).mono Hb14.out.size))
  have HBx15 := Lib.hid (HBx14.out.keep (hd15.below _))
  have HY15 := Lib.hid (HY14.out.dn hd15)
  clear hd15 HE
  obtain ⟨q0, q1, q2⟩ := HBx15.out
  have HMt := Lib.hid (rMeet_any AH AS AP DA DB cH cS cP na ca nb cb p a b w15 (HP.out.keep Hb15.out) (HA.out.below Hb15.out).2.2.2 (HB.out.below Hb15.out).2.2.2 HNa2.out HNb2.out HOk.out (okMat_has H1.out) (okMat_has H2.out))
  go_wp2_with fail
  refine HMt.out.mono ?_
  rintro e w16 ⟨A16, c16, rfl, hI16, hb16⟩
  have Hb16 := Lib.hid (Hb15.out.trans (hb16.mono Hb15.out.size))
  have HY16 := Lib.hid (HY15.out.keep hb16)
  have HI16 := Lib.hid hI16
  clear hb16 hI16 q0 q1 q2
  have HE2 := Lib.hid (equal_any (some ⟨g8, 0, none⟩) A16 p.nH na p.nH c16 (mtF p a b) (mtF p a b) w16 HY16.out HI16.out (by omega) hna9)
  go_wp2_with fail
  refine Ro.use HE2.out ?_
  intro w17 hd17
  rw [HQ2.out]
  have Hb17 := Lib.hid (Hb16.out.trans ((hd17.below _).mono Hb16.out.size))
  clear hd17 HE2
  go_wp2_with fail
  refine (awake_any _).mono ?_
  rintro e wz ⟨rfl, hbz⟩
  have Hbz := Lib.hid (Hb17.out.trans (hbz.mono Hb17.out.size))
  clear hbz
  go_wp2
  go_ret
  exact ⟨rfl, Hbz.out⟩

theorem turnsJoins_walk (AH AS AP : Option Addr) (cH cS cP : Nat) (p : PlanD) (DA : Option Addr) (na ca : Nat) (a : Nat → Int) (DB : Option Addr) (nb cb : Nat) (b : Nat → Int) (w : World) (hp : PlanArg w AH AS AP cH cS cP p) (ha : ArgI w DA na ca a) (hb : ArgI w DB nb cb b) :
    Calls Try.prog 14 #[.agg #[.slice AH p.nH cH, .slice AS p.nS cS, .slice AP p.nP cP], .slice DA na ca, .slice DB nb cb] w fun e w' => e = .returned (.bool true) ∧ Below w.heap.size w w' := by
  cases hbad : (okMat (fewP p) (min na 9) a && okMat (fewP p) (min nb 9) b) with
  | false => exact turnsJoins_arg AH AS AP DA DB cH cS cP na ca nb cb p a b w hp ha hb hbad
  | true =>
    rw [Bool.and_eq_true, okMat_few, okMat_few] at hbad
    have hok : okPlan p = true := by
      have := hbad.1
      unfold okMat at this
      rw [Bool.and_eq_true, Bool.and_eq_true] at this
      exact this.1.1
    cases hs : (stabB (fewP p) a && stabB (fewP p) b) with
    | false => exact turnsJoins_state AH AS AP DA DB cH cS cP na ca nb cb p a b w hp ha hb hok hbad.1 hbad.2 hs
    | true =>
      rw [Bool.and_eq_true, stab_few hok, stab_few hok] at hs
      exact turnsJoins_fine AH AS AP DA DB cH cS cP na ca nb cb p a b w hp ha hb hok hbad.1 hbad.2 hs.1 hs.2
end Go.Proofs.Ytiigcjcolpmafaa

