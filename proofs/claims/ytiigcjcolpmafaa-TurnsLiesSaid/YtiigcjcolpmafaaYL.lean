/- Part of the proof: YL. -/
import Derived.Test.YtiigcjcolpmafaaYD
import Derived.Test.YtiigcjcolpmafaaYF
import Derived.Test.YtiigcjcolpmafaaYC
import Derived.Test.YtiigcjcolpmafaaEq
import Derived.Test.YtiigcjcolpmafaaYK
import Derived.Test.YtiigcjcolpmafaaTrz
import Derived.Test.YtiigcjcolpmafaaYN
import Derived.Deep.RegionHeld3
import Derived.Deep.CutRange
import Derived.Deep.DeepCutAuto
/- Another list of one shift; the places that a shift's hands have in its list; what it gains. -/
namespace Go.Proofs.Ytiigcjcolpmafaa
open Go.RowKit

/-- The plan in which shift s gives another list. -/
def setS (p : PlanD) (s L : Nat) (f : Nat → Int) : PlanD := { p with LS := fun i => if i = s then L else p.LS i, vS := fun i => if i = s then f else p.vS i }
section
variable {p : PlanD} {s L : Nat} {f : Nat → Int}
theorem setS_ok (hok : okPlan p = true) (hf : RowOk f L p.nH) : okPlan (setS p s L f) = true := by
  obtain ⟨h1, h2, h3, h4⟩ := okPlan_of hok
  refine decide_eq_true ⟨h1, h2, h3, fun i hi => ?_⟩
  show RowOk (if i = s then f else p.vS i) (if i = s then L else p.LS i) p.nH
  by_cases e : i = s
  · rw [if_pos e, if_pos e]
    exact hf
  · rw [if_neg e, if_neg e]
    exact h4 i hi
theorem setS_v {y : Nat} (e : y ≠ s) : (setS p s L f).vS y = p.vS y := if_neg e
theorem setS_L {y : Nat} (e : y ≠ s) : (setS p s L f).LS y = p.LS y := if_neg e
theorem setS_vs : (setS p s L f).vS s = f := if_pos rfl
theorem setS_Ls : (setS p s L f).LS s = L := if_pos rfl
end
theorem lst_memA {n : Nat} {F : Nat → Int} {x : Int} : x ∈ lst n F ↔ ∃ i, i < n ∧ F i = x := by
  constructor
  · intro h
    obtain ⟨i, hi, e⟩ := List.mem_iff_getElem.1 h
    rw [lst_len] at hi
    have h2 := lst_get n F i hi
    rw [List.getElem?_eq_getElem (by rw [lst_len]; exact hi), e] at h2
    exact ⟨i, hi, (Option.some.inj h2).symm⟩
  · rintro ⟨i, hi, rfl⟩
    exact lst_getF n F i hi
theorem srt_ext : ∀ {l k : List Int}, l.Pairwise (· < ·) → k.Pairwise (· < ·) → (∀ x, x ∈ l ↔ x ∈ k) → l = k := by
  intro l
  induction l with
  | nil =>
    intro k _ _ h
    cases k with
    | nil => rfl
    | cons y k => exact absurd ((h y).2 (List.mem_cons_self ..)) (by simp)
  | cons x l ih =>
    intro k h1 h2 h
    cases k with
    | nil => exact absurd ((h x).1 (List.mem_cons_self ..)) (by simp)
    | cons y k =>
      obtain ⟨a1, a2⟩ := List.pairwise_cons.1 h1
      obtain ⟨b1, b2⟩ := List.pairwise_cons.1 h2
      have e : x = y := by
        rcases List.mem_cons.1 ((h x).1 (List.mem_cons_self ..)) with e | e
        · exact e
        · rcases List.mem_cons.1 ((h y).2 (List.mem_cons_self ..)) with g | g
          · exact g.symm
          · have := b1 x e
            have := a1 y g
            omega
      subst e
      rw [ih a2 b2 (fun z => ?_)]
      constructor
      · intro hz
        rcases List.mem_cons.1 ((h z).1 (List.mem_cons_of_mem _ hz)) with e | e
        · have := a1 z hz; omega
        · exact e
      · intro hz
        rcases List.mem_cons.1 ((h z).2 (List.mem_cons_of_mem _ hz)) with e | e
        · have := b1 z hz; omega
        · exact e
theorem hndL_srt (m : Nat → Int) (s : Int) : ∀ n, (hndL m s n).Pairwise (· < ·) := by
  intro n
  induction n with
  | zero => exact List.Pairwise.nil
  | succ n ih =>
    show (if m n = s then hndL m s n ++ [(n : Int)] else hndL m s n).Pairwise (· < ·)
    split
    · refine List.pairwise_append.2 ⟨ih, List.pairwise_singleton _ _, fun x hx y hy => ?_⟩
      obtain ⟨h, hh, -, rfl⟩ := hndL_mem.1 hx
      rw [List.mem_singleton] at hy
      omega
    · exact ih
/-- The places in its own list of the hands that a shift has, rising. -/
def tkL (p : PlanD) (s : Nat) (m : Nat → Int) : List Int := hndL (fun r => m (p.vS s r).toNat) (s : Int) (p.LS s)
/-- Shift s lists all that it has. -/
def LsdS (p : PlanD) (s : Nat) (m : Nat → Int) : Prop := ∀ x : Nat, x < p.nH → m x = (s : Int) → 0 ≤ idxI (p.vS s) (x : Int) (p.LS s)
theorem idx_at {f : Nat → Int} {L : Nat} {x : Int} (h : 0 ≤ idxI f x L) : ∃ a : Nat, a < L ∧ f a = x ∧ idxI f x L = a ∧ rkI f L x = a := by
  rcases idxI_cases f x L with ⟨e, -⟩ | ⟨a, ha, e, h1, -⟩
  · omega
  · refine ⟨a, ha, h1, e, ?_⟩
    unfold rkI
    rw [if_neg (by omega), e]
theorem tkL_mem {p : PlanD} {s : Nat} {m : Nat → Int} (hok : okPlan p = true) (hs : s < p.nS) (hm : LsdS p s m) {r : Int} : r ∈ tkL p s m ↔ ∃ x : Nat, x < p.nH ∧ m x = (s : Int) ∧ rkI (p.vS s) (p.LS s) (x : Int) = r := by
  have hr := (okPlan_of hok).2.2.2 s hs
  unfold tkL
  rw [hndL_mem]
  constructor
  · rintro ⟨a, ha, h1, rfl⟩
    obtain ⟨h2, h3, h4⟩ := hr.2 a ha
    refine ⟨(p.vS s a).toNat, by omega, h1, ?_⟩
    have e : (((p.vS s a).toNat : Nat) : Int) = p.vS s a := by omega
    rw [e]
    have := idxI_self hr ha
    unfold rkI
    rw [if_neg (by omega), this]
  · rintro ⟨x, hx, h1, h2⟩
    obtain ⟨a, ha, h3, h4, h5⟩ := idx_at (hm x hx h1)
    refine ⟨a, ha, ?_, by omega⟩
    show m (p.vS s a).toNat = _
    rw [h3]
    exact h1
/-- What is sorted by rank has the ranks tkL. -/
theorem rank_tk {p : PlanD} {s n : Nat} {m F : Nat → Int} (hok : okPlan p = true) (hs : s < p.nS) (hm : LsdS p s m) (hP : (lst n F).Perm (hndL m (s : Int) p.nH)) (hS : Srt (rkI (p.vS s) (p.LS s)) F n) :
    lst n (fun i => rkI (p.vS s) (p.LS s) (F i)) = tkL p s m := by
  have hmem : ∀ i, i < n → ∃ x : Nat, x < p.nH ∧ m x = (s : Int) ∧ F i = (x : Int) := fun i hi => hndL_mem.1 (hP.mem_iff.1 (lst_getF n F i hi))
  have hnd : (lst n F).Pairwise (· ≠ ·) := by
    refine (hP.pairwise_iff (fun h => h.symm)).2 ?_
    exact (hndL_srt m s p.nH).imp (fun h => by omega)
  have hne : ∀ i j, i < j → j < n → F i ≠ F j := fun i j hij hj => by
    have h := List.pairwise_iff_getElem.1 hnd i j (by rw [lst_len]; omega) (by rw [lst_len]; exact hj) hij
    have e1 := lst_get n F i (by omega)
    have e2 := lst_get n F j hj
    rw [List.getElem?_eq_getElem (by rw [lst_len]; omega)] at e1 e2
    injection e1 with e1
    injection e2 with e2
    rwa [e1, e2] at h
  refine srt_ext ?_ (hndL_srt _ _ _) (fun r => ?_)
  · rw [List.pairwise_iff_getElem]
    intro i j hi hj hij
    rw [lst_len] at hi hj
    have e1 := lst_get n (fun i => rkI (p.vS s) (p.LS s) (F i)) i hi
    have e2 := lst_get n (fun i => rkI (p.vS s) (p.LS s) (F i)) j hj
    rw [List.getElem?_eq_getElem (by rw [lst_len]; omega)] at e1 e2
    injection e1 with e1
    injection e2 with e2
    rw [e1, e2]
    have h1 := hS i j hij hj
    rcases Int.lt_or_eq_of_le h1 with g | g
    · exact g
    · exfalso
      obtain ⟨x, hx, hx2, ex⟩ := hmem i hi
      obtain ⟨y, hy, hy2, ey⟩ := hmem j hj
      rw [ex, ey] at g
      have := rkI_inj (hm x hx hx2) (hm y hy hy2) g
      exact hne i j hij hj (by rw [ex, ey]; exact this)
  · show _ ↔ r ∈ tkL p s m
    rw [tkL_mem hok hs hm]
    constructor
    · intro h
      obtain ⟨i, hi, e⟩ := lst_memA.1 h
      obtain ⟨x, hx, hx2, ex⟩ := hmem i hi
      exact ⟨x, hx, hx2, by rw [← ex]; exact e⟩
    · rintro ⟨x, hx, hx2, e⟩
      have : (x : Int) ∈ lst n F := hP.mem_iff.2 (hndL_mem.2 ⟨x, hx, hx2, rfl⟩)
      obtain ⟨i, hi, ei⟩ := lst_memA.1 this
      exact lst_memA.2 ⟨i, hi, by show rkI _ _ (F i) = r; rw [ei]; exact e⟩
/-- Shift s has others in m' than in m, and none that is worse. -/
def gnB (p : PlanD) (s : Nat) (m m' : Nat → Int) : Bool :=
  !decide (tkL p s m = tkL p s m') && !decide ((tkL p s m').length < (tkL p s m).length) && allB (fun i => decide ((tkL p s m').getD i 0 ≤ (tkL p s m).getD i 0)) (tkL p s m).length
theorem gnB_cg {p : PlanD} {s : Nat} {m m' a a' : Nat → Int} (hok : okPlan p = true) (hs : s < p.nS) (h1 : ∀ x, x < p.nH → m x = a x) (h2 : ∀ x, x < p.nH → m' x = a' x) : gnB p s m m' = gnB p s a a' := by
  have hr := (okPlan_of hok).2.2.2 s hs
  have key : ∀ {u v : Nat → Int}, (∀ x, x < p.nH → u x = v x) → tkL p s u = tkL p s v := fun {u v} h => by
    refine srt_ext (hndL_srt _ _ _) (hndL_srt _ _ _) (fun r => ?_)
    show r ∈ hndL _ _ _ ↔ r ∈ hndL _ _ _
    rw [hndL_mem, hndL_mem]
    constructor
    · rintro ⟨a, ha, e, rfl⟩
      obtain ⟨g1, g2, -⟩ := hr.2 a ha
      exact ⟨a, ha, by rw [← h _ (by omega)]; exact e, rfl⟩
    · rintro ⟨a, ha, e, rfl⟩
      obtain ⟨g1, g2, -⟩ := hr.2 a ha
      exact ⟨a, ha, by rw [h _ (by omega)]; exact e, rfl⟩
  unfold gnB
  rw [key h1, key h2]
theorem gnB_ne {p : PlanD} {s : Nat} {m : Nat → Int} : gnB p s m m = false := by
  unfold gnB
  rw [decide_eq_true rfl]
  rfl
end Go.Proofs.Ytiigcjcolpmafaa

/- byRank of any few options, none too; what a shift gains. -/
namespace Go.Proofs.Ytiigcjcolpmafaa
open Go.RowKit

set_option maxHeartbeats 2000000 in
set_option maxRecDepth 1000000 in
theorem insC0 (A : Option Addr) (c : Nat) (f : Value) (w : World) : Calls Try.prog 126 #[.slice A 0 c, .int .i64 0, .int .i64 0, f] w fun e w' => e = .returned (.tuple #[]) ∧ w = w' := by
  go_enter Try.func126, Try.ntmps126
  go_wp2
  refine wp_loop_rounds 1 ?_
  rw [rounds_succ]
  go_wp2
  go_returns
  exact ⟨rfl, rfl⟩
set_option maxHeartbeats 2000000 in
set_option maxRecDepth 1000000 in
theorem pdqC0 (A : Option Addr) (c : Nat) (z : Int) (f : Value) (w : World) : Calls Try.prog 125 #[.slice A 0 c, .int .i64 0, .int .i64 0, .int .i64 z, f] w fun e w' => e = .returned (.tuple #[]) ∧ w = w' := by
  have H := Lib.hid (insC0 A c f w)
  go_enter Try.func125, Try.ntmps125
  go_wp2
  refine wp_loop_rounds 1 ?_
  rw [rounds_succ]
  go_wp2_with fail
  refine H.out.mono ?_
  rintro e w' ⟨rfl, rfl⟩
  go_wp2
  go_returns
  exact ⟨rfl, rfl⟩
set_option maxHeartbeats 2000000 in
set_option maxRecDepth 1000000 in
theorem sortC0 (A : Option Addr) (c : Nat) (f : Value) (w : World) : Calls Try.prog 120 #[.slice A 0 c, f] w fun e w' => e = .returned (.tuple #[]) ∧ w = w' := by
  have H := Lib.hid (fun z => pdqC0 A c z f w)
  go_enter Try.func120, Try.ntmps120
  go_wp2_with fail
  refine (bitsLen_any 0 (by omega) _).mono ?_
  rintro e w' ⟨⟨z, rfl⟩, rfl⟩
  go_wp2_with fail
  refine (H.out z).mono ?_
  rintro e w' ⟨rfl, rfl⟩
  go_wp2
  go_returns
  exact ⟨rfl, rfl⟩
set_option maxHeartbeats 2000000 in
set_option maxRecDepth 1000000 in
theorem byRank0 (A B : Option Addr) (L c cB : Nat) (o : Nat → Int) (w : World) (hO : Ints w B 0 o) :
    Calls Try.prog 111 #[.slice A L c, .slice B 0 cB] w fun e w' => ∃ G cap, e = .returned (.slice G 0 cap) ∧ Below w.heap.size w w' := by
  have HO := Lib.hid hO
  have Hb0 := Lib.hid (below_box w (.cells #[.slice A L c] 23))
  clear hO
  go_enter Try.func111, Try.ntmps111
  go_wp2_with fail
  refine (clone_any B 0 cB o _ (HO.out.keep Hb0.out) (by omega)).mono ?_
  rintro e w1 ⟨v, rfl, hv, -, hb1⟩
  obtain ⟨G, cap, rfl, -⟩ := OwnL.form hv
  have Hb1 := Lib.hid (Hb0.out.trans (hb1.mono Hb0.out.size))
  clear hv hb1
  rw [lst_len]
  go_wp2_with fail
  refine (sortC0 G cap _ w1).mono ?_
  rintro e w2 ⟨rfl, rfl⟩
  go_wp2
  go_ret
  exact ⟨G, cap, rfl, Hb1.out⟩
theorem byRank_few (A B : Option Addr) (L c n cB : Nat) (f o : Nat → Int) (w : World) (hI : Ints w A L f) (hO : Ints w B n o) (hL : L ≤ 10000) (hn : n ≤ 12) :
    Calls Try.prog 111 #[.slice A L c, .slice B n cB] w fun e w' => ∃ G cap F, e = .returned (.slice G n cap) ∧ Ints w' G n F ∧ (lst n F).Perm (lst n o) ∧ Srt (rkI f L) F n ∧ Below w.heap.size w w' := by
  rcases Nat.eq_zero_or_pos n with e | e
  · subst e
    refine (byRank0 A B L c cB o w hO).mono ?_
    rintro r w' ⟨G, cap, rfl, hb⟩
    exact ⟨G, cap, fun _ => 0, rfl, Ints.zero, List.Perm.refl _, fun x y h1 h2 => by omega, hb⟩
  · refine (byRank_any A B L c n cB f o w hI hO hL e hn).mono ?_
    rintro r w' ⟨g, cap, F, rfl, hR, hP, hS, hb⟩
    exact ⟨_, cap, F, rfl, hR.ints, hP, hS, hb⟩
end Go.Proofs.Ytiigcjcolpmafaa

/- What a shift gains: the program's gains. -/
namespace Go.Proofs.Ytiigcjcolpmafaa
open Go.RowKit

theorem eqB_iff {n n' : Nat} {f g : Nat → Int} : eqB n n' f g = true ↔ n = n' ∧ ∀ k, k < n → f k = g k := by
  unfold eqB
  rw [Bool.and_eq_true, decide_eq_true_iff, allB_iff]
  unfold eqP
  simp only [decide_eq_true_iff]
theorem tk_get {p : PlanD} {s n : Nat} {m F : Nat → Int} (h : lst n (fun i => rkI (p.vS s) (p.LS s) (F i)) = tkL p s m) : (tkL p s m).length = n ∧ ∀ i, i < n → (tkL p s m).getD i 0 = rkI (p.vS s) (p.LS s) (F i) := by
  rw [← h]
  exact ⟨lst_len _ _, fun i hi => lst_getD _ _ _ hi⟩
theorem gn_eq {p : PlanD} {s n n' : Nat} {m m' F F' : Nat → Int} (h1 : lst n (fun i => rkI (p.vS s) (p.LS s) (F i)) = tkL p s m) (h2 : lst n' (fun i => rkI (p.vS s) (p.LS s) (F' i)) = tkL p s m')
    (l1 : ∀ i, i < n → 0 ≤ idxI (p.vS s) (F i) (p.LS s)) (l2 : ∀ i, i < n' → 0 ≤ idxI (p.vS s) (F' i) (p.LS s)) : eqB n n' F F' = decide (tkL p s m = tkL p s m') := by
  obtain ⟨a1, a2⟩ := tk_get h1
  obtain ⟨b1, b2⟩ := tk_get h2
  rw [Bool.eq_iff_iff, eqB_iff, decide_eq_true_iff]
  constructor
  · rintro ⟨rfl, e⟩
    rw [← h1, ← h2]
    exact lst_congr (fun i hi => by show rkI _ _ (F i) = rkI _ _ (F' i); rw [e i hi])
  · intro e
    have hn : n = n' := by rw [← a1, ← b1, e]
    subst hn
    refine ⟨rfl, fun k hk => rkI_inj (l1 k hk) (l2 k hk) ?_⟩
    rw [← a2 k hk, ← b2 k hk, e]
set_option maxHeartbeats 4000000 in
set_option maxRecDepth 1000000 in
theorem gains_any (AH AS AP DA DB : Option Addr) (cH cS cP ca cb s : Nat) (p : PlanD) (m m' : Nat → Int) (w : World) (hp : PlanIn w AH AS AP p) (hok : okPlan p = true) (hs : s < p.nS)
    (ha : Ints w DA (hndL m (s : Int) p.nH).length (fun k => (hndL m (s : Int) p.nH).getD k 0)) (hb : Ints w DB (hndL m' (s : Int) p.nH).length (fun k => (hndL m' (s : Int) p.nH).getD k 0)) (hm : LsdS p s m) (hm' : LsdS p s m') :
    Lr 92 #[.agg #[.slice AH p.nH cH, .slice AS p.nS cS, .slice AP p.nP cP], .int .i64 s, .slice DA (hndL m (s : Int) p.nH).length ca, .slice DB (hndL m' (s : Int) p.nH).length cb] w (.bool (gnB p s m m')) := by
  have Hb0 := Lib.hid (below_box w (.cells #[.slice AH p.nH cH, .slice AS p.nS cS, .slice AP p.nP cP] 29))
  have HB0 := Lib.hid (BoxP.new w AH AS AP p.nH p.nS p.nP cH cS cP)
  have HP := Lib.hid (hp.keep Hb0.out)
  have hn6 : p.nH ≤ 6 := (okPlan_of hok).1.2.1
  have HTk := Lib.hid (fun n F (h1 : (lst n F).Perm (hndL m (s : Int) p.nH)) (h2 : Srt (rkI (p.vS s) (p.LS s)) F n) => rank_tk (n := n) (F := F) hok hs hm h1 h2)
  have HTk' := Lib.hid (fun n F (h1 : (lst n F).Perm (hndL m' (s : Int) p.nH)) (h2 : Srt (rkI (p.vS s) (p.LS s)) F n) => rank_tk (n := n) (F := F) hok hs hm' h1 h2)
  have HM1 : Hid (∀ x, x ∈ hndL m (s : Int) p.nH → 0 ≤ idxI (p.vS s) x (p.LS s)) := Lib.hid (fun x hx => by
    obtain ⟨h, hh, e, rfl⟩ := hndL_mem.1 hx
    exact hm h hh e)
  have HM2 : Hid (∀ x, x ∈ hndL m' (s : Int) p.nH → 0 ≤ idxI (p.vS s) x (p.LS s)) := Lib.hid (fun x hx => by
    obtain ⟨h, hh, e, rfl⟩ := hndL_mem.1 hx
    exact hm' h hh e)
  have hl1 : (hndL m (s : Int) p.nH).length ≤ 6 := by have h1 := hndL_len m (s : Int) p.nH; have h2 := cnt_le m (s : Int) p.nH; omega
  have hl2 : (hndL m' (s : Int) p.nH).length ≤ 6 := by have h1 := hndL_len m' (s : Int) p.nH; have h2 := cnt_le m' (s : Int) p.nH; omega
  have HO1 := Lib.hid (lst_of (hndL m (s : Int) p.nH))
  have HO2 := Lib.hid (lst_of (hndL m' (s : Int) p.nH))
  have HA := Lib.hid (ha.keep Hb0.out)
  have HB := Lib.hid (hb.keep Hb0.out)
  have HDf : Hid (gnB p s m m' = (!decide (tkL p s m = tkL p s m') && !decide ((tkL p s m').length < (tkL p s m).length) && allB (fun i => decide ((tkL p s m').getD i 0 ≤ (tkL p s m).getD i 0)) (tkL p s m).length)) := Lib.hid rfl
  generalize hndL m (s : Int) p.nH = K1 at *
  generalize hndL m' (s : Int) p.nH = K2 at *
  obtain ⟨bS, oS, RS, kS, hAS, hcS, -, hIS⟩ := HP.out.shifts.at hs
  subst hAS
  have HIS := Lib.hid hIS
  have hl9 := HP.out.sS s hs
  have hsS : (s : Int) < p.nS := by omega
  obtain ⟨W, hW⟩ : ∃ W, W = w.alloc (.cells #[.slice AH p.nH cH, .slice (some ⟨bS, oS, none⟩) p.nS cS, .slice AP p.nP cP] 29) := ⟨_, rfl⟩
  rw [← hW] at Hb0 HB0 HP HA HB HIS
  have HWW : Hid (w.alloc (.cells #[.slice AH p.nH cH, .slice (some ⟨bS, oS, none⟩) p.nS cS, .slice AP p.nP cP] 29) = W) := Lib.hid hW.symm
  obtain ⟨q0, q1, q2⟩ := HB0.out
  clear hp ha hb hok hW hIS hm hm'
  show Calls _ _ _ _ _
  go_enter Try.func92, Try.ntmps92
  go_wp2_with fail
  rw [HWW.out]
  clear HWW
  refine (byRank_few RS DA (p.LS s) kS K1.length ca (p.vS s) _ W HIS.out HA.out (by omega) (by omega)).mono ?_
  rintro e w1 ⟨G1, d1, F1, rfl, hI1, hP1, hS1, hb1⟩
  rw [HO1.out] at hP1
  have HT1 := Lib.hid (HTk.out _ _ hP1 hS1)
  have HL1 : Hid (∀ i, i < K1.length → 0 ≤ idxI (p.vS s) (F1 i) (p.LS s)) := Lib.hid (fun i hi => HM1.out _ (hP1.mem_iff.1 (lst_getF _ F1 i hi)))
  have HI1 := Lib.hid hI1
  have Hb1 := Lib.hid hb1
  clear hI1 hP1 hS1 hb1 q0 q1 q2 hcS
  go_wp2_with fail
  refine (byRank_few RS DB (p.LS s) kS K2.length cb (p.vS s) _ w1 (HIS.out.keep Hb1.out) (HB.out.keep Hb1.out) (by omega) (by omega)).mono ?_
  rintro e w2 ⟨G2, d2, F2, rfl, hI2, hP2, hS2, hb2⟩
  rw [HO2.out] at hP2
  have HT2 := Lib.hid (HTk'.out _ _ hP2 hS2)
  have HL2 : Hid (∀ i, i < K2.length → 0 ≤ idxI (p.vS s) (F2 i) (p.LS s)) := Lib.hid (fun i hi => HM2.out _ (hP2.mem_iff.1 (lst_getF _ F2 i hi)))
  have HI2 := Lib.hid hI2
  have HI1b := Lib.hid (HI1.out.keep hb2)
  have Hb2 := Lib.hid (Hb1.out.trans (hb2.mono Hb1.out.size))
  have HEq := Lib.hid (gn_eq HT1.out HT2.out HL1.out HL2.out)
  obtain ⟨g1, g2⟩ := tk_get HT1.out
  obtain ⟨g3, g4⟩ := tk_get HT2.out
  have HG2 := Lib.hid g2
  have HG4 := Lib.hid g4
  have HG1 := Lib.hid g1
  have HG3 := Lib.hid g3
  clear hI2 hP2 hS2 hb2 HT1 HT2 HTk HTk' HM1 HM2 HI1 HL1 HL2 HO1 HO2 g1 g2 g3 g4
  generalize K1.length = n1 at *
  generalize K2.length = n2 at *
  have HE := Lib.hid (equal_any G1 G2 n1 n2 d1 d2 F1 F2 w2 HI1b.out HI2.out (by omega) (by omega))
  rw [HEq.out] at HE
  go_wp2_with fail
  refine Ro.use HE.out ?_
  intro w3 hd3
  have Hb3 := Lib.hid (Hb2.out.trans ((hd3.below _).mono Hb2.out.size))
  have HJ1 := Lib.hid (HI1b.out.dn hd3)
  have HJ2 := Lib.hid (HI2.out.dn hd3)
  clear hd3 HE HI1b HI2
  by_cases hte : tkL p s m = tkL p s m'
  · have dt : decide (tkL p s m = tkL p s m') = true := decide_eq_true hte
    have E : Hid (gnB p s m m' = false) := Lib.hid (by rw [HDf.out, dt]; rfl)
    clear hte
    go_wp2
    go_ret
    exact ⟨ret_bool E.out.symm, Hb0.out.trans (Hb3.out.mono Hb0.out.size)⟩
  · have dt : decide (tkL p s m = tkL p s m') = false := decide_eq_false hte
    clear hte
    by_cases hln : n2 < n1
    · have dl : decide ((n2 : Int) < n1) = true := decide_eq_true (by omega)
      have E : Hid (gnB p s m m' = false) := Lib.hid (by rw [HDf.out, HG1.out, HG3.out, decide_eq_true hln]; simp)
      go_wp2
      go_ret
      exact ⟨ret_bool E.out.symm, Hb0.out.trans (Hb3.out.mono Hb0.out.size)⟩
    · have dl : decide ((n2 : Int) < n1) = false := decide_eq_false (by omega)
      have HDe : Hid (gnB p s m m' = allB (fun i => decide ((tkL p s m').getD i 0 ≤ (tkL p s m).getD i 0)) n1) := Lib.hid (by rw [HDf.out, HG1.out, HG3.out, decide_eq_false hln, dt]; rfl)
      clear HDf HEq
      go_wp2
      go_loopw [34] (fun i wr => ∃ k : Nat, k ≤ n1 ∧ i = .int .i64 k ∧ (∀ x, x < k → (tkL p s m').getD x 0 ≤ (tkL p s m).getD x 0) ∧ Below w3.heap.size w3 wr) (fun i _ => n1 - (intOf i).toNat)
      case atStart => exact ⟨0, Nat.zero_le _, rfl, fun x hx => absurd hx (Nat.not_lt_zero _), Below.refl _ _⟩
      case round =>
        obtain ⟨k, hk, rfl, hA, hB⟩ := hrel
        have HAl := Lib.hid hA
        have HBl := Lib.hid hB
        clear hA hB
        by_cases hlt : k < n1
        · have hlt2 : k < n2 := by omega
          obtain ⟨ba, oa, rfl, ca'⟩ := (HJ1.out.keep HBl.out).at hlt
          obtain ⟨bb, ob, rfl, cb'⟩ := (HJ2.out.keep HBl.out).at hlt2
          have hIS := (HIS.out.keep Hb3.out).keep HBl.out
          have hA1 := Lib.hid (fun q : Later wr => Lr.same (rank_any RS (p.LS s) kS (p.vS s) (F2 k) q.to (hIS.keep q.below) (by omega)))
          have hA2 := Lib.hid (fun q : Later wr => Lr.same (rank_any RS (p.LS s) kS (p.vS s) (F1 k) q.to (hIS.keep q.below) (by omega)))
          rw [← HG4.out k hlt2] at hA1
          rw [← HG2.out k hlt] at hA2
          have HNx : Hid ((tkL p s m').getD k 0 ≤ (tkL p s m).getD k 0 → ∀ x, x < k + 1 → (tkL p s m').getD x 0 ≤ (tkL p s m).getD x 0) := Lib.hid (fun h x hx => by
            by_cases e : x = k
            · rw [e]; exact h
            · exact HAl.out x (by omega))
          have HFa : Hid ((tkL p s m).getD k 0 < (tkL p s m').getD k 0 → gnB p s m m' = false) := Lib.hid (fun h => by
            rw [HDe.out]
            exact allB_f hlt (decide_eq_false (by omega)))
          generalize (tkL p s m').getD k 0 = r1 at *
          generalize (tkL p s m).getD k 0 = r2 at *
          have hki : (k : Int) < n1 := by omega
          have hki2 : (k : Int) < n2 := by omega
          clear hIS
          go_wp2_with fail
          refine wp_region_later (by kernel_rfl) (by kernel_rfl) ?_
          have k2 : ∀ q : Later wr, q.to.cell? ⟨ba, oa + k, none⟩ = some (.int .i64 (F1 k)) := fun q => q.cell ca'
          have k3 : ∀ q : Later wr, q.to.cell? ⟨bb, ob + k, none⟩ = some (.int .i64 (F2 k)) := fun q => q.cell cb'
          clear cb' ca'
          repeat
            (with_reducible refine wpQuiet_step ?_
             intro K hK
             go_simp
             first
               | (refine hK _ ?_; clear hK K)
               | (apply Exists.intro
                  refine ⟨fun _ => ?_, hK _ ?_⟩
                  (first
                    | (go_at_call_of 91 (F2 k); exact Lr.later (hA1.out _))
                    | (go_at_call 91; exact Lr.later (hA2.out _)))
                  clear hK K))
          with_reducible refine wpQuiet_nil ?_
          intro _ hw'
          obtain ⟨q, rfl⟩ := hw'
          have HB2 := Lib.hid (HBl.out.trans (q.below.mono HBl.out.size))
          clear k2 k3
          generalize q.to = wy at *
          by_cases hle : r2 < r1
          · have d : decide (r2 < r1) = true := decide_eq_true hle
            have E := Lib.hid (HFa.out hle)
            go_wp2
            go_ret
            exact ⟨ret_bool E.out.symm, Hb0.out.trans ((Hb3.out.trans (HB2.out.mono Hb3.out.size)).mono Hb0.out.size)⟩
          · have d : decide (r2 < r1) = false := decide_eq_false hle
            have HS2 := Lib.hid (HNx.out (by omega))
            go_wp2
            go_roundw
            case rel => exact ⟨k + 1, by omega, by go_num, HS2.out, HB2.out⟩
            case measure => simp [intOf]; omega
        · obtain rfl : n1 = k := by omega
          have E : Hid (gnB p s m m' = true) := Lib.hid (by
            rw [HDe.out]
            exact allB_t (fun x hx => decide_eq_true (HAl.out x hx)))
          go_wp2
          go_ret
          exact ⟨ret_bool E.out.symm, Hb0.out.trans ((Hb3.out.trans (HBl.out.mono Hb3.out.size)).mono Hb0.out.size)⟩
end Go.Proofs.Ytiigcjcolpmafaa

/- The search for a lie, as a function: theory. -/
namespace Go.Proofs.Ytiigcjcolpmafaa
open Go.RowKit

/-- A plan's best stable matching. -/
def frM (q : PlanD) : Nat → Int := fun x => mmP q (fstI (bsI q) (kP q)).toNat x
theorem frM_eq {q : PlanD} {m a : Nat → Int} (hok : okPlan q = true) (hD : DaR q m a) (hE : DaEnd q m a) : ∀ x, x < q.nH → m x = frM q x := by
  have hst := hD.stb hok hE
  have hbe : ∀ u, Stb q u → ∀ x, x < q.nH → rHd q x (m x) ≤ rHd q x (u x) := fun u hu x hx => hD.best hok hE (hu.unb hok) hx
  obtain ⟨i, hi, hb⟩ := bsI_ex hok hst hbe
  intro x hx
  unfold frM
  rcases fstI_cases (bsI q) (kP q) with ⟨-, h⟩ | ⟨k, hk, e, h⟩
  · rw [h i hi] at hb
    cases hb
  · rw [e]
    exact (bsI_at hok hst hbe hk h x hx).symm
theorem hndL_cg {m m' : Nat → Int} {s : Int} : ∀ {n : Nat}, (∀ x, x < n → m x = m' x) → hndL m s n = hndL m' s n := by
  intro n
  induction n with
  | zero => intro _; rfl
  | succ n ih =>
    intro h
    show (if m n = s then hndL m s n ++ [(n : Int)] else hndL m s n) = (if m' n = s then hndL m' s n ++ [(n : Int)] else hndL m' s n)
    rw [ih (fun x hx => h x (by omega)), h n (by omega)]
/-- A list that may be said: hands of the shift's own list, each at most once. -/
structure LstOk (p : PlanD) (s : Nat) (l : List Int) : Prop where
  row : RowOk (fun k => l.getD k 0) l.length p.nH
  sub : ∀ k, k < l.length → 0 ≤ idxI (p.vS s) (l.getD k 0) (p.LS s)
theorem LstOk.nil (p : PlanD) (s : Nat) : LstOk p s [] := ⟨⟨Nat.zero_le _, fun a ha => absurd ha (Nat.not_lt_zero _)⟩, fun k hk => absurd hk (Nat.not_lt_zero _)⟩
def setL (p : PlanD) (s : Nat) (l : List Int) : PlanD := setS p s l.length (fun k => l.getD k 0)
theorem LstOk.ok {p : PlanD} {s : Nat} {l : List Int} (h : LstOk p s l) (hok : okPlan p = true) : okPlan (setL p s l) = true := setS_ok hok h.row
def candB (p : PlanD) (s : Nat) (l : List Int) (h : Nat) : Bool := hasB (p.vS s) (h : Int) (p.LS s) && !hasB (fun k => l.getD k 0) (h : Int) l.length
theorem getD_snoc {l : List Int} {x : Int} {k : Nat} (hk : k < l.length) : (l ++ [x]).getD k 0 = l.getD k 0 := by
  simp only [List.getD_eq_getElem?_getD]
  rw [List.getElem?_append_left hk]
theorem getD_last {l : List Int} {x : Int} : (l ++ [x]).getD l.length 0 = x := by
  simp [List.getD_eq_getElem?_getD]
theorem idxI_cgA {f g : Nat → Int} {x : Int} : ∀ {n : Nat}, (∀ k, k < n → f k = g k) → idxI f x n = idxI g x n := by
  intro n
  induction n with
  | zero => intro _; rfl
  | succ n ih =>
    intro h
    have e1 := ih (fun k hk => h k (by omega))
    show (if idxI f x n = -1 then (if f n = x then (n : Int) else -1) else idxI f x n) = (if idxI g x n = -1 then (if g n = x then (n : Int) else -1) else idxI g x n)
    rw [e1, h n (by omega)]
theorem LstOk.snoc {p : PlanD} {s h : Nat} {l : List Int} (hl : LstOk p s l) (hh : h < p.nH) (hc : candB p s l h = true) : LstOk p s (l ++ [(h : Int)]) := by
  unfold candB hasB at hc
  rw [Bool.and_eq_true, Bool.not_eq_true', decide_eq_true_iff, decide_eq_false_iff_not] at hc
  obtain ⟨c1, c2⟩ := hc
  have hrow : ∀ a, a < (l ++ [(h : Int)]).length → 0 ≤ (l ++ [(h : Int)]).getD a 0 ∧ (l ++ [(h : Int)]).getD a 0 < (p.nH : Int) ∧ idxI (fun k => (l ++ [(h : Int)]).getD k 0) ((l ++ [(h : Int)]).getD a 0) a = -1 := fun a ha => by
    rw [List.length_append] at ha
    have ha : a < l.length + 1 := ha
    rcases Nat.lt_succ_iff_lt_or_eq.1 ha with g | g
    · obtain ⟨r1, r2, r3⟩ := hl.row.2 a g
      rw [getD_snoc g]
      refine ⟨r1, r2, ?_⟩
      rw [idxI_cgA (g := fun k => l.getD k 0) (fun k hk => getD_snoc (by omega))]
      exact r3
    · subst g
      rw [getD_last]
      refine ⟨by omega, by omega, ?_⟩
      rw [idxI_cgA (g := fun k => l.getD k 0) (fun k hk => getD_snoc hk)]
      have := idxI_bd (fun k => l.getD k 0) (h : Int) l.length
      omega
  refine ⟨⟨row_len hrow, hrow⟩, fun k hk => ?_⟩
  rw [List.length_append] at hk
  have hk : k < l.length + 1 := hk
  rcases Nat.lt_succ_iff_lt_or_eq.1 hk with g | g
  · rw [getD_snoc g]; exact hl.sub k g
  · subst g; rw [getD_last]; exact c1
theorem cand_none {p : PlanD} {s h : Nat} {l : List Int} (hl : LstOk p s l) (hn : l.length = p.nH) (hh : h < p.nH) : candB p s l h = false := by
  cases hc : candB p s l h with
  | false => rfl
  | true =>
    have := (hl.snoc hh hc).row.1
    rw [List.length_append] at this
    have : l.length + 1 ≤ p.nH := this
    omega
/-- What shift s has in the matching of a lie it lists. -/
theorem LstOk.lsd {p : PlanD} {s : Nat} {l : List Int} (h : LstOk p s l) {m a : Nat → Int} (hs : s < p.nS) (hD : DaR (setL p s l) m a) : LsdS p s m := by
  intro x hx e
  have h1 : 0 ≤ idxI ((setL p s l).vS s) (x : Int) ((setL p s l).LS s) := hD.lstd x s hx e
  unfold setL at h1
  rw [setS_vs, setS_Ls] at h1
  obtain ⟨k, hk, e1, -⟩ := idx_at h1
  have := h.sub k hk
  rwa [show l.getD k 0 = (x : Int) from e1] at this
/-- A lie by which s gains. -/
def gnL (p : PlanD) (s : Nat) (m : Nat → Int) (l : List Int) : Bool := gnB p s m (frM (setL p s l))
def orH (F : Nat → Option (List Int)) : Nat → Option (List Int)
  | 0 => none
  | n + 1 => match orH F n with
    | some x => some x
    | none => F n
theorem orH_none {F : Nat → Option (List Int)} {n : Nat} (h : orH F n = none) (h1 : F n = none) : orH F (n + 1) = none := by
  show (match orH F n with | some x => some x | none => F n) = none
  rw [h]
  exact h1
theorem orH_some {F : Nat → Option (List Int)} {n : Nat} {x : List Int} (h : orH F n = none) (h1 : F n = some x) : ∀ K, n < K → orH F K = some x := by
  intro K
  induction K with
  | zero => intro h; exact absurd h (Nat.not_lt_zero _)
  | succ K ih =>
    intro hK
    show (match orH F K with | some x => some x | none => F K) = some x
    rcases Nat.lt_succ_iff_lt_or_eq.1 hK with g | g
    · rw [ih g]
    · subst g
      rw [h]
      exact h1
theorem orH_iff {F : Nat → Option (List Int)} {n : Nat} : orH F n = none ↔ ∀ h, h < n → F h = none := by
  induction n with
  | zero => exact ⟨fun _ h hh => absurd hh (Nat.not_lt_zero _), fun _ => rfl⟩
  | succ n ih =>
    constructor
    · intro h
      have h1 : (match orH F n with | some x => some x | none => F n) = none := h
      cases e : orH F n with
      | some x => rw [e] at h1; cases h1
      | none =>
        rw [e] at h1
        intro k hk
        rcases Nat.lt_succ_iff_lt_or_eq.1 hk with g | g
        · exact ih.1 e k g
        · rw [g]; exact h1
    · intro h
      exact orH_none (ih.2 (fun k hk => h k (by omega))) (h n (by omega))
theorem orH_of {F : Nat → Option (List Int)} {n : Nat} {x : List Int} (h : orH F n = some x) : ∃ k, k < n ∧ F k = some x ∧ ∀ j, j < k → F j = none := by
  induction n with
  | zero => cases h
  | succ n ih =>
    have h1 : (match orH F n with | some x => some x | none => F n) = some x := h
    cases e : orH F n with
    | some y =>
      rw [e] at h1
      injection h1 with h1
      subst h1
      obtain ⟨k, hk, h2, h3⟩ := ih e
      exact ⟨k, by omega, h2, h3⟩
    | none =>
      rw [e] at h1
      exact ⟨n, by omega, h1, fun j hj => orH_iff.1 e j hj⟩
def lfL (p : PlanD) (s : Nat) (m : Nat → Int) : Nat → List Int → Option (List Int)
  | 0, l => if gnL p s m l = true then some l else none
  | d + 1, l => if gnL p s m l = true then some l else orH (fun h => if candB p s l h = true then lfL p s m d (l ++ [(h : Int)]) else none) p.nH
theorem lfL_ok {p : PlanD} {s : Nat} {m : Nat → Int} : ∀ (d : Nat) (l x : List Int), LstOk p s l → lfL p s m d l = some x → LstOk p s x ∧ gnL p s m x = true := by
  intro d
  induction d with
  | zero =>
    intro l x hl h
    have h : (if gnL p s m l = true then some l else none) = some x := h
    split at h
    · rename_i hg
      injection h with h
      subst h
      exact ⟨hl, hg⟩
    · cases h
  | succ d ih =>
    intro l x hl h
    have h : (if gnL p s m l = true then some l else orH (fun h => if candB p s l h = true then lfL p s m d (l ++ [(h : Int)]) else none) p.nH) = some x := h
    split at h
    · rename_i hg
      injection h with h
      subst h
      exact ⟨hl, hg⟩
    · obtain ⟨k, hk, h1, -⟩ := orH_of h
      split at h1
      · rename_i hc
        exact ih _ _ (hl.snoc hk hc) h1
      · cases h1
end Go.Proofs.Ytiigcjcolpmafaa

/- Append of a list of integers as a step of a region: the world is as it was, but for the new list's block. (As in Yar, for texts that want no more.) -/
set_option maxRecDepth 1000000
set_option maxHeartbeats 2000000
namespace Go.Proofs.Ytiigcjcolpmafaa
open Go.RowKit

theorem grown_bel {w w' : World} {B : Nat} {v : Value} {L : List Int} (ho : OwnL w B v L) (hB : B ≤ w.heap.size) (hk : w.grownBy w' v.ownBlock) : Below B w w' := by
  cases hv : v.ownBlock with
  | none => rw [hv] at hk; exact (Kp.of_none (bs := []) hk).below (by simp) hB
  | some g => rw [hv] at hk; exact Exc.below hk (own_lt ho hv).1 hB
theorem cell_of_blkS {W W' : World} {a : Addr} {v : Value} (h : W'.heap[a.block]? = W.heap[a.block]?) (hc : W.cell? a = some v) : W'.cell? a = some v := by
  unfold World.cell? at hc ⊢
  rw [h]
  exact hc
theorem grown_cel {w w' : World} {v x : Value} {b : Nat} (hk : w.grownBy w' v.ownBlock) (hc : w.cell? ⟨b, 0, none⟩ = some x) (hne : v.ownBlock ≠ some b) : w'.cell? ⟨b, 0, none⟩ = some x :=
  cell_of_blkS (hk.block b (World.block_lt_of_cell? _ _ hc) (fun e => hne e.symm)) hc
theorem wp_gs {w : World} {o : Oper} {a : Act} {K : Act → World → Prop} {Q : Exit → Act → World → Prop} (s x : Operand)
    (ho : o.op = .call { callee := .builtin .append, args := #[s, x], argTypes := #[23, 23] })
    (w0 : World) (v : Value) (L : List Int) (hs : a.eval s = v) (hown : OwnL w w0.heap.size v L) (hB : Below w0.heap.size w0 w) (X : Option Addr) (n c : Nat) (f : Nat → Int) (hx : a.eval x = .slice X n c) (hX : Ints w X n f) (hXn : X = none → n = 0 ∧ c = 0) (hn : L.length + n ≤ 1000000)
    (h : ∀ v' w', OwnL w' w0.heap.size v' (L ++ lst n f) → Below w0.heap.size w0 w' → w.grownBy w' v.ownBlock → K (a.put o.dst v') w') :
    Oper.wp Try.prog o a w K Q := by
  obtain ⟨v', w', hr, h2, h3, h4⟩ := run_append_ints w w0.heap.size o.type v L hown X n c f hX hXn hn hB.size
  unfold Oper.wp execOp
  simp only [ho, resolve, invoke, builtin, Sem.run_bind, Sem.run_pure, Result.andThen_ok, List.map_toArray, List.map_cons, List.map_nil, hs, hx, hr]
  exact h v' w' h2 (hB.trans (grown_bel hown hB.size h3)) h3
end Go.Proofs.Ytiigcjcolpmafaa

/- Another list of one shift: the program's withList. -/
namespace Go.Proofs.Ytiigcjcolpmafaa
open Go.RowKit

set_option maxHeartbeats 1000000 in
set_option maxRecDepth 1000000 in
theorem cloneT_some (a : Addr) (n c : Nat) (vals : List Value) (w : World) (hl : vals.length = n) (h : ∀ j u, vals[j]? = some u → w.cell? (a.add j) = some u) (hone : ∀ u ∈ vals, u.oneCell' = true) (hn : n ≤ 10000) :
    Calls Try.prog 112 #[.slice (some a) n c] w fun e w' => ∃ v', e = .returned v' ∧ w'.ownsRow w.heap.size 23 1 v' n vals ∧ Below w.heap.size w w' := by
  have q := fun (w : World) (a : Option Addr) (n c n' c' : Nat) => Lib.run_eql_slice_nil (P := Try.prog) w 22 23 a n c n' c' Try.underlying22
  obtain ⟨i0, hi, hz0, hz1, hz2⟩ := info_parts infoInts
  have H := Lib.hid h
  clear h
  go_enter Try.func112, Try.ntmps112
  go_wp2_with (at_builtin; refine wpList_append_own _ rfl _ _ 22 rfl w.heap.size 23 i0 (.slice none 0 0) 1 24 Try.underlying22 hi hz0 hz1 hz2 rfl (by decide) _ _ _ rfl (World.ownsRow_made w #[] 0 (Nat.le_refl _) (Nat.zero_le _) rfl) a n c vals rfl ?qc1 ?qc2 ?qc3 ?qc4 ?qc5 ?qc6 ?_)
  case qc1 => simp [hl]
  case qc2 => exact fun j u hu => Lib.cell?_alloc_some _ (H.out j u hu)
  case qc3 => exact hone
  case qc4 => unfold maxLen; omega
  case qc5 => omega
  case qc6 => simp
  intro v' w1 hown hgrow hnil
  go_wp2
  go_ret
  refine ⟨v', rfl, ?_, ?_⟩
  · simpa using hown
  · exact ((Below.refl _ w).alloc (Nat.le_refl _) _).grown hgrow (by simp) (by intro k hk; simp [Value.ownBlock] at hk; omega)

/-- A copy's block G: its cells are the rows' own slices. -/
theorem cloneT_any (A : Option Addr) (n cA : Nat) (L : Nat → Nat) (v : Nat → Nat → Int) (wz w : World) (h : RowsC wz A n L v) (hbz : Below wz.heap.size wz w) (hn1 : 1 ≤ n) (hn : n ≤ 10000) :
    Calls Try.prog 112 #[.slice A n cA] w fun e w' => ∃ (G cap : Nat) (D : Nat → Value), e = .returned (.slice (some ⟨G, 0, none⟩) n cap) ∧ w.heap.size ≤ G ∧ n ≤ cap ∧ w'.rowIs G 23 cap D ∧
      (∀ i, i < n → ∃ A' c', D i = .slice A' (L i) c' ∧ L i ≤ c' ∧ Ints wz A' (L i) (v i)) ∧ Below w.heap.size w w' := by
  obtain ⟨b, o, rfl, hc⟩ := h hn1
  have hcell : ∀ i, ∃ x, i < n → w.cell? ⟨b, o + i, none⟩ = some x ∧ ∃ A' c', x = .slice A' (L i) c' ∧ L i ≤ c' ∧ Ints wz A' (L i) (v i) := fun i => by
    by_cases hi : i < n
    · obtain ⟨A', c', k1, k2, k3⟩ := hc i hi
      exact ⟨_, fun _ => ⟨old_cell k1 hbz, A', c', rfl, k2, k3⟩⟩
    · exact ⟨.int .i64 0, fun e => absurd e hi⟩
  obtain ⟨X, hX⟩ := Classical.axiomOfChoice hcell
  refine (cloneT_some ⟨b, o, none⟩ n cA ((List.range n).map X) w (by simp) (fun j u hu => ?_) (fun u hu => ?_) hn).mono ?_
  · have hj : j < n := by have := (List.getElem?_eq_some_iff.1 hu).1; simpa using this
    rw [List.getElem?_map, List.getElem?_range hj] at hu
    injection hu with hu
    rw [Addr.add_lit, ← hu]
    exact (hX j hj).1
  · obtain ⟨j, hj, rfl⟩ := List.mem_map.1 hu
    obtain ⟨-, A', c', e, -⟩ := hX j (List.mem_range.1 hj)
    rw [e]
    rfl
  · rintro e w' ⟨v', rfl, hown, hb⟩
    have hown0 := hown
    rcases hown0.2 with ⟨-, h0⟩ | ⟨G, cap, cur, rfl, hg, hh, hnc, hcm, hcs, ht⟩
    · omega
    refine ⟨G, cap, fun i => cur[i]?.getD (.int .i64 0), rfl, hg, hnc, ⟨cur, hh, by omega, fun i hi => by
      have hi' : i < cur.size := by omega
      simp [Array.getElem?_eq_getElem hi']⟩, fun i hi => ?_, hb⟩
    obtain ⟨-, A', c', e, k1, k2⟩ := hX i hi
    have hca := World.ownsRow.cellAt hown i (by omega)
    have hrow : w'.rowIs G 23 cap (fun i => cur[i]?.getD (.int .i64 0)) := ⟨cur, hh, by omega, fun i hi => by
      have hi' : i < cur.size := by omega
      simp [Array.getElem?_eq_getElem hi']⟩
    rw [World.rowIs.cell hrow (by omega), List.getElem?_map, List.getElem?_range hi] at hca
    injection hca with hca
    exact ⟨A', c', hca.trans e, k1, k2⟩

/-- A block of three values. -/
def B3 (w : World) (g : Nat) (a b c : Value) : Prop := w.rowIs g 29 3 (fun i => if i = 0 then a else if i = 1 then b else c)
theorem B3.new (w : World) (a b c : Value) : B3 (w.alloc (.cells #[a, b, c] 29)) w.heap.size a b c :=
  World.rowIs_alloc w #[a, b, c] 29 _ (fun i hi => by
    have : i = 0 ∨ i = 1 ∨ i = 2 := by have : i < 3 := hi; omega
    rcases this with rfl | rfl | rfl <;> rfl)
theorem B3.cells {w : World} {g : Nat} {a b c : Value} (h : B3 w g a b c) : w.cell? ⟨g, 0, none⟩ = some a ∧ w.cell? ⟨g, 1, none⟩ = some b ∧ w.cell? ⟨g, 2, none⟩ = some c :=
  ⟨World.rowIs.cell h (i := 0) (by omega), World.rowIs.cell h (i := 1) (by omega), World.rowIs.cell h (i := 2) (by omega)⟩
theorem B3.frozen {w : World} {g : Nat} {a b c : Value} (h : B3 w g a b c) (i : Nat) : w.frozen? ⟨g, i, none⟩ = false := World.rowIs.frozen h i
theorem B3.lt {w : World} {g : Nat} {a b c : Value} (h : B3 w g a b c) : g < w.heap.size := World.rowIs.lt h
theorem B3.keep {w w' : World} {g : Nat} {a b c : Value} (h : B3 w g a b c) (hb : Below w.heap.size w w') : B3 w' g a b c := World.rowIs.of_block h (hb.block _ h.lt)
theorem B3.far {w : World} {g : Nat} {a b c : Value} (h : B3 w g a b c) {p : Addr} (hp : g ≠ p.block) (v : Value) : B3 (w.setCell p v) g a b c := World.rowIs.setOther h hp v
theorem B3.set1 {w : World} {g : Nat} {a b c : Value} (h : B3 w g a b c) (v : Value) : B3 (w.setCell ⟨g, 1, none⟩ v) g a v c :=
  World.rowIs.congr (World.rowIs.set h 1 v) (fun i hi => by
    have : i = 0 ∨ i = 1 ∨ i = 2 := by omega
    rcases this with rfl | rfl | rfl <;> rfl)
theorem B3.zw {w : World} {g : Nat} {a b c : Value} (h : B3 w g a b c) (x y z : Value) : B3 (((w.setCell ⟨g, 0, none⟩ x).setCell ⟨g, 1, none⟩ y).setCell ⟨g, 2, none⟩ z) g x y z :=
  World.rowIs.congr (World.rowIs.set (World.rowIs.set (World.rowIs.set h 0 x) 1 y) 2 z) (fun i hi => by
    have : i = 0 ∨ i = 1 ∨ i = 2 := by omega
    rcases this with rfl | rfl | rfl <;> rfl)
set_option maxHeartbeats 4000000 in
set_option maxRecDepth 1000000 in
theorem withList_any (AH AS AP DL : Option Addr) (cH cS cP s L c : Nat) (f : Nat → Int) (p : PlanD) (w : World) (hp : PlanIn w AH AS AP p) (hs : s < p.nS) (hI : Ints w DL L f) (hLc : L ≤ c) (hL : L ≤ 9) :
    Calls Try.prog 93 #[.agg #[.slice AH p.nH cH, .slice AS p.nS cS, .slice AP p.nP cP], .int .i64 s, .slice DL L c] w fun e w' => ∃ G cap, e = .returned (.agg #[.slice AH p.nH cH, .slice (some ⟨G, 0, none⟩) p.nS cap, .slice AP p.nP cP]) ∧ PlanIn w' AH (some ⟨G, 0, none⟩) AP (setS p s L f) ∧ Below w.heap.size w w' := by
  obtain ⟨W, hW⟩ : ∃ W, W = (w.alloc (.cells #[.slice AH p.nH cH, .slice AS p.nS cS, .slice AP p.nP cP] 29)).alloc (.cells #[.slice none 0 0, .slice none 0 0, .slice none 0 0] 29) := ⟨_, rfl⟩
  have hbW : Below w.heap.size w W := by
    rw [hW]
    exact (below_box w _).trans ((below_box _ _).mono (by simp))
  have hB : B3 W w.heap.size (.slice AH p.nH cH) (.slice AS p.nS cS) (.slice AP p.nP cP) := by
    rw [hW]
    exact (B3.new w _ _ _).keep (below_box _ _)
  have hZ : B3 W (w.heap.size + 1) (.slice none 0 0) (.slice none 0 0) (.slice none 0 0) := by
    rw [hW]
    have := B3.new (w.alloc (.cells #[.slice AH p.nH cH, .slice AS p.nS cS, .slice AP p.nP cP] 29)) (.slice none 0 0) (.slice none 0 0) (.slice none 0 0)
    simpa using this
  have hWs : W.heap.size = w.heap.size + 2 := by rw [hW]; simp
  have HP := Lib.hid hp
  have HI := Lib.hid hI
  have HB := Lib.hid hB
  have HZ := Lib.hid hZ
  have HbW := Lib.hid hbW
  have HWW := Lib.hid hW.symm
  have hs9 := hp.nS9
  have HC := Lib.hid (cloneT_any AS p.nS cS p.LS p.vS w W hp.shifts hbW (by omega) (by omega))
  obtain ⟨q0, q1, q2⟩ := hB.cells
  have hss : (s : Int) < p.nS := by omega
  clear hp hI hB hZ hbW hW
  go_enter Try.func93, Try.ntmps93
  go_wp2_with fail
  rw [HWW.out]
  clear HWW
  go_wp2_with fail
  refine HC.out.mono ?_
  rintro e w1 ⟨G, cap, D, rfl, hG, hcap, hR, hD, hb1⟩
  have hB1 := HB.out.keep hb1
  have hZ1 := HZ.out.keep hb1
  have hG' : w.heap.size + 2 ≤ G := by omega
  have hne1 : w.heap.size ≠ G := by omega
  have f1 := hB1.frozen 1
  obtain ⟨a0, a1, a2⟩ := hB1.cells
  have hB2 := hB1.set1 (.slice (some ⟨G, 0, none⟩) p.nS cap)
  have hR2 := World.rowIs.setOther hR (a := ⟨w.heap.size, 1, none⟩) (fun e => hne1 e.symm) (.slice (some ⟨G, 0, none⟩) p.nS cap)
  have hZ2 := hZ1.far (p := ⟨w.heap.size, 1, none⟩) (by simp) (.slice (some ⟨G, 0, none⟩) p.nS cap)
  have hb2 : Below W.heap.size W w1 := hb1
  have hbX : Below w.heap.size w (w1.setCell ⟨w.heap.size, 1, none⟩ (.slice (some ⟨G, 0, none⟩) p.nS cap)) := (HbW.out.trans (hb1.mono HbW.out.size)).setCell (p := ⟨w.heap.size, 1, none⟩) (Nat.le_refl _) _
  obtain ⟨b0, b1, b2⟩ := hB2.cells
  have fG := World.rowIs.frozen hR2 s
  have cG := World.rowIs.cell hR2 (i := s) (by omega)
  have hR3 := World.rowIs.set hR2 s (.slice DL L c)
  have hB3 := hB2.far (p := ⟨G, s, none⟩) hne1 (.slice DL L c)
  have hZ3 := hZ2.far (p := ⟨G, s, none⟩) (show w.heap.size + 1 ≠ G by omega) (.slice DL L c)
  have hbY := hbX.setCell (p := ⟨G, s, none⟩) (show w.heap.size ≤ G by omega) (.slice DL L c)
  obtain ⟨c0, c1, c2⟩ := hB3.cells
  obtain ⟨d0, d1, d2⟩ := hZ3.cells
  have g0 := hZ3.frozen 0
  have g1 := hZ3.frozen 1
  have g2 := hZ3.frozen 2
  obtain ⟨XF, hXF⟩ : ∃ XF, XF = ((((w1.setCell ⟨w.heap.size, 1, none⟩ (.slice (some ⟨G, 0, none⟩) p.nS cap)).setCell ⟨G, s, none⟩ (.slice DL L c)).setCell ⟨w.heap.size + 1, 0, none⟩ (.slice AH p.nH cH)).setCell ⟨w.heap.size + 1, 1, none⟩ (.slice (some ⟨G, 0, none⟩) p.nS cap)).setCell ⟨w.heap.size + 1, 2, none⟩ (.slice AP p.nP cP) := ⟨_, rfl⟩
  have hgz : G ≠ w.heap.size + 1 := by omega
  have hR4 := World.rowIs.setOther (World.rowIs.setOther (World.rowIs.setOther hR3 (a := ⟨w.heap.size + 1, 0, none⟩) hgz (.slice AH p.nH cH)) (a := ⟨w.heap.size + 1, 1, none⟩) hgz (.slice (some ⟨G, 0, none⟩) p.nS cap)) (a := ⟨w.heap.size + 1, 2, none⟩) hgz (.slice AP p.nP cP)
  have hbF := ((hbY.setCell (p := ⟨w.heap.size + 1, 0, none⟩) (Nat.le_succ _) (.slice AH p.nH cH)).setCell (p := ⟨w.heap.size + 1, 1, none⟩) (Nat.le_succ _) (.slice (some ⟨G, 0, none⟩) p.nS cap)).setCell (p := ⟨w.heap.size + 1, 2, none⟩) (Nat.le_succ _) (.slice AP p.nP cP)
  have hZ4 := hZ3.zw (.slice AH p.nH cH) (.slice (some ⟨G, 0, none⟩) p.nS cap) (.slice AP p.nP cP)
  rw [← hXF] at hR4 hbF hZ4
  have HXF := Lib.hid hXF.symm
  clear hXF
  have HPl : Hid (PlanIn XF AH (some ⟨G, 0, none⟩) AP (setS p s L f)) := Lib.hid (by
    have hbY2 : Below w.heap.size w XF := hbF
    have hq := HP.out.keep hbY2
    refine ⟨hq.hands, fun _ => ⟨G, 0, rfl, fun i hi => ?_⟩, hq.places, hq.nH9, hq.nS9, hq.nP9, hq.sH, fun i hi => ?_⟩
    · rw [Nat.zero_add]
      by_cases e : i = s
      · subst e
        refine ⟨DL, c, ?_, ?_, ?_⟩
        · rw [setS_Ls, World.rowIs.cell hR4 (i := i) (by have : i < p.nS := hi; omega), if_pos rfl]
        · rw [setS_Ls]; exact hLc
        · rw [setS_Ls, setS_vs]; exact HI.out.keep hbY2
      · obtain ⟨A', c', e1, k1, k2⟩ := hD i hi
        refine ⟨A', c', ?_, ?_, ?_⟩
        · rw [setS_L e, World.rowIs.cell hR4 (i := i) (by have : i < p.nS := hi; omega), if_neg e, e1]
        · rw [setS_L e]; exact k1
        · rw [setS_L e, setS_v e]
          exact k2.keep hbY2
    · by_cases e : i = s
      · subst e; rw [setS_Ls]; exact hL
      · rw [setS_L e]; exact hq.sS i hi)
  have HbF := Lib.hid hbF
  have HZ4 := Lib.hid hZ4
  clear hbY hB1 hZ1 hR hD hb1 hR2 hR3 hB2 hZ2 hb2 hbX hB3 hZ3 HC hR4 hbF hZ4
  go_wp2_with fail
  rw [HXF.out]
  clear HXF d0 d1 d2 g0 g1 g2 c0 c1 c2
  obtain ⟨z0, z1, z2⟩ := HZ4.out.cells
  refine bodyPost_ret (v := .agg #[.slice AH p.nH cH, .slice (some ⟨G, 0, none⟩) p.nS cap, .slice AP p.nP cP]) (by simp [results, Try.results93, go_sem, z0, z1, z2]) rfl ?_
  exact ⟨G, cap, rfl, HPl.out, HbF.out⟩
end Go.Proofs.Ytiigcjcolpmafaa

/- The program's lieFrom: the first list of a search in depth by which a shift gains. -/
namespace Go.Proofs.Ytiigcjcolpmafaa
open Go.RowKit

/-- What lieFrom hands back. -/
def LfS (r : Option (List Int)) (a b : Value) (w : World) : Prop :=
  match r with
  | none => a = .slice none 0 0 ∧ b = .bool false
  | some x => ∃ A c, a = .slice A x.length c ∧ b = .bool true ∧ Ints w A x.length (fun k => x.getD k 0) ∧ x.length ≤ c
def LfR (r : Option (List Int)) (e : Ending) (w : World) : Prop := ∃ a b, e = .returned (.tuple #[a, b]) ∧ LfS r a b w
theorem firstL_any (AH AG AP : Option Addr) (cH cG cP s : Nat) (l : List Int) (p : PlanD) (w : World) (hp : PlanIn w AH AG AP (setL p s l)) (hok : okPlan p = true) (hs : s < p.nS) (hl : LstOk p s l) :
    Calls Try.prog 53 #[.agg #[.slice AH p.nH cH, .slice AG p.nS cG, .slice AP p.nP cP]] w fun e w' => ∃ g m, e = .returned (.slice (some ⟨g, 0, none⟩) p.nH p.nH) ∧ Ints w' (some ⟨g, 0, none⟩) p.nH m ∧ LsdS p s m ∧ (∀ m0, gnB p s m0 m = gnL p s m0 l) ∧ Below w.heap.size w w' := by
  refine (first_any AH AG AP cH cG cP (setL p s l) w hp (hl.ok hok)).mono ?_
  rintro e w' ⟨g, m, a, rfl, hD, hE, hR, -, hb⟩
  exact ⟨g, m, rfl, hR.ints, hl.lsd hs hD, fun m0 => gnB_cg hok hs (fun _ _ => rfl) (frM_eq (hl.ok hok) hD hE), hb⟩
set_option maxHeartbeats 8000000 in
set_option maxRecDepth 1000000 in
theorem lieFrom_step (AH AS AP DA DL : Option Addr) (cH cS cP cA cL s : Nat) (p : PlanD) (m0 : Nat → Int) (l : List Int) (F : Nat → Option (List Int)) (w : World) (hp : PlanIn w AH AS AP p) (hok : okPlan p = true) (hs : s < p.nS) (hm0 : LsdS p s m0) (hl : LstOk p s l)
    (ha : Ints w DA (hndL m0 (s : Int) p.nH).length (fun k => (hndL m0 (s : Int) p.nH).getD k 0)) (hd : Ints w DL l.length (fun k => l.getD k 0)) (hlc : l.length ≤ cL)
    (hno : ∀ h, h < p.nH → candB p s l h = false → F h = none)
    (hrec : ∀ h, h < p.nH → candB p s l h = true → ∀ (A1 : Option Addr) (c1 : Nat) (w1 : World), Below w.heap.size w w1 → Ints w1 A1 (l ++ [(h : Int)]).length (fun k => (l ++ [(h : Int)]).getD k 0) → (l ++ [(h : Int)]).length ≤ c1 →
      Calls Try.prog 61 #[.agg #[.slice AH p.nH cH, .slice AS p.nS cS, .slice AP p.nP cP], .int .i64 s, .slice DA (hndL m0 (s : Int) p.nH).length cA, .slice A1 (l ++ [(h : Int)]).length c1] w1 fun e w' => LfR (F h) e w' ∧ Below w1.heap.size w1 w') :
    Calls Try.prog 61 #[.agg #[.slice AH p.nH cH, .slice AS p.nS cS, .slice AP p.nP cP], .int .i64 s, .slice DA (hndL m0 (s : Int) p.nH).length cA, .slice DL l.length cL] w fun e w' => LfR (if gnL p s m0 l = true then some l else orH F p.nH) e w' ∧ Below w.heap.size w w' := by
  have Hb0 := Lib.hid (below_box w (.cells #[.slice AH p.nH cH, .slice AS p.nS cS, .slice AP p.nP cP] 29))
  have HB0 := Lib.hid (BoxP.new w AH AS AP p.nH p.nS p.nP cH cS cP)
  have HP := Lib.hid (hp.keep Hb0.out)
  have HA := Lib.hid (ha.keep Hb0.out)
  have HI := Lib.hid (hd.keep Hb0.out)
  have hn6 : p.nH ≤ 6 := (okPlan_of hok).1.2.1
  have hl6 : l.length ≤ 6 := by have := hl.row.1; omega
  have hss : (s : Int) < p.nS := by omega
  have HOk := Lib.hid hok
  have HLo := Lib.hid hl
  have HM0 := Lib.hid hm0
  have HNo := Lib.hid hno
  have HRec := Lib.hid hrec
  have hl9 := hp.sS s hs
  obtain ⟨W, hW⟩ : ∃ W, W = w.alloc (.cells #[.slice AH p.nH cH, .slice AS p.nS cS, .slice AP p.nP cP] 29) := ⟨_, rfl⟩
  rw [← hW] at Hb0 HB0 HP HA HI
  have HWW := Lib.hid hW.symm
  obtain ⟨R, hR⟩ : ∃ R, R = (if gnL p s m0 l = true then some l else orH F p.nH) := ⟨_, rfl⟩
  rw [← hR]
  have HR := Lib.hid hR
  clear hp hok hm0 hl ha hd hno hrec hW hR
  go_enter Try.func61, Try.ntmps61
  go_wp2_with fail
  rw [HWW.out]
  clear HWW
  have hBc : Below W.heap.size W W.drew := (Dn.refl W).drew.below _
  go_region_held3 (fun w' => w'.cell? ⟨w.heap.size, 0, none⟩ = some (.slice AH p.nH cH) ∧ w'.cell? ⟨w.heap.size, 1, none⟩ = some (.slice AS p.nS cS) ∧ w'.cell? ⟨w.heap.size, 2, none⟩ = some (.slice AP p.nP cP))
    (first | exact (HB0.out.keep hBc))
    (first
      | (go_at_call 93; refine (withList_any AH AS AP DL cH cS cP s l.length cL (fun k => l.getD k 0) p _ (HP.out.keep hBc) hs (HI.out.keep hBc) hlc (by omega)).mono ?_; rintro e w1 ⟨G, cG, rfl, hpl, hb1⟩; have hBc := hBc.trans (hb1.mono hBc.size))
      | (go_at_call 53; refine (firstL_any AH (some ⟨G, 0, none⟩) AP cH cG cP s l p _ hpl HOk.out hs HLo.out).mono ?_; rintro e w2 ⟨g, m, rfl, hIm, hLm, hgm, hb2⟩; have hBc := hBc.trans (hb2.mono hBc.size))
      | (go_at_call 62; refine (handsOf_any (some ⟨g, 0, none⟩) p.nH p.nH m (s : Int) _ hIm (by omega)).mono ?_; rintro e w3 ⟨x3, rfl, hx3, hb3⟩; obtain ⟨A3, c3, rfl, -, hI3, -⟩ := OwnL.form hx3; have hBc := hBc.trans (hb3.mono hBc.size))
      | (go_at_call 92; have hG := gains_any AH AS AP DA A3 cH cS cP cA c3 s p m0 m _ (HP.out.keep hBc) HOk.out hs (HA.out.keep hBc) hI3 HM0.out hLm; rw [hgm m0] at hG; refine Lr.use hG ?_; intro w4 hb4; have hBc := hBc.trans (hb4.mono hBc.size))
      | fail)
  have HbC := Lib.hid hBc
  clear hBc hpl hb1 hIm hLm hgm hb2 hx3 hI3 hb3 hb4
  cases hgn : gnL p s m0 l with
  | true =>
    have HE := Lib.hid (HR.out.trans (if_pos hgn))
    clear hgn
    go_wp2
    go_returns
    exact ⟨⟨_, _, rfl, by rw [HE.out]; exact ⟨DL, cL, rfl, rfl, HI.out.keep HbC.out, hlc⟩⟩, Hb0.out.trans (HbC.out.mono Hb0.out.size)⟩
  | false =>
    have HRo := Lib.hid (HR.out.trans (if_neg (by rw [hgn]; decide)))
    clear hgn
    obtain ⟨q0, q1, q2⟩ := HB0.out.keep HbC.out
    go_wp2
    clear q0 q1 q2
    go_loopw [28] (fun x wr => ∃ h : Nat, h ≤ p.nH ∧ x = .int .i64 h ∧ orH F h = none ∧ Below W.heap.size W wr) (fun x _ => p.nH - (intOf x).toNat)
    case atStart => exact ⟨0, Nat.zero_le _, rfl, rfl, HbC.out⟩
    case round =>
      obtain ⟨h, hh, rfl, hor, hbel⟩ := hrel
      have HOr := Lib.hid hor
      have Hbel := Lib.hid hbel
      clear hor hbel
      by_cases hlt : h < p.nH
      · have hhi : (h : Int) < p.nH := by omega
        obtain ⟨q0, q1, q2⟩ := HB0.out.keep Hbel.out
        obtain ⟨bS, oS, RS, kS, rfl, hcS, -, hIS⟩ := (HP.out.keep Hbel.out).shifts.at hs
        have HC1 := Lib.hid (contains_any RS (p.LS s) kS (p.vS s) (h : Int) wr hIS (by omega))
        have HC2 := Lib.hid (contains_any DL l.length cL (fun k => l.getD k 0) (h : Int) wr (HI.out.keep Hbel.out) (by omega))
        have HCb : Hid (candB p s l h = (hasB (p.vS s) (h : Int) (p.LS s) && !hasB (fun k => l.getD k 0) (h : Int) l.length)) := Lib.hid rfl
        clear hIS
        cases hb1 : hasB (p.vS s) (h : Int) (p.LS s) with
        | false =>
          have HF := Lib.hid (HNo.out h hlt (by rw [HCb.out, hb1]; rfl))
          rw [hb1] at HC1
          clear hb1
          go_wp2_with fail
          refine HC1.out.mono ?_
          rintro e w' ⟨rfl, rfl⟩
          go_wp2
          go_roundw
          case rel => exact ⟨h + 1, by omega, by go_num, orH_none HOr.out HF.out, Hbel.out⟩
          case measure => simp [intOf]; omega
        | true =>
          rw [hb1] at HC1
          cases hb2 : hasB (fun k => l.getD k 0) (h : Int) l.length with
          | true =>
            have HF := Lib.hid (HNo.out h hlt (by rw [HCb.out, hb1, hb2]; rfl))
            rw [hb2] at HC2
            clear hb1 hb2
            go_wp2_with fail
            refine HC1.out.mono ?_
            rintro e w' ⟨rfl, rfl⟩
            go_wp2_with fail
            refine HC2.out.mono ?_
            rintro e w' ⟨rfl, rfl⟩
            go_wp2
            go_roundw
            case rel => exact ⟨h + 1, by omega, by go_num, orH_none HOr.out HF.out, Hbel.out⟩
            case measure => simp [intOf]; omega
          | false =>
            have hcand : candB p s l h = true := by rw [HCb.out, hb1, hb2]; rfl
            have HRc : Hid (∀ (A1 : Option Addr) (c1 : Nat) (w1 : World), Below W.heap.size W w1 → Ints w1 A1 (l.length + 1) (fun k => (l ++ [(h : Int)]).getD k 0) → l.length + 1 ≤ c1 →
                Calls Try.prog 61 #[.agg #[.slice AH p.nH cH, .slice (some ⟨bS, oS, none⟩) p.nS cS, .slice AP p.nP cP], .int .i64 s, .slice DA (hndL m0 (s : Int) p.nH).length cA, .slice A1 (l.length + 1) c1] w1 fun e w' => LfR (F h) e w' ∧ Below w1.heap.size w1 w') := Lib.hid (fun A1 c1 w1 hb hI hc => by
              have hn : (l ++ [(h : Int)]).length = l.length + 1 := by simp
              have h1 := HRec.out h hlt hcand A1 c1 w1 (Hb0.out.trans (hb.mono Hb0.out.size))
              rw [hn] at h1
              exact h1 hI hc)
            clear hcand
            rw [hb2] at HC2
            clear hb1 hb2
            go_wp2_with fail
            refine HC1.out.mono ?_
            rintro e w' ⟨rfl, rfl⟩
            go_wp2_with fail
            refine HC2.out.mono ?_
            rintro e w' ⟨rfl, rfl⟩
            clear HC1 HC2 HCb hcS q0 q1 q2
            go_upto_region 7 with fail
            go_cut [11, 12] (fun s11 s12 wx => LfS (F h) s11 s12 wx ∧ Below W.heap.size W wx)
            case first =>
              refine wp_region_held (S := fun w' => BoxP w' w.heap.size AH (some ⟨bS, oS, none⟩) AP p.nH p.nS p.nP cH cS cP) (by kernel_rfl) ?_
              change wpAnyH _ _ _ _ _ _ _ _ wr.drew
              have HbX := Lib.hid (Hbel.out.trans (((Dn.refl wr).drew.below _).mono Hbel.out.size))
              generalize wr.drew = u0 at *
              have HK := Lib.hid (fun w' (hb : Below u0.heap.size u0 w') => HB0.out.keep (HbX.out.trans (hb.mono HbX.out.size)))
              have HBu0 := Lib.hid (Below.refl u0.heap.size u0)
              have HLst := Lib.hid (lst_of l)
              refine wpAnyH_take (i := 0) (v := .agg #[.slice AH p.nH cH, .slice (some ⟨bS, oS, none⟩) p.nS cS, .slice AP p.nP cP]) rfl (by kernel_rfl) (by kernel_rfl) (by kernel_rfl) (fun _ _ _ h => h) (Or.inl ⟨by rfl, fun w' hS => by (try dsimp only at hS); obtain ⟨h0, h1, h2⟩ := hS; go_simp⟩) (HK.out _ HBu0.out) ?_
              try simp only [Act.put, List.getElem_toArray, List.getElem_cons_zero, List.getElem_cons_succ, List.setIfInBounds_toArray, List.set_cons_zero, List.set_cons_succ]
              refine wpAnyH_take (i := 1) (v := .int .i64 s) rfl (by kernel_rfl) (by kernel_rfl) (by kernel_rfl) (fun _ _ _ h => h) (Or.inl ⟨by rfl, fun w' hS => by (try dsimp only at hS); go_simp⟩) (HK.out _ HBu0.out) ?_
              try simp only [Act.put, List.getElem_toArray, List.getElem_cons_zero, List.getElem_cons_succ, List.setIfInBounds_toArray, List.set_cons_zero, List.set_cons_succ]
              refine wpAnyH_take (i := 2) (v := .slice DA (hndL m0 (s : Int) p.nH).length cA) rfl (by kernel_rfl) (by kernel_rfl) (by kernel_rfl) (fun _ _ _ h => h) (Or.inl ⟨by rfl, fun w' hS => by (try dsimp only at hS); go_simp⟩) (HK.out _ HBu0.out) ?_
              try simp only [Act.put, List.getElem_toArray, List.getElem_cons_zero, List.getElem_cons_succ, List.setIfInBounds_toArray, List.set_cons_zero, List.set_cons_succ]
              refine wpAnyH_take (i := 3) (v := .slice DL l.length cL) rfl (by kernel_rfl) (by kernel_rfl) (by kernel_rfl) (fun _ _ _ h => h) (Or.inl ⟨by rfl, fun w' hS => by (try dsimp only at hS); go_simp⟩) (HK.out _ HBu0.out) ?_
              try simp only [Act.put, List.getElem_toArray, List.getElem_cons_zero, List.getElem_cons_succ, List.setIfInBounds_toArray, List.set_cons_zero, List.set_cons_succ]
              refine wpAnyH_take (i := 5) (v := .int .i64 h) rfl (by kernel_rfl) (by kernel_rfl) (by kernel_rfl) (fun _ _ _ h => h) (Or.inl ⟨by rfl, fun w' hS => by (try dsimp only at hS); go_simp⟩) (HK.out _ HBu0.out) ?_
              try simp only [Act.put, List.getElem_toArray, List.getElem_cons_zero, List.getElem_cons_succ, List.setIfInBounds_toArray, List.set_cons_zero, List.set_cons_succ]
              refine wpAnyH_all (rs := [4, 6]) (by kernel_rfl) (by simp) (fun i hi => ?_)
              rcases (show i = 4 ∨ i = 6 by simpa using hi) with rfl | rfl
              · refine wpOp_ofW (by rfl) (by rfl) ?_
                go_simp
                refine (clone_any DL l.length cL _ u0 (HI.out.keep (HbX.out.trans (HBu0.out.mono HbX.out.size))) (by omega)).mono ?_
                rintro e n1 ⟨v0, rfl, hv, -, hb⟩
                rw [HLst.out] at hv
                have HOn1 := Lib.hid hv
                have HBn1 := Lib.hid (HBu0.out.trans (hb.mono HBu0.out.size))
                have HGn1 := Lib.hid hb
                clear hv hb
                refine ⟨HK.out _ HBn1.out, ?_⟩
                refine wpAnyH_all (rs := [6]) (by kernel_rfl) (by simp) (fun i hi => ?_)
                obtain rfl : i = 6 := by simpa using hi
                refine wpOp_ofW (by rfl) (by rfl) ?_
                go_simp
                obtain ⟨n2, hn2⟩ : ∃ z, z = World.alloc n1 (.cells #[.int .i64 h] 3) := ⟨_, rfl⟩
                rw [← hn2]
                have hb : Below n1.heap.size n1 n2 := by rw [hn2]; exact below_box _ _
                have HBn2 := Lib.hid (HBn1.out.trans (hb.mono HBn1.out.size))
                have HCn2 := Lib.hid (show n2.cell? ⟨n1.heap.size, 0, none⟩ = some (.int .i64 h) by rw [hn2]; simp [World.cell?_alloc_at])
                have HOn2 := Lib.hid (HOn1.out.below hb)
                have HGn2 := Lib.hid (HGn1.out.trans (hb.mono HGn1.out.size))
                clear hn2 hb
                refine ⟨HK.out _ HBn2.out, ?_⟩
                refine wpAnyH_all (rs := [7]) (by kernel_rfl) (by simp) (fun i hi => ?_)
                obtain rfl : i = 7 := by simpa using hi
                refine wpOp_ofW (by rfl) (by rfl) ?_
                refine wp_gs _ _ rfl u0 v0 l rfl HOn2.out HGn2.out (some ⟨n1.heap.size, 0, none⟩) 1 1 (fun _ => (h : Int)) rfl (fun _ => ⟨_, 0, rfl, fun k hk => by obtain rfl : k = 0 := Nat.lt_one_iff.1 hk; exact HCn2.out⟩) (fun e => by cases e) (by omega) ?_
                intro v1 n3 hO hB hG
                have hO : OwnL n3 u0.heap.size v1 (l ++ [(h : Int)]) := hO
                obtain ⟨A1, c1, rfl, -, hI1, -, hc1⟩ := OwnL.form hO
                have hn : (l ++ [(h : Int)]).length = l.length + 1 := by simp
                rw [hn] at hI1 hc1 ⊢
                have HI1 := Lib.hid hI1
                have HBn3 := Lib.hid (HBu0.out.trans (hB.mono HBu0.out.size))
                clear hO hB hG hI1 hn
                refine ⟨HK.out _ HBn3.out, ?_⟩
                try simp only [Act.put, List.getElem_toArray, List.getElem_cons_zero, List.getElem_cons_succ, List.setIfInBounds_toArray, List.set_cons_zero, List.set_cons_succ]
                refine wpAnyH_all (rs := [8]) (by kernel_rfl) (by simp) (fun i hi => ?_)
                obtain rfl : i = 8 := by simpa using hi
                refine wpOp_ofW (by rfl) (by rfl) ?_
                go_simp
                refine (HRc.out A1 c1 n3 (HbX.out.trans (HBn3.out.mono HbX.out.size)) HI1.out hc1).mono ?_
                rintro e n4 ⟨⟨v11, v12, rfl, hS⟩, hb⟩
                have HS := Lib.hid hS
                have HBn4 := Lib.hid (HBn3.out.trans (hb.mono HBn3.out.size))
                clear hS hb
                refine ⟨HK.out _ HBn4.out, ?_⟩
                try simp only [Act.put, List.getElem_toArray, List.getElem_cons_zero, List.getElem_cons_succ, List.setIfInBounds_toArray, List.set_cons_zero, List.set_cons_succ]
                refine wpAnyH_take (i := 9) (v := .tuple #[v11, v12]) rfl (by kernel_rfl) (by kernel_rfl) (by kernel_rfl) (fun _ _ _ h => h) (Or.inl ⟨by rfl, fun w' hS => by (try dsimp only at hS); go_simp⟩) (HK.out _ HBn4.out) ?_
                try simp only [Act.put, List.getElem_toArray, List.getElem_cons_zero, List.getElem_cons_succ, List.setIfInBounds_toArray, List.set_cons_zero, List.set_cons_succ]
                refine wpAnyH_take (i := 10) (v := v11) rfl (by kernel_rfl) (by kernel_rfl) (by kernel_rfl) (fun _ _ _ h => h) (Or.inl ⟨by rfl, fun w' hS => by (try dsimp only at hS); go_simp⟩) (HK.out _ HBn4.out) ?_
                try simp only [Act.put, List.getElem_toArray, List.getElem_cons_zero, List.getElem_cons_succ, List.setIfInBounds_toArray, List.set_cons_zero, List.set_cons_succ]
                refine wpAnyH_take (i := 11) (v := v12) rfl (by kernel_rfl) (by kernel_rfl) (by kernel_rfl) (fun _ _ _ h => h) (Or.inl ⟨by rfl, fun w' hS => by (try dsimp only at hS); go_simp⟩) (HK.out _ HBn4.out) ?_
                try simp only [Act.put, List.getElem_toArray, List.getElem_cons_zero, List.getElem_cons_succ, List.setIfInBounds_toArray, List.set_cons_zero, List.set_cons_succ]
                refine wpAnyH_take (i := 12) (v := v11) rfl (by kernel_rfl) (by kernel_rfl) (by kernel_rfl) (fun _ _ _ h => h) (Or.inl ⟨by rfl, fun w' hS => by (try dsimp only at hS); go_simp⟩) (HK.out _ HBn4.out) ?_
                try simp only [Act.put, List.getElem_toArray, List.getElem_cons_zero, List.getElem_cons_succ, List.setIfInBounds_toArray, List.set_cons_zero, List.set_cons_succ]
                refine wpAnyH_take (i := 13) (v := v12) rfl (by kernel_rfl) (by kernel_rfl) (by kernel_rfl) (fun _ _ _ h => h) (Or.inl ⟨by rfl, fun w' hS => by (try dsimp only at hS); go_simp⟩) (HK.out _ HBn4.out) ?_
                try simp only [Act.put, List.getElem_toArray, List.getElem_cons_zero, List.getElem_cons_succ, List.setIfInBounds_toArray, List.set_cons_zero, List.set_cons_succ]
                refine wpAnyH_done (by kernel_rfl) ?_ _
                go_wp2_with fail
                go_meet
                exact ⟨HS.out, HbX.out.trans (HBn4.out.mono HbX.out.size)⟩
              · refine wpOp_ofW (by rfl) (by rfl) ?_
                go_simp
                obtain ⟨n5, hn5⟩ : ∃ z, z = World.alloc u0 (.cells #[.int .i64 h] 3) := ⟨_, rfl⟩
                rw [← hn5]
                have hb : Below u0.heap.size u0 n5 := by rw [hn5]; exact below_box _ _
                have HBn5 := Lib.hid (HBu0.out.trans (hb.mono HBu0.out.size))
                have HCn5 := Lib.hid (show n5.cell? ⟨u0.heap.size, 0, none⟩ = some (.int .i64 h) by rw [hn5]; simp [World.cell?_alloc_at])
                clear hn5 hb
                refine ⟨HK.out _ HBn5.out, ?_⟩
                refine wpAnyH_all (rs := [4]) (by kernel_rfl) (by simp) (fun i hi => ?_)
                obtain rfl : i = 4 := by simpa using hi
                refine wpOp_ofW (by rfl) (by rfl) ?_
                go_simp
                refine (clone_any DL l.length cL _ n5 (HI.out.keep (HbX.out.trans (HBn5.out.mono HbX.out.size))) (by omega)).mono ?_
                rintro e n6 ⟨v0, rfl, hv, -, hb⟩
                rw [HLst.out] at hv
                have HOn6 := Lib.hid hv
                have HBn6 := Lib.hid (HBn5.out.trans (hb.mono HBn5.out.size))
                have HCn6 := Lib.hid (old_cell HCn5.out hb)
                have HGn6 := Lib.hid hb
                clear hv hb
                refine ⟨HK.out _ HBn6.out, ?_⟩
                refine wpAnyH_all (rs := [7]) (by kernel_rfl) (by simp) (fun i hi => ?_)
                obtain rfl : i = 7 := by simpa using hi
                refine wpOp_ofW (by rfl) (by rfl) ?_
                refine wp_gs _ _ rfl n5 v0 l rfl HOn6.out HGn6.out (some ⟨u0.heap.size, 0, none⟩) 1 1 (fun _ => (h : Int)) rfl (fun _ => ⟨_, 0, rfl, fun k hk => by obtain rfl : k = 0 := Nat.lt_one_iff.1 hk; exact HCn6.out⟩) (fun e => by cases e) (by omega) ?_
                intro v1 n7 hO hB hG
                have hO : OwnL n7 n5.heap.size v1 (l ++ [(h : Int)]) := hO
                obtain ⟨A1, c1, rfl, -, hI1, -, hc1⟩ := OwnL.form hO
                have hn : (l ++ [(h : Int)]).length = l.length + 1 := by simp
                rw [hn] at hI1 hc1 ⊢
                have HI1 := Lib.hid hI1
                have HBn7 := Lib.hid (HBn5.out.trans (hB.mono HBn5.out.size))
                clear hO hB hG hI1 hn
                refine ⟨HK.out _ HBn7.out, ?_⟩
                try simp only [Act.put, List.getElem_toArray, List.getElem_cons_zero, List.getElem_cons_succ, List.setIfInBounds_toArray, List.set_cons_zero, List.set_cons_succ]
                refine wpAnyH_all (rs := [8]) (by kernel_rfl) (by simp) (fun i hi => ?_)
                obtain rfl : i = 8 := by simpa using hi
                refine wpOp_ofW (by rfl) (by rfl) ?_
                go_simp
                refine (HRc.out A1 c1 n7 (HbX.out.trans (HBn7.out.mono HbX.out.size)) HI1.out hc1).mono ?_
                rintro e n8 ⟨⟨v11, v12, rfl, hS⟩, hb⟩
                have HS := Lib.hid hS
                have HBn8 := Lib.hid (HBn7.out.trans (hb.mono HBn7.out.size))
                clear hS hb
                refine ⟨HK.out _ HBn8.out, ?_⟩
                try simp only [Act.put, List.getElem_toArray, List.getElem_cons_zero, List.getElem_cons_succ, List.setIfInBounds_toArray, List.set_cons_zero, List.set_cons_succ]
                refine wpAnyH_take (i := 9) (v := .tuple #[v11, v12]) rfl (by kernel_rfl) (by kernel_rfl) (by kernel_rfl) (fun _ _ _ h => h) (Or.inl ⟨by rfl, fun w' hS => by (try dsimp only at hS); go_simp⟩) (HK.out _ HBn8.out) ?_
                try simp only [Act.put, List.getElem_toArray, List.getElem_cons_zero, List.getElem_cons_succ, List.setIfInBounds_toArray, List.set_cons_zero, List.set_cons_succ]
                refine wpAnyH_take (i := 10) (v := v11) rfl (by kernel_rfl) (by kernel_rfl) (by kernel_rfl) (fun _ _ _ h => h) (Or.inl ⟨by rfl, fun w' hS => by (try dsimp only at hS); go_simp⟩) (HK.out _ HBn8.out) ?_
                try simp only [Act.put, List.getElem_toArray, List.getElem_cons_zero, List.getElem_cons_succ, List.setIfInBounds_toArray, List.set_cons_zero, List.set_cons_succ]
                refine wpAnyH_take (i := 11) (v := v12) rfl (by kernel_rfl) (by kernel_rfl) (by kernel_rfl) (fun _ _ _ h => h) (Or.inl ⟨by rfl, fun w' hS => by (try dsimp only at hS); go_simp⟩) (HK.out _ HBn8.out) ?_
                try simp only [Act.put, List.getElem_toArray, List.getElem_cons_zero, List.getElem_cons_succ, List.setIfInBounds_toArray, List.set_cons_zero, List.set_cons_succ]
                refine wpAnyH_take (i := 12) (v := v11) rfl (by kernel_rfl) (by kernel_rfl) (by kernel_rfl) (fun _ _ _ h => h) (Or.inl ⟨by rfl, fun w' hS => by (try dsimp only at hS); go_simp⟩) (HK.out _ HBn8.out) ?_
                try simp only [Act.put, List.getElem_toArray, List.getElem_cons_zero, List.getElem_cons_succ, List.setIfInBounds_toArray, List.set_cons_zero, List.set_cons_succ]
                refine wpAnyH_take (i := 13) (v := v12) rfl (by kernel_rfl) (by kernel_rfl) (by kernel_rfl) (fun _ _ _ h => h) (Or.inl ⟨by rfl, fun w' hS => by (try dsimp only at hS); go_simp⟩) (HK.out _ HBn8.out) ?_
                try simp only [Act.put, List.getElem_toArray, List.getElem_cons_zero, List.getElem_cons_succ, List.setIfInBounds_toArray, List.set_cons_zero, List.set_cons_succ]
                refine wpAnyH_done (by kernel_rfl) ?_ _
                go_wp2_with fail
                go_meet
                exact ⟨HS.out, HbX.out.trans (HBn8.out.mono HbX.out.size)⟩
            case rest =>
              obtain ⟨hS, hbc⟩ := hcut
              have Hbc := Lib.hid hbc
              clear hbc
              cases hF : F h with
              | none =>
                rw [hF] at hS
                obtain ⟨rfl, rfl⟩ := hS
                have HF := Lib.hid hF
                clear hF
                go_wp2
                go_roundw
                case rel => exact ⟨h + 1, by omega, by go_num, orH_none HOr.out HF.out, Hbc.out⟩
                case measure => simp [intOf]; omega
              | some x =>
                rw [hF] at hS
                obtain ⟨A2, c2, rfl, rfl, hI2, hc2⟩ := hS
                have HF := Lib.hid hF
                have HI2 := Lib.hid hI2
                have HE := Lib.hid (orH_some HOr.out HF.out p.nH hlt)
                clear hF hI2
                go_wp2
                go_returns
                exact ⟨⟨_, _, rfl, by rw [HRo.out, HE.out]; exact ⟨A2, c2, rfl, rfl, HI2.out, hc2⟩⟩, Hb0.out.trans (Hbc.out.mono Hb0.out.size)⟩
      · obtain rfl : h = p.nH := by omega
        go_wp2
        go_returns
        exact ⟨⟨_, _, rfl, by rw [HRo.out, HOr.out]; exact ⟨rfl, rfl⟩⟩, Hb0.out.trans (Hbel.out.mono Hb0.out.size)⟩
theorem lieFrom_any (AH AS AP DA : Option Addr) (cH cS cP cA s : Nat) (p : PlanD) (m0 : Nat → Int) (hok : okPlan p = true) (hs : s < p.nS) (hm0 : LsdS p s m0) : ∀ (d : Nat) (l : List Int) (DL : Option Addr) (cL : Nat) (w : World), l.length + d = p.nH → LstOk p s l → PlanIn w AH AS AP p →
    Ints w DA (hndL m0 (s : Int) p.nH).length (fun k => (hndL m0 (s : Int) p.nH).getD k 0) → Ints w DL l.length (fun k => l.getD k 0) → l.length ≤ cL →
    Calls Try.prog 61 #[.agg #[.slice AH p.nH cH, .slice AS p.nS cS, .slice AP p.nP cP], .int .i64 s, .slice DA (hndL m0 (s : Int) p.nH).length cA, .slice DL l.length cL] w fun e w' => LfR (lfL p s m0 d l) e w' ∧ Below w.heap.size w w' := by
  intro d
  induction d with
  | zero =>
    intro l DL cL w hld hl hp ha hd hc
    refine (lieFrom_step AH AS AP DA DL cH cS cP cA cL s p m0 l (fun _ => none) w hp hok hs hm0 hl ha hd hc (fun _ _ _ => rfl) (fun h hh hcd => by rw [cand_none hl (by omega) hh] at hcd; cases hcd)).mono ?_
    intro e w' h
    rwa [orH_iff.2 (fun _ _ => rfl)] at h
  | succ d ih =>
    intro l DL cL w hld hl hp ha hd hc
    refine lieFrom_step AH AS AP DA DL cH cS cP cA cL s p m0 l (fun h => if candB p s l h = true then lfL p s m0 d (l ++ [(h : Int)]) else none) w hp hok hs hm0 hl ha hd hc (fun h hh hcd => if_neg (by rw [hcd]; decide)) (fun h hh hcd A1 c1 w1 hb hI hc1 => ?_)
    have h1 := ih (l ++ [(h : Int)]) A1 c1 w1 (by rw [List.length_append]; show l.length + 1 + d = _; omega) (hl.snoc hh hcd) (hp.keep hb) (ha.keep hb) hI hc1
    rw [if_pos hcd]
    exact h1
end Go.Proofs.Ytiigcjcolpmafaa

/- The program's Lie. -/
namespace Go.Proofs.Ytiigcjcolpmafaa
open Go.RowKit

theorem lfL_cg {p : PlanD} {s : Nat} {m m' : Nat → Int} (h : ∀ l, gnL p s m l = gnL p s m' l) : ∀ (d : Nat) (l : List Int), lfL p s m d l = lfL p s m' d l := by
  intro d
  induction d with
  | zero =>
    intro l
    show (if gnL p s m l = true then some l else none) = (if gnL p s m' l = true then some l else none)
    rw [h]
  | succ d ih =>
    intro l
    show (if gnL p s m l = true then some l else orH (fun h => if candB p s l h = true then lfL p s m d (l ++ [(h : Int)]) else none) p.nH) = (if gnL p s m' l = true then some l else orH (fun h => if candB p s l h = true then lfL p s m' d (l ++ [(h : Int)]) else none) p.nH)
    rw [h]
    simp only [ih]
/-- What Lie answers. -/
def lieP (p : PlanD) (s : Nat) : Option (List Int) := lfL p s (frM p) p.nH []
def LieS (r : Option (List Int)) (a b : Value) (w : World) : Prop :=
  match r with
  | none => a = .slice none 0 0 ∧ b = .int .i64 4
  | some x => ∃ A c, a = .slice A x.length c ∧ b = .int .i64 0 ∧ Ints w A x.length (fun k => x.getD k 0) ∧ x.length ≤ c
set_option maxHeartbeats 2000000 in
set_option maxRecDepth 1000000 in
theorem Lie_bad (AH AS AP : Option Addr) (cH cS cP : Nat) (p : PlanD) (s : Int) (w : World) (hp : PlanIn w AH AS AP p) (hbad : okPlan p = true → s < 0 ∨ (p.nS : Int) ≤ s) :
    Lr 28 #[.agg #[.slice AH p.nH cH, .slice AS p.nS cS, .slice AP p.nP cP], .int .i64 s] w (.tuple #[.slice none 0 0, .int .i64 2]) := by
  have Hb0 := Lib.hid (below_box w (.cells #[.slice AH p.nH cH, .slice AS p.nS cS, .slice AP p.nP cP] 29))
  have HB0 := Lib.hid (BoxP.new w AH AS AP p.nH p.nS p.nP cH cS cP)
  have HV := Lib.hid (valid_any AH AS AP cH cS cP p _ (hp.keep Hb0.out))
  show Calls _ _ _ _ _
  cases hok : okPlan p with
  | false =>
    rw [hok] at HV
    clear hp hbad hok
    go_enter Try.func28, Try.ntmps28
    go_wp2_with fail
    refine Lr.use HV.out ?_
    intro w1 hb1
    have Hb1 := Lib.hid (Hb0.out.trans (hb1.mono Hb0.out.size))
    clear hb1
    go_wp2
    go_returns
    exact ⟨rfl, Hb1.out⟩
  | true =>
    have hb := hbad hok
    rw [hok] at HV
    clear hp hbad hok
    by_cases h0 : s < 0
    · have d0 : decide (s < 0) = true := decide_eq_true h0
      clear hb h0
      go_enter Try.func28, Try.ntmps28
      go_wp2_with fail
      refine Lr.use HV.out ?_
      intro w1 hb1
      have Hb1 := Lib.hid (Hb0.out.trans (hb1.mono Hb0.out.size))
      clear hb1
      go_wp2
      go_returns
      exact ⟨rfl, Hb1.out⟩
    · have d0 : decide (s < 0) = false := decide_eq_false h0
      have d1 : decide ((p.nS : Int) ≤ s) = true := decide_eq_true (by omega)
      clear hb h0
      go_enter Try.func28, Try.ntmps28
      go_wp2_with fail
      refine Lr.use HV.out ?_
      intro w1 hb1
      obtain ⟨q0, q1, q2⟩ := HB0.out.keep hb1
      have Hb1 := Lib.hid (Hb0.out.trans (hb1.mono Hb0.out.size))
      clear hb1
      go_wp2
      go_returns
      exact ⟨rfl, Hb1.out⟩
set_option maxHeartbeats 4000000 in
set_option maxRecDepth 1000000 in
theorem Lie_ok (AH AS AP : Option Addr) (cH cS cP s : Nat) (p : PlanD) (w : World) (hp : PlanIn w AH AS AP p) (hok : okPlan p = true) (hs : s < p.nS) :
    Calls Try.prog 28 #[.agg #[.slice AH p.nH cH, .slice AS p.nS cS, .slice AP p.nP cP], .int .i64 s] w fun e w' => ∃ a b, e = .returned (.tuple #[a, b]) ∧ LieS (lieP p s) a b w' ∧ Below w.heap.size w w' := by
  have Hb0 := Lib.hid (below_box w (.cells #[.slice AH p.nH cH, .slice AS p.nS cS, .slice AP p.nP cP] 29))
  have HB0 := Lib.hid (BoxP.new w AH AS AP p.nH p.nS p.nP cH cS cP)
  have HP := Lib.hid (hp.keep Hb0.out)
  have HV := Lib.hid (valid_any AH AS AP cH cS cP p _ (hp.keep Hb0.out))
  rw [hok] at HV
  have HOk := Lib.hid hok
  have hn6 : p.nH ≤ 6 := (okPlan_of hok).1.2.1
  have hss : (s : Int) < p.nS := by omega
  have hs0 : (0 : Int) ≤ s := by omega
  obtain ⟨S, hS⟩ : ∃ S : Int, S = (s : Int) := ⟨_, rfl⟩
  have d0 : decide (S < 0) = false := decide_eq_false (by omega)
  have d1 : decide ((p.nS : Int) ≤ S) = false := decide_eq_false (by omega)
  have HS := Lib.hid hS
  obtain ⟨R, hR⟩ : ∃ R, R = lieP p s := ⟨_, rfl⟩
  have HR := Lib.hid hR
  rw [← hS, ← hR]
  obtain ⟨W, hW⟩ : ∃ W, W = w.alloc (.cells #[.slice AH p.nH cH, .slice AS p.nS cS, .slice AP p.nP cP] 29) := ⟨_, rfl⟩
  rw [← hW] at Hb0 HB0 HP HV
  have HWW := Lib.hid hW.symm
  clear hp hok hS hR hW hss hs0
  go_enter Try.func28, Try.ntmps28
  go_wp2_with fail
  rw [HWW.out]
  clear HWW
  obtain ⟨q0, q1, q2⟩ := HB0.out
  go_wp2_with fail
  refine Lr.use HV.out ?_
  intro w1 hb1
  have HBx1 := Lib.hid (HB0.out.keep hb1)
  have HP1 := Lib.hid (HP.out.keep hb1)
  have Hb1 := Lib.hid (Hb0.out.trans (hb1.mono Hb0.out.size))
  clear hb1 q0 q1 q2 HV
  obtain ⟨q0, q1, q2⟩ := HBx1.out
  go_wp2_with fail
  clear q0 q1 q2
  have hBc : Below w1.heap.size w1 w1.drew := (Dn.refl w1).drew.below _
  go_region_held3 (fun w' => w'.cell? ⟨w.heap.size, 0, none⟩ = some (.slice AH p.nH cH) ∧ w'.cell? ⟨w.heap.size, 1, none⟩ = some (.slice AS p.nS cS) ∧ w'.cell? ⟨w.heap.size, 2, none⟩ = some (.slice AP p.nP cP))
    (first | exact (HBx1.out.keep hBc))
    (first
      | (go_at_call 53; refine (first_any AH AS AP cH cS cP p _ (HP1.out.keep hBc) HOk.out).mono ?_; rintro e w2 ⟨g, m, a, rfl, hD, hE, hRo, -, hb2⟩; have hBc := hBc.trans (hb2.mono hBc.size))
      | (go_at_call 62; refine (handsOf_any (some ⟨g, 0, none⟩) p.nH p.nH m S _ hRo.ints (by omega)).mono ?_; rintro e w3 ⟨x3, rfl, hx3, hb3⟩; obtain ⟨A3, c3, rfl, -, hI3, -⟩ := OwnL.form hx3; have hBc := hBc.trans (hb3.mono hBc.size))
      | (go_at_call 61; rw [HS.out] at hI3 ⊢; refine (lieFrom_any AH AS AP A3 cH cS cP c3 s p m HOk.out hs (fun x hx e => hD.lstd x s hx e) p.nH [] none 0 _ (by simp) (LstOk.nil p s) (HP1.out.keep hBc) hI3 Ints.zero (Nat.le_refl _)).mono ?_; rintro e w4 ⟨⟨v1, v2, rfl, hSr⟩, hb4⟩; have hBc := hBc.trans (hb4.mono hBc.size))
      | fail)
  have hcg : lfL p s m p.nH [] = R := by
    rw [HR.out]
    exact lfL_cg (fun l => gnB_cg HOk.out hs (frM_eq HOk.out hD hE) (fun _ _ => rfl)) _ _
  rw [hcg] at hSr
  have HSr := Lib.hid hSr
  have Hb4 := Lib.hid (Hb1.out.trans (hBc.mono Hb1.out.size))
  clear hBc hD hE hRo hb2 hx3 hI3 hb3 hb4 hSr hcg HR
  cases R with
  | none =>
    obtain ⟨rfl, rfl⟩ := HSr.out
    go_wp2
    go_returns
    exact ⟨_, _, rfl, ⟨rfl, rfl⟩, Hb4.out⟩
  | some x =>
    obtain ⟨A, c, rfl, rfl, hI, hc⟩ := HSr.out
    have HI := Lib.hid hI
    clear hI
    go_wp2
    go_returns
    exact ⟨_, _, rfl, ⟨A, c, rfl, rfl, HI.out, hc⟩, Hb4.out⟩
end Go.Proofs.Ytiigcjcolpmafaa

