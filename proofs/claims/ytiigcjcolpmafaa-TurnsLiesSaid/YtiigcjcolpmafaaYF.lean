/- Part of the proof: YF. -/
import Derived.Test.YtiigcjcolpmafaaYC
import Derived.Test.YtiigcjcolpmafaaSbz
/- The list of the stable matchings; what hands have in the middle is stable. -/
namespace Go.Proofs.Ytiigcjcolpmafaa

theorem Stb.congr {p : PlanD} {m m' : Nat → Int} (h : Stb p m) (e : ∀ x, x < p.nH → m x = m' x) : Stb p m' := by
  have hc : ∀ s : Int, cnt m' s p.nH = cnt m s p.nH := fun s => cnt_congr (fun x hx => (e x hx).symm)
  refine ⟨fun x hx => by rw [← e x hx]; exact h.mat x hx, fun s hs => by rw [hc]; exact h.cap s hs, fun x s hx hs hp hl => ?_⟩
  rw [← e x hx] at hl
  obtain ⟨h1, h2⟩ := h.nob x s hx hs hp hl
  exact ⟨by rw [hc]; exact h1, fun y hy ey => h2 y hy (by rw [e y hy]; exact ey)⟩
theorem mem_fmTo {α : Type} {F : Nat → List α} {x : α} : ∀ {n : Nat}, x ∈ fmTo F n ↔ ∃ s, s < n ∧ x ∈ F s := by
  intro n
  induction n with
  | zero => simp [fmTo]
  | succ n ih =>
    simp only [fmTo, List.mem_append, ih]
    constructor
    · rintro (⟨s, hs, h⟩ | h)
      · exact ⟨s, by omega, h⟩
      · exact ⟨n, by omega, h⟩
    · rintro ⟨s, hs, h⟩
      by_cases e : s = n
      · rw [e] at h
        exact .inr h
      · exact .inl ⟨s, by omega, h⟩
theorem mem_stL {p : PlanD} (hok : okPlan p = true) {l : List Int} : ∀ d h m, h + d = p.nH → (l ∈ stL p d h m ↔ ∃ u, Stb p u ∧ (∀ y, y < h → u y = m y) ∧ l = lst p.nH u) := by
  intro d
  induction d with
  | zero =>
    intro h m he
    simp only [stL]
    have he : h = p.nH := by omega
    subst he
    constructor
    · intro hl
      by_cases hc : (okMat p p.nH m && stabB p m) = true
      · rw [if_pos hc] at hl
        rw [Bool.and_eq_true_iff] at hc
        simp only [List.mem_singleton] at hl
        exact ⟨m, (stb_iff hok).1 hc, fun _ _ => rfl, hl⟩
      · rw [if_neg hc] at hl
        cases hl
    · rintro ⟨u, hu, he, rfl⟩
      have hm : Stb p m := hu.congr he
      have := (stb_iff hok).2 hm
      rw [if_pos (by rw [this.1, this.2]; rfl), List.mem_singleton]
      exact lst_congr he
  | succ d ih =>
    intro h m he
    simp only [stL, List.mem_append, mem_fmTo]
    constructor
    · rintro (hl | ⟨s, hs, hl⟩)
      · obtain ⟨u, h1, h2, h3⟩ := (ih (h + 1) _ (by omega)).1 hl
        exact ⟨u, h1, fun y hy => by rw [h2 y (by omega), upd_ne m _ (by omega)], h3⟩
      · by_cases hp : possB p h s = true
        · rw [if_pos hp] at hl
          obtain ⟨u, h1, h2, h3⟩ := (ih (h + 1) _ (by omega)).1 hl
          exact ⟨u, h1, fun y hy => by rw [h2 y (by omega), upd_ne m _ (by omega)], h3⟩
        · rw [if_neg hp] at hl
          cases hl
    · rintro ⟨u, h1, h2, h3⟩
      have hh : h < p.nH := by omega
      rcases h1.mat h hh with e | e
      · refine .inl ((ih (h + 1) _ (by omega)).2 ⟨u, h1, fun y hy => ?_, h3⟩)
        by_cases ey : y = h
        · rw [ey, upd_at, e]
        · rw [upd_ne m _ ey]
          exact h2 y (by omega)
      · have hr := poss_rg2 hok hh e
        obtain ⟨s, hs⟩ : ∃ s : Nat, u h = s := ⟨(u h).toNat, by omega⟩
        rw [hs] at e
        refine .inr ⟨s, by omega, ?_⟩
        rw [if_pos e]
        refine (ih (h + 1) _ (by omega)).2 ⟨u, h1, fun y hy => ?_, h3⟩
        by_cases ey : y = h
        · rw [ey, upd_at, hs]
        · rw [upd_ne m _ ey]
          exact h2 y (by omega)

/-- All stable matchings, in the program's order. -/
def LsP (p : PlanD) : List (List Int) := stL p p.nH 0 (fun _ => -1)
def kP (p : PlanD) : Nat := (LsP p).length
def mmP (p : PlanD) (i : Nat) : Nat → Int := fun k => ((LsP p).getD i []).getD k 0
theorem mem_LsP {p : PlanD} (hok : okPlan p = true) {l : List Int} : l ∈ LsP p ↔ ∃ u, Stb p u ∧ l = lst p.nH u := by
  unfold LsP
  rw [mem_stL hok _ _ _ (by omega)]
  exact ⟨fun ⟨u, h1, _, h3⟩ => ⟨u, h1, h3⟩, fun ⟨u, h1, h3⟩ => ⟨u, h1, fun y hy => absurd hy (Nat.not_lt_zero _), h3⟩⟩
theorem getD_memL {ls : List (List Int)} {i : Nat} (hi : i < ls.length) : ls.getD i [] ∈ ls := by
  rw [List.getD_eq_getElem?_getD, List.getElem?_eq_getElem hi]
  exact List.getElem_mem hi
theorem mm_row {p : PlanD} (hok : okPlan p = true) {i : Nat} (hi : i < kP p) : ∃ u, Stb p u ∧ (LsP p).getD i [] = lst p.nH u ∧ ∀ x, x < p.nH → mmP p i x = u x := by
  obtain ⟨u, h1, h2⟩ := (mem_LsP hok).1 (getD_memL hi)
  exact ⟨u, h1, h2, fun x hx => by unfold mmP; rw [h2, lst_getD _ _ _ hx]⟩
theorem mm_stb {p : PlanD} (hok : okPlan p = true) {i : Nat} (hi : i < kP p) : Stb p (mmP p i) := by
  obtain ⟨u, h1, -, h3⟩ := mm_row hok hi
  exact h1.congr (fun x hx => (h3 x hx).symm)
theorem mm_len {p : PlanD} (hok : okPlan p = true) {i : Nat} (hi : i < kP p) : ((LsP p).getD i []).length = p.nH := by
  obtain ⟨u, -, h2, -⟩ := mm_row hok hi
  rw [h2, lst_len]
theorem mm_lst {p : PlanD} (hok : okPlan p = true) {i : Nat} (hi : i < kP p) : (LsP p).getD i [] = lst p.nH (mmP p i) := by
  obtain ⟨u, -, h2, h3⟩ := mm_row hok hi
  rw [h2]
  exact lst_congr (fun x hx => (h3 x hx).symm)
theorem mm_all {p : PlanD} (hok : okPlan p = true) {u : Nat → Int} (hu : Stb p u) : ∃ i, i < kP p ∧ ∀ x, x < p.nH → mmP p i x = u x := by
  have h1 := (mem_LsP hok).2 ⟨u, hu, rfl⟩
  obtain ⟨i, hi, e⟩ := List.mem_iff_getElem.1 h1
  refine ⟨i, hi, fun x hx => ?_⟩
  unfold mmP
  rw [List.getD_eq_getElem?_getD (l := LsP p), List.getElem?_eq_getElem hi, e]
  exact lst_getD _ _ _ hx
theorem kP_pos {p : PlanD} (hok : okPlan p = true) : 0 < kP p := by
  obtain ⟨m, a, hD, hE⟩ := da_ex hok
  obtain ⟨i, hi, -⟩ := mm_all hok (hD.stb hok hE)
  omega

/-- A matching is put into a chain of them. -/
def insM (p : PlanD) : List (Nat → Int) → (Nat → Int) → List (Nat → Int)
  | [], u => [u]
  | g :: gs, u => jnM p g u :: insM p gs (mtM p g u)
theorem insM_len (p : PlanD) : ∀ gs u, (insM p gs u).length = gs.length + 1 := by
  intro gs
  induction gs with
  | nil => intro u; rfl
  | cons g gs ih => intro u; simp only [insM, List.length_cons, ih]
theorem insM_stb {p : PlanD} (hok : okPlan p = true) : ∀ gs u, (∀ g, g ∈ gs → Stb p g) → Stb p u → ∀ g, g ∈ insM p gs u → Stb p g := by
  intro gs
  induction gs with
  | nil => intro u _ hu g hg; simp only [insM, List.mem_singleton] at hg; rw [hg]; exact hu
  | cons g gs ih =>
    intro u h hu x hx
    have hg := h g (by simp)
    simp only [insM, List.mem_cons] at hx
    rcases hx with rfl | hx
    · exact jn_stb hok hg hu
    · exact ih _ (fun y hy => h y (by simp [hy])) (mt_stb hok hg hu) x hx
theorem insM_perm (p : PlanD) (x : Nat) : ∀ gs u, ((insM p gs u).map (fun g => g x)).Perm (u x :: gs.map (fun g => g x)) := by
  intro gs
  induction gs with
  | nil => intro u; exact List.Perm.refl _
  | cons g gs ih =>
    intro u
    simp only [insM, List.map_cons]
    have h1 := ih (mtM p g u)
    unfold jnM mtM at *
    by_cases e : rHd p x (u x) < rHd p x (g x)
    · simp only [if_pos e] at h1 ⊢
      exact h1.cons _
    · simp only [if_neg e] at h1 ⊢
      exact (h1.cons _).trans (List.Perm.swap _ _ _)
theorem insM_srt (p : PlanD) (x : Nat) : ∀ gs u, gs.Pairwise (fun a b => rHd p x (a x) ≤ rHd p x (b x)) → (insM p gs u).Pairwise (fun a b => rHd p x (a x) ≤ rHd p x (b x)) := by
  intro gs
  induction gs with
  | nil => intro u _; simp [insM]
  | cons g gs ih =>
    intro u h
    rw [List.pairwise_cons] at h
    simp only [insM, List.pairwise_cons]
    refine ⟨fun y hy => ?_, ih _ h.2⟩
    have h1 : y x ∈ (insM p gs (mtM p g u)).map (fun g => g x) := List.mem_map.2 ⟨y, hy, rfl⟩
    have h2 := (insM_perm p x gs (mtM p g u)).mem_iff.1 h1
    have h3 := jn_rank (p := p) (a := g) (b := u) x
    have h4 := mt_rank (p := p) (a := g) (b := u) x
    rcases List.mem_cons.1 h2 with e | e
    · rw [e]
      omega
    · obtain ⟨z, hz, e2⟩ := List.mem_map.1 e
      have := h.1 z hz
      rw [← e2]
      show _ ≤ rHd p x (z x)
      omega
theorem chain_ex {p : PlanD} (hok : okPlan p = true) : ∀ ms : List (Nat → Int), (∀ u, u ∈ ms → Stb p u) → ∃ gs : List (Nat → Int), gs.length = ms.length ∧ (∀ g, g ∈ gs → Stb p g) ∧ (∀ x, (gs.map (fun g => g x)).Perm (ms.map (fun g => g x))) ∧ ∀ x, gs.Pairwise (fun a b => rHd p x (a x) ≤ rHd p x (b x)) := by
  intro ms
  induction ms with
  | nil => intro _; exact ⟨[], rfl, (fun g hg => by cases hg), fun _ => List.Perm.refl _, fun _ => List.Pairwise.nil⟩
  | cons u ms ih =>
    intro h
    obtain ⟨gs, h1, h2, h3, h4⟩ := ih (fun y hy => h y (by simp [hy]))
    refine ⟨insM p gs u, by rw [insM_len, h1]; rfl, insM_stb hok gs u h2 (h u (by simp)), fun x => ?_, fun x => insM_srt p x gs u (h4 x)⟩
    exact (insM_perm p x gs u).trans ((h3 x).cons _)
/-- Sorted rows of the same numbers are one, where ranks tell them apart. -/
theorem srt_eq {r : Int → Int} : ∀ {l1 l2 : List Int}, l1.Perm l2 → l1.Pairwise (fun a b => r a ≤ r b) → l2.Pairwise (fun a b => r a ≤ r b) → (∀ a b, a ∈ l1 → b ∈ l1 → r a = r b → a = b) → l1 = l2 := by
  intro l1
  induction l1 with
  | nil => intro l2 h _ _ _; exact h.nil_eq
  | cons a l1 ih =>
    intro l2 h h1 h2 hi
    cases l2 with
    | nil => exact absurd h.symm.nil_eq (by simp)
    | cons b l2 =>
      rw [List.pairwise_cons] at h1 h2
      have hab : a = b := by
        have m1 : a ∈ b :: l2 := h.mem_iff.1 (by simp)
        have m2 : b ∈ a :: l1 := h.mem_iff.2 (by simp)
        refine hi a b (by simp) m2 ?_
        have e1 : r b ≤ r a := by
          rcases List.mem_cons.1 m1 with e | e
          · rw [e]; exact Int.le_refl _
          · exact h2.1 a e
        have e2 : r a ≤ r b := by
          rcases List.mem_cons.1 m2 with e | e
          · rw [e]; exact Int.le_refl _
          · exact h1.1 b e
        omega
      subst hab
      rw [ih (h.cons_inv) h1.2 h2.2 (fun x y hx hy => hi x y (by simp [hx]) (by simp [hy]))]
/-- The k-th best of what each hand has in all stable matchings. -/
theorem mid_ex {p : PlanD} (hok : okPlan p = true) : ∃ G : Nat → Nat → Int, (∀ k, k < kP p → Stb p (G k)) ∧ (∀ h, h < p.nH → ∀ F : Nat → Int, (lst (kP p) F).Perm (lst (kP p) (fun j => mmP p j h)) → Srt (rkI (p.vH h) (p.LH h)) F (kP p) → ∀ k, k < kP p → F k = G k h) ∧
    (∀ h, h < p.nH → (lst (kP p) (fun k => G k h)).Perm (lst (kP p) (fun j => mmP p j h))) ∧ ∀ h i j, h < p.nH → i ≤ j → j < kP p → rHd p h (G i h) ≤ rHd p h (G j h) := by
  obtain ⟨gs, h1, h2, h3, h4⟩ := chain_ex hok ((List.range (kP p)).map (mmP p)) (fun u hu => by
    obtain ⟨i, hi, rfl⟩ := List.mem_map.1 hu
    exact mm_stb hok (List.mem_range.1 hi))
  simp only [List.length_map, List.length_range] at h1
  have hG : ∀ k, k < kP p → gs.getD k (fun _ => 0) ∈ gs := fun k hk => by
    rw [List.getD_eq_getElem?_getD, List.getElem?_eq_getElem (by omega)]
    exact List.getElem_mem _
  have hmap : ∀ h, gs.map (fun g => g h) = lst (kP p) (fun k => gs.getD k (fun _ => 0) h) := fun h => by
    refine List.ext_getElem (by rw [List.length_map, lst_len, h1]) (fun i hi1 hi2 => ?_)
    rw [lst_len] at hi2
    have e1 := lst_get (kP p) (fun k => gs.getD k (fun _ => 0) h) i hi2
    rw [List.getElem?_eq_getElem (by rw [lst_len]; exact hi2)] at e1
    injection e1 with e1
    rw [e1, List.getElem_map, List.getD_eq_getElem?_getD, List.getElem?_eq_getElem (by omega)]
    rfl
  have hms : ∀ h, ((List.range (kP p)).map (mmP p)).map (fun g => g h) = lst (kP p) (fun j => mmP p j h) := fun h => by
    rw [List.map_map]
    rfl
  have hsr : ∀ h i j, i < j → j < kP p → rHd p h (gs.getD i (fun _ => 0) h) ≤ rHd p h (gs.getD j (fun _ => 0) h) := fun h i j hij hj => by
    have := List.pairwise_iff_getElem.1 (h4 h) i j (by omega) (by omega) hij
    rw [List.getD_eq_getElem?_getD, List.getElem?_eq_getElem (by omega), List.getD_eq_getElem?_getD, List.getElem?_eq_getElem (by omega)]
    exact this
  refine ⟨fun k => gs.getD k (fun _ => 0), fun k hk => h2 _ (hG k hk), fun h hh F hF hS k hk => ?_, fun h _ => by rw [← hmap, ← hms]; exact h3 h, fun h i j hh hij hj => ?_⟩
  · have hp : (lst (kP p) F).Perm (lst (kP p) (fun k => gs.getD k (fun _ => 0) h)) := hF.trans (by
      rw [← hmap, ← hms]
      exact (h3 h).symm)
    have hpw : ∀ f : Nat → Int, (∀ i j, i < j → j < kP p → rkI (p.vH h) (p.LH h) (f i) ≤ rkI (p.vH h) (p.LH h) (f j)) → (lst (kP p) f).Pairwise (fun a b => rkI (p.vH h) (p.LH h) a ≤ rkI (p.vH h) (p.LH h) b) := fun f hf => by
      rw [List.pairwise_iff_getElem]
      intro i j hi hj hij
      rw [lst_len] at hi hj
      have e1 := lst_get (kP p) f i hi
      have e2 := lst_get (kP p) f j hj
      rw [List.getElem?_eq_getElem (by rw [lst_len]; exact hi)] at e1
      rw [List.getElem?_eq_getElem (by rw [lst_len]; exact hj)] at e2
      injection e1 with e1
      injection e2 with e2
      rw [e1, e2]
      exact hf i j hij hj
    have := srt_eq hp (hpw F (fun i j hij hj => hS i j hij hj)) (hpw _ (fun i j hij hj => hsr h i j hij hj)) (fun a b ha hb e => by
      have ha := hF.mem_iff.1 ha
      have hb := hF.mem_iff.1 hb
      unfold lst at ha hb
      obtain ⟨i, hi, rfl⟩ := List.mem_map.1 ha
      obtain ⟨j, hj, rfl⟩ := List.mem_map.1 hb
      exact (mm_stb hok (List.mem_range.1 hi)).same hok (mm_stb hok (List.mem_range.1 hj)) hh e)
    have e1 := lst_getD (kP p) F k hk
    rw [this, lst_getD _ _ _ hk] at e1
    exact e1.symm
  · by_cases e : i = j
    · rw [e]
      exact Int.le_refl _
    · exact hsr h i j (by omega) hj
end Go.Proofs.Ytiigcjcolpmafaa

/- The copy of a plan has the same stable matchings; First is the best of them. -/
namespace Go.Proofs.Ytiigcjcolpmafaa
open Go.RowKit

theorem few_okT {p : PlanD} (hok : okPlan p = true) : okPlan (fewP p) = true := by rw [okPlan_few]; exact hok
theorem few_stb {p : PlanD} (hok : okPlan p = true) {u : Nat → Int} : Stb (fewP p) u ↔ Stb p u := by
  obtain ⟨⟨a1, a2, -, -, -⟩, -⟩ := okPlan_of hok
  rw [← stb_iff (few_okT hok), ← stb_iff hok, stab_few hok]
  have e : okMat (fewP p) (fewP p).nH u = okMat p p.nH u := by
    have := okMat_few p p.nH u
    rw [show min p.nH 9 = (fewP p).nH by rw [(few_n hok).1]; omega] at this
    exact this
  rw [e]
theorem few_rHd {p : PlanD} (hok : okPlan p = true) {h : Nat} (hh : h < p.nH) (s : Int) : rHd (fewP p) h s = rHd p h s := by
  unfold rHd
  rw [(few_n hok).2.2.1 h hh]
  rfl
theorem few_LsP {p : PlanD} (hok : okPlan p = true) : stL (fewP p) (fewP p).nH 0 (fun _ => -1) = stL p p.nH 0 (fun _ => -1) := by
  rw [(few_n hok).1]
  exact stL_few hok _ _ _ (by omega)
theorem few_kP {p : PlanD} (hok : okPlan p = true) : kP (fewP p) = kP p := by
  unfold kP LsP
  rw [few_LsP hok]
theorem few_mmP {p : PlanD} (hok : okPlan p = true) : mmP (fewP p) = mmP p := by
  funext i h
  unfold mmP LsP
  rw [few_LsP hok]
theorem first_all {p : PlanD} {m a : Nat → Int} (hok : okPlan p = true) (hD : DaR (fewP p) m a) (hE : DaEnd (fewP p) m a) :
    Stb p m ∧ ∀ u, Stb p u → ∀ x, x < p.nH → rHd p x (m x) ≤ rHd p x (u x) := by
  refine ⟨(few_stb hok).1 (hD.stb (few_okT hok) hE), fun u hu x hx => ?_⟩
  have := hD.best (few_okT hok) hE (((few_stb hok).2 hu).unb (few_okT hok)) (x := x) (by rw [(few_n hok).1]; exact hx)
  rw [few_rHd hok hx, few_rHd hok hx] at this
  exact this
end Go.Proofs.Ytiigcjcolpmafaa

