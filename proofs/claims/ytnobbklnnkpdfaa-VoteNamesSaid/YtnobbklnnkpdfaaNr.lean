/- Candidates renamed in a circle (theory). -/
import Derived.Test.YtnobbklnnkpdfaaWy
import Derived.Test.YtnobbklnnkpdfaaBl
import Derived.Test.YtnobbklnnkpdfaaKo
namespace Go.Proofs.Ytnobbklnnkpdfaa
open Go.RowKit

def rnN (u c x : Nat) : Nat := if x + u < c then x + u else x + u - c
def rnI (u c : Nat) : Nat := if u = 0 then 0 else c - u
theorem rnN_lt {u c x : Nat} (hu : u < c) (hx : x < c) : rnN u c x < c := by unfold rnN; split <;> omega
theorem rnI_lt {u c : Nat} (hu : u < c) : rnI u c < c := by unfold rnI; split <;> omega
theorem rnN_back {u c x : Nat} (hu : u < c) (hx : x < c) : rnN (rnI u c) c (rnN u c x) = x := by unfold rnN rnI; split <;> split <;> (try split) <;> omega
theorem rnN_forth {u c x : Nat} (hu : u < c) (hx : x < c) : rnN u c (rnN (rnI u c) c x) = x := by unfold rnN rnI; split <;> split <;> (try split) <;> omega
theorem rnN_inj {u c x y : Nat} (hu : u < c) (hx : x < c) (hy : y < c) (h : rnN u c x = rnN u c y) : x = y := by
  have := rnN_back hu hx
  rw [h, rnN_back hu hy] at this
  exact this.symm
theorem rn_mod {u c x : Nat} (hu : u < c) (hx : x < c) : ((x : Int) + (u : Int)).tmod (c : Int) = ((rnN u c x : Nat) : Int) := by
  rw [Int.tmod_eq_emod_of_nonneg (by omega)]
  unfold rnN
  split
  · rw [Int.emod_eq_of_lt (by omega) (by omega)]
    omega
  · rw [show (x : Int) + (u : Int) = ((x + u - c : Nat) : Int) + (c : Int) * 1 by omega, Int.add_mul_emod_self_left, Int.emod_eq_of_lt (by omega) (by omega)]
def rnO (u c : Nat) (o : Nat → Int) : Nat → Int := fun k => ((rnN u c (o k).toNat : Nat) : Int)
theorem rnO_at {u c x k : Nat} {o : Nat → Int} (h : o k = (x : Int)) : rnO u c o k = ((rnN u c x : Nat) : Int) := by
  show ((rnN u c (o k).toNat : Nat) : Int) = _
  rw [h, Int.toNat_natCast]
theorem rnO_ord {u c : Nat} {o : Nat → Int} (hu : u < c) (h : Ord c o) : Ord c (rnO u c o) := by
  refine ⟨fun k hk => ?_, fun i j hij hj e => ?_⟩
  · have h1 := h.rng k hk
    have := rnN_lt hu (x := (o k).toNat) (by omega)
    show 0 ≤ ((rnN u c (o k).toNat : Nat) : Int) ∧ ((rnN u c (o k).toNat : Nat) : Int) < c
    omega
  · have h1 := h.rng i (by omega)
    have h2 := h.rng j hj
    have e' : ((rnN u c (o i).toNat : Nat) : Int) = ((rnN u c (o j).toNat : Nat) : Int) := e
    have := rnN_inj hu (by omega) (by omega) (Int.natCast_inj.1 e')
    exact h.inj i j hij hj (by omega)
theorem idx_rn {u c a : Nat} {f : Nat → Int} (hu : u < c) (h : Ord c f) (ha : a < c) : idxI (rnO u c f) ((rnN u c a : Nat) : Int) c = idxI f (a : Int) c := by
  obtain ⟨k, hk, e⟩ := h.surj ha
  have h1 := idx_at h hk
  have h2 := idx_at (rnO_ord hu h) hk
  rw [e] at h1
  rw [rnO_at e] at h2
  rw [h1, h2]
theorem mrg_rn {u c a b : Nat} {v : Nat → Nat → Int} (hu : u < c) (ha : a < c) (hb : b < c) : ∀ n : Nat, (∀ i, i < n → Ord c (v i)) → mrg (fun i => rnO u c (v i)) c (rnN u c a) (rnN u c b) n = mrg v c a b n := by
  intro n
  induction n with
  | zero => intro _; rfl
  | succ n ih =>
    intro h
    simp only [mrg]
    rw [ih (fun i hi => h i (by omega)), idx_rn hu (h n (by omega)) ha, idx_rn hu (h n (by omega)) hb]
/-- The table of the renamed. -/
def RenT (u c : Nat) (T T' : Nat → Int) : Prop := ∀ a b, a < c → b < c → T' (5 * rnN u c a + rnN u c b) = T (5 * a + b)
theorem RenT.back {u c : Nat} {T T' : Nat → Int} (hu : u < c) (h : RenT u c T T') : RenT (rnI u c) c T' T := fun a b ha hb => by
  have := h (rnN (rnI u c) c a) (rnN (rnI u c) c b) (rnN_lt (rnI_lt hu) ha) (rnN_lt (rnI_lt hu) hb)
  rw [rnN_forth hu ha, rnN_forth hu hb] at this
  exact this.symm
theorem stL_rn {u c : Nat} {T T' : Nat → Int} (h : RenT u c T T') : ∀ p : List Nat, (∀ x ∈ p, x < c) → stL T' (p.map (rnN u c)) = stL T p := by
  intro p
  induction p with
  | nil => intro _; rfl
  | cons x r ih =>
    intro hr
    cases r with
    | nil => rfl
    | cons y r =>
      have := ih (fun z hz => hr z (List.mem_cons_of_mem _ hz))
      simp only [List.map_cons, stL_two] at this ⊢
      rw [this, h x y (hr x (by simp)) (hr y (by simp))]
theorem wT_ren_le {u c a b : Nat} {T T' : Nat → Int} (hc : c ≤ 5) (hu : u < c) (h0 : ∀ a, a < c → T (5 * a + a) = 0) (h99 : ∀ a b, a < c → b < c → T (5 * a + b) ≤ 99) (h0' : ∀ a, a < c → T' (5 * a + a) = 0) (h : RenT u c T T') (ha : a < c) (hb : b < c) (hab : a ≠ b) :
    wT c T c (5 * a + b) ≤ wT c T' c (5 * rnN u c a + rnN u c b) := by
  obtain ⟨p, h1, h2, -, h4⟩ := width_path hc h0 h99 ha hb hab
  rw [← h4, ← stL_rn h p h1.rng]
  refine stL_width hc h0' (p.map (rnN u c)) (rnN u c a) ⟨?_, ?_, by simpa using h1.two, fun x hx => ?_⟩ ?_
  · rw [List.head?_map, h1.fst]; rfl
  · rw [List.getLast?_map, h1.lst]; rfl
  · obtain ⟨y, hy, rfl⟩ := List.mem_map.1 hx
    exact rnN_lt hu (h1.rng y hy)
  · refine List.pairwise_map.2 (h2.imp_of_mem (fun {x y} hx hy hxy e => hxy (rnN_inj hu (h1.rng x hx) (h1.rng y hy) e)))
theorem wT_ren {u c a b : Nat} {T T' : Nat → Int} (hc : c ≤ 5) (hu : u < c) (h0 : ∀ a, a < c → T (5 * a + a) = 0) (h99 : ∀ a b, a < c → b < c → T (5 * a + b) ≤ 99) (h : RenT u c T T') (ha : a < c) (hb : b < c) :
    wT c T' c (5 * rnN u c a + rnN u c b) = wT c T c (5 * a + b) := by
  have hB := h.back hu
  have h0' : ∀ a, a < c → T' (5 * a + a) = 0 := fun a ha => by
    rw [← hB a a ha ha]; exact h0 _ (rnN_lt (rnI_lt hu) ha)
  have h99' : ∀ a b, a < c → b < c → T' (5 * a + b) ≤ 99 := fun a b ha hb => by
    rw [← hB a b ha hb]; exact h99 _ _ (rnN_lt (rnI_lt hu) ha) (rnN_lt (rnI_lt hu) hb)
  by_cases hab : a = b
  · subst hab
    rw [(wT_cls hc h0' c (Nat.le_refl _)).dia _ (rnN_lt hu ha), (wT_cls hc h0 c (Nat.le_refl _)).dia a ha]
  · have h1 := wT_ren_le hc hu h0 h99 h0' h ha hb hab
    have h2 := wT_ren_le hc (rnI_lt hu) h0' h99' h0 hB (rnN_lt hu ha) (rnN_lt hu hb) (fun e => hab (rnN_inj hu ha hb e))
    rw [rnN_back hu ha, rnN_back hu hb] at h2
    omega
/-- The set renamed. -/
def imgN (u c s : Nat) : Nat := ((List.range c).map (fun a => if bitN s a then 2 ^ rnN u c a else 0)).sum
theorem img_all : ∀ c, c < 6 → ∀ u, u < c → ∀ s, s < 2 ^ c → imgN u c s < 2 ^ c ∧ (∀ a, a < c → bitN (imgN u c s) (rnN u c a) = bitN s a) ∧ (1 ≤ s → 1 ≤ imgN u c s) ∧ pcN (imgN u c s) = pcN s := by decide +kernel
theorem ahd_img {u c s : Nat} {T T' : Nat → Int} (hc : c ≤ 5) (hu : u < c) (hs : s < 2 ^ c) (h : RenT u c T T') (hh : ahdB T c s = true) : ahdB T' c (imgN u c s) = true := by
  obtain ⟨h1, h2, h3, h4⟩ := img_all c (by omega) u hu s hs
  rw [ahdB_iff] at hh ⊢
  intro a b ha hb k1 k2
  have ea := rnN_forth hu ha
  have eb := rnN_forth hu hb
  have la := rnN_lt (rnI_lt hu) ha
  have lb := rnN_lt (rnI_lt hu) hb
  rw [← ea, h2 _ la] at k1
  rw [← eb, h2 _ lb] at k2
  have := hh _ _ la lb k1 k2
  rw [← h _ _ la lb, ea, eb] at this
  exact this
theorem bst_pc {u c s t : Nat} {T T' : Nat → Int} (hc : c ≤ 5) (hu : u < c) (hA' : Anti T' c) (h : RenT u c T T') (hs : IsBst T c s) (ht : IsBst T' c t) : pcN t ≤ pcN s ∧ (pcN s ≤ pcN t → t = imgN u c s) := by
  have hp : 0 < 2 ^ c := Nat.pow_pos (by omega)
  have hsl := hs.le
  have htl := ht.le
  obtain ⟨h1, h2, h3, h4⟩ := img_all c (by omega) u hu s (by omega)
  have hi := ahd_img hc hu (by omega) h hs.hd
  have hge : t ≤ imgN u c s := by
    rcases Nat.lt_or_ge (imgN u c s) t with hl | hl
    · have := ht.no _ (h3 hs.pos) hl
      rw [hi] at this
      cases this
    · exact hl
  rcases ahd_nest hA' ht.hd hi with k | k
  · have := bits_sub hc (by omega) h1 k
    rw [h4] at this
    exact ⟨this.2.1, this.2.2⟩
  · have := bits_sub hc h1 (by omega) k
    have e : t = imgN u c s := by omega
    rw [e, h4]
    exact ⟨Nat.le_refl _, fun _ => rfl⟩
theorem bst_ren {u c s t : Nat} {T T' : Nat → Int} (hc : c ≤ 5) (hu : u < c) (hA : Anti T c) (hA' : Anti T' c) (h : RenT u c T T') (hs : IsBst T c s) (ht : IsBst T' c t) {a : Nat} (ha : a < c) : bitN t (rnN u c a) = bitN s a := by
  have hp : 0 < 2 ^ c := Nat.pow_pos (by omega)
  have h1 := bst_pc hc hu hA' h hs ht
  have h2 := bst_pc hc (rnI_lt hu) hA (h.back hu) ht hs
  have hsl := hs.le
  rw [h1.2 h2.1]
  exact (img_all c (by omega) u hu s (by omega)).2.1 a ha
theorem dis_ren {u n c : Nat} {T T' : Nat → Int} {o : Nat → Int} (h : RenT u c T T') (ho : Ord c o) : disS n T' (rnO u c o) c = disS n T o c :=
  triS_congr (fun i j hij hj => by
    have h1 := ho.rng i (by omega)
    have h2 := ho.rng j hj
    unfold dG rnO
    rw [Int.toNat_natCast, Int.toNat_natCast, h _ _ (by omega) (by omega)]) (Nat.le_refl _)
theorem kem_ren {u n c : Nat} {T T' : Nat → Int} (hu : u < c) (h : RenT u c T T') : disS n T' (rowF (kemL n T' c)) c = disS n T (rowF (kemL n T c)) c := by
  have o1 := (ord_of_mem (kem_mem n T c)).2
  have o2 := (ord_of_mem (kem_mem n T' c)).2
  have k1 := kem_min n T' (rnO_ord hu o1)
  have k2 := kem_min n T (rnO_ord (rnI_lt hu) o2)
  rw [dis_ren h o1] at k1
  rw [dis_ren (h.back hu) o2] at k2
  omega
/-- An axis renamed is one of the ballots renamed. -/
theorem pk_ren {u n c : Nat} {L : Nat → Nat} {v : Nat → Nat → Int} {o : Nat → Int} (hu : u < c) (hL : ∀ i, i < n → L i = c ∧ Ord c (v i)) (ho : Ord c o) (h : pkB n L v o c = true) : pkB n L (fun i => rnO u c (v i)) (rnO u c o) c = true := by
  have key : ∀ i, i < n → ∀ k, k < c → idxI (rnO u c (v i)) (rnO u c o k) (L i) = idxI (v i) (o k) (L i) := fun i hi k hk => by
    have h1 := ho.rng k hk
    obtain ⟨x, hx⟩ : ∃ x : Nat, o k = (x : Int) := ⟨(o k).toNat, by omega⟩
    rw [rnO_at hx, hx, (hL i hi).1]
    exact idx_rn hu (hL i hi).2 (by omega)
  refine pk_mk (fun x k z i hx hz hzc hi hh => ?_)
  rw [key i hi x (by omega), key i hi k (by omega), key i hi z hzc] at hh
  exact pk_get h hx hz hzc hi hh
end Go.Proofs.Ytnobbklnnkpdfaa
