/- The reference's Disagreement. -/
import Derived.Test.YtnobbklnnkpdfaaRv
import Derived.Test.YtnobbklnnkpdfaaDa
namespace Go.Proofs.Ytnobbklnnkpdfaa
open Go.RowKit

/-- How many of the first ballots have b before a. -/
def bhN (v : Nat → Nat → Int) (c a b : Nat) : Nat → Nat
  | 0 => 0
  | i + 1 => bhN v c a b i + (if idxI (v i) (b : Int) c < idxI (v i) (a : Int) c then 1 else 0)
theorem idx_ne {c a b : Nat} {f : Nat → Int} (h : Ord c f) (ha : a < c) (hab : a ≠ b) : idxI f (a : Int) c ≠ idxI f (b : Int) c := by
  intro e
  rcases idxI_cases f (a : Int) c with ⟨-, h1⟩ | ⟨k, hk, e1, h1, -⟩
  · obtain ⟨p, hp, e2, -⟩ := h.place ha
    exact h1 p hp e2
  · rcases idxI_cases f (b : Int) c with ⟨e2, -⟩ | ⟨j, hj, e2, h2, -⟩
    · omega
    · have : k = j := by omega
      subst this
      omega
theorem mrg_bh {v : Nat → Nat → Int} {c a b : Nat} (ha : a < c) (hab : a ≠ b) : ∀ n : Nat, (∀ i, i < n → Ord c (v i)) → mrg v c a b n = (n : Int) - 2 * bhN v c a b n := by
  intro n
  induction n with
  | zero => intro _; rfl
  | succ n ih =>
    intro h
    have h1 := ih (fun i hi => h i (by omega))
    have h2 := idx_ne (h n (by omega)) ha hab
    simp only [mrg, bhN, sg]
    rw [h1]
    generalize idxI (v n) (a : Int) c = x at *
    generalize idxI (v n) (b : Int) c = y at *
    rcases Int.lt_or_le x y with hl | hl
    · rw [if_pos hl, if_neg (by omega)]
      push_cast
      omega
    · rw [if_neg (by omega), if_pos (by omega), if_pos (by omega)]
      push_cast
      omega
theorem bh_bd (v : Nat → Nat → Int) (c a b : Nat) : ∀ n : Nat, bhN v c a b n ≤ n := by
  intro n
  induction n with
  | zero => exact Nat.le_refl _
  | succ n ih => simp only [bhN]; split <;> omega
theorem dG_bh {n c : Nat} {L : Nat → Nat} {v : Nat → Nat → Int} (hok : okBal n L v = true) {o : Nat → Int} (ho : Ord (L 0) o) {i j a b : Nat} (hij : i < j) (hj : j < L 0) (ea : o i = a) (eb : o j = b) (_hc : c = L 0) : dG n (mAll v (L 0) n) o i j = bhN v (L 0) a b n := by
  obtain ⟨h1, ⟨h2, h3⟩, h4⟩ := okBal_iff.1 hok
  have hi := ho.rng i (by omega)
  have hj2 := ho.rng j hj
  have hne := ho.inj i j hij hj
  have ha : a < L 0 := by omega
  have hb : b < L 0 := by omega
  have hab : a ≠ b := fun e => hne (by rw [ea, eb, e])
  have hbd := bh_bd v (L 0) a b n
  unfold dG
  have e1 : (o i).toNat = a := by omega
  have e2 : (o j).toNat = b := by omega
  rw [e1, e2, mAll_at h3 ha hb n (fun i hi => (h4 i hi).2), mrg_bh ha hab n (fun i hi => (h4 i hi).2), Int.tdiv_eq_ediv_of_nonneg (by omega)]
  omega

theorem bal_bdR {n : Nat} {L : Nat → Nat} {v : Nat → Nat → Int} (hok : okBal n L v = true) : ∀ a b, a < L 0 → b < L 0 → -(n : Int) ≤ mAll v (L 0) n (5 * a + b) ∧ mAll v (L 0) n (5 * a + b) ≤ n := by
  obtain ⟨⟨hn1, hn9⟩, ⟨hc1, hc5⟩, hO⟩ := okBal_iff.1 hok
  intro a b ha hb
  rw [mAll_at hc5 ha hb n (fun i hi => (hO i hi).2)]
  exact mrg_bd v (L 0) a b n
set_option maxHeartbeats 1000000 in
set_option maxRecDepth 1000000 in
theorem disR_any (A D : Option Addr) (n cA cap : Nat) (L : Nat → Nat) (v : Nat → Nat → Int) (o : Nat → Int) (w : World) {cR : Nat} (h : ArgR w A n cR L v) (hok : okBal n L v = true) (ho : Ord (L 0) o) (hD : Ints w D (L 0) o) (hcap : L 0 ≤ cap) :
    Ro 69 #[.slice A n cA, .slice D (L 0) cap] w (.int .i64 (disS n (mAll v (L 0) n) o (L 0))) := by
  refine Ro.of ?_
  obtain ⟨⟨hn1, hn9⟩, ⟨hc1, hc5⟩, hO4⟩ := okBal_iff.1 hok
  have H := Lib.hid h
  have HL : Hid (∀ i, i < n → L i = L 0) := Lib.hid (fun i hi => (hO4 i hi).1)
  have HI0 := Lib.hid hD
  have HOr := Lib.hid ho
  have HBh : Hid (∀ i j a b, i < j → j < L 0 → o i = ((a : Nat) : Int) → o j = ((b : Nat) : Int) → dG n (mAll v (L 0) n) o i j = bhN v (L 0) a b n) := Lib.hid (fun i j a b hij hj ea eb => dG_bh hok ho hij hj ea eb rfl)
  have HDs : Hid (disS n (mAll v (L 0) n) o (L 0) = triS (dG n (mAll v (L 0) n) o) (L 0) (L 0)) := Lib.hid rfl
  have hT := bal_bdR hok
  have HBd : Hid (∀ k j, k < L 0 → j < L 0 → 0 ≤ dG n (mAll v (L 0) n) o k j ∧ dG n (mAll v (L 0) n) o k j ≤ 9) := Lib.hid (fun k j hk hj => dG_bd hn9 hT ho hk hj)
  have HRb : Hid (∀ k j, k < L 0 → k + 1 + j ≤ L 0 → 0 ≤ rowS (dG n (mAll v (L 0) n) o) k j ∧ rowS (dG n (mAll v (L 0) n) o) k j ≤ 45) := Lib.hid (fun k j hk hj => by
    have h1 := rowS_bd (g := dG n (mAll v (L 0) n) o) (k := k) (B := 9) (j := j) (fun i hi => HBd.out k (k + 1 + i) hk (by omega))
    omega)
  have HTb : Hid (∀ k, k ≤ L 0 → 0 ≤ triS (dG n (mAll v (L 0) n) o) (L 0) k ∧ triS (dG n (mAll v (L 0) n) o) (L 0) k ≤ 45 * k) := Lib.hid (by
    intro k
    induction k with
    | zero => intro _; simp [triS]
    | succ k ih =>
      intro hk
      have h1 := ih (by omega)
      have h2 := HRb.out k (L 0 - (k + 1)) (by omega) (by omega)
      simp only [triS]
      omega)
  clear h hok ho hD hO4 hT HBd
  generalize disS n (mAll v (L 0) n) o (L 0) = dd at *
  generalize dG n (mAll v (L 0) n) o = gg at *
  generalize hC : L 0 = c at *
  clear hC
  go_enter Try.func69, Try.ntmps69
  go_wp2
  go_loopw [5, 14] (fun s i wr => ∃ k : Nat, k ≤ c ∧ i = .int .i64 k ∧ s = .int .i64 (triS gg c k) ∧ Dn w wr) (fun _ i _ => c - (intOf i).toNat)
  case atStart => exact ⟨0, Nat.zero_le _, rfl, rfl, Dn.refl _⟩
  case round =>
    obtain ⟨k, hk, rfl, rfl, hD⟩ := hrel
    have HD := Lib.hid hD
    clear hD
    by_cases hlt : k < c
    · obtain ⟨bA, oA, rfl, hcA⟩ := (HI0.out.dn HD.out).at hlt
      obtain ⟨x, hx, hx5⟩ : ∃ x : Nat, o k = (x : Int) ∧ x < c := by
        have := HOr.out.rng k hlt
        exact ⟨(o k).toNat, by omega, by omega⟩
      have HX := Lib.hid hx
      rw [hx] at hcA
      clear hx
      have HN : Hid (triS gg c (k + 1) = triS gg c k + rowS gg k (c - (k + 1))) := Lib.hid rfl
      have hS := HTb.out k hk
      generalize triS gg c k = S at *
      obtain ⟨hS1, hS2⟩ := hS
      by_cases hcut : k + 1 = cap
      · have hend : c - (k + 1) = 0 := by omega
        have HN2 : Hid (triS gg c (k + 1) = S) := Lib.hid (by rw [HN.out, hend]; simp [rowS])
        obtain ⟨Y, rfl⟩ : ∃ Y, Y = wr := ⟨wr, rfl⟩
        go_wp2
        go_loopw [5, 24] (fun s i wx => i = .int .i64 0 ∧ s = .int .i64 S ∧ Y = wx) (fun _ _ _ => 0)
        case atStart => exact ⟨rfl, rfl, rfl⟩
        case round =>
          obtain ⟨rfl, rfl, rfl⟩ := hrel
          go_wp2
          go_roundw
          case rel => exact ⟨k + 1, by omega, by go_num, by rw [HN2.out], HD.out⟩
          case measure => simp [intOf]; omega
      · obtain ⟨Y, rfl⟩ : ∃ Y, Y = wr := ⟨wr, rfl⟩
        go_wp2
        go_loopw [5, 24] (fun s i wx => ∃ q : Nat, q ≤ c - (k + 1) ∧ i = .int .i64 q ∧ s = .int .i64 (S + rowS gg k q) ∧ Dn Y wx) (fun _ i _ => c - (intOf i).toNat)
        case atStart => exact ⟨0, Nat.zero_le _, rfl, by simp [rowS], Dn.refl _⟩
        case round =>
          obtain ⟨q, hq, rfl, rfl, hD⟩ := hrel
          have HDq := Lib.hid (HD.out.trans hD)
          have HDy := Lib.hid hD
          clear hD
          by_cases hlq : q < c - (k + 1)
          · have hcB := (HI0.out.dn HDq.out).cell (show k + 1 + q < c by omega)
            obtain ⟨y, hy, hy5⟩ : ∃ y : Nat, o (k + 1 + q) = (y : Int) ∧ y < c := by
              have := HOr.out.rng (k + 1 + q) (by omega)
              exact ⟨(o (k + 1 + q)).toNat, by omega, by omega⟩
            have HG := Lib.hid (HBh.out k (k + 1 + q) x y (by omega) (by omega) HX.out hy)
            rw [hy, ← Nat.add_assoc oA (k + 1) q] at hcB
            have hr1 := HRb.out k q hlt (by omega)
            have HNr : Hid (rowS gg k (q + 1) = rowS gg k q + gg k (k + 1 + q)) := Lib.hid rfl
            clear hy
            generalize rowS gg k q = R at *
            obtain ⟨hr1, hr2⟩ := hr1
            obtain ⟨Z, rfl⟩ : ∃ Z, Z = wr := ⟨wr, rfl⟩
            go_wp2
            go_loopw [5, 30] (fun s i wx => ∃ u : Nat, u ≤ n ∧ i = .int .i64 u ∧ s = .int .i64 (S + R + bhN v c x y u) ∧ Dn Z wx) (fun _ i _ => n - (intOf i).toNat)
            case atStart => exact ⟨0, Nat.zero_le _, rfl, by simp [bhN], Dn.refl _⟩
            case round =>
              obtain ⟨u, hu, rfl, rfl, hD⟩ := hrel
              have HDu := Lib.hid (HDq.out.trans hD)
              have HDz := Lib.hid hD
              clear hD
              by_cases hlu : u < n
              · obtain ⟨bb, oo, A', c', rfl, hc', hAI⟩ := (H.out.below (HDu.out.below _)).at hlu
                rw [HL.out u hlu] at hc' hAI
                have HRa : Hid (∀ w', Dn wr w' → Ro 42 #[.slice A' c c', .int .i64 x] w' (.int .i64 (idxI (v u) x c))) := Lib.hid (fun w' hd => rank_any A' c c' (v u) x w' (hAI.below (hd.below _)))
                have HRy : Hid (∀ w', Dn wr w' → Ro 42 #[.slice A' c c', .int .i64 y] w' (.int .i64 (idxI (v u) y c))) := Lib.hid (fun w' hd => rank_any A' c c' (v u) y w' (hAI.below (hd.below _)))
                have hm := bh_bd v c x y u
                have HM : Hid (bhN v c x y (u + 1) = bhN v c x y u + (if idxI (v u) (y : Int) c < idxI (v u) (x : Int) c then 1 else 0)) := Lib.hid rfl
                clear hAI
                generalize bhN v c x y u = M at *
                generalize idxI (v u) (x : Int) c = ra at *
                generalize idxI (v u) (y : Int) c = ry at *
                go_wp2_with fail
                refine Ro.use (HRy.out _ (Dn.refl _)) ?_
                intro w1 hd1
                go_wp2_with fail
                refine Ro.use (HRa.out _ hd1) ?_
                intro w2 hd2
                have HDn := Lib.hid (HDz.out.trans (hd1.trans hd2))
                clear hd1 hd2
                rcases Int.lt_or_le ry ra with hl | hl
                · have HS : Hid (bhN v c x y (u + 1) = M + 1) := Lib.hid (by rw [HM.out, if_pos hl])
                  go_wp2
                  go_roundw
                  case rel => exact ⟨u + 1, by omega, by go_num, (by rw [HS.out]; exact val_int (by push_cast; omega)), HDn.out⟩
                  case measure => simp [intOf]; omega
                · have HS : Hid (bhN v c x y (u + 1) = M) := Lib.hid (by rw [HM.out, if_neg (by omega)]; rfl)
                  go_wp2
                  go_roundw
                  case rel => exact ⟨u + 1, by omega, by go_num, by rw [HS.out], HDn.out⟩
                  case measure => simp [intOf]; omega
              · have hun : u = n := by omega
                rw [hun]
                clear hun hlu hu
                have HDn := Lib.hid (HDy.out.trans HDz.out)
                go_wp2
                go_roundw
                case rel => exact ⟨q + 1, by omega, by go_num, (by rw [HNr.out, HG.out]; exact val_int (by omega)), HDn.out⟩
                case measure => simp [intOf]; omega
          · have hqc : q = c - (k + 1) := by omega
            rw [hqc]
            clear hqc hlq hq
            go_wp2
            go_roundw
            case rel => exact ⟨k + 1, by omega, by go_num, by rw [HN.out], HDq.out⟩
            case measure => simp [intOf]; omega
    · have hkc : k = c := by omega
      rw [hkc]
      clear hkc hlt hk
      go_wp2
      go_ret
      exact ⟨ret_int (by rw [HDs.out]), HD.out⟩
theorem dis_bd {n c : Nat} {T : Nat → Int} {o : Nat → Int} (hc : c ≤ 5) (hn : n ≤ 9) (hT : ∀ a b, a < c → b < c → -(n : Int) ≤ T (5 * a + b) ∧ T (5 * a + b) ≤ n) (ho : Ord c o) : 0 ≤ disS n T o c ∧ disS n T o c ≤ 225 := by
  have HBd : ∀ k j, k < c → j < c → 0 ≤ dG n T o k j ∧ dG n T o k j ≤ 9 := fun k j hk hj => dG_bd hn hT ho hk hj
  have HRb : ∀ k j, k < c → k + 1 + j ≤ c → 0 ≤ rowS (dG n T o) k j ∧ rowS (dG n T o) k j ≤ 45 := fun k j hk hj => by
    have h1 := rowS_bd (g := dG n T o) (k := k) (B := 9) (j := j) (fun i hi => HBd k (k + 1 + i) hk (by omega))
    omega
  have HTb : ∀ k, k ≤ c → 0 ≤ triS (dG n T o) c k ∧ triS (dG n T o) c k ≤ 45 * k := by
    intro k
    induction k with
    | zero => intro _; simp [triS]
    | succ k ih =>
      intro hk
      have h1 := ih (by omega)
      have h2 := HRb k (c - (k + 1)) (by omega) (by omega)
      simp only [triS]
      omega
  have := HTb c (Nat.le_refl _)
  unfold disS
  omega
end Go.Proofs.Ytnobbklnnkpdfaa
