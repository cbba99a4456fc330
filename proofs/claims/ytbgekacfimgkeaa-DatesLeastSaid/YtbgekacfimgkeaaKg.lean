/- The reference's Worst, least, Least. -/
import Derived.Test.YtbgekacfimgkeaaKf
import Derived.Test.YtbgekacfimgkeaaKc
import Derived.ArgAppend
namespace Go.Proofs.Ytbgekacfimgkeaa
open Go.RowKit

theorem ord_of_new {n : Nat} {g : Nat → Int} (h8 : n ≤ 8) (hr : ∀ a, a < n → 0 ≤ g a ∧ g a < n) (hnew : ∀ a, a < n → btN (pfS g a) (g a).toNat = false) : ordB n g n = true := by
  unfold ordB
  rw [decide_eq_true rfl, Bool.true_and]
  refine allB_t (fun k hk => ?_)
  unfold ordP
  have h2 := hr k hk
  rw [decide_eq_true h2.1, decide_eq_true h2.2, Bool.and_self, Bool.true_and]
  cases hb : hasB g (g k) k with
  | false => rfl
  | true =>
    obtain ⟨j, hj, e⟩ := (hasB_iff _ _ _).1 hb
    have h3 := hnew k hk
    rw [(pfS_bit h8 (by omega) k (fun a ha => hr a (by omega))).2 ⟨j, hj, by omega⟩] at h3
    cases h3
/-- Worst of an order is its greatest delay. -/
theorem dl_DL {n : Nat} {J : Nat → Nat → Int} {f : Nat → Int} (hok : okJ n J = true) (ho : ordB n f n = true) (hnew : ∀ a, a < n → btN (pfS f a) (f a).toNat = false) : IsDl n J (eoF J f n) (DL n J f n) := by
  obtain ⟨⟨hn1, hn8⟩, hJ⟩ := okJ_iff.1 hok
  have hr := ord_rng ho
  have he : ∀ i, i < n → eoF J f n (f i).toNat = tmS n J (pfS f (i + 1)) := fun i hi => by
    rw [eoF_ord ho hi, tm_pf hn8 (i + 1) (fun a ha => hr a (by omega)) (fun a ha => hnew a (by omega))]
  have h1 : ∀ q, q ≤ n → (∀ i, i < q → eoF J f n (f i).toNat - J (f i).toNat 2 ≤ DL n J f q) ∧ (0 < q → ∃ i, i < q ∧ eoF J f n (f i).toNat - J (f i).toNat 2 = DL n J f q) := by
    intro q
    induction q with
    | zero => intro _; exact ⟨fun i hi => absurd hi (by omega), fun h => absurd h (by omega)⟩
    | succ q ih =>
      intro hq
      obtain ⟨h2, h3⟩ := ih (by omega)
      have h4 := he q (by omega)
      have h5 := hr q (by omega)
      have h6 := (hJ (f q).toNat (by omega)).2.2.1
      have h7 := tmS_rng hok (pfS f (q + 1)) n (Nat.le_refl _)
      rw [DL, ← h4]
      refine ⟨fun i hi => ?_, fun _ => ?_⟩
      · rcases Nat.lt_or_ge i q with h | h
        · have := h2 i h
          omega
        · obtain rfl : i = q := by omega
          omega
      · rcases Int.le_total (DL n J f q) (eoF J f n (f q).toNat - J (f q).toNat 2) with h | h
        · exact ⟨q, by omega, by omega⟩
        · rcases Nat.eq_zero_or_pos q with h0 | h0
          · subst h0
            refine ⟨0, by omega, ?_⟩
            have e0 : DL n J f 0 = -200 := rfl
            have h8 := tmS_rng hok (pfS f (0 + 1)) n (Nat.le_refl _)
            rw [e0] at h ⊢
            omega
          · obtain ⟨i, hi, e⟩ := h3 h0
            exact ⟨i, by omega, by omega⟩
  obtain ⟨h2, h3⟩ := h1 n (Nat.le_refl _)
  refine ⟨fun k hk => ?_, ?_⟩
  · obtain ⟨a, ha, ea⟩ := ord_surj ho (x := k) hk
    have h4 := h2 a ha
    rw [ea, Int.toNat_natCast] at h4
    exact h4
  · obtain ⟨i, hi, e⟩ := h3 (by omega)
    have := hr i hi
    exact ⟨(f i).toNat, by omega, e⟩

set_option maxHeartbeats 2000000 in
set_option maxRecDepth 1000000 in
theorem refWorst_ok (A B : Option Addr) (n c c2 : Nat) (J : Nat → Nat → Int) (f : Nat → Int) (w : World) (h : Recs 4 w A n J) (hok : okJ n J = true) (hf : Ints w B n f) (ho : ordB n f n = true) (hnew : ∀ a, a < n → btN (pfS f a) (f a).toNat = false) :
    Calls Try.prog 83 #[.slice A n c, .slice B n c2] w fun r w' => r = .returned (.int .i64 (DL n J f n)) ∧ Below w.heap.size w w' := by
  have H := Lib.hid h
  have HF := Lib.hid hf
  have HO := Lib.hid hok
  have HOr := Lib.hid ho
  have HDL := Lib.hid (dl_DL hok ho hnew)
  obtain ⟨⟨hn1, hn8⟩, hJ⟩ := okJ_iff.1 hok
  have HJ := Lib.hid hJ
  have HN : Hid (∀ k, k < n → 0 ≤ eoF J f n k ∧ eoF J f n k ≤ 160) := Lib.hid (fun k hk => by
    obtain ⟨a, ha, ea⟩ := ord_surj ho hk
    have h2 := eoF_ord (J := J) ho ha
    have hr := ord_rng ho
    rw [ea, Int.toNat_natCast] at h2
    rw [h2]
    refine ⟨smT_nonneg (fun b hb => by
      have := hr b (by omega)
      have := (hJ (f b).toNat (by omega)).1
      omega), ?_⟩
    have h3 : ∀ q, q ≤ n → smT (fun b => J (f b).toNat 0) q ≤ 20 * q := by
      intro q
      induction q with
      | zero => intro _; exact Int.le_refl _
      | succ q ih =>
        intro hq
        have := ih (by omega)
        have := hr q (by omega)
        have := (hJ (f q).toNat (by omega)).1
        rw [smT]
        push_cast
        omega
    have := h3 (a + 1) (by omega)
    push_cast at this
    omega)
  clear h hf hok ho hJ hnew
  go_enter Try.func83, Try.ntmps83
  go_wp2_with fail
  refine (refEndsJ_any A B n c n c2 J f w H.out HF.out HO.out HOr.out).mono ?_
  rintro e w2 ⟨g, rfl, -, hR, hb2⟩
  have HE := Lib.hid hR
  have HB2 := Lib.hid hb2
  clear hR hb2
  generalize heq : eoF J f n = en at *
  generalize hdd : DL n J f n = dd at *
  have HDD := Lib.hid hdd
  clear heq hdd
  go_wp2
  go_loopw [5, 12] (fun s i wr => ∃ (k : Nat) (x : Int), k ≤ n ∧ i = .int .i64 k ∧ s = .int .i64 x ∧ (k = 0 → x = -1073741824) ∧ (0 < k → IsDl k J en x) ∧ -1073741824 ≤ x ∧ Dn w2 wr) (fun _ i _ => n - (intOf i).toNat)
  case atStart => exact ⟨0, _, Nat.zero_le _, rfl, rfl, fun _ => rfl, fun h => absurd h (by omega), Int.le_refl _, Dn.refl _⟩
  case round =>
    obtain ⟨k, x, hk, rfl, rfl, hx0, hxk, hxl, hD⟩ := hrel
    have HX0 := Lib.hid hx0
    have HXk := Lib.hid hxk
    clear hx0 hxk
    by_cases hlt : k < n
    · have hc := (HE.out.dn hD).cell hlt
      have hbw := HB2.out.trans (hD.below _)
      obtain ⟨b, o, rfl, c0, c1, c2', c3⟩ := (H.out.keep hbw).four hlt
      obtain ⟨hek1, hek2⟩ := HN.out k hlt
      obtain ⟨-, -, ⟨hJ1, hJ2⟩, -⟩ := HJ.out k hlt
      clear hbw
      rcases Int.lt_or_le x (en k - J k 2) with hx | hx
      · have HI : Hid (IsDl (k + 1) J en (en k - J k 2)) := Lib.hid ⟨fun a ha => by
          rcases Nat.lt_or_ge a k with h3 | h3
          · have := (HXk.out (by omega)).1 a h3
            omega
          · obtain rfl : a = k := by omega
            exact Int.le_refl _, k, by omega, rfl⟩
        go_wp2
        go_roundw
        case rel => exact ⟨k + 1, en k - J k 2, by omega, by go_num, val_int (by omega), fun h => absurd h (by omega), fun _ => HI.out, by omega, hD⟩
        case measure => simp [intOf]; omega
      · have HI : Hid (IsDl (k + 1) J en x) := Lib.hid (by
          have hk0 : 0 < k := by
            rcases Nat.eq_zero_or_pos k with h | h
            · have := HX0.out h
              omega
            · exact h
          obtain ⟨h1, a, h2, h3⟩ := HXk.out hk0
          refine ⟨fun a ha => ?_, a, by omega, h3⟩
          rcases Nat.lt_or_ge a k with h4 | h4
          · exact h1 a h4
          · obtain rfl : a = k := by omega
            exact hx)
        go_wp2
        go_roundw
        case rel => exact ⟨k + 1, x, by omega, by go_num, val_int (by omega), fun h => absurd h (by omega), fun _ => HI.out, hxl, hD⟩
        case measure => simp [intOf]; omega
    · obtain rfl : k = n := by omega
      obtain rfl := HDL.out.uniq (HXk.out (by omega))
      go_wp2
      go_ret
      exact ⟨ret_int HDD.out.symm, HB2.out.trans (hD.below _)⟩

/-- The best order so far. -/
def BestV (w : World) (v : Value) (n : Nat) : Option (List Int) → Prop
  | none => v = .slice none 0 0
  | some L => ∃ b c f, v = .slice (some b) n c ∧ Ints w (some b) n f ∧ L = lst n f
theorem BestV.keep {w w' : World} {v : Value} {n : Nat} {o : Option (List Int)} (h : BestV w v n o) (hb : Below w.heap.size w w') : BestV w' v n o := by
  cases o with
  | none => exact h
  | some L =>
    obtain ⟨b, c, f, e1, e2, e3⟩ := h
    exact ⟨b, c, f, e1, e2.keep hb, e3⟩
theorem BestV.form {w : World} {v : Value} {n : Nat} {o : Option (List Int)} (h : BestV w v n o) : ∃ A k c, v = .slice A k c := by
  cases o with
  | none => exact ⟨_, _, _, h⟩
  | some L =>
    obtain ⟨b, c, f, e1, e2, e3⟩ := h
    exact ⟨_, _, _, e1⟩
/-- One round of the reference's search. -/
def lsS (n : Nat) (J : Nat → Nat → Int) (N : Nat → Nat) (r : Nat) (g : Nat → Int) (i : Nat) (acc : Option (List Int) × Int) : Nat → Option (List Int) × Int
  | 0 => acc
  | k + 1 => if cfB N (pfS g i) k = true then lsR n J N r (upd g i (k : Int)) (i + 1) (lsS n J N r g i acc k) else lsS n J N r g i acc k
theorem lsS_fold {n : Nat} {J : Nat → Nat → Int} {N : Nat → Nat} {r : Nat} {g : Nat → Int} {i : Nat} {acc : Option (List Int) × Int} : ∀ k, (List.range k).foldl (fun acc j => if cfB N (pfS g i) j = true then lsR n J N r (upd g i (j : Int)) (i + 1) acc else acc) acc = lsS n J N r g i acc k := by
  intro k
  induction k with
  | zero => rfl
  | succ k ih =>
    rw [List.range_succ, List.foldl_append, ih]
    rfl

/-- What a call of least is to give. -/
def LsOk (A B : Option Addr) (n c m c2 : Nat) (J F : Nat → Nat → Int) (r : Nat) : Prop := ∀ (C : Option Addr) (c3 i : Nat) (g : Nat → Int) (v : Value) (x : Int) (opt : Option (List Int)) (w : World), i + r = n → Recs 4 w A n J → Recs 2 w B m F → Ints w C i g → i ≤ c3 → (i = 0 → C = none ∧ c3 = 0) →
  (∀ a, a < i → 0 ≤ g a ∧ g a < n) → (∀ a, a < i → btN (pfS g a) (g a).toNat = false) → BestV w v n opt →
  Calls Try.prog 65 #[.slice A n c, .slice B m c2, .slice C i c3, v, .int .i64 x] w fun e w' => ∃ v', e = .returned (.tuple #[v', .int .i64 (lsR n J (nF F m) r g i (opt, x)).2]) ∧ BestV w' v' n (lsR n J (nF F m) r g i (opt, x)).1 ∧ Below w.heap.size w w'

set_option maxHeartbeats 4000000 in
set_option maxRecDepth 1000000 in
theorem refleast_leaf (A B : Option Addr) (n c m c2 : Nat) (J F : Nat → Nat → Int) (hok : okJ n J = true) : LsOk A B n c m c2 J F 0 := by
  intro C c3 i g v x opt w hi hA hB hg hc3 hC hr hnew hv
  obtain rfl : n = i := by omega
  have hn := (okJ_iff.1 hok).1
  obtain ⟨hn1, hn8⟩ := hn
  have ho : ordB n g n = true := by
    exact ord_of_new hn8 hr hnew
  have HA := Lib.hid hA
  have HG := Lib.hid hg
  have HV := Lib.hid hv
  have HW := Lib.hid (fun w' (hb : Below w.heap.size w w') => refWorst_ok A C n c c3 J g w' (hA.keep hb) hok (hg.keep hb) ho hnew)
  have HL : Hid (lsR n J (nF F m) 0 g n (opt, x) = if DL n J g n < x then (some (lst n g), DL n J g n) else (opt, x)) := Lib.hid rfl
  obtain ⟨A3, k3, cc3, rfl⟩ := hv.form
  obtain ⟨b0, o0, rfl, hc0⟩ := hg (by omega)
  have HC0 := Lib.hid hc0
  clear hA hB hg hv hC ho hnew hr hc0
  obtain ⟨i1, hi1, hz01, hz11, hz21⟩ := info_parts infoInt
  generalize lsR n J (nF F m) 0 g n (opt, x) = R at *
  generalize DL n J g n = dl at *
  go_enter Try.func65, Try.ntmps65
  have hbb : ((n : Int) == (n : Int)) = true := beq_t rfl
  go_wp2_with fail
  refine (HW.out w (Below.refl _ _)).mono ?_
  rintro e w2 ⟨rfl, hb2⟩
  have HB2 := Lib.hid hb2
  clear hb2
  by_cases hx : dl < x
  · have HR : Hid (R = (some (lst n g), dl)) := Lib.hid (by rw [HL.out, if_pos hx])
    go_wp2_with (at_builtin; go_loud (refine wpList_append_own _ rfl _ _ 23 rfl w2.heap.size 3 i1 (.int .i64 0) 1 8 Try.underlying23 hi1 hz01 hz11 hz21 rfl (by decide) _ _ _ rfl (World.ownsRow_made w2 #[] 0 (Nat.le_refl _) (Nat.zero_le _) rfl) ⟨b0, o0, none⟩ n c3 ((lst n g).map (Value.int .i64)) rfl ?qc1 ?qc2 ?qc3 ?qc4 ?qc5 ?qc6 ?_))
    case qc1 => simp [lst_len]
    case qc2 => exact fun j u hu => Lib.cell?_alloc_some _ (by
      have hj : j < n := by
        have := (List.getElem?_eq_some_iff.1 hu).1
        simpa [lst_len] using this
      rw [List.getElem?_map, lst_get _ _ _ hj] at hu
      rw [Addr.add_lit]
      have h1 := HC0.out j hj
      have h2 := (HB2.out.cell (World.block_lt_of_cell? _ _ h1)).trans h1
      rw [h2]
      exact hu)
    case qc3 => exact one_of_ints _
    case qc4 => unfold maxLen; omega
    case qc5 => omega
    case qc6 => simp
    intro v' w3 hown hgrow hnil
    have hO : OwnL w3 w2.heap.size v' (lst n g) := by unfold OwnL; rw [lst_len]; simpa using hown
    have hB3 := HB2.out.trans ((((Below.refl w2.heap.size w2).alloc (Nat.le_refl _) (.cells #[] 3)).grown hgrow (by simp) (by intro k hk; simp [Value.ownBlock] at hk; omega)).mono HB2.out.size)
    obtain ⟨A4, c4, rfl, -, hI4, -, hc4⟩ := hO.form
    rw [lst_len] at hI4 ⊢
    have HI4 := Lib.hid (hI4.congr (fun k hk => lst_getD _ _ _ hk))
    have HB3 := Lib.hid hB3
    clear hO hown hgrow hnil hI4 hB3
    go_wp2
    go_returns
    refine ⟨_, by rw [HR.out]; rfl, ?_, HB3.out⟩
    rw [HR.out]
    obtain ⟨b4, o4, rfl, h4⟩ := HI4.out (by omega)
    exact ⟨_, _, g, rfl, HI4.out, rfl⟩
  · have HR : Hid (R = (opt, x)) := Lib.hid (by rw [HL.out, if_neg hx])
    go_wp2
    go_returns
    exact ⟨_, by rw [HR.out]; rfl, by rw [HR.out]; exact HV.out.keep HB2.out, HB2.out⟩
end Go.Proofs.Ytbgekacfimgkeaa
