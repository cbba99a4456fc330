/- The law's fracs. -/
import Derived.Test.YtgdlkmgdljcgnaaDoorGs
namespace Go.Proofs.YtgdlkmgdljcgnaaDoor
open Go.RowKit

theorem Recs.none_ {s : Nat} {w : World} {n : Nat} {F : Nat → Nat → Int} (h : Recs s w none n F) : n = 0 := by
  rcases Nat.eq_zero_or_pos n with h0 | h0
  · exact h0
  · obtain ⟨b, o, e, -⟩ := h h0
    cases e
theorem cloneF_addr (a : Addr) (n c : Nat) (F : Nat → Nat → Int) (w : World) (h : ∀ j u, (recL 2 F n)[j]? = some u → w.cell? (a.add j) = some u) (hn : n ≤ 10000) :
    Calls Tryd.prog 69 #[.slice (some a) n c] w fun e w' => ∃ v', e = .returned v' ∧ OwnK 2 34 w' w.heap.size v' n F ∧ Below w.heap.size w w' := by
  have q := fun (w : World) (a : Option Addr) (n c n' c' : Nat) => Lib.run_eql_slice_nil (P := Tryd.prog) w 24 34 a n c n' c' Tryd.underlying24
  obtain ⟨i0, hi, hz0, hz1, hz2⟩ := info_parts infoFr
  have H := Lib.hid h
  clear h
  go_enter Tryd.func69, Tryd.ntmps69
  go_wp2_with (at_builtin; refine wpList_append_own _ rfl _ _ 24 rfl w.heap.size 34 i0 (.agg #[.int .i64 0, .int .i64 0]) 2 16 Tryd.underlying24 hi hz0 hz1 hz2 rfl (by decide) _ _ _ rfl (World.ownsRow_made w #[] 0 (Nat.le_refl _) (Nat.zero_le _) rfl) a n c (recL 2 F n) rfl ?qc1 ?qc2 ?qc3 ?qc4 ?qc5 ?qc6 ?_)
  case qc1 => rw [recL_len]
  case qc2 => exact fun j u hu => Lib.cell?_alloc_some _ (H.out j u hu)
  case qc3 => exact one_of_recL 2 F n
  case qc4 => unfold maxLen; omega
  case qc5 => omega
  case qc6 => simp
  intro v' w1 hown hgrow hnil
  go_wp2
  go_ret
  refine ⟨v', rfl, ?_, ?_⟩
  · unfold OwnK; simpa using hown
  · exact ((Below.refl _ w).alloc (Nat.le_refl _) _).grown hgrow (by simp) (by intro k hk; simp [Value.ownBlock] at hk; omega)
theorem cloneF_some (b o n c : Nat) (F : Nat → Nat → Int) (w : World) (h : ∀ k, k < n → ∀ i, i < 2 → w.cell? ⟨b, o + k * 2 + i, none⟩ = some (.int .i64 (F k i))) (hn : n ≤ 10000) :
    Calls Tryd.prog 69 #[.slice (some ⟨b, o, none⟩) n c] w fun e w' => ∃ v', e = .returned v' ∧ OwnK 2 34 w' w.heap.size v' n F ∧ Below w.heap.size w w' := by
  refine cloneF_addr ⟨b, o, none⟩ n c F w (fun j u hu => ?_) hn
  have hj : j < n * 2 := by
    rcases Nat.lt_or_ge j (n * 2) with h1 | h1
    · exact h1
    · rw [List.getElem?_eq_none (by rw [recL_len]; exact h1)] at hu
      cases hu
  obtain ⟨k, i, hi2, rfl⟩ : ∃ k i, i < 2 ∧ j = k * 2 + i := ⟨j / 2, j % 2, Nat.mod_lt _ (by omega), by omega⟩
  have hk : k < n := by omega
  rw [recL_get 2 F n k i hk hi2] at hu
  rw [Addr.add_lit, ← hu, ← Nat.add_assoc]
  exact h k hk i hi2
theorem cloneF_nil (n c : Nat) (w : World) : Calls Tryd.prog 69 #[.slice none n c] w fun e w' => e = .returned (.slice none 0 0) ∧ w = w' := by
  have q := fun (w : World) (a : Option Addr) (n c n' c' : Nat) => Lib.run_eql_slice_nil (P := Tryd.prog) w 24 34 a n c n' c' Tryd.underlying24
  go_enter Tryd.func69, Tryd.ntmps69
  go_wp2
  go_ret
  exact ⟨rfl, rfl⟩

theorem fracs_any (A : Option Addr) (n c : Nat) (F : Nat → Nat → Int) (w : World) (h : ArgK 2 w A n c F) :
    Calls Tryd.prog 29 #[.slice A n c] w fun e w' => ∃ v', e = .returned v' ∧ OwnK 2 34 w' w.heap.size v' (min n 6) F ∧ Below w.heap.size w w' := by
  obtain ⟨h1, h2, h3, h4⟩ := h
  have H4 := Lib.hid h4
  clear h4
  rcases A with _ | a
  · obtain rfl := H4.out.none_
    obtain rfl := h3 rfl
    go_enter Tryd.func29, Tryd.ntmps29
    go_wp2_with fail
    refine (cloneF_nil _ _ _).mono ?_
    rintro e w' ⟨rfl, rfl⟩
    go_wp2
    go_ret
    exact ⟨_, rfl, OwnK.nil_ _ _ _ _ _, Below.refl _ _⟩
  · clear h3
    by_cases hn : n ≤ 6
    · have hm := Lib.hid (Nat.min_eq_left hn)
      rcases Nat.eq_zero_or_pos n with h0 | h0
      · subst h0
        go_enter Tryd.func29, Tryd.ntmps29
        go_wp2_with fail
        refine (cloneF_addr a 0 c F _ (fun j u hu => by simp [recL] at hu) (by omega)).mono ?_
        rintro e w' ⟨v', rfl, ho, hb⟩
        go_wp2
        go_ret
        exact ⟨_, rfl, ho, hb⟩
      · obtain ⟨b, o, e, hc⟩ := H4.out h0
        injection e with e
        subst e
        go_enter Tryd.func29, Tryd.ntmps29
        go_wp2_with fail
        refine (cloneF_some b o n c F _ hc (by omega)).mono ?_
        rintro e w' ⟨v', rfl, ho, hb⟩
        go_wp2
        go_ret
        exact ⟨_, rfl, by rw [hm.out]; exact ho, hb⟩
    · have hm := Lib.hid (Nat.min_eq_right (show 6 ≤ n by omega))
      have h19 : 7 ≤ n := by omega
      obtain ⟨b, o, e, hc⟩ := H4.out (by omega)
      injection e with e
      subst e
      go_enter Tryd.func29, Tryd.ntmps29
      go_wp2_with fail
      refine (cloneF_some b o 6 c F _ (fun k hk i hi => hc k (by omega) i hi) (by omega)).mono ?_
      rintro e w' ⟨v', rfl, ho, hb⟩
      go_wp2
      go_ret
      exact ⟨_, rfl, by rw [hm.out]; exact ho, hb⟩

end Go.Proofs.YtgdlkmgdljcgnaaDoor
