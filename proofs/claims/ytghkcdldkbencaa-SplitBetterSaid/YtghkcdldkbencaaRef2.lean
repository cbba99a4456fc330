import Derived.Test.YtghkcdldkbencaaRef1
import Derived.Test.YtghkcdldkbencaaKM
namespace Go.Proofs.Ytghkcdldkbencaa
open Go.RowKit

theorem reased_any (A D : Option Addr) (n m c c' : Nat) (v : Nat → Nat → Int) (d : Nat → Int) (i : Nat) (j : Int) (kind : Int) (w : World) (h : Mat w A n m v) (hd : Ints w D m d) (hb : BdM n m v 100000) (hm : m ≤ 9) (hi : i < n) (hn : n ≤ 9) :
    Ro 49 #[.slice A n c, .slice D m c', .int .i64 i, .int .i64 j, .int .i64 kind] w (.bool (excB m (v i) d i j kind)) := by
  refine Ro.of ?_
  obtain ⟨b, o, R, cR, rfl, hc, hR⟩ := h.at hi
  have HBM := Lib.hid hb
  have HB := Lib.hid (hb i hi)
  obtain ⟨h1, h2⟩ := wTo_bd HB.out d i m (Nat.le_refl _)
  obtain ⟨h1', h2'⟩ := wTo_bd HB.out d j m (Nat.le_refl _)
  obtain ⟨h3, h4⟩ := sumTo_bd HB.out m (Nat.le_refl _)
  have hi0 : (0 : Int) ≤ i := by omega
  have hi1 : (i : Int) < n := by omega
  clear hb
  go_enter Try.func49, Try.ntmps49
  go_wp2
  go_loopw [11, 12, 18] (fun s e x wr => ∃ k : Nat, k ≤ m ∧ x = .int .i64 k ∧ s = .bool (anyB (someP m (v i) d i j) k) ∧ e = .bool (allB (eachP m (v i) d i j) k) ∧ Dn w wr) (fun _ _ x _ => m - (intOf x).toNat)
  case atStart => exact ⟨0, Nat.zero_le _, rfl, rfl, rfl, Dn.refl _⟩
  case round =>
    obtain ⟨k, hk, rfl, rfl, rfl, hD⟩ := hrel
    by_cases hlt : k < m
    · have hcW : wr.cell? ⟨b, o + i, none⟩ = some (.slice R m cR) := by obtain ⟨q, rfl⟩ := hD; exact hc
      obtain ⟨b1, o1, rfl, hc1⟩ := (hR.dn hD).at hlt
      obtain ⟨b', o', rfl, hc'⟩ := (hd.dn hD).at hlt
      obtain ⟨h5, h6⟩ := HB.out k hlt
      have hk0 : (0 : Int) ≤ k := by omega
      have hk1 : (k : Int) < m := by omega
      by_cases e : d k = j
      · have hB := beq_t e
        have HM := Lib.hid (h.dn hD)
        have HI := Lib.hid (hd.dn hD)
        by_cases e2 : wTo (v i) d j m - v i k ≤ wTo (v i) d i m
        · have HP : Hid (someP m (v i) d i j k = true ∧ eachP m (v i) d i j k = true) := Lib.hid (by simp [someP, eachP, goneB, e, e2])
          clear e
          go_wp2
          go_quiet (first
            | (go_at_call_of 50 (Value.int .i64 j); exact Ro.quiet (Ro.same (rworth_any _ _ n m _ _ v d i j _ HM.out HI.out HBM.out hm hi hn)))
            | (go_at_call 50; exact Ro.quiet (Ro.same (rworth_any _ _ n m _ _ v d i i _ HM.out HI.out HBM.out hm hi hn))))
          go_wp2
          all_goals
            go_roundw
            case rel => exact ⟨k + 1, by omega, by go_num, val_bool (by simp only [anyB, HP.out.1]; simp_all), val_bool (by simp only [allB, HP.out.2]; simp_all), hD.drewN _⟩
            case measure => simp [intOf]; omega
        · have HP : Hid (someP m (v i) d i j k = false ∧ eachP m (v i) d i j k = false) := Lib.hid (by simp [someP, eachP, goneB, e, e2])
          clear e
          go_wp2
          go_quiet (first
            | (go_at_call_of 50 (Value.int .i64 j); exact Ro.quiet (Ro.same (rworth_any _ _ n m _ _ v d i j _ HM.out HI.out HBM.out hm hi hn)))
            | (go_at_call 50; exact Ro.quiet (Ro.same (rworth_any _ _ n m _ _ v d i i _ HM.out HI.out HBM.out hm hi hn))))
          go_wp2
          all_goals
            go_roundw
            case rel => exact ⟨k + 1, by omega, by go_num, val_bool (by simp only [anyB, HP.out.1]; simp_all), val_bool (by simp only [allB, HP.out.2]; simp_all), hD.drewN _⟩
            case measure => simp [intOf]; omega
      · have hB := beq_f e
        have HP : Hid (someP m (v i) d i j k = false ∧ eachP m (v i) d i j k = true) := Lib.hid (by simp [someP, eachP, e])
        clear e
        go_wp2
        all_goals
          go_roundw
          case rel => exact ⟨k + 1, by omega, by go_num, val_bool (by simp only [anyB, HP.out.1]; simp_all), val_bool (by simp only [allB, HP.out.2]; simp_all), hD⟩
          case measure => simp [intOf]; omega
    · obtain rfl : k = m := by omega
      by_cases k1 : kind = 1
      · subst k1
        go_wp2
        all_goals
          go_ret
          exact ⟨ret_bool (by simp_all [excB]), hD⟩
      · by_cases k2 : kind = 2
        · subst k2
          go_wp2
          all_goals
            go_ret
            exact ⟨ret_bool (by simp_all [excB]), hD⟩
        · have HE : Hid (excB k (v i) d i j kind = false) := Lib.hid (by simp [excB, k1, k2])
          have hB1 := beq_f k1
          have hB2 := beq_f k2
          clear k1 k2
          go_wp2
          all_goals
            go_ret
            exact ⟨ret_bool HE.out.symm, hD⟩

set_option maxHeartbeats 2000000 in
set_option maxRecDepth 1000000 in
theorem renvy_any (A D : Option Addr) (n m c c' : Nat) (v : Nat → Nat → Int) (d : Nat → Int) (w : World) (h : Mat w A n m v) (hd : Ints w D m d) (hb : BdM n m v 100000) (hm : m ≤ 9) (hn : n ≤ 9) :
    Calls Try.prog 22 #[.slice A n c, .slice D m c'] w fun e w' => ∃ x, e = .returned x ∧ OwnP w' w.heap.size x (envAll n m v d n) ∧ Below w.heap.size w w' := by
  obtain ⟨i0, hi, hz0, hz1, hz2⟩ := info_parts infoPair
  have HM := Lib.hid h
  have HD := Lib.hid hd
  have H6 := Lib.hid hb
  clear h hd hb
  go_enter Try.func22, Try.ntmps22
  go_wp2
  go_loopw [5, 10] (fun s x wr => ∃ k : Nat, k ≤ n ∧ x = .int .i64 k ∧ OwnP wr w.heap.size s (envAll n m v d k) ∧ Below w.heap.size w wr) (fun _ x _ => n - (intOf x).toNat)
  case atStart => exact ⟨0, Nat.zero_le _, rfl, World.ownsRow_nil _ _ _ _, Below.refl _ _⟩
  case round =>
    obtain ⟨i, hk, rfl, hown, hbel⟩ := hrel
    by_cases hlt : i < n
    · have HOwn := Lib.hid hown
      clear hown
      go_wp2
      obtain ⟨wo, hwo⟩ : ∃ wo : World, wo = wr := ⟨_, rfl⟩
      have HWo := Lib.hid hwo
      clear hwo
      go_loopw [5, 15] (fun s x wi => ∃ k : Nat, k ≤ n ∧ x = .int .i64 k ∧ OwnP wi w.heap.size s (envAll n m v d i ++ envRow m v d i k) ∧ Below w.heap.size w wi) (fun _ x _ => n - (intOf x).toNat)
      case atStart => exact ⟨0, Nat.zero_le _, rfl, by simpa [envRow] using HOwn.out, hbel⟩
      case round =>
        obtain ⟨k, hk2, rfl, hown2, hbel2⟩ := hrel
        by_cases hlt2 : k < n
        · have HOwn3 := Lib.hid hown2
          clear hown2
          have hsz := hbel2.size
          go_wp2_with fail
          refine (renvies_any _ _ n m _ _ v d i k _ (HM.out.keep hbel2) (HD.out.keep hbel2) H6.out hm hlt hn).mono ?_
          rintro e w' ⟨rfl, rfl⟩
          cases he : envB m v d i k with
          | false =>
            have HE := Lib.hid he
            clear he
            go_wp2
            go_roundw
            case rel => exact ⟨k + 1, by omega, by go_num, by simpa [envRow, HE.out] using HOwn3.out, hbel2⟩
            case measure => simp [intOf]; omega
          | true =>
            have HE := Lib.hid he
            clear he
            have hlen : (envAll n m v d i ++ envRow m v d i k).length + 1 ≤ 1000 := by
              have e1 := envAll_len n m v d i
              have e2 := envRow_len m v d i k
              have e3 : i * n ≤ 9 * 9 := Nat.mul_le_mul (by omega) (by omega)
              simp only [List.length_append]
              omega
            have HLen := Lib.hid hlen
            clear hlen
            go_wp2_with (at_builtin; go_loud (refine wpList_append_own _ rfl _ _ 24 rfl w.heap.size 35 i0 (.agg #[.int .i64 0, .int .i64 0]) 2 16 Try.underlying24 hi hz0 hz1 hz2 rfl (by decide) _ _ _ rfl (World.ownsRow.alloc HOwn3.out _) ⟨wr.heap.size, 0, none⟩ 1 1 [.int .i64 i, .int .i64 k] rfl rfl (newsP _ _ _ _) (oneP2 _ _) (by have := HLen.out; unfold maxLen; omega) (by have := HLen.out; omega) (by simp; omega) ?_))
            intro v' w3 hown3 hgrow3 _
            have HO3 := Lib.hid hown3
            have HG3 := Lib.hid hgrow3
            clear hown3 hgrow3
            go_wp2
            go_roundw
            case rel =>
              refine ⟨k + 1, by omega, by go_num, ?_, ?_⟩
              · unfold OwnP
                simp only [envRow, HE.out, if_true]
                rw [← List.append_assoc, cellsP_snoc]
                simpa [Nat.add_assoc] using HO3.out
              · refine (hbel2.alloc (by omega) _).grown HG3.out (by simp; omega) ?_
                intro g hg
                exact (World.ownsRow.lt HOwn3.out g hg).1
            case measure => simp [intOf]; omega
        · obtain rfl : k = n := by omega
          go_wp2
          go_roundw
          case rel => exact ⟨i + 1, by omega, by go_num, by simpa [envAll] using hown2, hbel2⟩
          case measure => simp [intOf]; omega
    · obtain rfl : i = n := by omega
      go_wp2
      go_ret
      exact ⟨_, rfl, hown, hbel⟩
end Go.Proofs.Ytghkcdldkbencaa
