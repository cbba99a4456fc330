/- count: the margins of valid ballots. -/
import Derived.Test.YtnobbklnnkpdfaaPo
namespace Go.Proofs.Ytnobbklnnkpdfaa
open Go.RowKit

theorem PollI.zero (w : World) : PollI (w.alloc (.cells #[.slice none 0 0, .int .i64 0, .int .i64 0, .int .i64 0, .int .i64 0, .int .i64 0, .int .i64 0, .int .i64 0, .int .i64 0, .int .i64 0, .int .i64 0, .int .i64 0, .int .i64 0, .int .i64 0, .int .i64 0, .int .i64 0, .int .i64 0, .int .i64 0, .int .i64 0, .int .i64 0, .int .i64 0, .int .i64 0, .int .i64 0, .int .i64 0, .int .i64 0, .int .i64 0, .int .i64 0] 56)) w.heap.size none 0 0 0 (fun _ => 0) := PollI.box w none 0 0 0 (fun _ => 0)
theorem zero_below (w : World) : Below w.heap.size w (w.alloc (.cells #[.slice none 0 0, .int .i64 0, .int .i64 0, .int .i64 0, .int .i64 0, .int .i64 0, .int .i64 0, .int .i64 0, .int .i64 0, .int .i64 0, .int .i64 0, .int .i64 0, .int .i64 0, .int .i64 0, .int .i64 0, .int .i64 0, .int .i64 0, .int .i64 0, .int .i64 0, .int .i64 0, .int .i64 0, .int .i64 0, .int .i64 0, .int .i64 0, .int .i64 0, .int .i64 0, .int .i64 0] 56)) := (Below.refl _ w).alloc (Nat.le_refl _) _

theorem setCells_other (w : World) (b : Nat) (vs : List Value) (h : Nat) (hne : h ≠ b) : ∀ (o : Nat), (w.setCells b o vs).heap[h]? = w.heap[h]? := by
  induction vs generalizing w with
  | nil => exact fun _ => rfl
  | cons v vs ih => exact fun o => (ih _ (o + 1)).trans (Deep.blk_setCell_other _ _ _ _ hne)
theorem below_setCells {B b : Nat} {w w' : World} (vs : List Value) (o : Nat) (hb : B ≤ b) (h : Below B w w') : Below B w (w'.setCells b o vs) := by
  induction vs generalizing o w' with
  | nil => exact h
  | cons v vs ih => exact ih (o + 1) (h.setCell (p := ⟨b, o, none⟩) hb v)

set_option maxHeartbeats 1000000 in
set_option maxRecDepth 1000000 in
theorem count_ok (A : Option Addr) (n cA : Nat) (L : Nat → Nat) (v : Nat → Nat → Int) (w : World) (h : RowsK w A n L v) (hok : okBal n L v = true) (hA : n ≤ cA) :
    Calls Try.prog 33 #[.slice A n cA] w fun e w' => e = .returned (.tuple #[.agg (pollL A n cA (L 0) (mAll v (L 0) n)).toArray, .bool true]) ∧ Below w.heap.size w w' := by
  have H := Lib.hid h
  obtain ⟨⟨hn1, hn9⟩, ⟨hc1, hc5⟩, hO⟩ := okBal_iff.1 hok
  have HO := Lib.hid hO
  have HV : Hid (∀ w' : World, Below w.heap.size w w' → Ro 53 #[.slice A n cA] w' (.bool true)) := Lib.hid (fun w' hb => by
    have := valid_any A n cA L v w' (h.keep hb) (by omega) (fun i hi => by rw [(hO i hi).1]; omega)
    rwa [hok] at this)
  clear h hO hok
  have Hb0 := Lib.hid (zero_below w)
  have HZ0 := Lib.hid (PollI.zero w)
  go_enter Try.func33, Try.ntmps33
  go_wp2_with fail
  refine Ro.use (HV.out _ Hb0.out) ?_
  intro w2 hd2
  have Hb2 := Lib.hid (Hb0.out.trans (hd2.below _))
  have HZ2 := Lib.hid (HZ0.out.dn hd2)
  clear hd2 Hb0 HZ0
  obtain ⟨b, o, A0, c0, rfl, hc0, -⟩ := (H.out.keep Hb2.out).at (show 0 < n by omega)
  have hc0' : w2.cell? ⟨b, o, none⟩ = some (.slice A0 (L 0) c0) := hc0
  clear hc0
  have Hs2 : Hid (w.heap.size + 1 ≤ w2.heap.size) := Lib.hid (by have := HZ2.out.lt; omega)
  have HZ3 := Lib.hid (PollI.zero w2)
  have Hb3 := Lib.hid (Hb2.out.trans ((zero_below w2).mono Hb2.out.size))
  go_wp2_with (refine wpList_store_mid rfl 56 _ _ rfl w2.heap.size 0 (pollL (some ⟨b, o, none⟩) n cA (L 0) (fun _ => 0)).toArray rfl rfl ?there infoPoll pollL_one ?_)
  case there => exact by simpa [pollL_len] using HZ3.out.there
  have HP0 := Lib.hid (PollI.stored (A := some ⟨b, o, none⟩) (n := n) (cA := cA) (c := L 0) (T := fun _ => 0) HZ3.out)
  have HZ4 : Hid (PollI ((w2.alloc (.cells #[.slice none 0 0, .int .i64 0, .int .i64 0, .int .i64 0, .int .i64 0, .int .i64 0, .int .i64 0, .int .i64 0, .int .i64 0, .int .i64 0, .int .i64 0, .int .i64 0, .int .i64 0, .int .i64 0, .int .i64 0, .int .i64 0, .int .i64 0, .int .i64 0, .int .i64 0, .int .i64 0, .int .i64 0, .int .i64 0, .int .i64 0, .int .i64 0, .int .i64 0, .int .i64 0, .int .i64 0] 56)).setCells w2.heap.size 0 (pollL (some ⟨b, o, none⟩) n cA (L 0) (fun _ => 0))) w.heap.size none 0 0 0 (fun _ => 0)) := Lib.hid (World.rowIs.of_block (HZ2.out.keep (zero_below w2)) (setCells_other _ _ _ w.heap.size (by have := HZ2.out.lt; omega) 0))
  have Hb4 : Hid (Below w.heap.size w ((w2.alloc (.cells #[.slice none 0 0, .int .i64 0, .int .i64 0, .int .i64 0, .int .i64 0, .int .i64 0, .int .i64 0, .int .i64 0, .int .i64 0, .int .i64 0, .int .i64 0, .int .i64 0, .int .i64 0, .int .i64 0, .int .i64 0, .int .i64 0, .int .i64 0, .int .i64 0, .int .i64 0, .int .i64 0, .int .i64 0, .int .i64 0, .int .i64 0, .int .i64 0, .int .i64 0, .int .i64 0, .int .i64 0] 56)).setCells w2.heap.size 0 (pollL (some ⟨b, o, none⟩) n cA (L 0) (fun _ => 0)))) := Lib.hid (below_setCells _ _ (by have := HZ2.out.lt; omega) Hb3.out)
  obtain ⟨W, hW⟩ : ∃ W, W = ((w2.alloc (.cells #[.slice none 0 0, .int .i64 0, .int .i64 0, .int .i64 0, .int .i64 0, .int .i64 0, .int .i64 0, .int .i64 0, .int .i64 0, .int .i64 0, .int .i64 0, .int .i64 0, .int .i64 0, .int .i64 0, .int .i64 0, .int .i64 0, .int .i64 0, .int .i64 0, .int .i64 0, .int .i64 0, .int .i64 0, .int .i64 0, .int .i64 0, .int .i64 0, .int .i64 0, .int .i64 0, .int .i64 0] 56)).setCells w2.heap.size 0 (pollL (some ⟨b, o, none⟩) n cA (L 0) (fun _ => 0))) := ⟨_, rfl⟩
  rw [← hW] at HP0 HZ4 Hb4
  simp only [List.toList_toArray, ← hW]
  clear hW HZ3 Hb3 hc0'
  obtain ⟨G, hG⟩ : ∃ G, G = w2.heap.size := ⟨_, rfl⟩
  rw [← hG] at HP0 Hs2 ⊢
  clear hG HZ2 Hb2
  obtain ⟨c, hc⟩ : ∃ c, c = L 0 := ⟨_, rfl⟩
  rw [← hc] at HP0 HO hc1 hc5 ⊢
  have HC := Lib.hid hc
  clear hc
  generalize Value.agg #[.slice (some ⟨b, o, none⟩) n cA, .int .i64 (c : Int), .int .i64 0, .int .i64 0, .int .i64 0, .int .i64 0, .int .i64 0, .int .i64 0, .int .i64 0, .int .i64 0, .int .i64 0, .int .i64 0, .int .i64 0, .int .i64 0, .int .i64 0, .int .i64 0, .int .i64 0, .int .i64 0, .int .i64 0, .int .i64 0, .int .i64 0, .int .i64 0, .int .i64 0, .int .i64 0, .int .i64 0, .int .i64 0, .int .i64 0] = zv
  go_loopw [23] (fun i wr => ∃ k : Nat, k ≤ n ∧ i = .int .i64 k ∧ PollI wr G (some ⟨b, o, none⟩) n cA c (mAll v c k) ∧ PollI wr w.heap.size none 0 0 0 (fun _ => 0) ∧ Below w.heap.size w wr) (fun i _ => n - (intOf i).toNat)
  case atStart => exact ⟨0, Nat.zero_le _, rfl, HP0.out, HZ4.out, Hb4.out⟩
  case round =>
    obtain ⟨k, hk, rfl, hP, hZ, hB⟩ := hrel
    have HP := Lib.hid hP
    have HZ := Lib.hid hZ
    have HB := Lib.hid hB
    clear hP hZ hB HP0 HZ4 Hb4
    by_cases hlt : k < n
    · obtain ⟨b', o', A', c', e, hcc, hcap, hI⟩ := (H.out.keep HB.out).at hlt
      injection e with e
      injection e with e1 e2
      subst e1 e2
      rw [(HO.out k hlt).1] at hcc hcap hI
      have HI : Hid (∀ w' : World, Below w.heap.size w w' → Ints w' A' c (v k)) := Lib.hid (fun w' hb => by
        obtain ⟨b2, o2, A2, c2, e2, h2, h3, h4⟩ := H.out.at hlt
        injection e2 with e2
        injection e2 with e3 e4
        subst e3 e4
        rw [(HO.out k hlt).1] at h2 h3 h4
        have h5 := (HB.out.cell (World.block_lt_of_cell? _ _ h2)).trans h2
        rw [hcc] at h5
        injection h5 with h5
        injection h5 with h5 h6 h7
        subst h5
        exact h4.keep hb)
      have HOk := Lib.hid (HO.out k hlt).2
      have HBd := Lib.hid (mAll_bd (v := v) (c := c) k)
      clear hI
      go_wp2
      generalize hT : mAll v c k = T at *
      go_loopw [29] (fun i wr => ∃ j : Nat, j ≤ c ∧ i = .int .i64 j ∧ PollI wr G (some ⟨b, o, none⟩) n cA c (mAt (v k) c T j) ∧ PollI wr w.heap.size none 0 0 0 (fun _ => 0) ∧ Below w.heap.size w wr) (fun i _ => c - (intOf i).toNat)
      case atStart => exact ⟨0, Nat.zero_le _, rfl, HP.out, HZ.out, HB.out⟩
      case round =>
        obtain ⟨j, hj, rfl, hP, hZ, hB⟩ := hrel
        have HP2 := Lib.hid hP
        have HZ2 := Lib.hid hZ
        have HB2 := Lib.hid hB
        clear hP hZ hB
        by_cases hjl : j < c
        · obtain ⟨bA, oA, rfl, hcA⟩ := (HI.out _ HB2.out).at hjl
          obtain ⟨x, hx, hx5⟩ : ∃ x : Nat, v k j = (x : Int) ∧ x < c := by
            have := HOk.out.rng j hjl
            exact ⟨(v k j).toNat, by omega, by omega⟩
          rw [hx] at hcA
          have HX := Lib.hid hx
          clear hx
          by_cases hcut : j + 1 = c'
          · have hend : c - (j + 1) = 0 := by omega
            have HE : Hid (mAt (v k) c T (j + 1) = mAt (v k) c T j) := Lib.hid (by simp only [mAt]; rw [hend]; rfl)
            go_wp2
            go_loopw [39] (fun i wr' => i = .int .i64 0 ∧ wr' = wr) (fun _ _ => 0)
            case atStart => exact ⟨rfl, rfl⟩
            case round =>
              obtain ⟨rfl, rfl⟩ := hrel
              go_wp2
              go_roundw
              case rel => exact ⟨j + 1, by omega, by go_num, by rw [HE.out]; exact HP2.out, HZ2.out, HB2.out⟩
              case measure => simp [intOf]; omega
          · have HE : Hid (mAt (v k) c T (j + 1) = mIn (v k) j (mAt (v k) c T j) (c - (j + 1))) := Lib.hid rfl
            have HBd2 := Lib.hid (mAt_bd (f := v k) (c := c) HBd.out j)
            go_wp2
            go_loopw [39] (fun i wx => ∃ q : Nat, q ≤ c - (j + 1) ∧ i = .int .i64 q ∧ PollI wx G (some ⟨b, o, none⟩) n cA c (mIn (v k) j (mAt (v k) c T j) q) ∧ PollI wx w.heap.size none 0 0 0 (fun _ => 0) ∧ Below w.heap.size w wx) (fun i _ => c - (intOf i).toNat)
            case atStart => exact ⟨0, Nat.zero_le _, rfl, HP2.out, HZ2.out, HB2.out⟩
            case round =>
              obtain ⟨q, hq, rfl, hP, hZ, hB⟩ := hrel
              have HP3 := Lib.hid hP
              have HZ3 := Lib.hid hZ
              have HB3 := Lib.hid hB
              clear hP hZ hB
              by_cases hql : q < c - (j + 1)
              · have hcB := (HI.out _ HB3.out).cell (show j + 1 + q < c by omega)
                obtain ⟨y, hy, hy5⟩ : ∃ y : Nat, v k (j + 1 + q) = (y : Int) ∧ y < c := by
                  have := HOk.out.rng (j + 1 + q) (by omega)
                  exact ⟨(v k (j + 1 + q)).toNat, by omega, by omega⟩
                rw [hy, ← Nat.add_assoc oA (j + 1) q] at hcB
                have HY := Lib.hid hy
                have h1 := HP3.out.at2 (show x < 5 by omega) (show y < 5 by omega)
                have HT1 := Lib.hid (mIn_bd (f := v k) (k := j) HBd2.out q)
                have HM : Hid (mIn (v k) j (mAt (v k) c T j) (q + 1) = tick (mIn (v k) j (mAt (v k) c T j) q) x y) := Lib.hid (by simp only [mIn]; rw [HX.out, hy]; rfl)
                clear hy
                have HBb : Hid (∀ z : Int, -((k : Int) * ((c * c : Nat) : Int) + (j : Int) * (c : Int) + (q : Int)) ≤ z ∧ z ≤ (k : Int) * ((c * c : Nat) : Int) + (j : Int) * (c : Int) + (q : Int) → -1000 ≤ z ∧ z ≤ 1000) := Lib.hid (fun z hz => by
                  have hk9 : (k : Int) * ((c * c : Nat) : Int) ≤ 9 * 25 := by
                    have e1 : k * (c * c) ≤ 9 * (5 * 5) := Nat.mul_le_mul (by omega) (Nat.mul_le_mul hc5 hc5)
                    have : ((k * (c * c) : Nat) : Int) ≤ ((9 * (5 * 5) : Nat) : Int) := by exact_mod_cast e1
                    simpa using this
                  have hj5 : (j : Int) * (c : Int) ≤ 5 * 5 := by
                    have e1 : j * c ≤ 5 * 5 := Nat.mul_le_mul (by omega) hc5
                    have : ((j * c : Nat) : Int) ≤ ((5 * 5 : Nat) : Int) := by exact_mod_cast e1
                    simpa using this
                  generalize (k : Int) * ((c * c : Nat) : Int) = z1 at *
                  generalize (j : Int) * (c : Int) = z2 at *
                  omega)
                generalize mIn (v k) j (mAt (v k) c T j) q = T1 at *
                generalize hM1 : T1 (5 * x + y) = M1 at *
                have hx5' : x < 5 := by omega
                have hy5' : y < 5 := by omega
                have b1 : -1000 ≤ M1 ∧ M1 ≤ 1000 := by
                  have := HT1.out (5 * x + y)
                  rw [hM1] at this
                  exact HBb.out M1 this
                obtain ⟨b1a, b1b⟩ := b1
                have f1 := HP3.out.frozen (2 + x * 5 + y)
                go_wp2
                go_region
                have HP4 := Lib.hid (HP3.out.set2 x y (M1 + 1))
                have HZ4 := Lib.hid (World.rowIs.setOther HZ3.out (a := ⟨G, 2 + x * 5 + y, none⟩) (by have := Hs2.out; show w.heap.size ≠ G; omega) (.int .i64 (M1 + 1)))
                have HB4 := Lib.hid (HB3.out.setCell (p := ⟨G, 2 + x * 5 + y, none⟩) (by have := Hs2.out; show w.heap.size ≤ G; omega) (.int .i64 (M1 + 1)))
                clear HP3 HZ3 HB3 h1 f1 HP2 HZ2 HB2 hcB HP HZ HB
                generalize (wr.setCell ⟨G, 2 + x * 5 + y, none⟩ (.int .i64 (M1 + 1))) = W1 at *
                have h2 := HP4.out.at2 hy5' hx5'
                have f2 := HP4.out.frozen (2 + y * 5 + x)
                have HP5 : Hid (PollI (W1.setCell ⟨G, 2 + y * 5 + x, none⟩ (.int .i64 (upd T1 (5 * x + y) (M1 + 1) (5 * y + x) - 1))) G (some ⟨b, o, none⟩) n cA c (tick T1 x y)) := Lib.hid (by
                  have := PollI.set2 (w := W1) HP4.out y x (upd T1 (5 * x + y) (M1 + 1) (5 * y + x) - 1)
                  rw [← hM1] at this ⊢
                  exact this)
                have b2 : -1001 ≤ upd T1 (5 * x + y) (M1 + 1) (5 * y + x) ∧ upd T1 (5 * x + y) (M1 + 1) (5 * y + x) ≤ 1001 := by
                  have h9 := HT1.out (5 * y + x)
                  have h8 := HBb.out
                  unfold upd
                  split
                  · omega
                  · exact ⟨by have := h8 (T1 (5 * y + x)) h9; omega, by have := h8 (T1 (5 * y + x)) h9; omega⟩
                generalize hM2 : upd T1 (5 * x + y) (M1 + 1) (5 * y + x) = M2 at *
                obtain ⟨b2a, b2b⟩ := b2
                have HZ5 : Hid (PollI (W1.setCell ⟨G, 2 + y * 5 + x, none⟩ (.int .i64 (M2 - 1))) w.heap.size none 0 0 0 (fun _ => 0)) := Lib.hid (World.rowIs.setOther (w := W1) HZ4.out (by have := Hs2.out; show w.heap.size ≠ G; omega) _)
                have HB5 := Lib.hid (HB4.out.setCell (p := ⟨G, 2 + y * 5 + x, none⟩) (by have := Hs2.out; show w.heap.size ≤ G; omega) (.int .i64 (M2 - 1)))
                clear HP4 HZ4 HB4
                go_wp2
                go_region
                generalize (W1.setCell ⟨G, 2 + y * 5 + x, none⟩ (.int .i64 (M2 - 1))) = W2 at *
                clear h2 f2
                go_wp2
                go_roundw
                case rel => exact ⟨q + 1, by omega, by go_num, by rw [HM.out]; exact HP5.out, HZ5.out, HB5.out.trans ((Dn.refl _).drew.drew.below _)⟩
                case measure => simp [intOf]; omega
              · obtain rfl : q = c - (j + 1) := by omega
                go_wp2
                go_roundw
                case rel => exact ⟨j + 1, by omega, by go_num, by rw [HE.out]; exact HP3.out, HZ3.out, HB3.out⟩
                case measure => simp [intOf]; omega
        · obtain rfl : j = c := by omega
          go_wp2
          go_roundw
          case rel => exact ⟨k + 1, by omega, by go_num, by rw [← hT] at HP2; exact HP2.out, HZ2.out, HB2.out⟩
          case measure => simp [intOf]; omega
    · obtain rfl : k = n := by omega
      have HR := Lib.hid (PollI.stored (A := some ⟨b, o, none⟩) (n := k) (cA := cA) (c := c) (T := mAll v c k) HZ.out)
      have HB2 := Lib.hid (below_setCells (pollL (some ⟨b, o, none⟩) k cA c (mAll v c k)) 0 (Nat.le_refl _) HB.out)
      go_wp2_with (first
        | (refine wpList_load_mid rfl 56 _ rfl G 0 rfl (pollL (some ⟨b, o, none⟩) k cA c (mAll v c k)) _ HP.out.range Try.underlying56 rfl (by rw [pollL_len]; exact infoPoll) ?_)
        | fail)
      have hst : (storeCells ⟨w.heap.size, 0, none⟩ (pollL (some ⟨b, o, none⟩) k cA c (mAll v c k))).run Try.prog wr = .ok () (wr.setCells w.heap.size 0 (pollL (some ⟨b, o, none⟩) k cA c (mAll v c k))) := by
        have := run_storeCells_cells (P := Try.prog) w.heap.size 0 (pollL (some ⟨b, o, none⟩) k cA c (mAll v c k)) 0 wr (fun j hj => by
          rw [pollL_len] at hj
          have := (HZ.out.there j hj).1
          simpa using this) (fun j hj => by simpa using HZ.out.frozen j) (fun u hu => Array.all_eq_true_iff_forall_mem.1 pollL_one u (by simpa using hu))
        simpa using this
      rw [hst]
      simp only [Result.andThen_ok]
      rw [Oper.upon_skip]
      clear hst
      generalize hW2 : wr.setCells w.heap.size 0 (pollL (some ⟨b, o, none⟩) k cA c (mAll v c k)) = W2 at *
      clear hW2
      have hld := run_loadVar_mid (P := Try.prog) W2 w.heap.size 0 56 (pollL (some ⟨b, o, none⟩) k cA c (mAll v c k)) _ HR.out.range Try.underlying56 rfl (by rw [pollL_len]; exact infoPoll)
      clear HP HB HZ
      go_wp2_with fail
      refine bodyPost_ret (v := .tuple #[.agg (pollL (some ⟨b, o, none⟩) k cA c (mAll v c k)).toArray, .bool true]) (poll_results _ _ w.heap.size _ _ rfl rfl hld) rfl ?_
      exact ⟨by rw [HC.out], HB2.out⟩
end Go.Proofs.Ytnobbklnnkpdfaa
