/- byFirstPlaces, firstOfMost; Win by first places. -/
import Derived.Test.YtnobbklnnkpdfaaWv
import Derived.Test.YtnobbklnnkpdfaaVg
namespace Go.Proofs.Ytnobbklnnkpdfaa
open Go.RowKit

/-- How many of the first ballots have x first. -/
def fpN (v : Nat → Nat → Int) (x : Nat) : Nat → Nat
  | 0 => 0
  | i + 1 => fpN v x i + (if v i 0 = (x : Int) then 1 else 0)
theorem fpN_le (v : Nat → Nat → Int) (x : Nat) : ∀ n, fpN v x n ≤ n := by
  intro n
  induction n with
  | zero => exact Nat.le_refl _
  | succ n ih => simp only [fpN]; split <;> omega
/-- k is the least place of a greatest one. -/
def IsTop (f : Nat → Int) (c k : Nat) : Prop := k < c ∧ (∀ j, j < c → f j ≤ f k) ∧ ∀ j, j < k → f j < f k

set_option maxHeartbeats 1000000 in
theorem max_any (A : Option Addr) (l c : Nat) (f : Nat → Int) (w : World) (h : Ints w A l f) (h1 : 1 ≤ l) (hl9 : l ≤ 1000) :
    Calls Try.prog 82 #[.slice A l c] w fun e w' => (∃ x, e = .returned (.int .i64 x) ∧ (∃ j, j < l ∧ f j = x) ∧ ∀ j, j < l → f j ≤ x) ∧ w = w' := by
  obtain ⟨b, o, rfl, -⟩ := h.at (show 0 < l by omega)
  have h0 := h.cell0 (by omega)
  have HI := Lib.hid h
  clear h
  have hl1 : ¬ (l : Int) < 1 := by omega
  go_enter Try.func82, Try.ntmps82
  go_wp2
  go_loop [3, 4] (fun m i => ∃ (k : Nat) (x : Int), 1 ≤ k ∧ k ≤ l ∧ i = .int .i64 k ∧ m = .int .i64 x ∧ (∃ j, j < k ∧ f j = x) ∧ ∀ j, j < k → f j ≤ x) (fun _ i => l - (intOf i).toNat)
  case atStart => exact ⟨1, f 0, Nat.le_refl _, by omega, rfl, rfl, ⟨0, by omega, rfl⟩, fun j hj => by rw [show j = 0 by omega]; exact Int.le_refl _⟩
  case round =>
    obtain ⟨k, x, h2, hk, rfl, rfl, hx, hy⟩ := hrel
    have HX := Lib.hid hx
    have HY := Lib.hid hy
    clear hx hy
    by_cases hlt : k < l
    · have hc := HI.out.cell hlt
      have HN : Hid (∀ z, z = (if f k < x then x else f k) ∨ z = (if x < f k then f k else x) → (∃ j, j < k + 1 ∧ f j = z) ∧ ∀ j, j < k + 1 → f j ≤ z) := Lib.hid (fun z hz => by
        obtain ⟨j0, hj0, e0⟩ := HX.out
        have hz2 : (z = x ∧ f k ≤ x) ∨ (z = f k ∧ x ≤ f k) := by
          rcases hz with hz | hz
          · by_cases hh : f k < x
            · rw [if_pos hh] at hz; exact .inl ⟨hz, by omega⟩
            · rw [if_neg hh] at hz; exact .inr ⟨hz, by omega⟩
          · by_cases hh : x < f k
            · rw [if_pos hh] at hz; exact .inr ⟨hz, by omega⟩
            · rw [if_neg hh] at hz; exact .inl ⟨hz, by omega⟩
        refine ⟨?_, fun j hj => ?_⟩
        · rcases hz2 with ⟨e, -⟩ | ⟨e, -⟩
          · exact ⟨j0, by omega, by rw [e]; exact e0⟩
          · exact ⟨k, by omega, e.symm⟩
        · by_cases ej : j = k
          · subst ej; omega
          · have := HY.out j (by omega); omega)
      generalize f k = fk at *
      go_wp2
      go_round
      case rel => exact ⟨k + 1, _, by omega, by omega, by go_num, rfl, HN.out _ (by first | exact .inl rfl | exact .inr rfl)⟩
      case measure => simp [intOf]; omega
    · obtain rfl : k = l := by omega
      go_wp2
      go_ret
      exact ⟨⟨x, rfl, HX.out, HY.out⟩, rfl⟩

set_option maxHeartbeats 1000000 in
set_option maxRecDepth 1000000 in
theorem firstOfMost_any (g cap c : Nat) (f : Nat → Int) (w : World) (h : RowC w g cap c f) (hc : 1 ≤ c) (hc2 : c ≤ 1000) :
    Calls Try.prog 78 #[.slice (some ⟨g, 0, none⟩) c cap] w fun e w' => ∃ k : Nat, e = .returned (.int .i64 k) ∧ IsTop f c k ∧ Below w.heap.size w w' := by
  have H := Lib.hid h.ints
  clear h
  go_enter Try.func78, Try.ntmps78
  go_wp2_with fail
  refine (max_any _ c cap f _ H.out hc hc2).mono ?_
  rintro e w1 ⟨⟨x, rfl, ⟨j, hj, ej⟩, hx⟩, rfl⟩
  have HX := Lib.hid hx
  have HJ := Lib.hid ej
  clear hx ej
  go_wp2_with fail
  refine (index_any _ c cap f x _ H.out (by omega)).mono ?_
  rintro e w1 ⟨rfl, rfl⟩
  rcases idxI_cases f x c with ⟨e1, hn⟩ | ⟨k, hk, e1, e2, e3⟩
  · exact absurd HJ.out (hn j hj)
  · rw [e1]
    have HT : Hid (IsTop f c k) := Lib.hid ⟨hk, fun i hi => by rw [e2]; exact HX.out i hi, fun i hi => by
      have h1 := HX.out i (by omega)
      have h2 := e3 i hi
      rw [e2]
      omega⟩
    clear e1 e2 e3
    go_wp2
    go_ret
    exact ⟨k, rfl, HT.out, Below.refl _ _⟩

set_option maxHeartbeats 1000000 in
set_option maxRecDepth 1000000 in
theorem byFirst_any (A : Option Addr) (n cA c : Nat) (T : Nat → Int) (L : Nat → Nat) (v : Nat → Nat → Int) (w : World) (h : RowsK w A n L v) (hok : okBal n L v = true) (hc : c = L 0) :
    Calls Try.prog 63 #[.agg (pollL A n cA c T).toArray] w fun e w' => ∃ k : Nat, e = .returned (.int .i64 k) ∧ IsTop (fun x => (fpN v x n : Int)) c k ∧ Below w.heap.size w w' := by
  subst hc
  have HP0 := Lib.hid (PollI.box w A n cA (L 0) T)
  have hb0 := (Below.refl w.heap.size w).alloc (Nat.le_refl _) (.cells (pollL A n cA (L 0) T).toArray 56)
  have HR0 := Lib.hid (h.keep hb0)
  have Hb0 := Lib.hid hb0
  obtain ⟨⟨hn1, hn9⟩, ⟨hc1, hc5⟩, hO⟩ := okBal_iff.1 hok
  have HO := Lib.hid hO
  have hcc := HP0.out.c1
  have hc0 := HP0.out.c0
  have H0 := Lib.hid h
  clear h hb0 hO hok
  have HLL : Hid (∀ i, i < n → L i = L 0) := Lib.hid (fun i hi => (HO.out i hi).1)
  generalize hC : L 0 = c at *
  clear hC
  have hmk := mk_ints c (by omega)
  have hcx := (HP0.out.keep ((Below.refl _ _).alloc (Nat.le_refl _) (.cells (madeCells #[.int .i64 0] c) 3))).c0
  go_enter Try.func63, Try.ntmps63
  go_wp2_with fail
  have hR1 : RowI ((w.alloc (.cells (pollL A n cA c T).toArray 56)).alloc (.cells (madeCells #[.int .i64 0] c) 3)) (w.heap.size + 1) c (fun x => (fpN v x 0 : Int)) := by
    have := RowI.made (w.alloc (.cells (pollL A n cA c T).toArray 56)) c
    rw [World.size_alloc] at this
    exact this.congr (fun i _ => by simp [fpN])
  have hB1 : Below w.heap.size w ((w.alloc (.cells (pollL A n cA c T).toArray 56)).alloc (.cells (madeCells #[.int .i64 0] c) 3)) := Hb0.out.alloc (by simp) _
  have HH := Lib.hid H0.out
  generalize (w.alloc (.cells (pollL A n cA c T).toArray 56)).alloc (.cells (madeCells #[.int .i64 0] c) 3) = X at *
  clear hcx hmk hcc hc0 HP0 HR0 Hb0
  go_loopw [12] (fun i wr => ∃ k : Nat, k ≤ n ∧ i = .int .i64 k ∧ RowI wr (w.heap.size + 1) c (fun x => (fpN v x k : Int)) ∧ Below w.heap.size w wr) (fun i _ => n - (intOf i).toNat)
  case atStart => exact ⟨0, Nat.zero_le _, rfl, hR1, hB1⟩
  case round =>
    obtain ⟨k, hk, rfl, hR, hB⟩ := hrel
    have HR := Lib.hid hR
    have HB := Lib.hid hB
    clear hR hB hR1 hB1
    by_cases hlt : k < n
    · obtain ⟨b, o, A', c', rfl, hc', hLc, hI⟩ := (HH.out.keep HB.out).at hlt
      rw [HLL.out k hlt] at hc' hI hLc
      have hv := (HO.out k hlt).2.rng 0 hc1
      obtain ⟨b2, o2, rfl, hci⟩ := hI.at (show 0 < c from hc1)
      obtain ⟨y, hy, hy5⟩ : ∃ y : Nat, v k 0 = (y : Int) ∧ y < c := ⟨(v k 0).toNat, by omega, by omega⟩
      have HY := Lib.hid hy
      rw [hy, Nat.add_zero] at hci
      have hcy := HR.out.cell hy5
      have hfy := HR.out.frozen y
      have hle := fpN_le v y k
      have HS := Lib.hid (HR.out.set y ((fpN v y k : Int) + 1))
      have HS2 := Lib.hid (HB.out.setCell (p := ⟨w.heap.size + 1, y, none⟩) (show w.heap.size ≤ w.heap.size + 1 by omega) (.int .i64 ((fpN v y k : Int) + 1)))
      have HN : Hid (∀ x, x < c → upd (fun x => (fpN v x k : Int)) y ((fpN v y k : Int) + 1) x = (fpN v x (k + 1) : Int)) := Lib.hid (fun x _ => by
        unfold upd
        simp only [fpN]
        by_cases e : x = y
        · rw [if_pos e, HY.out, if_pos (by omega), e]; push_cast; rfl
        · rw [if_neg e, HY.out, if_neg (by omega)]; simp)
      clear hI hv hy hLc
      generalize fpN v y k = q at *
      go_wp2
      go_roundw
      case rel => exact ⟨k + 1, by omega, by go_num, (RowI.congr HS.out HN.out), HS2.out⟩
      case measure => simp [intOf]; omega
    · have hkn : k = n := by omega
      rw [hkn] at HR ⊢
      clear hkn hlt hk
      go_wp2_with fail
      refine (firstOfMost_any (w.heap.size + 1) c c (fun x => (fpN v x n : Int)) wr HR.out.rowC hc1 (by omega)).mono ?_
      rintro e w3 ⟨j, rfl, hj, hb3⟩
      have HJ := Lib.hid hj
      have HB3 := Lib.hid (HB.out.trans (hb3.mono HB.out.size))
      clear hj hb3
      go_wp2
      go_ret
      exact ⟨j, rfl, HJ.out, HB3.out⟩
end Go.Proofs.Ytnobbklnnkpdfaa
