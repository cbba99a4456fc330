/- slices.Compare; the orders lie in order. -/
import Derived.Test.YtocfbafcplhmiaaUwp
namespace Go.Proofs.Ytocfbafcplhmiaa
open Go.RowKit

theorem isNaN8_any (x : Int) (w : World) : Calls Try.prog 87 #[.int .i64 x] w fun e w' => e = .returned (.bool false) ∧ w = w' := by
  have hB := bne_f (a := x) rfl
  go_enter Try.func87, Try.ntmps87
  go_wp2
  go_ret
  exact ⟨by simp, rfl⟩
def cmI (x y : Int) : Int := if x < y then -1 else if y < x then 1 else 0
theorem cmI_lt {x y : Int} (h : x < y) : cmI x y = -1 := by simp [cmI, h]
theorem cmI_gt {x y : Int} (h : y < x) : cmI x y = 1 := by simp [cmI, h, Int.not_lt.2 (Int.le_of_lt h)]
theorem cmI_eq {x y : Int} (h : x = y) : cmI x y = 0 := by simp [cmI, h]
theorem compare8_any (x y : Int) (w : World) : Calls Try.prog 66 #[.int .i64 x, .int .i64 y] w fun e w' => e = .returned (.int .i64 (cmI x y)) ∧ w = w' := by
  by_cases h1 : x < y
  · rw [cmI_lt h1]
    go_enter Try.func66, Try.ntmps66
    go_wp2_with fail
    refine (isNaN8_any _ _).mono ?_
    rintro e w' ⟨rfl, rfl⟩
    go_wp2_with fail
    refine (isNaN8_any _ _).mono ?_
    rintro e w' ⟨rfl, rfl⟩
    go_wp2
    go_ret
    exact ⟨rfl, rfl⟩
  · by_cases h2 : y < x
    · rw [cmI_gt h2]
      go_enter Try.func66, Try.ntmps66
      go_wp2_with fail
      refine (isNaN8_any _ _).mono ?_
      rintro e w' ⟨rfl, rfl⟩
      go_wp2_with fail
      refine (isNaN8_any _ _).mono ?_
      rintro e w' ⟨rfl, rfl⟩
      go_wp2
      go_ret
      exact ⟨rfl, rfl⟩
    · rw [cmI_eq (by omega)]
      go_enter Try.func66, Try.ntmps66
      go_wp2_with fail
      refine (isNaN8_any _ _).mono ?_
      rintro e w' ⟨rfl, rfl⟩
      go_wp2_with fail
      refine (isNaN8_any _ _).mono ?_
      rintro e w' ⟨rfl, rfl⟩
      go_wp2
      go_ret
      exact ⟨rfl, rfl⟩
/-- The first difference of f and g, of the first k. -/
def cmF (f g : Nat → Int) : Nat → Int
  | 0 => 0
  | k + 1 => if cmF f g k = 0 then cmI (f k) (g k) else cmF f g k
theorem cmF_stays {f g : Nat → Int} {k : Nat} (h : cmF f g k ≠ 0) (n : Nat) (hn : k ≤ n) : cmF f g n = cmF f g k := by
  induction n with
  | zero => obtain rfl : k = 0 := by omega
            rfl
  | succ n ih =>
    rcases Nat.lt_or_ge n k with hl | hl
    · obtain rfl : k = n + 1 := by omega
      rfl
    · have := ih hl
      simp [cmF, this, h]
theorem cmp8_any (A B : Option Addr) (n c c' : Nat) (f g : Nat → Int) (w : World) (hf : Ints w A n f) (hg : Ints w B n g) (hn : n ≤ 10000) :
    Calls Try.prog 34 #[.slice A n c, .slice B n c'] w fun e w' => e = .returned (.int .i64 (cmF f g n)) ∧ w = w' := by
  go_enter Try.func34, Try.ntmps34
  go_wp2
  go_loop [11] (fun i => ∃ k : Nat, k ≤ n ∧ i = .int .i64 k ∧ Hid (cmF f g k = 0)) (fun i => n - (intOf i).toNat)
  case atStart => exact ⟨0, Nat.zero_le _, rfl, rfl⟩
  case round =>
    obtain ⟨k, hk, rfl, H0⟩ := hrel
    by_cases hlt : k < n
    · obtain ⟨b, o, rfl, hc⟩ := hf.at hlt
      obtain ⟨b', o', rfl, hc'⟩ := hg.at hlt
      by_cases e : f k = g k
      · have HE : Hid (cmF f g (k + 1) = 0) := Lib.hid (by simp [cmF, H0.out, cmI_eq e])
        have HC := Lib.hid (cmI_eq e)
        clear e
        go_wp2_with fail
        refine (compare8_any _ _ _).mono ?_
        rintro e w' ⟨rfl, rfl⟩
        rw [HC.out]
        go_wp2
        go_round
        case rel => exact ⟨k + 1, by omega, by go_num, HE⟩
        case measure => simp [intOf]; omega
      · have h0 : cmI (f k) (g k) ≠ 0 := by
          unfold cmI
          split <;> (try split) <;> omega
        have HE : Hid (cmF f g n = cmI (f k) (g k)) := by
          have h1 : cmF f g (k + 1) = cmI (f k) (g k) := by simp [cmF, H0.out]
          exact Lib.hid ((cmF_stays (k := k + 1) (by rw [h1]; exact h0) n (by omega)).trans h1)
        have hB := bne_t h0
        clear e h0
        go_wp2_with fail
        refine (compare8_any _ _ _).mono ?_
        rintro e w' ⟨rfl, rfl⟩
        go_wp2
        go_ret
        exact ⟨ret_int HE.out.symm, rfl⟩
    · obtain rfl : k = n := by omega
      go_wp2
      go_ret
      exact ⟨ret_int H0.out.symm, rfl⟩
theorem cmF_eq {f g : Nat → Int} : ∀ n, (∀ j, j < n → f j = g j) → cmF f g n = 0 := by
  intro n
  induction n with
  | zero => intro _; rfl
  | succ n ih =>
    intro h
    rw [cmF, if_pos (ih (fun j hj => h j (by omega))), cmI_eq (h n (by omega))]
/-- In the order of the dictionary. -/
def LexN (a b : List Nat) (n : Nat) : Prop := ∃ k, k < n ∧ (∀ j, j < k → rN a j = rN b j) ∧ rN a k < rN b k
theorem cmF_lex {a b : List Nat} {n : Nat} (h : LexN a b n) : cmF (fun p => (rN a p : Int)) (fun p => (rN b p : Int)) n < 0 := by
  obtain ⟨k, hk, h1, h2⟩ := h
  have h3 : cmF (fun p => (rN a p : Int)) (fun p => (rN b p : Int)) (k + 1) = -1 := by
    rw [cmF, if_pos (cmF_eq k (fun j hj => by show (rN a j : Int) = (rN b j : Int); rw [h1 j hj])), cmI_lt (by show (rN a k : Int) < (rN b k : Int); omega)]
  rw [cmF_stays (k := k + 1) (by rw [h3]; decide) n (by omega), h3]
  decide
theorem ordL_sorted (T : List Nat) (hT : T.Pairwise (· < ·)) (n : Nat) : ∀ s p, p.length + s = n → (ordL T s p).Pairwise (fun a b => LexN a b n) := by
  intro s
  induction s with
  | zero => intro p _; exact List.pairwise_singleton _ _
  | succ s ih =>
    intro p hp
    show (((T.filter (fun x => !p.contains x)).flatMap (fun x => ordL T s (p ++ [x]))).Pairwise (fun a b => LexN a b n))
    rw [List.pairwise_flatMap]
    refine ⟨fun x _ => ih (p ++ [x]) (by simp; omega), (List.Pairwise.filter _ hT).imp ?_⟩
    intro x y hxy a ha b hb
    obtain ⟨sa, ea, -⟩ := (mem_ordL _ _ _ _).1 ha
    obtain ⟨sb, eb, -⟩ := (mem_ordL _ _ _ _).1 hb
    subst ea eb
    refine ⟨p.length, by omega, fun j hj => ?_, ?_⟩
    · unfold rN
      simp [List.getD_eq_getElem?_getD, List.append_assoc, List.getElem?_append_left hj]
    · unfold rN
      simpa [List.getD_eq_getElem?_getD, List.append_assoc] using hxy
theorem first_lex {n : Nat} {P : List Nat → Bool} {l x : List Nat} (h : (ordL (List.range n) n []).find? P = some l) (hx : x ∈ ordL (List.range n) n []) (hp : P x = true) : l = x ∨ LexN l x n := by
  have hs := ordL_sorted (List.range n) List.pairwise_lt_range n n [] (by simp)
  rw [List.find?_eq_some_iff_append] at h
  obtain ⟨-, l1, l2, e, h2⟩ := h
  rw [e] at hx hs
  rcases List.mem_append.1 hx with h3 | h3
  · have := h2 x h3
    rw [hp] at this
    cases this
  · rcases List.mem_cons.1 h3 with h4 | h4
    · exact .inl h4.symm
    · exact .inr ((List.pairwise_cons.1 (List.pairwise_append.1 hs).2.1).1 x h4)
theorem first_wish {t : Nat → Nat → Nat} {n : Nat} (hn : n ≤ 5) (hn1 : 1 ≤ n) (ht : ∀ i, i < n → Pm n (t i)) {f : Nat → Nat} (hf : Pm n f) : chF t n f (f 0) = t (f 0) 0 := by
  have h0 := hf.lt 0 (by omega)
  obtain ⟨h1, h2, h3, h4, h5⟩ := ch_inv hn ht hf 0 (by omega)
  rw [chF_at hf (by omega)]
  have hin : inS (chL t n f 0) (t (f 0) 0) = true := by
    have hl := (ht _ h0).lt 0 (by omega)
    rw [h2 _ (by omega), decide_eq_true hl]
    rfl
  have h6 := fsN_lt (p := fun k => inS (chL t n f 0) (t (f 0) k)) (show 0 < n by omega) hin
  unfold bsB
  have h7 : fsN (fun k => inS (chL t n f 0) (t (f 0) k)) n = 0 := by omega
  rw [h7]
end Go.Proofs.Ytocfbafcplhmiaa
