/- chosen; slices.Max; the ranks. -/
import Derived.Test.YtbgekacfimgkeaaQc
namespace Go.Proofs.Ytbgekacfimgkeaa
open Go.RowKit

set_option maxHeartbeats 1000000 in
set_option maxRecDepth 1000000 in
theorem max_any (A : Option Addr) (n c : Nat) (f : Nat → Int) (w : World) (h : Ints w A n f) (hn : 1 ≤ n) (hn2 : n ≤ 10000) :
    Calls Try.prog 69 #[.slice A n c] w fun e w' => ∃ x : Int, e = .returned (.int .i64 x) ∧ (∀ k, k < n → f k ≤ x) ∧ (∃ k, k < n ∧ f k = x) ∧ Dn w w' := by
  have H := Lib.hid h
  clear h
  obtain ⟨b, o, rfl, c0⟩ := H.out.at (show 0 < n by omega)
  rw [Nat.add_zero] at c0
  go_enter Try.func69, Try.ntmps69
  go_wp2
  clear c0
  go_loopw [3, 4] (fun m i wr => ∃ (k : Nat) (x : Int), 1 ≤ k ∧ k ≤ n ∧ m = .int .i64 x ∧ i = .int .i64 k ∧ (∀ a, a < k → f a ≤ x) ∧ (∃ a, a < k ∧ f a = x) ∧ Dn w wr) (fun _ i _ => n - (intOf i).toNat)
  case atStart => exact ⟨1, f 0, Nat.le_refl _, hn, rfl, rfl, fun a ha => by
    obtain rfl : a = 0 := by omega
    exact Int.le_refl _, ⟨0, by omega, rfl⟩, Dn.refl _⟩
  case round =>
    obtain ⟨k, x, hk1, hk, rfl, rfl, hle, hex, hD⟩ := hrel
    have HL := Lib.hid hle
    have HE := Lib.hid hex
    clear hle hex
    by_cases hlt : k < n
    · have hc := (H.out.dn hD).cell hlt
      have HL2 : Hid (∀ y, x ≤ y → f k ≤ y → ∀ a, a < k + 1 → f a ≤ y) := Lib.hid (fun y h1 h2 a ha => by
        rcases Nat.lt_or_ge a k with h3 | h3
        · exact Int.le_trans (HL.out a h3) h1
        · obtain rfl : a = k := by omega
          exact h2)
      rcases Int.lt_or_le x (f k) with hx | hx
      · go_wp2
        go_roundw
        case rel => exact ⟨k + 1, f k, by omega, by omega, val_int (by omega), by go_num, HL2.out _ (by omega) (Int.le_refl _), ⟨k, by omega, rfl⟩, hD⟩
        case measure => simp [intOf]; omega
      · go_wp2
        go_roundw
        case rel => exact ⟨k + 1, x, by omega, by omega, val_int (by omega), by go_num, HL2.out _ (Int.le_refl _) hx, by
          obtain ⟨a, h1, h2⟩ := HE.out
          exact ⟨a, by omega, h2⟩, hD⟩
        case measure => simp [intOf]; omega
    · obtain rfl : k = n := by omega
      go_wp2
      go_ret
      exact ⟨x, rfl, HL.out, HE.out, hD⟩

theorem rankD_any (a b c d l : Int) (w : World) : Lr 109 #[.agg #[], .agg #[.int .i64 a, .int .i64 b, .int .i64 c, .int .i64 d], .int .i64 l] w (.int .i64 c) := by
  unfold Lr
  go_enter Try.func109, Try.ntmps109
  go_wp2
  go_ret
  exact ⟨rfl, ((Below.refl _ _).alloc (Nat.le_refl _) _).alloc (by simp) _⟩
theorem rankS_any (a b c d l : Int) (w : World) : Lr 110 #[.agg #[], .agg #[.int .i64 a, .int .i64 b, .int .i64 c, .int .i64 d], .int .i64 l] w (.int .i64 l) := by
  unfold Lr
  go_enter Try.func110, Try.ntmps110
  go_wp2
  go_ret
  exact ⟨rfl, ((Below.refl _ _).alloc (Nat.le_refl _) _).alloc (by simp) _⟩

theorem chF_succ (left r rk : Nat → Int) (now : Int) (k : Nat) : chF left r rk now (k + 1) = if avl left r now k = true then (if chF left r rk now k < 0 ∨ rk k < rk (chF left r rk now k).toNat then (k : Int) else chF left r rk now k) else chF left r rk now k := rfl

set_option maxHeartbeats 2000000 in
set_option maxRecDepth 1000000 in
theorem chosenD_any (A B : Option Addr) (n c c' : Nat) (J : Nat → Nat → Int) (left : Nat → Int) (now : Int) (w : World) (h : Recs 4 w A n J) (hl : Ints w B n left) (hn : n ≤ 8) :
    Lr 86 #[.iface 102 (.agg #[]), .slice A n c, .slice B n c', .int .i64 now] w (.int .i64 (chF left (fun k => J k 1) (rkF 0 J left) now n)) := by
  unfold Lr
  have H := Lib.hid h
  have HL := Lib.hid hl
  have hna : ∀ w : World, (nilAhead 244 102 (.agg #[]) "corrody/dates.rank").run Try.prog w = .ok (some false) w := fun _ => by kernel_rfl
  have hme : ∀ w : World, (method 244 102 (.agg #[]) "corrody/dates.rank").run Try.prog w = .ok (109, .agg #[]) w := fun _ => by kernel_rfl
  clear h hl
  go_enter Try.func86, Try.ntmps86
  go_wp2
  go_loopw [9, 10, 16] (fun b l i wr => ∃ (k : Nat) (x : Int), k ≤ n ∧ i = .int .i64 k ∧ b = .int .i64 (chF left (fun k => J k 1) (rkF 0 J left) now k) ∧ l = .int .i64 x ∧ (0 ≤ chF left (fun k => J k 1) (rkF 0 J left) now k → x = rkF 0 J left (chF left (fun k => J k 1) (rkF 0 J left) now k).toNat) ∧ Below w.heap.size w wr) (fun _ _ i _ => n - (intOf i).toNat)
  case atStart => exact ⟨0, 0, Nat.zero_le _, rfl, rfl, rfl, fun h => by exact absurd h (by show ¬ (0 : Int) ≤ -1; omega), Below.refl _ _⟩
  case round =>
    obtain ⟨k, x, hk, rfl, rfl, rfl, hx, hD⟩ := hrel
    have hlo := chF_lo (left := left) (r := fun k => J k 1) (rk := rkF 0 J left) (now := now) k
    have HC := Lib.hid (chF_succ left (fun k => J k 1) (rkF 0 J left) now k)
    have HX := Lib.hid hx
    clear hx
    by_cases hlt : k < n
    · obtain ⟨b, o, rfl, c0, c1, c2, c3⟩ := (H.out.keep hD).four hlt
      have hW1 : Below w.heap.size w (wr.alloc (.cells #[.int .i64 (J k 0), .int .i64 (J k 1), .int .i64 (J k 2), .int .i64 (J k 3)] 83)) := hD.alloc hD.size _
      obtain ⟨bl, ol, rfl, cl⟩ := (HL.out.keep hW1).at hlt
      have HW1 := Lib.hid hW1
      clear hW1
      by_cases hz : left k = 0
      · have HN : Hid (chF left (fun k => J k 1) (rkF 0 J left) now (k + 1) = chF left (fun k => J k 1) (rkF 0 J left) now k) := Lib.hid (by rw [HC.out, if_neg (by simp [avl, hz])])
        generalize hq : chF left (fun k => J k 1) (rkF 0 J left) now k = q at *
        clear hq
        rw [hz] at cl
        go_wp2
        go_roundw
        case rel => exact ⟨k + 1, x, by omega, by go_num, by rw [HN.out], rfl, fun h => by rw [HN.out] at h ⊢; exact HX.out h, HW1.out⟩
        case measure => simp [intOf]; omega
      · by_cases hr : now < J k 1
        · have HN : Hid (chF left (fun k => J k 1) (rkF 0 J left) now (k + 1) = chF left (fun k => J k 1) (rkF 0 J left) now k) := Lib.hid (by rw [HC.out, if_neg (by simp [avl]; omega)])
          have hB := beq_f hz
          generalize hq : chF left (fun k => J k 1) (rkF 0 J left) now k = q at *
          clear hq
          go_wp2
          go_roundw
          case rel => exact ⟨k + 1, x, by omega, by go_num, by rw [HN.out], rfl, fun h => by rw [HN.out] at h ⊢; exact HX.out h, HW1.out⟩
          case measure => simp [intOf]; omega
        · have HN : Hid (chF left (fun k => J k 1) (rkF 0 J left) now (k + 1) = if chF left (fun k => J k 1) (rkF 0 J left) now k < 0 ∨ rkF 0 J left k < rkF 0 J left (chF left (fun k => J k 1) (rkF 0 J left) now k).toNat then (k : Int) else chF left (fun k => J k 1) (rkF 0 J left) now k) := Lib.hid (by rw [HC.out, if_pos (by simp [avl, hz]; omega)])
          have hB := beq_f hz
          generalize hq : chF left (fun k => J k 1) (rkF 0 J left) now k = q at *
          clear hq
          go_wp2_with fail
          have HB := Lib.hid HW1.out
          have k0 : ∀ q : Later (wr.alloc (.cells #[.int .i64 (J k 0), .int .i64 (J k 1), .int .i64 (J k 2), .int .i64 (J k 3)] 83)), q.to.cell? ⟨wr.heap.size, 0, none⟩ = some (.int .i64 (J k 0)) := fun q => q.cell (by simp [World.cell?_alloc_at])
          have k1 : ∀ q : Later (wr.alloc (.cells #[.int .i64 (J k 0), .int .i64 (J k 1), .int .i64 (J k 2), .int .i64 (J k 3)] 83)), q.to.cell? ⟨wr.heap.size, 1, none⟩ = some (.int .i64 (J k 1)) := fun q => q.cell (by simp [World.cell?_alloc_at])
          have k2 : ∀ q : Later (wr.alloc (.cells #[.int .i64 (J k 0), .int .i64 (J k 1), .int .i64 (J k 2), .int .i64 (J k 3)] 83)), q.to.cell? ⟨wr.heap.size, 2, none⟩ = some (.int .i64 (J k 2)) := fun q => q.cell (by simp [World.cell?_alloc_at])
          have k3 : ∀ q : Later (wr.alloc (.cells #[.int .i64 (J k 0), .int .i64 (J k 1), .int .i64 (J k 2), .int .i64 (J k 3)] 83)), q.to.cell? ⟨wr.heap.size, 3, none⟩ = some (.int .i64 (J k 3)) := fun q => q.cell (by simp [World.cell?_alloc_at])
          have k4 : ∀ q : Later (wr.alloc (.cells #[.int .i64 (J k 0), .int .i64 (J k 1), .int .i64 (J k 2), .int .i64 (J k 3)] 83)), q.to.cell? ⟨bl, ol + k, none⟩ = some (.int .i64 (left k)) := fun q => q.cell cl
          have HRk := fun (w : World) => Lib.hid (rankD_any (J k 0) (J k 1) (J k 2) (J k 3) (left k) w)
          clear c0 c1 c2 c3 cl
          generalize wr.alloc (.cells #[.int .i64 (J k 0), .int .i64 (J k 1), .int .i64 (J k 2), .int .i64 (J k 3)] 83) = W1 at *
          refine wp_region_later (by kernel_rfl) (by kernel_rfl) ?_
          repeat
            (with_reducible refine wpQuiet_step ?_
             intro K hK
             go_simp
             first
               | (refine hK _ ?_; clear hK K)
               | (apply Exists.intro
                  refine ⟨fun _ => ?_, hK _ ?_⟩
                  (go_at_call 109; exact Lr.later (HRk _).out)
                  clear hK K))
          with_reducible refine wpQuiet_nil ?_
          intro _ hw'
          obtain ⟨p2, hw''⟩ := hw'
          subst hw''
          have hb2 := p2.below
          have HB2 := Lib.hid (HB.out.trans (hb2.mono HB.out.size))
          clear k0 k1 k2 k3 k4 hb2
          generalize p2.to = w2 at HB2 ⊢
          clear p2
          have hqn : q < 0 ∨ 0 ≤ q := by omega
          rcases hqn with hq0 | hq0
          · have HN2 : Hid (chF left (fun k => J k 1) (rkF 0 J left) now (k + 1) = (k : Int)) := Lib.hid (by rw [HN.out, if_pos (.inl hq0)])
            go_wp2
            go_roundw
            case rel => exact ⟨k + 1, (J k 2), by omega, by go_num, by rw [HN2.out], rfl, fun _ => by rw [HN2.out]; rfl, HB2.out⟩
            case measure => simp [intOf]; omega
          · have hxx : x = rkF 0 J left q.toNat := HX.out hq0
            by_cases hlt2 : (J k 2) < x
            · have HN2 : Hid (chF left (fun k => J k 1) (rkF 0 J left) now (k + 1) = (k : Int)) := Lib.hid (by rw [HN.out, if_pos (.inr (by rw [← hxx]; exact hlt2))])
              clear hxx
              go_wp2
              go_roundw
              case rel => exact ⟨k + 1, (J k 2), by omega, by go_num, by rw [HN2.out], rfl, fun _ => by rw [HN2.out]; rfl, HB2.out⟩
              case measure => simp [intOf]; omega
            · have HN2 : Hid (chF left (fun k => J k 1) (rkF 0 J left) now (k + 1) = q) := Lib.hid (by rw [HN.out, if_neg (by rw [← hxx]; intro h; rcases h with h | h; omega; exact hlt2 h)])
              clear hxx
              go_wp2
              go_roundw
              case rel => exact ⟨k + 1, x, by omega, by go_num, by rw [HN2.out], rfl, fun h => by rw [HN2.out]; exact HX.out hq0, HB2.out⟩
              case measure => simp [intOf]; omega
    · obtain rfl : k = n := by omega
      go_wp2
      go_ret
      exact ⟨rfl, hD⟩

set_option maxHeartbeats 2000000 in
set_option maxRecDepth 1000000 in
theorem chosenS_any (A B : Option Addr) (n c c' : Nat) (J : Nat → Nat → Int) (left : Nat → Int) (now : Int) (w : World) (h : Recs 4 w A n J) (hl : Ints w B n left) (hn : n ≤ 8) :
    Lr 86 #[.iface 109 (.agg #[]), .slice A n c, .slice B n c', .int .i64 now] w (.int .i64 (chF left (fun k => J k 1) (rkF 1 J left) now n)) := by
  unfold Lr
  have H := Lib.hid h
  have HL := Lib.hid hl
  have hna : ∀ w : World, (nilAhead 244 109 (.agg #[]) "corrody/dates.rank").run Try.prog w = .ok (some false) w := fun _ => by kernel_rfl
  have hme : ∀ w : World, (method 244 109 (.agg #[]) "corrody/dates.rank").run Try.prog w = .ok (110, .agg #[]) w := fun _ => by kernel_rfl
  clear h hl
  go_enter Try.func86, Try.ntmps86
  go_wp2
  go_loopw [9, 10, 16] (fun b l i wr => ∃ (k : Nat) (x : Int), k ≤ n ∧ i = .int .i64 k ∧ b = .int .i64 (chF left (fun k => J k 1) (rkF 1 J left) now k) ∧ l = .int .i64 x ∧ (0 ≤ chF left (fun k => J k 1) (rkF 1 J left) now k → x = rkF 1 J left (chF left (fun k => J k 1) (rkF 1 J left) now k).toNat) ∧ Below w.heap.size w wr) (fun _ _ i _ => n - (intOf i).toNat)
  case atStart => exact ⟨0, 0, Nat.zero_le _, rfl, rfl, rfl, fun h => by exact absurd h (by show ¬ (0 : Int) ≤ -1; omega), Below.refl _ _⟩
  case round =>
    obtain ⟨k, x, hk, rfl, rfl, rfl, hx, hD⟩ := hrel
    have hlo := chF_lo (left := left) (r := fun k => J k 1) (rk := rkF 1 J left) (now := now) k
    have HC := Lib.hid (chF_succ left (fun k => J k 1) (rkF 1 J left) now k)
    have HX := Lib.hid hx
    clear hx
    by_cases hlt : k < n
    · obtain ⟨b, o, rfl, c0, c1, c2, c3⟩ := (H.out.keep hD).four hlt
      have hW1 : Below w.heap.size w (wr.alloc (.cells #[.int .i64 (J k 0), .int .i64 (J k 1), .int .i64 (J k 2), .int .i64 (J k 3)] 83)) := hD.alloc hD.size _
      obtain ⟨bl, ol, rfl, cl⟩ := (HL.out.keep hW1).at hlt
      have HW1 := Lib.hid hW1
      clear hW1
      by_cases hz : left k = 0
      · have HN : Hid (chF left (fun k => J k 1) (rkF 1 J left) now (k + 1) = chF left (fun k => J k 1) (rkF 1 J left) now k) := Lib.hid (by rw [HC.out, if_neg (by simp [avl, hz])])
        generalize hq : chF left (fun k => J k 1) (rkF 1 J left) now k = q at *
        clear hq
        rw [hz] at cl
        go_wp2
        go_roundw
        case rel => exact ⟨k + 1, x, by omega, by go_num, by rw [HN.out], rfl, fun h => by rw [HN.out] at h ⊢; exact HX.out h, HW1.out⟩
        case measure => simp [intOf]; omega
      · by_cases hr : now < J k 1
        · have HN : Hid (chF left (fun k => J k 1) (rkF 1 J left) now (k + 1) = chF left (fun k => J k 1) (rkF 1 J left) now k) := Lib.hid (by rw [HC.out, if_neg (by simp [avl]; omega)])
          have hB := beq_f hz
          generalize hq : chF left (fun k => J k 1) (rkF 1 J left) now k = q at *
          clear hq
          go_wp2
          go_roundw
          case rel => exact ⟨k + 1, x, by omega, by go_num, by rw [HN.out], rfl, fun h => by rw [HN.out] at h ⊢; exact HX.out h, HW1.out⟩
          case measure => simp [intOf]; omega
        · have HN : Hid (chF left (fun k => J k 1) (rkF 1 J left) now (k + 1) = if chF left (fun k => J k 1) (rkF 1 J left) now k < 0 ∨ rkF 1 J left k < rkF 1 J left (chF left (fun k => J k 1) (rkF 1 J left) now k).toNat then (k : Int) else chF left (fun k => J k 1) (rkF 1 J left) now k) := Lib.hid (by rw [HC.out, if_pos (by simp [avl, hz]; omega)])
          have hB := beq_f hz
          generalize hq : chF left (fun k => J k 1) (rkF 1 J left) now k = q at *
          clear hq
          go_wp2_with fail
          have HB := Lib.hid HW1.out
          have k0 : ∀ q : Later (wr.alloc (.cells #[.int .i64 (J k 0), .int .i64 (J k 1), .int .i64 (J k 2), .int .i64 (J k 3)] 83)), q.to.cell? ⟨wr.heap.size, 0, none⟩ = some (.int .i64 (J k 0)) := fun q => q.cell (by simp [World.cell?_alloc_at])
          have k1 : ∀ q : Later (wr.alloc (.cells #[.int .i64 (J k 0), .int .i64 (J k 1), .int .i64 (J k 2), .int .i64 (J k 3)] 83)), q.to.cell? ⟨wr.heap.size, 1, none⟩ = some (.int .i64 (J k 1)) := fun q => q.cell (by simp [World.cell?_alloc_at])
          have k2 : ∀ q : Later (wr.alloc (.cells #[.int .i64 (J k 0), .int .i64 (J k 1), .int .i64 (J k 2), .int .i64 (J k 3)] 83)), q.to.cell? ⟨wr.heap.size, 2, none⟩ = some (.int .i64 (J k 2)) := fun q => q.cell (by simp [World.cell?_alloc_at])
          have k3 : ∀ q : Later (wr.alloc (.cells #[.int .i64 (J k 0), .int .i64 (J k 1), .int .i64 (J k 2), .int .i64 (J k 3)] 83)), q.to.cell? ⟨wr.heap.size, 3, none⟩ = some (.int .i64 (J k 3)) := fun q => q.cell (by simp [World.cell?_alloc_at])
          have k4 : ∀ q : Later (wr.alloc (.cells #[.int .i64 (J k 0), .int .i64 (J k 1), .int .i64 (J k 2), .int .i64 (J k 3)] 83)), q.to.cell? ⟨bl, ol + k, none⟩ = some (.int .i64 (left k)) := fun q => q.cell cl
          have HRk := fun (w : World) => Lib.hid (rankS_any (J k 0) (J k 1) (J k 2) (J k 3) (left k) w)
          clear c0 c1 c2 c3 cl
          generalize wr.alloc (.cells #[.int .i64 (J k 0), .int .i64 (J k 1), .int .i64 (J k 2), .int .i64 (J k 3)] 83) = W1 at *
          refine wp_region_later (by kernel_rfl) (by kernel_rfl) ?_
          repeat
            (with_reducible refine wpQuiet_step ?_
             intro K hK
             go_simp
             first
               | (refine hK _ ?_; clear hK K)
               | (apply Exists.intro
                  refine ⟨fun _ => ?_, hK _ ?_⟩
                  (go_at_call 110; exact Lr.later (HRk _).out)
                  clear hK K))
          with_reducible refine wpQuiet_nil ?_
          intro _ hw'
          obtain ⟨p2, hw''⟩ := hw'
          subst hw''
          have hb2 := p2.below
          have HB2 := Lib.hid (HB.out.trans (hb2.mono HB.out.size))
          clear k0 k1 k2 k3 k4 hb2
          generalize p2.to = w2 at HB2 ⊢
          clear p2
          have hqn : q < 0 ∨ 0 ≤ q := by omega
          rcases hqn with hq0 | hq0
          · have HN2 : Hid (chF left (fun k => J k 1) (rkF 1 J left) now (k + 1) = (k : Int)) := Lib.hid (by rw [HN.out, if_pos (.inl hq0)])
            go_wp2
            go_roundw
            case rel => exact ⟨k + 1, (left k), by omega, by go_num, by rw [HN2.out], rfl, fun _ => by rw [HN2.out]; rfl, HB2.out⟩
            case measure => simp [intOf]; omega
          · have hxx : x = rkF 1 J left q.toNat := HX.out hq0
            by_cases hlt2 : (left k) < x
            · have HN2 : Hid (chF left (fun k => J k 1) (rkF 1 J left) now (k + 1) = (k : Int)) := Lib.hid (by rw [HN.out, if_pos (.inr (by rw [← hxx]; exact hlt2))])
              clear hxx
              go_wp2
              go_roundw
              case rel => exact ⟨k + 1, (left k), by omega, by go_num, by rw [HN2.out], rfl, fun _ => by rw [HN2.out]; rfl, HB2.out⟩
              case measure => simp [intOf]; omega
            · have HN2 : Hid (chF left (fun k => J k 1) (rkF 1 J left) now (k + 1) = q) := Lib.hid (by rw [HN.out, if_neg (by rw [← hxx]; intro h; rcases h with h | h; omega; exact hlt2 h)])
              clear hxx
              go_wp2
              go_roundw
              case rel => exact ⟨k + 1, x, by omega, by go_num, by rw [HN2.out], rfl, fun h => by rw [HN2.out]; exact HX.out hq0, HB2.out⟩
              case measure => simp [intOf]; omega
    · obtain rfl : k = n := by omega
      go_wp2
      go_ret
      exact ⟨rfl, hD⟩
end Go.Proofs.Ytbgekacfimgkeaa
