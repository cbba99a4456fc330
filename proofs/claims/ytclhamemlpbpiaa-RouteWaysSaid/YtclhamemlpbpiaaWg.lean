/- The reference's Distances. -/
import Derived.Test.YtclhamemlpbpiaaWf
import Derived.Test.YtclhamemlpbpiaaHy
import Derived.Test.YtclhamemlpbpiaaHh
namespace Go.Proofs.Ytclhamemlpbpiaa
open Go.RowKit

/-- In block g n rows of n numbers, which lie in the blocks R. -/
structure MatD (W : World) (g : Nat) (R : Nat → Nat) (n : Nat) (D : Nat → Int) : Prop where
  cell : ∀ i, i < n → W.cell? ⟨g, i, none⟩ = some (.slice (some ⟨R i, 0, none⟩) n n)
  row : ∀ i, i < n → RowI W (R i) n (fun j => D (8 * i + j))
  ne : ∀ i, i < n → g < R i
  inj : ∀ i j, i < n → j < n → R i = R j → i = j
theorem MatD.keep {W W' : World} {g : Nat} {R : Nat → Nat} {n : Nat} {D : Nat → Int} (h : MatD W g R n D) (hb : Below W.heap.size W W') : MatD W' g R n D :=
  ⟨fun i hi => (hb.cell (World.block_lt_of_cell? _ _ (h.cell i hi))).trans (h.cell i hi), fun i hi => World.rowIs.of_block (h.row i hi) (hb.block _ (World.rowIs.lt (h.row i hi))), h.ne, h.inj⟩
theorem MatD.set {W : World} {g : Nat} {R : Nat → Nat} {n : Nat} {D : Nat → Int} (h : MatD W g R n D) (hn8 : n ≤ 8) {i : Nat} (hi : i < n) {j : Nat} (hj : j < n) (x : Int) : MatD (W.setCell ⟨R i, j, none⟩ (.int .i64 x)) g R n (upd D (8 * i + j) x) := by
  have e1 : Exc (R i) W (W.setCell ⟨R i, j, none⟩ (.int .i64 x)) := (Exc.refl _ _).set _ _
  refine ⟨fun a ha => e1.cell (h.cell a ha) (by have := h.ne i hi; show g ≠ R i; omega), fun a ha => ?_, h.ne, h.inj⟩
  by_cases e : a = i
  · subst e
    refine ((h.row a ha).set j x).congr (fun b hb => ?_)
    rw [upd_cell D (by omega) (by omega)]
    unfold upd
    by_cases e2 : b = j
    · rw [if_pos e2, if_pos ⟨rfl, e2⟩]
    · rw [if_neg e2, if_neg (fun h => e2 h.2)]
  · refine ((h.row a ha).setOther (a := ⟨R i, j, none⟩) (by show R a ≠ R i; exact fun e2 => e (h.inj a i ha hi e2)) _).congr (fun b hb => ?_)
    rw [upd_cell D (by omega) (by omega), if_neg (fun h => e h.1)]
theorem MatD.c2 {W : World} {g : Nat} {R : Nat → Nat} {n : Nat} {D : Nat → Int} (h : MatD W g R n D) {i j : Nat} (hi : i < n) (hj : j < n) : W.cell? ⟨R i, j, none⟩ = some (.int .i64 (D (8 * i + j))) := RowI.cell (h.row i hi) hj
/-- No number is too great. -/
theorem state_le {S : Nat → Int} {n r a b c : Nat} (hn : n ≤ 8) (hr : r ≤ 8) (ha : a ≤ 8) (hb : b ≤ 8) (hc : c ≤ 8) (hs : ∀ i, S i ≤ 50) : ∀ i, rC S a b (rB S n a (rA S n (rR S n d0T r) a) b) c i ≤ 1000000 := by
  have h0 : ∀ i, d0T i ≤ 0 := fun i => by
    unfold d0T
    split <;> omega
  have h1 := rR_le (S := S) (n := n) (D := d0T) hn (Int.le_refl 0) hs h0 r
  have h2 := rA_le (S := S) (n := n) hn (by omega) hs h1 a
  have h3 := rB_le (S := S) (n := n) (a := a) hn (by omega) hs h2 b
  have h4 := rC_le (S := S) (a := a) (b := b) (by omega) hs h3 c
  intro i
  have := h4 i
  omega
theorem mk_rowI (n : Nat) (hn : n ≤ 10000) (w : World) :
    (Instr.makeSlice 33 (.int .i64 (n : Int)) (.int .i64 (n : Int))).run Try.prog w = .ok (.slice (some ⟨w.heap.size, 0, none⟩) n n) (w.alloc (.cells (madeCells #[.int .i64 0] n) 3)) := by
  obtain ⟨i0, hi, hz0, hz1, hz2⟩ := info_parts infoInt
  have := run_make_rowN (P := Try.prog) 33 3 i0 (.int .i64 0) Try.underlying33 hi hz0 .i64 .i64 n n (Nat.le_refl _) (by rw [hz2]; omega) (by omega) w
  rw [hz1, Nat.mul_one] at this
  exact this

set_option maxHeartbeats 8000000 in
set_option maxRecDepth 1000000 in
theorem refDistances_ok (A : Option Addr) (m c n : Nat) (F : Nat → Nat → Int) (w : World) (h : Recs 3 w A m F) (hok : okM n m F = true) :
    Calls Try.prog 15 #[.agg #[.int .i64 n, .slice A m c]] w fun e w' => ∃ G R, e = .returned (.slice (some ⟨G, 0, none⟩) n n) ∧ MatD w' G R n (fun i => dOf (dsT n m F i)) ∧ Below w.heap.size w w' := by
  obtain ⟨⟨hn1, hn8⟩, hm16, hrd⟩ := okM_iff.1 hok
  have hn8 : n ≤ 8 := by omega
  have hn1 : 0 < n := by omega
  have hmk := mk_rowsD n (by omega)
  have hmi := mk_rowI n (by omega)
  have hB1 := MapBR.new w n (.slice A m c)
  have hb1 := (Below.refl w.heap.size w).alloc (Nat.le_refl _) (.cells #[.int .i64 n, .slice A m c] 24)
  have hz1 : (w.alloc (.cells #[.int .i64 n, .slice A m c] 24)).heap.size = w.heap.size + 1 := by simp
  obtain ⟨W1, hW1⟩ : ∃ W1, W1 = w.alloc (.cells #[.int .i64 n, .slice A m c] 24) := ⟨_, rfl⟩
  rw [← hW1] at hB1 hb1 hz1
  have HWW : Hid (w.alloc (.cells #[.int .i64 n, .slice A m c] 24) = W1) := Lib.hid hW1.symm
  have HMB : Hid (∀ w', Below W1.heap.size W1 w' → MapBR w' w.heap.size n (.slice A m c) ∧ Below w.heap.size w w') := Lib.hid (fun w' hb => ⟨hB1.keep hb, hb1.trans (hb.mono hb1.size)⟩)
  have HSt := Lib.hid (fun (w' : World) (x y : Nat) (hb : Below W1.heap.size W1 w') => step_any A m c n x y F w' (h.keep (hb1.trans (hb.mono hb1.size))) (by omega))
  have HSr := Lib.hid (fun (x y : Nat) (hy : y < 8) => srT_at (m := m) (a := x) (F := F) hy)
  have HSb := Lib.hid (fun (x y : Nat) => stR_rng hok x y m (Nat.le_refl _))
  have HSl : Hid (∀ i, srT m F i ≤ 50) := Lib.hid (fun i => (stR_rng hok _ _ m (Nat.le_refl _)).2.1)
  have HEnd : Hid (∀ i j, i < n → j < n → rR (srT m F) n d0T n (8 * i + j) = dOf (dsT n m F (8 * i + j))) := Lib.hid (fun i j hi hj => rR_dist hok hi hj)
  have Hz1 := Lib.hid hz1
  have q0 := hB1.c0
  clear hB1 hb1 hz1 hW1 h hok hrd hm16
  generalize hST : srT m F = ST at *
  generalize hDF : dsT n m F = TT at *
  clear hST hDF
  go_enter Try.func15, Try.ntmps15
  go_wp2_with fail
  rw [HWW.out]
  clear HWW
  go_wp2
  clear hmk q0
  have HG0 := Lib.hid (World.rowIs_made W1 (.slice none 0 0) n 33)
  have HB0 := Lib.hid ((Below.refl W1.heap.size W1).alloc (Nat.le_refl _) (.cells (madeCells #[.slice none 0 0] n) 33))
  have hz2 : (W1.alloc (.cells (madeCells #[.slice none 0 0] n) 33)).heap.size = W1.heap.size + 1 := by simp
  generalize W1.alloc (.cells (madeCells #[.slice none 0 0] n) 33) = W2 at *
  have HZ2 := Lib.hid (show W1.heap.size + 1 ≤ W2.heap.size by omega)
  clear hz2
  have hzz := Hz1.out
  rw [hzz] at HG0 HB0 HZ2 HMB HSt
  clear hzz Hz1
  generalize hGG : w.heap.size + 1 = G at *
  have HGG := Lib.hid hGG
  clear hGG
  go_loopw [15] (fun i wr => ∃ (k : Nat) (R : Nat → Nat), k ≤ n ∧ i = .int .i64 k ∧ wr.rowIs G 33 n (fun j => if j < k then .slice (some ⟨R j, 0, none⟩) n n else .slice none 0 0) ∧ (∀ j, j < k → G < R j ∧ R j < wr.heap.size ∧ RowI wr (R j) n (fun i => d0T (8 * j + i))) ∧ (∀ i j, i < j → j < k → R i < R j) ∧ Below G W1 wr ∧ G + 1 ≤ wr.heap.size) (fun i _ => n - (intOf i).toNat)
  case atStart => exact ⟨0, fun _ => 0, Nat.zero_le _, rfl, World.rowIs.congr HG0.out (fun j _ => by simp), fun j hj => absurd hj (Nat.not_lt_zero _), fun i j _ hj => absurd hj (Nat.not_lt_zero _), HB0.out, HZ2.out⟩
  case round =>
    obtain ⟨k, R, hk, rfl, hG, hR, hI, hB, hZ⟩ := hrel
    have HBr := Lib.hid hB
    have HGr := Lib.hid hG
    have HRr := Lib.hid hR
    have HIr := Lib.hid hI
    have HZr := Lib.hid hZ
    have q0 := (HMB.out wr hB).1.c0
    clear hG hR hI hB hZ HG0 HB0
    by_cases hlk : k < n
    · have q1 : (wr.alloc (.cells (madeCells #[.int .i64 0] n) 3)).cell? ⟨G, k, none⟩ = some (.slice none 0 0) := by
        have h1 := World.rowIs.cell HGr.out hlk
        rw [if_neg (by omega)] at h1
        exact ((Below.refl wr.heap.size wr).alloc (Nat.le_refl _) _).cell (World.block_lt_of_cell? _ _ h1) |>.trans h1
      have q2 : (wr.alloc (.cells (madeCells #[.int .i64 0] n) 3)).frozen? ⟨G, k, none⟩ = false := World.rowIs.frozen (World.rowIs.alloc HGr.out _) k
      have r0 := RowI.made wr n
      have b0 := (Below.refl wr.heap.size wr).alloc (Nat.le_refl _) (.cells (madeCells #[.int .i64 0] n) 3)
      have g0 := World.rowIs.alloc HGr.out (.cells (madeCells #[.int .i64 0] n) 3)
      have s0 : (wr.alloc (.cells (madeCells #[.int .i64 0] n) 3)).heap.size = wr.heap.size + 1 := by simp
      have e0 : Exc G (wr.alloc (.cells (madeCells #[.int .i64 0] n) 3)) ((wr.alloc (.cells (madeCells #[.int .i64 0] n) 3)).setCell ⟨G, k, none⟩ (.slice (some ⟨wr.heap.size, 0, none⟩) n n)) := (Exc.refl _ _).set _ _
      have g1 := World.rowIs.set g0 k (.slice (some ⟨wr.heap.size, 0, none⟩) n n)
      have hlG : G < wr.heap.size := by have := HZr.out; omega
      have r1 := e0.row r0 (by omega)
      have hkk : Exc G wr ((wr.alloc (.cells (madeCells #[.int .i64 0] n) 3)).setCell ⟨G, k, none⟩ (.slice (some ⟨wr.heap.size, 0, none⟩) n n)) := (Exc.of_below b0).trans e0
      have HG1 := Lib.hid g1
      have HR1 := Lib.hid r1
      have HK1 := Lib.hid hkk
      have s1 : ((wr.alloc (.cells (madeCells #[.int .i64 0] n) 3)).setCell ⟨G, k, none⟩ (.slice (some ⟨wr.heap.size, 0, none⟩) n n)).heap.size = wr.heap.size + 1 := by rw [← s0]; simp
      have HS1 := Lib.hid s1
      have Hl := Lib.hid hlG
      clear r0 b0 g0 s0 e0 g1 r1 hkk s1 hlG
      go_wp2_with fail
      generalize (wr.alloc (.cells (madeCells #[.int .i64 0] n) 3)).setCell ⟨G, k, none⟩ (.slice (some ⟨wr.heap.size, 0, none⟩) n n) = W5 at *
      generalize hBk : wr.heap.size = Bk at *
      have HBk := Lib.hid hBk
      have q3 := World.rowIs.cell HG1.out hlk
      rw [if_pos rfl] at q3
      clear q0 q1 q2 hBk
      go_wp2
      go_loopw [29] (fun i wx => ∃ b : Nat, b ≤ n ∧ i = .int .i64 b ∧ RowI wx Bk n (fun i => if i < b then d0T (8 * k + i) else 0) ∧ Exc Bk W5 wx) (fun i _ => n - (intOf i).toNat)
      case atStart => exact ⟨0, Nat.zero_le _, rfl, RowI.congr HR1.out (fun i _ => by simp), Exc.refl _ _⟩
      case round =>
        obtain ⟨b, hb, rfl, hRb, hEb⟩ := hrel
        have HRb := Lib.hid hRb
        have HEb := Lib.hid hEb
        clear hRb hEb q3
        have hGB : G < Bk := by have := Hl.out; have := HBk.out; omega
        by_cases hlb : b < n
        · have hd := d0T_at (a := k) (b := b) (by omega)
          have q3 : wr.cell? ⟨G, k, none⟩ = some (.slice (some ⟨Bk, 0, none⟩) n n) := by
            have h1 := World.rowIs.cell HG1.out hlk
            rw [if_pos rfl] at h1
            exact HEb.out.cell h1 (by show G ≠ Bk; omega)
          have q4 := RowI.cell HRb.out hlb
          rw [if_neg (by omega)] at q4
          have q5 := World.rowIs.frozen HRb.out b
          by_cases e : k = b
          · subst e
            have hkb := bne_f (rfl : (k : Int) = k)
            rw [if_pos rfl] at hd
            have HD := Lib.hid hd
            clear hd
            go_wp2
            go_roundw
            case rel => exact ⟨k + 1, by omega, by go_num, RowI.congr HRb.out (fun i _ => by
              by_cases e : i = k
              · rw [e, if_neg (by omega), if_pos (by omega), HD.out]
              · by_cases e2 : i < k
                · rw [if_pos e2, if_pos (by omega)]
                · rw [if_neg e2, if_neg (by omega)]), HEb.out⟩
            case measure => simp [intOf]; omega
          · have hkb := bne_t (show ¬ (k : Int) = (b : Int) by omega)
            rw [if_neg e] at hd
            have HD := Lib.hid hd
            clear hd
            go_wp2
            go_roundw
            case rel => exact ⟨b + 1, by omega, by go_num, RowI.congr (HRb.out.set b (-1)) (fun i _ => by
              unfold upd
              show (if i = b then (-1 : Int) else if i < b then d0T (8 * k + i) else 0) = if i < b + 1 then d0T (8 * k + i) else 0
              by_cases e : i = b
              · rw [if_pos e, e, if_pos (by omega), HD.out]
              · rw [if_neg e]
                by_cases e2 : i < b
                · rw [if_pos e2, if_pos (by omega)]
                · rw [if_neg e2, if_neg (by omega)]), HEb.out.set b _⟩
            case measure => simp [intOf]; omega
        · obtain rfl : b = n := by omega
          go_wp2
          go_roundw
          case rel =>
            have hs5 := HS1.out
            have hbk := HBk.out
            have hsz := HEb.out.size
            refine ⟨k + 1, fun j => if j = k then Bk else R j, by omega, by go_num, ?_, fun j hj => ?_, fun i j hij hj => ?_, ?_, by omega⟩
            · refine World.rowIs.congr (World.rowIs.of_block HG1.out (HEb.out.block G (World.rowIs.lt HG1.out) (fun e => by injection e; omega))) (fun j hj => ?_)
              dsimp only
              by_cases e : j = k
              · rw [if_pos e, if_pos (by omega), if_pos e]
              · rw [if_neg e, if_neg e]
                by_cases e2 : j < k
                · rw [if_pos e2, if_pos (by omega)]
                · rw [if_neg e2, if_neg (by omega)]
            · dsimp only
              by_cases e : j = k
              · rw [if_pos e, e]
                exact ⟨hGB, by omega, RowI.congr HRb.out (fun i hi => by rw [if_pos hi])⟩
              · rw [if_neg e]
                obtain ⟨h1, h2, h3⟩ := HRr.out j (by omega)
                exact ⟨h1, by omega, HEb.out.row (HK1.out.row h3 (by omega)) (by omega)⟩
            · dsimp only
              by_cases e : j = k
              · rw [if_neg (by omega), if_pos e]
                have := (HRr.out i (by omega)).2.1
                omega
              · rw [if_neg (by omega), if_neg e]
                exact HIr.out i j hij (by omega)
            · exact (HBr.out.trans (HK1.out.below (Nat.le_refl _) (by omega))).trans (HEb.out.below (by omega) (by omega))
          case measure => simp [intOf]; omega
    · obtain rfl : k = n := by omega
      have HM0 : Hid (MatD wr G R k d0T) := Lib.hid ⟨fun i hi => by
        have h1 := World.rowIs.cell HGr.out hi
        rw [if_pos hi] at h1
        exact h1, fun i hi => (HRr.out i hi).2.2, fun i hi => (HRr.out i hi).1, fun i j hi hj e => by
        rcases Nat.lt_trichotomy i j with h | h | h
        · have := HIr.out i j h hj
          omega
        · exact h
        · have := HIr.out j i h hi
          omega⟩
      clear HGr HRr HIr
      have q0 := (HMB.out wr HBr.out).1.c0
      go_wp2
      clear q0
      go_loopw [45] (fun i wr => ∃ r : Nat, r ≤ k ∧ i = .int .i64 r ∧ MatD wr G R k (rR ST k d0T r) ∧ Below G W1 wr) (fun i _ => k - (intOf i).toNat)
      case atStart => exact ⟨0, Nat.zero_le _, rfl, HM0.out, HBr.out⟩
      case round =>
        obtain ⟨r, hr, rfl, hM, hB⟩ := hrel
        clear HM0 HBr HZr
        have HM1 := Lib.hid hM
        have HB1 := Lib.hid hB
        clear hM hB
        by_cases hlr : r < k
        · go_wp2
          go_loopw [49] (fun i wr => ∃ a : Nat, a ≤ k ∧ i = .int .i64 a ∧ MatD wr G R k (rA ST k (rR ST k d0T r) a) ∧ Below G W1 wr) (fun i _ => k - (intOf i).toNat)
          case atStart => exact ⟨0, Nat.zero_le _, rfl, HM1.out, HB1.out⟩
          case round =>
            obtain ⟨a, ha, rfl, hM, hB⟩ := hrel
            clear HM1 HB1
            have HM2 := Lib.hid hM
            have HB2 := Lib.hid hB
            clear hM hB
            by_cases hla : a < k
            · go_wp2
              go_loopw [54] (fun i wr => ∃ b : Nat, b ≤ k ∧ i = .int .i64 b ∧ MatD wr G R k (rB ST k a (rA ST k (rR ST k d0T r) a) b) ∧ Below G W1 wr) (fun i _ => k - (intOf i).toNat)
              case atStart => exact ⟨0, Nat.zero_le _, rfl, HM2.out, HB2.out⟩
              case round =>
                obtain ⟨b, hb, rfl, hM, hB⟩ := hrel
                clear HM2 HB2
                have HM3 := Lib.hid hM
                have HB3 := Lib.hid hB
                clear hM hB
                by_cases hlb : b < k
                · go_wp2
                  go_loopw [59] (fun i wr => ∃ c : Nat, c ≤ k ∧ i = .int .i64 c ∧ MatD wr G R k (rC ST a b (rB ST k a (rA ST k (rR ST k d0T r) a) b) c) ∧ Below G W1 wr) (fun i _ => k - (intOf i).toNat)
                  case atStart => exact ⟨0, Nat.zero_le _, rfl, HM3.out, HB3.out⟩
                  case round =>
                    obtain ⟨c', hc, rfl, hM, hB⟩ := hrel
                    clear HM3 HB3
                    have HB4 := Lib.hid hB
                    by_cases hlc : c' < k
                    · have hle := state_le (S := ST) (n := k) (r := r) (a := a) (b := b) (c := c') hn8 (by omega) (by omega) (by omega) (by omega) HSl.out
                      have HX : Hid (rC ST a b (rB ST k a (rA ST k (rR ST k d0T r) a) b) (c' + 1) = rlx ST a b c' (rC ST a b (rB ST k a (rA ST k (rR ST k d0T r) a) b) c')) := Lib.hid rfl
                      generalize hDD : rC ST a b (rB ST k a (rA ST k (rR ST k d0T r) a) b) c' = D at *
                      have hs := HSr.out b c' (by omega)
                      obtain ⟨hsb1, hsb2, -⟩ := HSb.out b c'
                      have HStp := Lib.hid (HSt.out wr b c' hB)
                      have HM4 := Lib.hid hM
                      have HRx : Hid (rlx ST a b c' D = if 0 ≤ ST (8 * b + c') ∧ 0 ≤ D (8 * a + b) ∧ (D (8 * a + c') < 0 ∨ D (8 * a + b) + ST (8 * b + c') < D (8 * a + c')) then upd D (8 * a + c') (D (8 * a + b) + ST (8 * b + c')) else D) := Lib.hid rfl
                      rw [hs] at HRx
                      have q0 := (HMB.out wr hB).1.c0
                      have q1 := (HMB.out wr hB).1.c1
                      have HDb := Lib.hid (hle (8 * a + b))
                      clear hDD hs hM hB hle
                      generalize stR F (b : Int) (c' : Int) m = sv at *
                      go_wp2_with fail
                      refine HStp.out.use fun w5 hb5 => ?_
                      have HB5 := Lib.hid (HB4.out.trans (hb5.mono (by have h9 := World.block_lt_of_cell? _ _ (HM4.out.cell a hla); exact Nat.le_of_lt h9)))
                      have HM5 := Lib.hid (HM4.out.keep hb5)
                      have hz5 : G ≤ w5.heap.size := Nat.le_of_lt (World.block_lt_of_cell? _ _ (HM5.out.cell a hla))
                      clear hb5 q0 q1 HStp HM4 HB4
                      have r1 := HM5.out.cell a hla
                      have r2 := HM5.out.c2 hla hlb
                      have r3 := HM5.out.c2 hla hlc
                      have y1 := HDb.out
                      have HZ5 := Lib.hid hz5
                      have k1 : ∀ q : Later w5, q.to.cell? ⟨G, a, none⟩ = some (.slice (some ⟨R a, 0, none⟩) k k) := fun q => q.cell r1
                      have k2 : ∀ q : Later w5, q.to.cell? ⟨R a, b, none⟩ = some (.int .i64 (D (8 * a + b))) := fun q => q.cell r2
                      have k3 : ∀ q : Later w5, q.to.cell? ⟨R a, c', none⟩ = some (.int .i64 (D (8 * a + c'))) := fun q => q.cell r3
                      clear r1 r2 r3 hz5 HDb
                      generalize hx1 : D (8 * a + b) = x1 at *
                      generalize hx2 : D (8 * a + c') = x2 at *
                      have HX1 : Hid (some (Value.int .i64 (D (8 * a + b))) = some (.int .i64 x1)) := Lib.hid (by rw [hx1])
                      have HX2 : Hid (some (Value.int .i64 (D (8 * a + c'))) = some (.int .i64 x2)) := Lib.hid (by rw [hx2])
                      clear hx1 hx2
                      by_cases p1 : 0 ≤ sv
                      · have d1 : decide (0 ≤ sv) = true := decide_eq_true p1
                        by_cases p2 : 0 ≤ x1
                        · have d2 : decide (0 ≤ x1) = true := decide_eq_true p2
                          have hw : IntKind.i64.wrap (x1 + sv) = x1 + sv := IntWalk.i64_in _ ⟨by omega, by omega⟩
                          by_cases p3 : x2 < 0
                          · have d3 : decide (x2 < 0) = true := decide_eq_true p3
                            have HN := Lib.hid (HRx.out.trans (if_pos ⟨p1, p2, .inl p3⟩))
                            go_wp2_with fail
                            refine wp_region_later (by kernel_rfl) (by kernel_rfl) ?_
                            repeat
                              (with_reducible refine wpQuiet_step ?_
                               intro K hK
                               go_simp
                               (refine hK _ ?_; clear hK K))
                            with_reducible refine wpQuiet_nil ?_
                            intro _ hw'
                            obtain ⟨q, rfl⟩ := hw'
                            have HM6 := Lib.hid (HM5.out.keep q.below)
                            have HB6 := Lib.hid (HB5.out.trans (q.below.mono HZ5.out))
                            clear k1 k2 k3 HM5 HB5
                            generalize q.to = w6 at *
                            have c1 := HM6.out.cell a hla
                            have c2 := (HM6.out.c2 hla hlb).trans HX1.out
                            have c3 := (HM6.out.c2 hla hlc).trans HX2.out
                            have z3 := World.rowIs.frozen (HM6.out.row a hla) c'
                            go_wp2
                            go_region
                            have HM8 := Lib.hid ((HM6.out.set hn8 hla hlc (x1 + sv)).keep ((Dn.refl _).drew.below _))
                            have HB8 := Lib.hid ((HB6.out.setCell (p := ⟨R a, c', none⟩) (by have := HM6.out.ne a hla; show G ≤ R a; omega) (.int .i64 (x1 + sv))).trans ((Dn.refl _).drew.below _))
                            clear c1 c2 c3 z3
                            go_wp2
                            first
                              | exact ⟨⟨c' + 1, by omega, by go_num, by rw [HX.out, HN.out]; exact HM8.out, HB8.out⟩, by simp [intOf]; omega⟩
                              | (go_roundw
                                 case rel => exact ⟨c' + 1, by omega, by go_num, by rw [HX.out, HN.out]; exact HM8.out, HB8.out⟩
                                 case measure => simp [intOf]; omega)
                          · have d3 : decide (x2 < 0) = false := decide_eq_false p3
                            by_cases p4 : x1 + sv < x2
                            · have d4 : decide (x1 + sv < x2) = true := decide_eq_true p4
                              have HN := Lib.hid (HRx.out.trans (if_pos ⟨p1, p2, .inr p4⟩))
                              go_wp2_with fail
                              refine wp_region_later (by kernel_rfl) (by kernel_rfl) ?_
                              repeat
                                (with_reducible refine wpQuiet_step ?_
                                 intro K hK
                                 go_simp
                                 (refine hK _ ?_; clear hK K))
                              with_reducible refine wpQuiet_nil ?_
                              intro _ hw'
                              obtain ⟨q, rfl⟩ := hw'
                              have HM6 := Lib.hid (HM5.out.keep q.below)
                              have HB6 := Lib.hid (HB5.out.trans (q.below.mono HZ5.out))
                              clear k1 k2 k3 HM5 HB5
                              generalize q.to = w6 at *
                              have c1 := HM6.out.cell a hla
                              have c2 := (HM6.out.c2 hla hlb).trans HX1.out
                              have c3 := (HM6.out.c2 hla hlc).trans HX2.out
                              have z3 := World.rowIs.frozen (HM6.out.row a hla) c'
                              go_wp2
                              go_region
                              have HM8 := Lib.hid ((HM6.out.set hn8 hla hlc (x1 + sv)).keep ((Dn.refl _).drew.below _))
                              have HB8 := Lib.hid ((HB6.out.setCell (p := ⟨R a, c', none⟩) (by have := HM6.out.ne a hla; show G ≤ R a; omega) (.int .i64 (x1 + sv))).trans ((Dn.refl _).drew.below _))
                              clear c1 c2 c3 z3
                              go_wp2
                              first
                                | exact ⟨⟨c' + 1, by omega, by go_num, by rw [HX.out, HN.out]; exact HM8.out, HB8.out⟩, by simp [intOf]; omega⟩
                                | (go_roundw
                                   case rel => exact ⟨c' + 1, by omega, by go_num, by rw [HX.out, HN.out]; exact HM8.out, HB8.out⟩
                                   case measure => simp [intOf]; omega)
                            · have d4 : decide (x1 + sv < x2) = false := decide_eq_false p4
                              have HN := Lib.hid (HRx.out.trans (if_neg (fun h => h.2.2.elim p3 p4)))
                              go_wp2_with fail
                              refine wp_region_later (by kernel_rfl) (by kernel_rfl) ?_
                              repeat
                                (with_reducible refine wpQuiet_step ?_
                                 intro K hK
                                 go_simp
                                 (refine hK _ ?_; clear hK K))
                              with_reducible refine wpQuiet_nil ?_
                              intro _ hw'
                              obtain ⟨q, rfl⟩ := hw'
                              have HM6 := Lib.hid (HM5.out.keep q.below)
                              have HB6 := Lib.hid (HB5.out.trans (q.below.mono HZ5.out))
                              clear k1 k2 k3 HM5 HB5
                              generalize q.to = w6 at *
                              go_wp2
                              first
                                | exact ⟨⟨c' + 1, by omega, by go_num, by rw [HX.out, HN.out]; exact HM6.out, HB6.out⟩, by simp [intOf]; omega⟩
                                | (go_roundw
                                   case rel => exact ⟨c' + 1, by omega, by go_num, by rw [HX.out, HN.out]; exact HM6.out, HB6.out⟩
                                   case measure => simp [intOf]; omega)
                        · have d2 : decide (0 ≤ x1) = false := decide_eq_false p2
                          have HN := Lib.hid (HRx.out.trans (if_neg (fun h => p2 h.2.1)))
                          go_wp2_with fail
                          refine wp_region_later (by kernel_rfl) (by kernel_rfl) ?_
                          repeat
                            (with_reducible refine wpQuiet_step ?_
                             intro K hK
                             go_simp
                             (refine hK _ ?_; clear hK K))
                          with_reducible refine wpQuiet_nil ?_
                          intro _ hw'
                          obtain ⟨q, rfl⟩ := hw'
                          have HM6 := Lib.hid (HM5.out.keep q.below)
                          have HB6 := Lib.hid (HB5.out.trans (q.below.mono HZ5.out))
                          clear k1 k2 k3 HM5 HB5
                          generalize q.to = w6 at *
                          go_wp2
                          first
                            | exact ⟨⟨c' + 1, by omega, by go_num, by rw [HX.out, HN.out]; exact HM6.out, HB6.out⟩, by simp [intOf]; omega⟩
                            | (go_roundw
                               case rel => exact ⟨c' + 1, by omega, by go_num, by rw [HX.out, HN.out]; exact HM6.out, HB6.out⟩
                               case measure => simp [intOf]; omega)
                      · have d1 : decide (0 ≤ sv) = false := decide_eq_false p1
                        have HN := Lib.hid (HRx.out.trans (if_neg (fun h => p1 h.1)))
                        go_wp2_with fail
                        refine wp_region_later (by kernel_rfl) (by kernel_rfl) ?_
                        repeat
                          (with_reducible refine wpQuiet_step ?_
                           intro K hK
                           go_simp
                           (refine hK _ ?_; clear hK K))
                        with_reducible refine wpQuiet_nil ?_
                        intro _ hw'
                        obtain ⟨q, rfl⟩ := hw'
                        have HM6 := Lib.hid (HM5.out.keep q.below)
                        have HB6 := Lib.hid (HB5.out.trans (q.below.mono HZ5.out))
                        clear k1 k2 k3 HM5 HB5
                        generalize q.to = w6 at *
                        go_wp2
                        first
                          | exact ⟨⟨c' + 1, by omega, by go_num, by rw [HX.out, HN.out]; exact HM6.out, HB6.out⟩, by simp [intOf]; omega⟩
                          | (go_roundw
                             case rel => exact ⟨c' + 1, by omega, by go_num, by rw [HX.out, HN.out]; exact HM6.out, HB6.out⟩
                             case measure => simp [intOf]; omega)
                    · obtain rfl : c' = k := by omega
                      go_wp2
                      go_roundw
                      case rel => exact ⟨b + 1, by omega, by go_num, hM, hB⟩
                      case measure => simp [intOf]; omega
                · obtain rfl : b = k := by omega
                  go_wp2
                  go_roundw
                  case rel => exact ⟨a + 1, by omega, by go_num, HM3.out, HB3.out⟩
                  case measure => simp [intOf]; omega
            · obtain rfl : a = k := by omega
              go_wp2
              go_roundw
              case rel => exact ⟨r + 1, by omega, by go_num, HM2.out, HB2.out⟩
              case measure => simp [intOf]; omega
        · obtain rfl : r = k := by omega
          go_wp2
          go_ret
          exact ⟨G, R, rfl, ⟨HM1.out.cell, fun i hi => RowI.congr (HM1.out.row i hi) (fun j hj => HEnd.out i j hi hj), HM1.out.ne, HM1.out.inj⟩, (HMB.out _ HB1.out).2⟩
end Go.Proofs.Ytclhamemlpbpiaa
