/- swap: onCycle; words for a holding. -/
import Derived.Test.YtocfbafcplhmiaaUc
namespace Go.Proofs.Ytocfbafcplhmiaa
open Go.RowKit

/-- Who has thing x. -/
def owF (g : Nat → Nat) (n x : Nat) : Nat := fsN (fun k => decide (g k = x)) n
theorem owF_at {n : Nat} {g : Nat → Nat} (hg : Pm n g) {x : Nat} (hx : x < n) : owF g n x < n ∧ g (owF g n x) = x := by
  obtain ⟨k, hk, e⟩ := hg.surj hx
  have h1 := (fsN_lt (p := fun k => decide (g k = x)) hk (by simpa using e)).1
  have h2 := fsN_at (fun k => decide (g k = x)) n h1
  exact ⟨h1, of_decide_eq_true h2⟩
theorem owF_of {n : Nat} {g : Nat → Nat} (hg : Pm n g) {i : Nat} (hi : i < n) : owF g n (g i) = i := by
  obtain ⟨h1, h2⟩ := owF_at hg (hg.lt i hi)
  exact hg.inj _ _ h1 hi h2
theorem owF_pm {n : Nat} {g : Nat → Nat} (hg : Pm n g) : Pm n (owF g n) :=
  ⟨fun x hx => (owF_at hg hx).1, fun x y hx hy e => by rw [← (owF_at hg hx).2, ← (owF_at hg hy).2, e]⟩
theorem owF_id {n x : Nat} (hx : x < n) : owF (fun k => k) n x = x := by
  have hp : Pm n (fun k => k) := ⟨fun k hk => hk, fun i j _ _ e => e⟩
  exact owF_of hp hx
theorem idx_owF {n : Nat} {g : Nat → Nat} (hg : Pm n g) {x : Nat} (hx : x < n) : idxI (fun k => (g k : Int)) (x : Int) n = (owF g n x : Int) := by
  obtain ⟨h1, h2⟩ := owF_at hg hx
  refine idxI_some (fun j hj e => ?_) (by rw [h2]) n h1
  have := fsN_none (fun k => decide (g k = x)) n j hj
  have e' : g j = x := Int.ofNat.inj e
  simp [e'] at this
/-- The best thing by a set of things is that by a set of owners. -/
theorem bsB_bsF {t : Nat → Nat → Nat} {n : Nat} {g : Nat → Nat} (hg : Pm n g) {i : Nat} (ht : Pm n (t i)) {S : Nat} {lv : Nat → Bool} (h : ∀ p, p < n → lv p = inS S (g p)) : bsB t n S i = bsF t n (owF g n) lv i := by
  unfold bsB bsF
  rw [fsN_congr (fun k hk => ?_)]
  obtain ⟨h1, h2⟩ := owF_at hg (ht.lt k hk)
  rw [h _ h1, h2]
theorem bsB_lt {t : Nat → Nat → Nat} {n S i : Nat} (ht : Pm n (t i)) (hex : ∃ x, x < n ∧ inS S x = true) : bsB t n S i < n ∧ inS S (bsB t n S i) = true := by
  obtain ⟨x, hx, e⟩ := hex
  obtain ⟨k, hk, ek⟩ := ht.surj hx
  have h1 := (fsN_lt (p := fun k => inS S (t i k)) hk (by show inS S (t i k) = true; rw [ek]; exact e)).1
  exact ⟨ht.lt _ h1, fsN_at (fun k => inS S (t i k)) n h1⟩
theorem best_ex {t : Nat → Nat → Nat} {n S i : Nat} (ht : Pm n (t i)) (hex : ∃ x, x < n ∧ inS S x = true) : ∃ k, k < n ∧ inS S (t i k) = true := by
  obtain ⟨x, hx, e⟩ := hex
  obtain ⟨k, hk, ek⟩ := ht.surj hx
  exact ⟨k, hk, by rw [ek]; exact e⟩
/-- Who is pointed to. -/
def nxB (t : Nat → Nat → Nat) (n : Nat) (g : Nat → Nat) (S j : Nat) : Nat := owF g n (bsB t n S j)
theorem onC_nxB {t : Nat → Nat → Nat} {n : Nat} {g : Nat → Nat} (hg : Pm n g) (ht : ∀ i, i < n → Pm n (t i)) {S : Nat} {lv : Nat → Bool} (h : ∀ p, p < n → lv p = inS S (g p)) (hex : ∃ x, x < n ∧ inS S x = true) {i : Nat} (hi : i < n) :
    onC (nxB t n g S) n i = onC (nxF t n (owF g n) lv) n i :=
  onC_congr (P := fun j => j < n) (fun j hj => (owF_pm hg).lt _ (bsB_lt (ht j hj) hex).1) (fun j hj => by
    unfold nxB nxF
    rw [bsB_bsF hg (ht j hj) h]) hi

/-- A holding in a block: four cells. -/
def hdF (A : Option Addr) (n c : Nat) (G : Option Addr) (cG S : Nat) : Nat → Value
  | 0 => .int .i64 n
  | 1 => .slice A n c
  | 2 => .slice G n cG
  | _ => .int .i64 S
def HoldI (w : World) (g : Nat) (A : Option Addr) (n c : Nat) (G : Option Addr) (cG S : Nat) : Prop := w.rowIs g 55 4 (hdF A n c G cG S)
section
variable {w w' : World} {g : Nat} {A : Option Addr} {n c : Nat} {G : Option Addr} {cG S : Nat}
theorem HoldI.c0 (h : HoldI w g A n c G cG S) : w.cell? ⟨g, 0, none⟩ = some (.int .i64 n) := World.rowIs.cell h (by omega)
theorem HoldI.c1 (h : HoldI w g A n c G cG S) : w.cell? ⟨g, 1, none⟩ = some (.slice A n c) := World.rowIs.cell h (by omega)
theorem HoldI.c2 (h : HoldI w g A n c G cG S) : w.cell? ⟨g, 2, none⟩ = some (.slice G n cG) := World.rowIs.cell h (by omega)
theorem HoldI.c3 (h : HoldI w g A n c G cG S) : w.cell? ⟨g, 3, none⟩ = some (.int .i64 S) := World.rowIs.cell h (by omega)
theorem HoldI.frozen (h : HoldI w g A n c G cG S) (i : Nat) : w.frozen? ⟨g, i, none⟩ = false := World.rowIs.frozen h i
theorem HoldI.lt (h : HoldI w g A n c G cG S) : g < w.heap.size := World.rowIs.lt h
theorem HoldI.keep (h : HoldI w g A n c G cG S) (hb : Below w.heap.size w w') : HoldI w' g A n c G cG S := World.rowIs.of_block h (hb.block g h.lt)
theorem HoldI.exc {B : Nat} (h : HoldI w g A n c G cG S) (he : Exc B w w') (hne : g ≠ B) : HoldI w' g A n c G cG S := World.rowIs.of_block h (he.block g h.lt (fun e => hne (by injection e)))
theorem HoldI.set (h : HoldI w g A n c G cG S) (S' : Nat) : HoldI (w.setCell ⟨g, 3, none⟩ (.int .i64 S')) g A n c G cG S' :=
  World.rowIs.congr (World.rowIs.set h 3 (.int .i64 S')) (fun j hj => by
    have : j = 0 ∨ j = 1 ∨ j = 2 ∨ j = 3 := by omega
    rcases this with rfl | rfl | rfl | rfl <;> rfl)
theorem HoldI.box (w : World) (A : Option Addr) (n c : Nat) (G : Option Addr) (cG S : Nat) : HoldI (w.alloc (.cells #[.int .i64 n, .slice A n c, .slice G n cG, .int .i64 S] 55)) w.heap.size A n c G cG S :=
  World.rowIs_alloc w #[.int .i64 n, .slice A n c, .slice G n cG, .int .i64 S] 55 (hdF A n c G cG S) (fun i hi => by
    have hi' : i < 4 := hi
    have : i = 0 ∨ i = 1 ∨ i = 2 ∨ i = 3 := by omega
    rcases this with rfl | rfl | rfl | rfl <;> rfl)
end

set_option maxHeartbeats 2000000 in
set_option maxRecDepth 1000000 in
theorem onCycle_any (A : Option Addr) (n c : Nat) (t : Nat → Nat → Nat) (G : Option Addr) (cG : Nat) (g : Nat → Nat) (S i : Nat) (w : World) (h : Wis w A n t) (hG : Ints w G n (fun k => (g k : Int))) (hn : n ≤ 5) (hi : i < n) (ht : ∀ i, i < n → Pm n (t i)) (hg : Pm n g)
    (hex : ∃ x, x < n ∧ inS S x = true) :
    Lr 78 #[.agg #[.int .i64 n, .slice A n c, .slice G n cG, .int .i64 S], .int .i64 i] w (.bool (onC (nxB t n g S) n i)) := by
  unfold Lr
  have H := Lib.hid h
  have HG := Lib.hid hG
  have HT := Lib.hid ht
  have HP := Lib.hid hg
  have HE := Lib.hid hex
  have HO : Hid (onC (nxB t n g S) n i = anyB (fun k => decide (itF (nxB t n g S) (k + 1) i = i)) n) := Lib.hid rfl
  have HI : Hid (∀ k, itF (nxB t n g S) (k + 1) i = nxB t n g S (itF (nxB t n g S) k i)) := Lib.hid (fun _ => rfl)
  have hbx := box4_at w (.int .i64 n) (.slice A n c) (.slice G n cG) (.int .i64 S) 55
  have hbb := box_bel w (.cells #[.int .i64 n, .slice A n c, .slice G n cG, .int .i64 S] 55)
  have HX := Lib.hid hbx
  have HB := Lib.hid hbb
  have e0 := hbx.1
  clear h hG ht hg hex hbx hbb
  go_enter Try.func78, Try.ntmps78
  go_wp2
  obtain ⟨W1, hW1⟩ : ∃ W1, W1 = w.alloc (.cells #[.int .i64 n, .slice A n c, .slice G n cG, .int .i64 S] 55) := ⟨_, rfl⟩
  rw [← hW1] at HX HB ⊢
  clear e0 hW1
  go_loopw [10, 5] (fun k x wr => ∃ m y : Nat, m ≤ n ∧ k = .int .i64 m ∧ x = .int .i64 y ∧ y = itF (nxB t n g S) m i ∧ y < n ∧ NoneLt (fun k => decide (itF (nxB t n g S) (k + 1) i = i)) m ∧ Below W1.heap.size W1 wr) (fun k _ _ => n - (intOf k).toNat)
  case atStart => exact ⟨0, i, Nat.zero_le _, rfl, rfl, rfl, hi, NoneLt.zero, Below.refl _ _⟩
  case round =>
    obtain ⟨m, y, hm, rfl, rfl, hy, hyn, hN, hD⟩ := hrel
    have HY := Lib.hid hy
    have HN := Lib.hid hN
    have HD := Lib.hid hD
    clear hy hN hD
    by_cases hlt : m < n
    · have HWl : Hid (∀ q : Later wr, Wis q.to A n t) := Lib.hid (fun q => (H.out.keep (HB.out.trans (HD.out.mono HB.out.size))).keep q.below)
      have HGl : Hid (∀ q : Later wr, Ints q.to G n (fun k => (g k : Int))) := Lib.hid (fun q => (HG.out.keep (HB.out.trans (HD.out.mono HB.out.size))).keep q.below)
      have HXr := Lib.hid (HX.out.keep HD.out)
      have k0 : ∀ q : Later wr, q.to.cell? ⟨w.heap.size, 0, none⟩ = some (.int .i64 n) := fun q => q.cell HXr.out.1
      have k1 : ∀ q : Later wr, q.to.cell? ⟨w.heap.size, 1, none⟩ = some (.slice A n c) := fun q => q.cell HXr.out.2.1
      have k2 : ∀ q : Later wr, q.to.cell? ⟨w.heap.size, 2, none⟩ = some (.slice G n cG) := fun q => q.cell HXr.out.2.2.1
      have k3 : ∀ q : Later wr, q.to.cell? ⟨w.heap.size, 3, none⟩ = some (.int .i64 S) := fun q => q.cell HXr.out.2.2.2
      have HBe := Lib.hid (fun q : Later wr => best_any A n c t y S q.to (HWl.out q) hn hyn (HT.out y hyn).lt (best_ex (HT.out y hyn) HE.out))
      have hbl := (bsB_lt (t := t) (HT.out y hyn) HE.out).1
      have HIx := Lib.hid (fun q : Later wr => Lr.same ((index_any G n cG (fun k => (g k : Int)) ((bsB t n S y : Nat) : Int) q.to (HGl.out q) (by omega)).mono (fun e w' hh => by rw [idx_owF HP.out hbl] at hh; exact hh)))
      have HNx : Hid (nxB t n g S y = owF g n (bsB t n S y)) := Lib.hid rfl
      have hol := (owF_at HP.out hbl).1
      have HNy := Lib.hid ((congrArg (nxB t n g S) HY.out).trans (HI.out m).symm)
      rw [HNx.out] at HNy
      clear hbl HNx
      generalize bsB t n S y = bv at *
      generalize owF g n bv = ov at *
      go_wp2_with fail
      refine wp_region_later (by kernel_rfl) (by kernel_rfl) ?_
      repeat
        (with_reducible refine wpQuiet_step ?_
         intro K hK
         go_simp
         first
           | (refine hK _ ?_; clear hK K)
           | (apply Exists.intro
              refine ⟨fun _ => ?_, hK _ ?_⟩
              (first | (go_at_call 79; exact Lr.later (HBe.out _)) | (go_at_call 29; exact Lr.later (HIx.out _)))
              clear hK K))
      with_reducible refine wpQuiet_nil ?_
      intro _ hw'
      obtain ⟨p2, hw''⟩ := hw'
      subst hw''
      have HD2 := Lib.hid (HD.out.trans (p2.below.mono HD.out.size))
      clear k0 k1 k2 k3
      by_cases hov : ov = i
      · have HR : Hid (anyB (fun k => decide (itF (nxB t n g S) (k + 1) i = i)) n = true) := Lib.hid (anyB_t hlt (by rw [← HNy.out]; simpa using hov))
        have hq := beq_t (a := (ov : Int)) (b := (i : Int)) (by omega)
        have HBq := Lib.hid (HB.out.trans (HD2.out.mono HB.out.size))
        clear hov
        go_wp2
        go_ret
        exact ⟨ret_bool (by rw [HO.out, HR.out]), HBq.out⟩
      · have HR := Lib.hid (HN.out.succ (p := fun k => decide (itF (nxB t n g S) (k + 1) i = i)) (by rw [← HNy.out]; simpa using hov))
        have hq := beq_f (a := (ov : Int)) (b := (i : Int)) (by omega)
        clear hov
        go_wp2
        go_roundw
        case rel => exact ⟨m + 1, ov, by omega, by go_num, rfl, HNy.out, hol, HR.out, HD2.out⟩
        case measure => simp [intOf]; omega
    · obtain rfl : m = n := by omega
      have HBq := Lib.hid (HB.out.trans (HD.out.mono HB.out.size))
      go_wp2
      go_ret
      exact ⟨ret_bool (by rw [HO.out, anyB_f HN.out]), HBq.out⟩
end Go.Proofs.Ytocfbafcplhmiaa
