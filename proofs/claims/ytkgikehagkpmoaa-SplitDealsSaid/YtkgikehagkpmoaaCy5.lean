import Derived.Test.YtkgikehagkpmoaaCy4
namespace Go.Proofs.Ytkgikehagkpmoaa
open Go.RowKit

/-- The first of the shortest cycles. -/
def shC (env : Nat → Nat → Bool) (n : Nat) : Option (List Nat) := fso (fun l => clF env n (l + 2) []) (n - 1)
theorem chain_nil (env : Nat → Nat → Bool) (n : Nat) : Chain env n [] := ⟨(fun x hx => by cases hx), List.nodup_nil, (fun k hk => by simp at hk)⟩
theorem shC_some {env : Nat → Nat → Bool} {n : Nat} {C : List Nat} (h : shC env n = some C) : Cyc env n C ∧ C.length ≤ n := by
  rcases fso_cases (fun l => clF env n (l + 2) []) (n - 1) with ⟨e, -⟩ | ⟨k, a, hk, h1, h2⟩
  · unfold shC at h; rw [e] at h; cases h
  · unfold shC at h
    rw [h2] at h
    injection h with h
    subst h
    obtain ⟨q1, q2, q3⟩ := clF_some (k + 2) [] a (chain_nil env n) h1
    simp only [List.length_nil, Nat.zero_add] at q2
    exact ⟨Cyc.of q1 (by omega) q3, by omega⟩
theorem shC_none {env : Nat → Nat → Bool} {n : Nat} (hirr : ∀ i, env i i = false) (hn : 0 < n) (he : ∀ j, j < n → ∃ i, i < n ∧ env i j = true) (h : shC env n = none) : False := by
  obtain ⟨C, hc, h2, hl, hcl⟩ := cyc_exists hirr he (n + 1 - 1) [0] rfl ⟨(fun x hx => by simp at hx; omega), by simp, (fun k hk => by simp at hk)⟩ (by simp)
  rcases fso_cases (fun l => clF env n (l + 2) []) (n - 1) with ⟨-, e⟩ | ⟨k, a, hk, h1, h3⟩
  · have h1 := e (C.length - 2) (by omega)
    rw [show C.length - 2 + 2 = C.length by omega] at h1
    exact clF_none C.length [] C h1 rfl (by simpa using hc) (by simpa using hcl)
  · unfold shC at h; rw [h3] at h; cases h

set_option maxHeartbeats 1000000 in
set_option maxRecDepth 1000000 in
theorem shortest_any (A D : Option Addr) (n m c c' : Nat) (v : Nat → Nat → Int) (d : Nat → Int) (w : World) (h : Mat w A n m v) (hd : Ints w D m d) (hb : BdM n m v 100000) (hm : m ≤ 9) (hn0 : 0 < n) (hn : n ≤ 9) :
    Calls Try.prog 65 #[.slice A n c, .slice D m c'] w fun e w' => ∃ x, e = .returned x ∧ Below w.heap.size w w' ∧ CycRep w.heap.size w' x (shC (envE m v d) n) := by
  have q := fun (w : World) (a : Option Addr) (n c n' c' : Nat) => run_neq_nil w 23 3 a n c n' c' Try.underlying23
  have H := Lib.hid h
  have HD := Lib.hid hd
  have HB := Lib.hid hb
  obtain ⟨p, hp⟩ : ∃ p : Nat → Option (List Nat), p = fun l => clF (envE m v d) n (l + 2) [] := ⟨_, rfl⟩
  have HSh : Hid (shC (envE m v d) n = fso p (n - 1)) := Lib.hid (by rw [hp]; rfl)
  have HP := Lib.hid hp
  clear h hd hb hp
  go_enter Try.func65, Try.ntmps65
  go_wp2
  go_loopw [5] (fun x wr => ∃ k : Nat, k ≤ n - 1 ∧ x = .int .i64 ((k + 2 : Nat) : Int) ∧ (∀ j, j < k → p j = none) ∧ Below w.heap.size w wr) (fun x _ => n + 3 - (intOf x).toNat)
  case atStart => exact ⟨0, Nat.zero_le _, rfl, fun j hj => absurd hj (by omega), Below.refl _ _⟩
  case round =>
    obtain ⟨k, hk, rfl, hno, hbel⟩ := hrel
    have HNo := Lib.hid hno
    have Hbel := Lib.hid hbel
    obtain ⟨l, hl⟩ : ∃ l, l = k + 2 := ⟨_, rfl⟩
    rw [← hl]
    have HL := Lib.hid hl
    by_cases hlt : k < n - 1
    · have hln : (l : Int) ≤ n := by omega
      have hl1 : l ≤ 10 := by omega
      have hcall := closeCycle_any A D n m c c' l v d HB.out hm hn (by omega) (by omega) w.heap.size l [] none 0 0 wr rfl (by simp) (fun x hx => by cases hx) (H.out.keep Hbel.out) (HD.out.keep Hbel.out) Ints.zero Hbel.out.size (fun b o e => by cases e)
      have HCall := Lib.hid hcall
      have HPk : Hid (p k = clF (envE m v d) n l []) := Lib.hid (by rw [HP.out, HL.out])
      clear hcall hno hbel hl
      go_wp2_with fail
      refine HCall.out.mono ?_
      rintro e w2 ⟨x, rfl, hb2, hrep⟩
      have Hb2 := Lib.hid (Hbel.out.trans (hb2.mono Hbel.out.size))
      clear hb2
      cases hcl : clF (envE m v d) n l [] with
      | none =>
        rw [hcl] at hrep
        obtain rfl : x = .slice none 0 0 := hrep
        have HN2 : Hid (∀ j, j < k + 1 → p j = none) := Lib.hid (fun j hj => by
          rcases Nat.lt_or_ge j k with h | h
          · exact HNo.out j h
          · obtain rfl : j = k := by omega
            exact HPk.out.trans hcl)
        clear hcl
        go_wp2
        go_roundw
        case rel => exact ⟨k + 1, by omega, by rw [HL.out]; go_num, HN2.out, Hb2.out⟩
        case measure => simp [intOf]; omega
      | some C =>
        rw [hcl] at hrep
        obtain ⟨b5, o5, c5, rfl, hI5, hB5⟩ := hrep
        have HE : Hid (shC (envE m v d) n = some C) := Lib.hid (by
          rw [HSh.out]
          exact fso_some HNo.out (HPk.out.trans hcl) (n - 1) hlt)
        have HI5 := Lib.hid hI5
        clear hcl hI5
        go_wp2
        go_ret
        exact ⟨_, rfl, Hb2.out, by
          rw [HE.out]
          exact ⟨b5, o5, c5, rfl, HI5.out, hB5⟩⟩
    · have hln : ¬ (l : Int) ≤ n := by omega
      have HE : Hid (shC (envE m v d) n = none) := Lib.hid (by
        rw [HSh.out, show n - 1 = k by omega]
        exact fso_none HNo.out)
      clear hno hbel hl
      go_wp2
      go_ret
      exact ⟨_, rfl, Hbel.out, by
        rw [HE.out]
        rfl⟩

set_option maxHeartbeats 1000000 in
set_option maxRecDepth 1000000 in
theorem resolve_any (gd m cd b o c : Nat) (C : List Nat) (D : Nat → Int) (w : World) (hR : RowI w gd m D) (hC : Ints w (some ⟨b, o, none⟩) C.length (fL C)) (hne : b ≠ gd) (hl0 : 0 < C.length) (hl : C.length ≤ 9) (hm : m ≤ 9) :
    Calls Try.prog 64 #[.slice (some ⟨gd, 0, none⟩) m cd, .slice (some ⟨b, o, none⟩) C.length c] w fun e w' => e = .returned (.tuple #[]) ∧ RowI w' gd m (resF C D) ∧ Exc gd w w' := by
  obtain ⟨L, hL⟩ : ∃ L, L = C.length := ⟨_, rfl⟩
  rw [← hL] at hC hl0 hl ⊢
  have HC := Lib.hid hC
  have HL := Lib.hid hL
  have hR0 : RowI w gd m (fun g => if g < 0 then resF C D g else D g) := hR.congr fun g _ => by rw [if_neg (by omega)]
  have HR0 := Lib.hid hR0
  clear hR hC hL hR0
  go_enter Try.func64, Try.ntmps64
  go_wp2
  go_loopw [9] (fun x wr => ∃ k : Nat, k ≤ m ∧ x = .int .i64 k ∧ RowI wr gd m (fun g => if g < k then resF C D g else D g) ∧ Exc gd w wr) (fun x _ => m - (intOf x).toNat)
  case atStart => exact ⟨0, Nat.zero_le _, rfl, HR0.out, Exc.refl _ _⟩
  case round =>
    obtain ⟨k, hk, rfl, hR, hE⟩ := hrel
    by_cases hlt : k < m
    · have hIC : Ints wr (some ⟨b, o, none⟩) L (fL C) := fun hp => ⟨b, o, rfl, fun j hj => hE.cell (HC.out.cell hj) hne⟩
      have hck := hR.cell hlt
      have hfz := hR.frozen k
      rw [if_neg (by omega)] at hck
      have HIC := Lib.hid hIC
      have HR := Lib.hid hR
      have HE := Lib.hid hE
      clear hIC hR hE
      go_wp2_with fail
      refine (index_any _ L c (fL C) (D k) _ HIC.out (by omega)).mono ?_
      rintro e w2 ⟨rfl, rfl⟩
      rcases idxI_cases (fL C) (D k) L with ⟨hx, -⟩ | ⟨a, ha, hx, -, -⟩
      · have HK : Hid (resF C D k = D k) := Lib.hid (by unfold resF prevI; rw [← HL.out, if_pos hx])
        rw [hx]
        clear hx
        go_wp2
        go_roundw
        case rel =>
          refine ⟨k + 1, by omega, by go_num, HR.out.congr (fun g hg => ?_), HE.out⟩
          by_cases e1 : g < k
          · rw [if_pos e1, if_pos (by omega)]
          · by_cases e2 : g = k
            · subst e2
              rw [if_neg (by omega), if_pos (by omega), HK.out]
            · rw [if_neg e1, if_neg (by omega)]
        case measure => simp [intOf]; omega
      · have HK : Hid (resF C D k = fL C (prv L a)) := Lib.hid (by unfold resF prevI; rw [← HL.out, hx, if_neg (by omega), Int.toNat_natCast])
        rw [hx]
        have hpl := prv_lt ha
        have hpc := HIC.out.cell hpl
        have t1 : ((a : Int) + (L : Int) - 1).tmod (L : Int) = ((prv L a : Nat) : Int) := by
          have h := Int.tmod_eq_emod_of_nonneg (a := (a : Int) + (L : Int) - 1) (b := (L : Int)) (by omega)
          rw [h, show (a : Int) + (L : Int) - 1 = ((a + L - 1 : Nat) : Int) by omega, ← Int.natCast_emod, prv_mod ha]
        have HPrv : Hid (fL C (prv L a) = fL C (prv L a)) := Lib.hid rfl
        generalize prv L a = pa at *
        generalize fL C pa = y at *
        have u0 : (0 : Int) ≤ (a : Int) := by omega
        have u1 : (0 : Int) ≤ (pa : Int) := by omega
        have u2 : (pa : Int) < L := by omega
        clear hx
        go_wp2
        go_roundw
        case rel =>
          refine ⟨k + 1, by omega, by go_num, (HR.out.set k y).congr (fun g hg => ?_), HE.out.set k _⟩
          simp only [upd]
          by_cases e2 : g = k
          · subst e2
            rw [if_pos rfl, if_pos (by omega), HK.out]
          · rw [if_neg e2]
            by_cases e1 : g < k
            · rw [if_pos e1, if_pos (by omega)]
            · rw [if_neg e1, if_neg (by omega)]
        case measure => simp [intOf]; omega
    · obtain rfl : m = k := by omega
      have HR := Lib.hid (hR.congr (f' := resF C D) fun g hg => by rw [if_pos hg])
      have HE := Lib.hid hE
      clear hR hE
      go_wp2
      go_returns
      exact ⟨rfl, HR.out, HE.out⟩
end Go.Proofs.Ytkgikehagkpmoaa
