/- SwapGiven: Given, the program's and the reference's; the law, walked. -/
import Derived.Test.YtocfbafcplhmiaaUta
import Derived.Test.YtocfbafcplhmiaaUf
import Derived.Test.YtocfbafcplhmiaaUzd
import Derived.Test.YtocfbafcplhmiaaUtc
import Derived.Test.YtocfbafcplhmiaaUtd
import Derived.Test.YtocfbafcplhmiaaUk
import Derived.Test.YtocfbafcplhmiaaUte
namespace Go.Proofs.Ytocfbafcplhmiaa
open Go.RowKit Go.Sort
attribute [local go_sem] Oper.semAt_some

set_option maxHeartbeats 2000000 in
set_option maxRecDepth 1000000 in
theorem given1_any (A : Option Addr) (n c : Nat) (t : Nat → Nat → Nat) (G : Option Addr) (cG : Nat) (g : Nat → Nat) (gp : Nat) (w : World) (h : Wis w A n t) (hG : Ints w G n (fun k => (g k : Int))) (hp : Bx2 w gp (.int .i64 n) (.slice A n c)) (hn : n ≤ 5) (ht : ∀ i, i < n → Pm n (t i)) (hg : Pm n g) :
    Calls Try.prog 67 #[.slice G n cG, .pointer (some ⟨gp, 0, none⟩)] w fun e w' => ∃ B, e = .returned (.slice (some ⟨B, 0, none⟩) n n) ∧ w.heap.size ≤ B ∧ RowI w' B n (fun p => (trF t n (owF g n) p : Int)) ∧ Below w.heap.size w w' := by
  have HO := Lib.hid (owning_any A n c G cG hn w)
  have HT := Lib.hid (fun w' (hb : Below w.heap.size w w') => trade_any A n c t G cG g w' (h.keep hb) (hG.keep hb) hn ht hg)
  have e0 := hp.1
  have e1 := hp.2
  clear h hG ht hg hp
  go_enter Try.func67, Try.ntmps67
  go_wp2_with fail
  refine HO.out.use fun w1 hb1 => ?_
  have HT1 := Lib.hid (HT.out w1 hb1)
  have HB1 := Lib.hid hb1
  have hs1 := hb1.size
  clear HT hb1
  go_wp2_with fail
  refine HT1.out.mono ?_
  rintro e w2 ⟨B1, B2, rfl, hB1, hB2, hne, hR1, hR2, hb2⟩
  have HR1 := Lib.hid hR1
  have HB2 := Lib.hid (HB1.out.trans (hb2.mono hs1))
  clear hR1 hR2 hb2
  go_wp2
  go_ret
  exact ⟨B1, rfl, by omega, HR1.out, HB2.out⟩

set_option maxHeartbeats 8000000 in
set_option maxRecDepth 1000000 in
theorem tally_given (A : Option Addr) (n c : Nat) (t : Nat → Nat → Nat) (w : World) (hw : Wis w A n t) (hn1 : 1 ≤ n) (hn : n ≤ 5) (ht : ∀ i, i < n → Pm n (t i)) (gp : Nat) (hgp : Bx2 w gp (.int .i64 n) (.slice A n c)) :
    Calls Try.prog 65 #[.agg #[.int .i64 n, .slice A n c], .func (.func 67) #[] #[.pointer (some ⟨gp, 0, none⟩)]] w fun e w' => e = .returned (.slice (some ⟨w.heap.size + 2, 0, none⟩) n n) ∧ MatI w' (w.heap.size + 2) (w.heap.size + 4) n (cnU (fun x => trF t n (owF (rN x) n)) (ordL (List.range n) n [])) ∧ Below w.heap.size w w' := by
  have HW := Lib.hid hw
  have HT := Lib.hid ht
  have hN : (ordL (List.range n) n []).length ≤ 3125 := ordL_lenT n hn
  have HN := Lib.hid hN
  have HGp := Lib.hid hgp
  clear hw ht hN hgp
  refine (callsIn_wide (n := 3)).1 (callsIn_of_wp_marks Try.func65 rfl trivial ?_ rfl)
  simp only [Try.ntmps65, List.size_toArray, List.length_cons, List.length_nil, Nat.reduceAdd, Nat.reduceSub, Array.replicate_succ, Array.replicate_zero, List.push_toArray, List.append_toArray, List.nil_append, List.cons_append]
  rw [wpIn_wide]
  obtain ⟨X1, hX1⟩ : ∃ X1, X1 = w.alloc (.cells #[.int .i64 n, .slice A n c] 50) := ⟨_, rfl⟩
  obtain ⟨X2, hX2⟩ : ∃ X2, X2 = X1.alloc (.cells #[.func (.func 67) #[] #[.pointer (some ⟨gp, 0, none⟩)]] 32) := ⟨_, rfl⟩
  have r0 := box2_at w (.int .i64 n) (.slice A n c) 50
  have b1 := box_bel w (.cells #[.int .i64 n, .slice A n c] 50)
  have s1 : X1.heap.size = w.heap.size + 1 := by rw [hX1]; simp
  rw [← hX1] at r0 b1
  have r1 := box1_at X1 (.func (.func 67) #[] #[.pointer (some ⟨gp, 0, none⟩)]) 32
  have b2 := box_bel X1 (.cells #[.func (.func 67) #[] #[.pointer (some ⟨gp, 0, none⟩)]] 32)
  have s2 : X2.heap.size = w.heap.size + 2 := by rw [hX2]; simp [s1]
  rw [← hX2, s1] at r1
  rw [← hX2] at b2
  have hmk := mk_rowsU n (by omega) X2
  have r2 : (X2.alloc (.cells (madeCells #[.slice none 0 0] n) 23)).rowIs X2.heap.size 23 n (fun _ => .slice none 0 0) := World.rowIs_made X2 _ n _
  have b3 := box_bel X2 (.cells (madeCells #[.slice none 0 0] n) 23)
  obtain ⟨X3, hX3⟩ : ∃ X3, X3 = X2.alloc (.cells (madeCells #[.slice none 0 0] n) 23) := ⟨_, rfl⟩
  have s3 : X3.heap.size = w.heap.size + 3 := by rw [hX3]; simp [s2]
  rw [← hX3] at r2 b3 hmk
  rw [s2] at r2 hmk
  have r3 := box1_at X3 (.slice (some ⟨w.heap.size + 2, 0, none⟩) n n) 22
  have b4 := box_bel X3 (.cells #[.slice (some ⟨w.heap.size + 2, 0, none⟩) n n] 22)
  have s4 : (X3.alloc (.cells #[.slice (some ⟨w.heap.size + 2, 0, none⟩) n n] 22)).heap.size = w.heap.size + 4 := by simp [s3]
  rw [s3] at r3
  have b34 := b3.trans (b4.mono (by omega))
  have b24 := b2.trans (b34.mono (by omega))
  have HB4 := Lib.hid (b1.trans (b24.mono (by omega)))
  have HX4 := Lib.hid (r0.keep b24)
  have HF4 := Lib.hid (cell_on r1 b34)
  have HC4 := Lib.hid r3
  have HR4 := Lib.hid (World.rowIs.of_block r2 (b4.block _ (World.rowIs.lt r2)))
  have x2 := (r0.keep b2).1
  have HE2 := Lib.hid hX2
  have HE3 := Lib.hid hX3
  have HE1 := Lib.hid hX1
  rw [hX2, hX1] at hmk x2
  rw [hX3, hX2, hX1] at hmk
  have HS4 := Lib.hid s4
  clear r0 r1 r2 r3 b1 b2 b3 b4 b34 b24 s1 s2 s3 s4 hX1 hX2 hX3
  go_wp2_with fail
  rw [← HE1.out, ← HE2.out, ← HE3.out]
  clear hmk x2 HE1 HE2 HE3
  obtain ⟨X4, hX4⟩ : ∃ X4, X4 = X3.alloc (.cells #[.slice (some ⟨w.heap.size + 2, 0, none⟩) n n] 22) := ⟨_, rfl⟩
  rw [← hX4] at HB4 HX4 HF4 HC4 HR4 HS4 ⊢
  clear hX4
  have HRw : Hid ((X4.rowIs (w.heap.size + 2) 23 n (fun i => if i < 0 then .slice (some ⟨w.heap.size + 4 + i, 0, none⟩) n n else .slice none 0 0))) := Lib.hid (World.rowIs.congr HR4.out (fun i _ => by simp))
  go_loopw [15] (fun i wr => ∃ k : Nat, k ≤ n ∧ i = .int .i64 k ∧ wr.rowIs (w.heap.size + 2) 23 n (fun i => if i < k then .slice (some ⟨w.heap.size + 4 + i, 0, none⟩) n n else .slice none 0 0) ∧ (∀ i, i < k → RowI wr (w.heap.size + 4 + i) n (fun _ => 0)) ∧ wr.heap.size = w.heap.size + 4 + k ∧ Exc (w.heap.size + 2) X4 wr) (fun i _ => n - (intOf i).toNat)
  case atStart => exact ⟨0, Nat.zero_le _, rfl, HRw.out, fun i hi => absurd hi (by omega), by rw [HS4.out], Exc.refl _ _⟩
  case round =>
    obtain ⟨k, hk, rfl, hr, hrs, hsz, hE⟩ := hrel
    have HR := Lib.hid hr
    have HRs := Lib.hid hrs
    have HE := Lib.hid hE
    have HSz := Lib.hid hsz
    have hc5 := hE.cell HC4.out (by show w.heap.size + 3 ≠ _; omega)
    have hc5t : wr.cell? ⟨w.heap.size + 1 + 1 + 1, 0, none⟩ = some (.slice (some ⟨w.heap.size + 2, 0, none⟩) n n) := hc5
    have hx := hE.cell HX4.out.1 (by show w.heap.size ≠ _; omega)
    clear hr hrs hE hsz HRw
    by_cases hlt : k < n
    · have hc5a : ∀ o : Obj, (wr.alloc o).cell? ⟨w.heap.size + 1 + 1 + 1, 0, none⟩ = some (.slice (some ⟨w.heap.size + 2, 0, none⟩) n n) := fun o => cell_on hc5t (box_bel _ _)
      have hxa : ∀ o : Obj, (wr.alloc o).cell? ⟨w.heap.size, 0, none⟩ = some (.int .i64 n) := fun o => cell_on hx (box_bel _ _)
      have hmk := mk_ints n (by omega)
      have hrc : ∀ o : Obj, (wr.alloc o).cell? ⟨w.heap.size + 2, k, none⟩ = some (.slice none 0 0) := fun o => cell_on (by have := World.rowIs.cell HR.out hlt; rw [if_neg (Nat.lt_irrefl k)] at this; exact this) (box_bel _ _)
      have hrz : ∀ o : Obj, (wr.alloc o).frozen? ⟨w.heap.size + 2, k, none⟩ = false := fun o => (World.frozen?_of_block ((box_bel wr o).block _ (World.rowIs.lt HR.out))).trans (World.rowIs.frozen HR.out k)
      have HNew := Lib.hid (RowI.made wr n)
      go_wp2
      go_region
      all_goals
        go_wp2
        go_roundw
        case rel =>
          have hb := box_bel wr (.cells (madeCells #[.int .i64 0] n) 3)
          have hs2 : (wr.alloc (.cells (madeCells #[.int .i64 0] n) 3)).heap.size = w.heap.size + 4 + k + 1 := by rw [World.size_alloc, HSz.out]
          have e1 : Exc (w.heap.size + 2) (wr.alloc (.cells (madeCells #[.int .i64 0] n) 3)) ((wr.alloc (.cells (madeCells #[.int .i64 0] n) 3)).setCell ⟨w.heap.size + 2, k, none⟩ (.slice (some ⟨wr.heap.size, 0, none⟩) n n)) := (Exc.refl _ _).set k _
          have q1 := World.rowIs.set (World.rowIs.of_block HR.out (hb.block _ (World.rowIs.lt HR.out))) k (.slice (some ⟨wr.heap.size, 0, none⟩) n n)
          have q2 : ∀ i, i < k + 1 → RowI ((wr.alloc (.cells (madeCells #[.int .i64 0] n) 3)).setCell ⟨w.heap.size + 2, k, none⟩ (.slice (some ⟨wr.heap.size, 0, none⟩) n n)) (w.heap.size + 4 + i) n (fun _ => 0) := fun i hi => by
            by_cases e : i = k
            · have hh : w.heap.size + 4 + k = wr.heap.size := HSz.out.symm
              rw [e, hh]
              exact e1.row HNew.out (by rw [HSz.out]; omega)
            · exact e1.row ((HRs.out i (by omega)).keep hb) (by omega)
          have q3 : World.rowIs ((wr.alloc (.cells (madeCells #[.int .i64 0] n) 3)).setCell ⟨w.heap.size + 2, k, none⟩ (.slice (some ⟨wr.heap.size, 0, none⟩) n n)) (w.heap.size + 2) 23 n (fun i => if i < k + 1 then .slice (some ⟨w.heap.size + 4 + i, 0, none⟩) n n else .slice none 0 0) := World.rowIs.congr q1 (fun i _ => by
            by_cases e : i = k
            · rw [if_pos e, if_pos (by omega), HSz.out, e]
            · rw [if_neg e]
              by_cases e2 : i < k
              · rw [if_pos e2, if_pos (by omega)]
              · rw [if_neg e2, if_neg (by omega)])
          have q4 := (HE.out.trans (Exc.of_below hb)).trans e1
          exact ⟨k + 1, by omega, by go_num, q3, q2, by simp [HSz.out]; omega, by first | exact q4 | exact q4.drew⟩
        case measure => simp [intOf]; omega
    · obtain rfl : k = n := by omega
      have hmat : MatI wr (w.heap.size + 2) (w.heap.size + 4) k (cnU (fun x => trF t k (owF (rN x) k)) []) := ⟨World.rowIs.congr HR.out (fun i hi => by rw [if_pos hi]), fun i hi => (HRs.out i hi).congr (fun j _ => rfl)⟩
      have hbel : Below w.heap.size w wr := HB4.out.trans (HE.out.below (by omega) (by have := HS4.out; omega))
      have HI0 : Hid (TaI w A k c (.func (.func 67) #[] #[.pointer (some ⟨gp, 0, none⟩)]) (fun x => trF t k (owF (rN x) k)) [] wr) := Lib.hid ⟨⟨hx, HE.out.cell HX4.out.2 (by show w.heap.size ≠ _; omega)⟩, HE.out.cell HF4.out (by show w.heap.size + 1 ≠ _; omega), hc5, hmat, hbel⟩
      have hs6' := HSz.out
      clear hmat hbel HR HRs HE HSz hc5 HB4 HX4 HF4 HC4 HR4 HS4
      go_wp2_with fail
      refine (orders_any k wr).mono ?_
      rintro e w6 ⟨rfl, hcs, hb6⟩
      have HI6 := Lib.hid (HI0.out.below hb6)
      have hs6 : wr.heap.size < w6.heap.size := cell_lt hcs
      rw [hs6'] at hcs hs6 ⊢
      clear hb6 HI0 hx hc5t hs6'
      go_wp2_with fail
      rw [← wpIn_wide (n := 3)]
      refine wpIn_rangeRows (F := Fence.wide) (n := 3) (gf := 81) (lb := #[.pointer (some ⟨w.heap.size + 4 + k, 0, none⟩)]) (B := w6.heap.size + 2 + 1) (m := k) (Kb := fun b => ¬ (w.heap.size + 4 ≤ b ∧ b < w.heap.size + 4 + k)) (L := ordL (List.range k) k [])
        rfl (by omega) rfl trivial (enters_of Try.func81 (by kernel_rfl) rfl) (fun b hb => by omega) ?seq rfl
        (TaI w A k c (.func (.func 67) #[] #[.pointer (some ⟨gp, 0, none⟩)]) (fun x => trF t k (owF (rN x) k))) (fun _ _ _ => False)
        (fun s W1 W2 b hb hi he => hi.exc he (by omega)) (fun _ _ _ _ h _ => h.elim) (by omega) HI6.out
        ?act ?assign ?body ?done (fun _ _ _ _ _ h _ => h.elim)
      case seq =>
        intro W hW hWb
        have := orders1_rows k (by omega) (w.heap.size + 4 + k) (w6.heap.size + 1) (3 - 1) (fun b => ¬ (w.heap.size + 4 ≤ b ∧ b < w.heap.size + 4 + k)) W (cell_of_block (hWb _ hs6) hcs) (by omega) ⟨by omega, by omega⟩ (fun b hb => by omega)
        rw [hW] at this
        exact this
      case assign =>
        intro W K hK
        gi_wp2
        exact hK
      case body =>
        intro pre x W hI hL hrow
        have hmem : x ∈ ordL (List.range k) k [] := by
          obtain ⟨r, hr⟩ := hL
          rw [hr]
          simp
        have hlen : pre.length ≤ 3125 := by
          obtain ⟨r, hr⟩ := hL
          have := HN.out
          rw [hr, List.length_append] at this
          omega
        have hpm := (pm_of_mem hmem).2
        have hri : Ints W (some ⟨w6.heap.size + 2 + 1, 0, none⟩) k (fun q => (rN x q : Int)) := hrow.ints
        have cf := hI.fun_
        have HFl := Lib.hid (trF_pm ⟨HT.out, owF_pm hpm⟩).lt
        have HCh := Lib.hid (given1_any A k c t (some ⟨w6.heap.size + 2 + 1, 0, none⟩) k (rN x) gp W (HW.out.keep hI.bel) hri (HGp.out.keep hI.bel) hn HT.out hpm)
        have HIn := Lib.hid hI
        have hcl : ∀ i j, cnU (fun x => trF t k (owF (rN x) k)) pre i j ≤ 3125 := fun i j => Nat.le_trans (cnU_le _ _ _ _) hlen
        have HCl := Lib.hid hcl
        have HSn := Lib.hid (fun i j => cnU_snoc (fun x => trF t k (owF (rN x) k)) pre x i j)
        have hsW := hrow.lt
        clear hI hL hrow hmem hlen hri hcl HI6
        gi_wp2
        refine ⟨trivial, ?_⟩
        refine CallsIn.mono (CallsIn.inRound _ (callsIn_wide.2 HCh.out)) ?_
        rintro e W4 ⟨B4, rfl, hB4, hR4, hb4⟩
        have HI4 := Lib.hid (HIn.out.below hb4)
        have HR4 := Lib.hid hR4
        have HB4' : Hid (w.heap.size + 4 + k < B4) := Lib.hid (by omega)
        have hB4s := hR4.lt
        have HBd := Lib.hid hb4
        clear hR4 hb4 HCh cf
        generalize hfo : (trF t k (owF (rN x) k)) = fo at *
        have HFo := Lib.hid hfo
        clear hfo
        gi_wp2
        gi_loopw [33] (fun i wx => ∃ q : Nat, q ≤ k ∧ i = .int .i64 q ∧ MatI wx (w.heap.size + 2) (w.heap.size + 4) k (fun a b => cnU (fun x => trF t k (owF (rN x) k)) pre a b + if a < q ∧ fo a = b then 1 else 0) ∧ wx.heap.size = W4.heap.size ∧ (∀ b, ¬ (w.heap.size + 4 ≤ b ∧ b < w.heap.size + 4 + k) → b < W4.heap.size → wx.heap[b]? = W4.heap[b]?) ∧ Below w.heap.size w wx) (fun i _ => k - (intOf i).toNat)
        case atStart => exact ⟨0, Nat.zero_le _, rfl, HI4.out.mat.congr (fun a b _ _ => by simp), rfl, fun _ _ _ => rfl, HI4.out.bel⟩
        case round =>
          obtain ⟨q, hq, rfl, hm, hsz, hbl, hbe⟩ := hrel
          have HM := Lib.hid hm
          have HSz := Lib.hid hsz
          have HBl := Lib.hid hbl
          have HBe := Lib.hid hbe
          clear hm hsz hbl hbe
          have hct : wr.cell? ⟨w.heap.size + 1 + 1 + 1, 0, none⟩ = some (.slice (some ⟨w.heap.size + 2, 0, none⟩) k k) := cell_of_block (HBl.out _ (by show ¬ (w.heap.size + 4 ≤ w.heap.size + 3 ∧ _); omega) (cell_lt HI4.out.cnt)) HI4.out.cnt
          by_cases hqn : q < k
          · have hfq := HFl.out q hqn
            have hr := RowI.cell (World.rowIs.of_block HR4.out (HBl.out B4 (by have := HB4'.out; omega) hB4s)) hqn
            have hm1 := World.rowIs.cell HM.out.rows hqn
            have hm2 := (HM.out.row q hqn).cell hfq
            have hz2 := (HM.out.row q hqn).frozen (fo q)
            rw [if_neg (fun h => Nat.lt_irrefl q h.1), Nat.add_zero] at hm2
            have hcb := HCl.out q (fo q)
            have HSet := Lib.hid (HM.out.set hqn (by omega) (fo q) (cnU (fun x => trF t k (owF (rN x) k)) pre q (fo q) + 1))
            have HE2 : Hid (Exc (w.heap.size + 4 + q) wr (wr.setCell ⟨w.heap.size + 4 + q, fo q, none⟩ (.int .i64 ((cnU (fun x => trF t k (owF (rN x) k)) pre q (fo q) + 1 : Nat) : Int)))) := Lib.hid ((Exc.refl _ _).set _ _)
            gi_wp2
            refine ⟨⟨q + 1, by omega, by go_num, HSet.out.congr (fun a b ha hb => ?_), ?_, fun b h1 h2 => ?_, HBe.out.trans (HE2.out.below (by omega) HBe.out.size)⟩, by simp [intOf]; omega⟩
            · by_cases e : a = q ∧ b = fo q
              · obtain ⟨rfl, rfl⟩ := e
                rw [if_pos ⟨rfl, rfl⟩, if_pos ⟨by omega, rfl⟩]
              · rw [if_neg e]
                congr 1
                by_cases e2 : a < q ∧ fo a = b
                · rw [if_pos e2, if_pos ⟨by omega, e2.2⟩]
                · rw [if_neg e2, if_neg]
                  rintro ⟨h1, h2⟩
                  by_cases e3 : a = q
                  · exact e ⟨e3, by rw [← h2, e3]⟩
                  · exact e2 ⟨by omega, h2⟩
            · rw [World.size_setCell]; exact HSz.out
            · exact (HE2.out.block b (by rw [HSz.out]; exact h2) (fun e => by injection e with e; omega)).trans (HBl.out b h1 h2)
          · obtain rfl : q = k := by omega
            have hI5 : TaI w A q c (.func (.func 67) #[] #[.pointer (some ⟨gp, 0, none⟩)]) (fun x => trF t q (owF (rN x) q)) (pre ++ [x]) wr := ⟨⟨cell_of_block (HBl.out _ (by show ¬ (w.heap.size + 4 ≤ w.heap.size ∧ _); omega) (cell_lt HI4.out.wish.1)) HI4.out.wish.1, cell_of_block (HBl.out _ (by show ¬ (w.heap.size + 4 ≤ w.heap.size ∧ _); omega) (cell_lt HI4.out.wish.2)) HI4.out.wish.2⟩, cell_of_block (HBl.out _ (by show ¬ (w.heap.size + 4 ≤ w.heap.size + 1 ∧ _); omega) (cell_lt HI4.out.fun_)) HI4.out.fun_, cell_of_block (HBl.out _ (by show ¬ (w.heap.size + 4 ≤ w.heap.size + 3 ∧ _); omega) (cell_lt HI4.out.cnt)) HI4.out.cnt, HM.out.congr (fun a b ha _ => by
              rw [HSn.out a b, ← HFo.out]
              by_cases e : (trF t q (owF (rN x) q)) a = b
              · rw [if_pos ⟨ha, e⟩, if_pos e]
              · rw [if_neg (fun h => e h.2), if_neg e]), HBe.out⟩
            have HI5 := Lib.hid hI5
            clear hI5
            gi_wp2
            exact ⟨⟨by rw [HSz.out]; exact HBd.out.size, fun b h1 h2 => (HBl.out b h1 (by have := HBd.out.size; omega)).trans (HBd.out.block b h2)⟩, HI5.out⟩
      case done =>
        intro D W hD hI hk
        have hct : W.cell? ⟨w.heap.size + 1 + 1 + 1, 0, none⟩ = some (.slice (some ⟨w.heap.size + 2, 0, none⟩) k k) := hI.cnt
        have HIn := Lib.hid hI
        have HK2 := Lib.hid hk
        clear hI hk
        go_wp2
        refine ⟨by simp, .inl ⟨_, _, rfl, run_takeDeferred HK2.out, ?_⟩⟩
        have e3 := exc_putObj W D (.deferred none)
        have hI3 := HIn.out.exc e3 (by omega)
        exact ⟨.slice (some ⟨w.heap.size + 2, 0, none⟩) k k, by simp [results, Try.results65, go_sem], rfl, hI3.mat, hI3.bel⟩
end Go.Proofs.Ytocfbafcplhmiaa
namespace Go.Proofs.Ytocfbafcplhmiaa
open Go.RowKit

/-- In how many cases of trading someone gets a thing. -/
def giN (t : Nat → Nat → Nat) (n : Nat) : Nat → Nat → Nat := cnU (fun x => trF t n (owF (rN x) n)) (ordL (List.range n) n [])
set_option maxHeartbeats 1000000 in
set_option maxRecDepth 1000000 in
theorem Given_bad (A : Option Addr) (n c : Nat) (L : Nat → Nat) (v : Nat → Nat → Int) (w : World) (h : RowsK w A n L v) (hn : n ≤ 1000) (hL : ∀ i, i < n → L i ≤ 1000) (hok : okS n L v = false) :
    Lr 36 #[.slice A n c] w (.tuple #[.slice none 0 0, .int .i64 2]) := by
  unfold Lr
  have HRd := Lib.hid (read_any A n c L v w h hn hL)
  rw [hok] at HRd
  clear h hL hok
  go_enter Try.func36, Try.ntmps36
  go_wp2_with fail
  refine HRd.out.use fun w1 hb1 => ?_
  have HB := Lib.hid (hb1.trans ((box_bel w1 (.cells #[.int .i64 0, .slice none 0 0] 50)).mono hb1.size))
  clear hb1 HRd
  unfold rdV
  simp only [Bool.false_eq_true, if_false]
  go_wp2
  go_ret2
  exact ⟨rfl, HB.out⟩
set_option maxHeartbeats 2000000 in
set_option maxRecDepth 1000000 in
theorem Given_ok (A : Option Addr) (n c : Nat) (t : Nat → Nat → Nat) (w : World) (h : Wis w A n t) (hn1 : 1 ≤ n) (hn : n ≤ 5) (ht : ∀ i, i < n → Pm n (t i)) :
    Calls Try.prog 36 #[.slice A n c] w fun e w' => ∃ B, e = .returned (.tuple #[.slice (some ⟨B, 0, none⟩) n n, .int .i64 0]) ∧ w.heap.size ≤ B ∧ MatI w' B (B + 2) n (giN t n) ∧ Below w.heap.size w w' := by
  have H0 := Lib.hid h
  have HT := Lib.hid ht
  have HRd := Lib.hid (read_any A n c (fun _ => n) (fun i k => (t i k : Int)) w h (by omega) (fun _ _ => by omega))
  have hok : okS n (fun _ => n) (fun i k => (t i k : Int)) = true := okS_iff.2 ⟨⟨hn1, hn⟩, fun i hi => ⟨rfl, (ht i hi).ord⟩⟩
  rw [hok] at HRd
  have HU : Hid (giN t n = cnU (fun x => trF t n (owF (rN x) n)) (ordL (List.range n) n [])) := Lib.hid rfl
  clear h ht hok
  go_enter Try.func36, Try.ntmps36
  go_wp2_with fail
  refine HRd.out.use fun w1 hb1 => ?_
  have hbx := box2_at w1 (.int .i64 n) (.slice A n c) 50
  have hbb := hb1.trans ((box_bel w1 (.cells #[.int .i64 n, .slice A n c] 50)).mono hb1.size)
  have hgw := hb1.size
  have HB := Lib.hid hbb
  have HTa := Lib.hid (tally_given A n c t (w1.alloc (.cells #[.int .i64 n, .slice A n c] 50)) (H0.out.keep hbb) hn1 hn HT.out w1.heap.size hbx)
  rw [← HU.out] at HTa
  have e0 := hbx.1
  have e1 := hbx.2
  have hsz := hbb.size
  clear hbb hbx hb1 HRd H0 HT HU
  unfold rdV
  simp only [if_true]
  go_wp2_with fail
  generalize w1.alloc (.cells #[.int .i64 n, .slice A n c] 50) = X at *
  refine HTa.out.mono ?_
  rintro e w3 ⟨rfl, hm, hb3⟩
  have HM := Lib.hid hm
  have HB3 := Lib.hid (HB.out.trans (hb3.mono hsz))
  clear hm hb3 HTa
  go_wp2
  go_ret2
  exact ⟨_, rfl, by omega, HM.out, HB3.out⟩
section
variable {n k cA : Nat} {L : Nat → Nat} {v : Nat → Nat → Int} {A : Option Addr} {w : World}
theorem GivenF (h : RowsK w A k (fun i => min (L i) 7) v) (hk : k = min n 7) (hok : okS n L v = true) :
    Calls Try.prog 36 #[.slice A k cA] w fun e w' => ∃ B, e = .returned (.tuple #[.slice (some ⟨B, 0, none⟩) n n, .int .i64 0]) ∧ w.heap.size ≤ B ∧ MatI w' B (B + 2) n (giN (tO v) n) ∧ Below w.heap.size w w' := by
  obtain ⟨rfl, hw⟩ := h.wis hk hok
  obtain ⟨h1, h2, h3, h4⟩ := okS_pm hok
  exact Given_ok A k cA (tO v) w hw h1.1 h1.2 h3
theorem GivenFbad (h : RowsK w A k (fun i => min (L i) 7) v) (hk : k = min n 7) (hok : okS n L v = false) :
    Lr 36 #[.slice A k cA] w (.tuple #[.slice none 0 0, .int .i64 2]) := by
  subst hk
  exact Given_bad A (min n 7) cA (fun i => min (L i) 7) v w h (by omega) (fun i hi => by show min (L i) 7 ≤ 1000; omega) (by rw [okS_few]; exact hok)
end
end Go.Proofs.Ytocfbafcplhmiaa
namespace Go.Proofs.Ytocfbafcplhmiaa
open Go.RowKit

set_option maxHeartbeats 4000000 in
set_option maxRecDepth 1000000 in
theorem refGiven_any (A : Option Addr) (n c : Nat) (t : Nat → Nat → Nat) (w : World) (hw : Wis w A n t) (hn1 : 1 ≤ n) (hn : n ≤ 5) (ht : ∀ i, i < n → Pm n (t i)) :
    Calls Try.prog 40 #[.slice A n c] w fun e w' => ∃ g cap R, e = .returned (.slice (some ⟨g, 0, none⟩) n cap) ∧ MatR w' g R n (giN t n) ∧ Below w.heap.size w w' := by
  have HW := Lib.hid hw
  have HT := Lib.hid ht
  have hN := ordL_lenU n hn
  have HPm := Lib.hid (fun i => ordL_at (n := n) (i := i))
  have HRw := Lib.hid (fun w bo br x h => orders_rowsB (w := w) (bo := bo) (br := br) (n := n) (x := x) hn1 h)
  have HOr := Lib.hid (fun w => refOrders n hn w)
  have HTb := Lib.hid (table_any n hn1 hn w)
  have HU : Hid (giN t n = cnU (fun x => trF t n (owF (rN x) n)) (ordL (List.range n) n [])) := Lib.hid rfl
  rw [HU.out]
  have HSn : Hid (∀ k, k < (ordL (List.range n) n []).length → ∀ i j, cnU (fun x => trF t n (owF (rN x) n)) ((ordL (List.range n) n []).take (k + 1)) i j = cnU (fun x => trF t n (owF (rN x) n)) ((ordL (List.range n) n []).take k) i j + if (fun x => trF t n (owF (rN x) n)) ((ordL (List.range n) n []).getD k []) i = j then 1 else 0) := Lib.hid (fun k hk i j => by
    have e : (ordL (List.range n) n []).take (k + 1) = (ordL (List.range n) n []).take k ++ [(ordL (List.range n) n []).getD k []] := by
      rw [List.take_succ_eq_append_getElem hk, List.getD_eq_getElem?_getD, List.getElem?_eq_getElem hk, Option.getD_some]
    rw [e, cnU_snoc])
  have HLe : Hid (∀ k i j, cnU (fun x => trF t n (owF (rN x) n)) ((ordL (List.range n) n []).take k) i j ≤ 3125) := Lib.hid (fun k i j => Nat.le_trans (cnU_le _ _ _ _) (Nat.le_trans (by rw [List.length_take]; omega) hN))
  have HEnd : Hid (cnU (fun x => trF t n (owF (rN x) n)) ((ordL (List.range n) n []).take (ordL (List.range n) n []).length) = cnU (fun x => trF t n (owF (rN x) n)) (ordL (List.range n) n [])) := Lib.hid (by rw [List.take_length])
  have HZ : Hid (∀ i j, cnU (fun x => trF t n (owF (rN x) n)) ((ordL (List.range n) n []).take 0) i j = 0) := Lib.hid (fun i j => by rw [List.take_zero]; rfl)
  clear hw ht HU
  generalize ordL (List.range n) n [] = ls at *
  obtain ⟨N, hNe⟩ : ∃ N, N = ls.length := ⟨_, rfl⟩
  rw [← hNe] at hN HPm HRw HSn HEnd
  clear hNe
  generalize hcu : (fun k => cnU (fun x => trF t n (owF (rN x) n)) (ls.take k)) = cu at *
  have HCu : Hid (∀ k, cnU (fun x => trF t n (owF (rN x) n)) (ls.take k) = cu k) := Lib.hid (fun k => by rw [← hcu])
  simp only [HCu.out] at HSn HLe HEnd HZ
  generalize cnU (fun x => trF t n (owF (rN x) n)) ls = cN at *
  clear hcu HCu
  go_enter Try.func40, Try.ntmps40
  go_wp2_with fail
  refine HTb.out.mono ?_
  rintro e w1 ⟨g, cap, R, rfl, hM1, hRl, hgl, hb1⟩
  have HM1 := Lib.hid hM1
  have HB1 := Lib.hid hb1
  have HOr1 := Lib.hid (HOr.out w1)
  have HRw0 := Lib.hid hRl
  clear hM1 hb1 HTb HOr hRl hgl
  go_wp2_with fail
  refine HOr1.out.mono ?_
  rintro e w2 ⟨x0, rfl, hx, hb2⟩
  obtain ⟨A1, c1, rfl, hr2⟩ := HRw.out _ _ _ _ hx
  have HR2 := Lib.hid hr2
  have HM2 := Lib.hid (HM1.out.keep hb2)
  have hRs : ∀ i, i < n → R i < w1.heap.size := fun i hi => World.rowIs.lt (HM1.out.row i hi)
  have HRs := Lib.hid hRs
  have HB2 := Lib.hid (HB1.out.trans (hb2.mono HB1.out.size))
  have hs12 := hb2.size
  clear hx hb2 hr2 HOr1 HRw hRs HM1
  go_wp2_with fail
  go_loopw [17] (fun i wr => ∃ k : Nat, k ≤ N ∧ i = .int .i64 k ∧ MatR wr g R n (cu k) ∧ (∀ b, (∀ i, i < n → R i ≠ b) → b < w2.heap.size → wr.heap[b]? = w2.heap[b]?) ∧ w2.heap.size ≤ wr.heap.size ∧ Below w.heap.size w wr) (fun i _ => N - (intOf i).toNat)
  case atStart => exact ⟨0, Nat.zero_le _, rfl, HM2.out.congr (fun i j _ _ => (HZ.out i j).symm), fun _ _ _ => rfl, Nat.le_refl _, HB2.out⟩
  case round =>
    obtain ⟨k, hk, rfl, hm, hkb, hsz, hB⟩ := hrel
    clear HM2 HB2
    have HM := Lib.hid hm
    have HKb := Lib.hid hkb
    have HB := Lib.hid hB
    clear hm hkb hB
    by_cases hlt : k < N
    · obtain ⟨go, h, c', rfl, hgo, hc0, hh, hcs⟩ := HR2.out k hlt
      have hgs : go < w2.heap.size := World.block_lt_of_cell? _ _ hc0
      have hc : wr.cell? ⟨go, k, none⟩ = some (.slice (some ⟨h, 0, none⟩) n c') := cell_of_block (HKb.out _ (fun i hi e => by have h7 : R i = go := e; have := HRs.out i hi; omega) hgs) hc0
      have hir : Ints wr (some ⟨h, 0, none⟩) n (fun q => (rN (ls.getD k []) q : Int)) := fun _ => ⟨h, 0, rfl, fun j hj => by
        rw [Nat.zero_add]
        have e := hcs j hj
        exact cell_of_block (HKb.out _ (fun i hi e2 => by have h7 : R i = h := e2; have := HRs.out i hi; omega) (World.block_lt_of_cell? _ _ e)) e⟩
      have hpm := HPm.out k hlt
      have HFl := Lib.hid (trF_pm (t := t) ⟨HT.out, owF_pm hpm⟩).lt
      have HCh := Lib.hid (tradedR_any A n c t (some ⟨h, 0, none⟩) c' (rN (ls.getD k [])) wr (HW.out.keep HB.out) hir hn HT.out hpm)
      obtain ⟨fo, hfo⟩ : ∃ fo, fo = (trF t n (owF (rN (ls.getD k [])) n)) := ⟨_, rfl⟩
      have HSk : Hid (∀ i j, cu (k + 1) i j = cu k i j + if fo i = j then 1 else 0) := Lib.hid (fun i j => by rw [hfo]; exact HSn.out k hlt i j)
      rw [← hfo] at HFl HCh
      clear hfo
      have HLk := Lib.hid (HLe.out k)
      clear hir hpm hcs hc0
      go_wp2_with fail
      refine HCh.out.mono ?_
      rintro e w3 ⟨B3, B4, rfl, hB3, hB4, hne3, hR3, hR4, hb3⟩
      have HR3 := Lib.hid hR3
      have HM3 := Lib.hid (HM.out.keep hb3)
      have HKb3 : Hid (∀ b, (∀ i, i < n → R i ≠ b) → b < w2.heap.size → w3.heap[b]? = w2.heap[b]?) := Lib.hid (fun b h1 h2 => (hb3.block b (by omega)).trans (HKb.out b h1 h2))
      have HB3 := Lib.hid (HB.out.trans (hb3.mono HB.out.size))
      have hs3 := hb3.size
      have hB3l := World.rowIs.lt hR3
      have HRB : Hid (∀ i, i < n → R i ≠ B3) := Lib.hid (fun i hi e => by have := HRs.out i hi; omega)
      clear hR3 hb3 HCh HM HKb HB hc hR4
      go_wp2_with fail
      go_loopw [29] (fun i wx => ∃ q : Nat, q ≤ n ∧ i = .int .i64 q ∧ MatR wx g R n (fun a b => cu k a b + if a < q ∧ fo a = b then 1 else 0) ∧ wx.heap.size = w3.heap.size ∧ (∀ b, (∀ i, i < n → R i ≠ b) → b < w3.heap.size → wx.heap[b]? = w3.heap[b]?) ∧ Below w.heap.size w wx) (fun i _ => n - (intOf i).toNat)
      case atStart => exact ⟨0, Nat.zero_le _, rfl, HM3.out.congr (fun a b _ _ => by simp), rfl, fun _ _ _ => rfl, HB3.out⟩
      case round =>
        obtain ⟨q, hq, rfl, hm, hsx, hbl, hbe⟩ := hrel
        have HM := Lib.hid hm
        have HSx := Lib.hid hsx
        have HBl := Lib.hid hbl
        have HBe := Lib.hid hbe
        clear hm hsx hbl hbe
        by_cases hqn : q < n
        · have hfq := HFl.out q hqn
          have hr := RowI.cell (World.rowIs.of_block HR3.out (HBl.out B3 HRB.out hB3l)) hqn
          have hm1 := HM.out.cell q hqn
          have hm2 := (HM.out.row q hqn).cell hfq
          have hz2 := (HM.out.row q hqn).frozen (fo q)
          rw [if_neg (fun h => Nat.lt_irrefl q h.1), Nat.add_zero] at hm2
          have hcb := HLk.out q (fo q)
          have HSet := Lib.hid (HM.out.set hqn (fo q) (cu k q (fo q) + 1))
          have hE2 : Exc (R q) wr (wr.setCell ⟨R q, fo q, none⟩ (.int .i64 ((cu k q (fo q) + 1 : Nat) : Int))) := (Exc.refl _ _).set _ _
          have HE2 := Lib.hid hE2
          have hwR : w.heap.size ≤ R q := HRw0.out q hqn
          clear hE2
          go_wp2
          go_roundw
          case rel =>
            refine ⟨q + 1, by omega, by go_num, HSet.out.congr (fun a b ha hb => ?_), ?_, fun b h1 h2 => ?_, HBe.out.trans (HE2.out.below hwR HBe.out.size)⟩
            · by_cases e : a = q ∧ b = fo q
              · obtain ⟨rfl, rfl⟩ := e
                rw [if_pos ⟨rfl, rfl⟩, if_pos ⟨by omega, rfl⟩]
              · rw [if_neg e]
                congr 1
                by_cases e2 : a < q ∧ fo a = b
                · rw [if_pos e2, if_pos ⟨by omega, e2.2⟩]
                · rw [if_neg e2, if_neg]
                  rintro ⟨h1, h2⟩
                  by_cases e3 : a = q
                  · exact e ⟨e3, by rw [← h2, e3]⟩
                  · exact e2 ⟨by omega, h2⟩
            · rw [World.size_setCell]; exact HSx.out
            · exact (HE2.out.block b (by rw [HSx.out]; exact h2) (fun e => h1 q hqn (by injection e with e; exact e.symm))).trans (HBl.out b h1 h2)
          case measure => simp [intOf]; omega
        · obtain rfl : q = n := by omega
          have hM5 : MatR wr g R q (cu (k + 1)) := HM.out.congr (fun a b ha _ => by
            rw [HSk.out a b]
            by_cases e : fo a = b
            · rw [if_pos ⟨ha, e⟩, if_pos e]
            · rw [if_neg (fun h => e h.2), if_neg e])
          have HM5 := Lib.hid hM5
          clear hM5
          go_wp2
          go_roundw
          case rel => exact ⟨k + 1, by omega, by go_num, HM5.out, fun b h1 h2 => (HBl.out b h1 (by omega)).trans (HKb3.out b h1 h2), by rw [HSx.out]; omega, HBe.out⟩
          case measure => simp [intOf]; omega
    · obtain rfl : k = N := by omega
      go_wp2
      go_ret
      exact ⟨g, cap, R, rfl, by rw [← HEnd.out]; exact HM.out, HB.out⟩
end Go.Proofs.Ytocfbafcplhmiaa
namespace Go.Proofs.Ytocfbafcplhmiaa
open Go.RowKit

set_option maxHeartbeats 8000000 in
set_option maxRecDepth 1000000 in
theorem swapGiven_walk (A : Option Addr) (n c : Nat) (L : Nat → Nat) (v : Nat → Nat → Int) (w : World) (h : ArgR w A n c L v) :
    Calls Try.prog 14 #[.slice A n c] w fun e w' => e = .returned (.bool true) ∧ Below w.heap.size w w' := by
  have H := Lib.hid h
  clear h
  go_enter Try.func14, Try.ntmps14
  have HB0 := Lib.hid (Below.refl w.heap.size w)
  go_wp2_with fail
  refine (few7_any A n c L v w (H.out.below HB0.out)).mono ?_
  rintro e w1 ⟨x, rfl, hx, hb⟩
  obtain ⟨Aa, ca, rfl, hr, hcc⟩ := hx.own.rowsKs
  clear hx hcc
  have hbb := hb
  have HB1 := Lib.hid (HB0.out.trans (hbb.mono HB0.out.size))
  clear hbb
  clear hb
  have a_1 := Lib.hid (hr)
  clear hr
  cases hok : okS n L v with
  | false =>
    have HOk := Lib.hid hok
    have HVa := Lib.hid (fun w (h : ArgR w A n c L v) => validR_any A n c L v w h)
    rw [hok] at HVa
    clear hok
    go_wp2_with fail
    refine (GivenFbad (cA := ca) a_1.out rfl HOk.out).use fun w2 hb => ?_
    have hbb := hb
    have HB2 := Lib.hid (HB1.out.trans (hbb.mono HB1.out.size))
    have a_2 := Lib.hid (a_1.out.keep hbb)
    clear a_1
    clear hbb
    clear hb
    clear a_2
    go_wp2_with fail
    refine (HVa.out w2 (H.out.below HB2.out)).use fun w3 hb => ?_
    have hbb := hb.below w2.heap.size
    have HB3 := Lib.hid (HB2.out.trans (hbb.mono HB2.out.size))
    clear hbb
    clear hb
    go_wp2_with fail
    refine (awake_any _).use fun w4 hb => ?_
    have hbb := hb
    have HB4 := Lib.hid (HB3.out.trans (hbb.mono HB3.out.size))
    clear hbb
    clear hb
    go_wp2
    go_ret
    exact ⟨rfl, HB4.out⟩
  | true =>
    obtain ⟨⟨hn1, hn5⟩, -, hpm0, -⟩ := okS_pm hok
    have HWi := Lib.hid (fun w (h : ArgR w A n c L v) => h.wis hok)
    have HVa := Lib.hid (fun w (h : ArgR w A n c L v) => validR_any A n c L v w h)
    rw [hok] at HVa
    have HRc := Lib.hid (fun w (hw : Wis w A n (tO v)) => refGiven_any A n c (tO v) w hw hn1 hn5 hpm0)
    have HCf := Lib.hid (fun (w : World) (X : Option Addr) (k cX : Nat) (h : RowsK w X k (fun i => min (L i) 7) v) (hk : k = min n 7) => GivenF (cA := cX) h hk hok)
    clear hok hpm0
    go_wp2_with fail
    refine (HCf.out _ _ _ ca a_1.out rfl).mono ?_
    rintro e w2 ⟨Bt, rfl, hBt, hMt, hb⟩
    have hbb := hb
    have HB2 := Lib.hid (HB1.out.trans (hbb.mono HB1.out.size))
    have a_2 := Lib.hid (a_1.out.keep hbb)
    clear a_1
    clear hbb
    clear hb
    have T_2 := Lib.hid (hMt)
    clear hMt
    clear a_2
    go_wp2_with fail
    refine (HVa.out w2 (H.out.below HB2.out)).use fun w3 hb => ?_
    have hbb := hb.below w2.heap.size
    have HB3 := Lib.hid (HB2.out.trans (hbb.mono HB2.out.size))
    have T_3 := Lib.hid (T_2.out.keep hbb)
    clear T_2
    clear hbb
    clear hb
    go_wp2_with fail
    refine (HRc.out w3 (HWi.out _ (H.out.below HB3.out))).mono ?_
    rintro e w4 ⟨gr, capr, Rr, rfl, hMr, hb⟩
    have hbb := hb
    have HB4 := Lib.hid (HB3.out.trans (hbb.mono HB3.out.size))
    have T_4 := Lib.hid (T_3.out.keep hbb)
    clear T_3
    clear hbb
    clear hb
    have U_4 := Lib.hid (hMr)
    clear hMr
    go_wp2_with fail
    refine (sameM T_4.out U_4.out hn5).use fun w5 hb => ?_
    have hbb := hb.below w4.heap.size
    have HB5 := Lib.hid (HB4.out.trans (hbb.mono HB4.out.size))
    have T_5 := Lib.hid (T_4.out.keep hbb)
    clear T_4
    have U_5 := Lib.hid (U_4.out.keep hbb)
    clear U_4
    clear hbb
    clear hb
    clear T_5
    clear U_5
    go_wp2_with fail
    refine (awake_any _).use fun w6 hb => ?_
    have hbb := hb
    have HB6 := Lib.hid (HB5.out.trans (hbb.mono HB5.out.size))
    clear hbb
    clear hb
    go_wp2
    go_ret
    exact ⟨rfl, HB6.out⟩
end Go.Proofs.Ytocfbafcplhmiaa
