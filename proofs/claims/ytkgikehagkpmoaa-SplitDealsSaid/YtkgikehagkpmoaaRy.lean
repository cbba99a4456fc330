import Derived.Test.YtkgikehagkpmoaaRc
namespace Go.Proofs.Ytkgikehagkpmoaa
open Go.RowKit

/-- Block g of cap cells begins with m integers. -/
def RowC (w : World) (g cap m : Nat) (D : Nat → Int) : Prop := ∃ F : Nat → Value, w.rowIs g 3 cap F ∧ m ≤ cap ∧ ∀ i, i < m → F i = .int .i64 (D i)
section
variable {w w' : World} {g cap m : Nat} {D : Nat → Int}
theorem RowI.rowC (h : RowI w g m D) : RowC w g m m D := ⟨_, h, Nat.le_refl _, fun _ _ => rfl⟩
theorem RowC.cell (h : RowC w g cap m D) {i : Nat} (hi : i < m) : w.cell? ⟨g, i, none⟩ = some (.int .i64 (D i)) := by
  obtain ⟨F, hr, hc, hF⟩ := h
  rw [World.rowIs.cell hr (by omega), hF i hi]
theorem RowC.frozen (h : RowC w g cap m D) (i : Nat) : w.frozen? ⟨g, i, none⟩ = false := by
  obtain ⟨F, hr, -⟩ := h
  exact World.rowIs.frozen hr i
theorem RowC.lt (h : RowC w g cap m D) : g < w.heap.size := by
  obtain ⟨F, hr, -⟩ := h
  exact World.rowIs.lt hr
theorem RowC.ints (h : RowC w g cap m D) : Ints w (some ⟨g, 0, none⟩) m D := fun _ => ⟨g, 0, rfl, fun k hk => by rw [Nat.zero_add]; exact h.cell hk⟩
theorem RowC.congr {D' : Nat → Int} (h : RowC w g cap m D) (e : ∀ i, i < m → D i = D' i) : RowC w g cap m D' := by
  obtain ⟨F, hr, hc, hF⟩ := h
  exact ⟨F, hr, hc, fun i hi => by rw [hF i hi, e i hi]⟩
theorem RowC.set (h : RowC w g cap m D) (i : Nat) (x : Int) : RowC (w.setCell ⟨g, i, none⟩ (.int .i64 x)) g cap m (upd D i x) := by
  obtain ⟨F, hr, hc, hF⟩ := h
  refine ⟨_, World.rowIs.set hr i (.int .i64 x), hc, fun j hj => ?_⟩
  by_cases e : j = i
  · simp [e, upd]
  · simp [e, upd, hF j hj]
theorem RowC.keep (h : RowC w g cap m D) (hb : Below w.heap.size w w') : RowC w' g cap m D := by
  obtain ⟨F, hr, hc, hF⟩ := h
  exact ⟨F, World.rowIs.of_block hr (hb.block g (World.rowIs.lt hr)), hc, hF⟩
theorem RowC.dn (h : RowC w g cap m D) (hd : Dn w w') : RowC w' g cap m D := by
  obtain ⟨k, rfl⟩ := hd
  exact h
end
theorem OwnL.rowC {w : World} {base : Nat} {v : Value} {n : Nat} {f : Nat → Int} (h : OwnL w base v (lst n f)) (hp : 0 < n) : ∃ g cap, v = .slice (some ⟨g, 0, none⟩) n cap ∧ base ≤ g ∧ RowC w g cap n f := by
  have hl := lst_len n f
  have h0 := h
  rcases h0.2 with ⟨_, hn⟩ | ⟨g, cap, cur, e, hg, hh, hnc, hcm, hcs, ht⟩
  · omega
  · have hr : w.rowIs g 3 cap (fun i => cur[i]?.getD (.int .i64 0)) := ⟨cur, hh, by omega, fun i hi => by
      have hi' : i < cur.size := by omega
      simp [Array.getElem?_eq_getElem hi']⟩
    subst e
    refine ⟨g, cap, by rw [hl], hg, _, hr, by omega, fun i hi => ?_⟩
    have hc := World.ownsRow.cellAt h i (by rw [hl]; omega)
    rw [World.rowIs.cell hr (by omega), List.getElem?_map, lst_get n f i hi, Option.map_some] at hc
    injection hc
set_option maxHeartbeats 4000000 in
set_option maxRecDepth 1000000 in
theorem rCycles_any (A : Option Addr) (n m c : Nat) (v : Nat → Nat → Int) (w : World) (h : Mat w A n m v) (hb : BdM n m v 100) (hn0 : 0 < n) (hn : n ≤ 4) (hm0 : 0 < m) (hm : m ≤ 7) :
    Calls Try.prog 19 #[.slice A n c] w fun e w' => ∃ Ax cx D, e = .returned (.slice Ax m cx) ∧ Ints w' Ax m D ∧ CySeq n m v m D ∧ Below w.heap.size w w' := by
  have hmk := mk_ints m (by omega)
  have HM := Lib.hid h
  have HB := Lib.hid hb
  have HB5 := Lib.hid (hb.le (u' := 100000) (by omega))
  obtain ⟨b, o, R, cR, rfl, -, -⟩ := h.at hn0
  obtain ⟨R0, c0, hc0, -⟩ := h.cell0 hn0
  have hr0 : RowI (w.alloc (.cells (madeCells #[.int .i64 0] m) 3)) w.heap.size m (fun g => if g < 0 then -1 else 0) := (RowI.made w m).congr fun g _ => by rw [if_neg (by omega)]
  have HR0 := Lib.hid hr0
  clear hr0 h hb
  go_enter Try.func19, Try.ntmps19
  go_wp2
  clear hmk hc0
  obtain ⟨gd, hgd⟩ : ∃ gd, gd = w.heap.size := ⟨_, rfl⟩
  have HGd := Lib.hid hgd
  rw [← hgd]
  rw [← hgd] at HR0
  clear hgd
  go_loopw [20] (fun x wr => ∃ k : Nat, k ≤ m ∧ x = .int .i64 k ∧ RowI wr gd m (fun g => if g < k then -1 else 0) ∧ Below w.heap.size w wr) (fun x _ => m - (intOf x).toNat)
  case atStart => exact ⟨0, Nat.zero_le _, rfl, HR0.out, (Below.refl _ _).alloc (Nat.le_refl _) _⟩
  case round =>
    obtain ⟨k, hk, rfl, hR, hbel⟩ := hrel
    by_cases hlt : k < m
    · have hck := hR.cell hlt
      have hfz := hR.frozen k
      have HR := Lib.hid (hR.set k (-1))
      clear hR
      go_wp2
      go_roundw
      case rel =>
        refine ⟨k + 1, by omega, by go_num, HR.out.congr (fun g hg => ?_), hbel.setCell (show w.heap.size ≤ gd by rw [HGd.out]; exact Nat.le_refl _) _⟩
        simp only [upd]
        by_cases e : g = k
        · rw [if_pos e, if_pos (by omega)]
        · rw [if_neg e]
          by_cases e2 : g < k
          · rw [if_pos e2, if_pos (by omega)]
          · rw [if_neg e2, if_neg (by omega)]
      case measure => simp [intOf]; omega
    · obtain rfl : m = k := by omega
      have HR1 := Lib.hid (hR.congr (f' := fun _ => -1) fun g hg => by rw [if_pos hg]).rowC
      have Hb1 := Lib.hid hbel
      have HGd2 : Hid (w.heap.size ≤ gd) := Lib.hid (by rw [HGd.out]; exact Nat.le_refl _)
      clear hR hbel HR0
      go_wp2
      obtain ⟨wq, hwq⟩ : ∃ wq : World, wq = wr := ⟨_, rfl⟩
      have HWq := Lib.hid hwq
      clear hwq
      go_loopw [3, 29] (fun s x wr => ∃ (k : Nat) (D : Nat → Int) (gd cap : Nat), k ≤ m ∧ x = .int .i64 k ∧ s = .slice (some ⟨gd, 0, none⟩) m cap ∧ RowC wr gd cap m D ∧ w.heap.size ≤ gd ∧ CySeq n m v k D ∧ Below w.heap.size w wr) (fun _ x _ => m - (intOf x).toNat)
      case atStart => exact ⟨0, fun _ => -1, gd, m, Nat.zero_le _, rfl, rfl, HR1.out, HGd2.out, .zero, Hb1.out⟩
      case round =>
        obtain ⟨k, D, gd, cap, hk, rfl, rfl, hR, hgd, hP, hbel⟩ := hrel
        have HR := Lib.hid hR
        have HP := Lib.hid hP
        have Hbel := Lib.hid hbel
        have HGd0 := Lib.hid hgd
        clear hR hP hbel hgd
        by_cases hlt : k < m
        · go_wp2_with fail
          refine Ro.use (rcalm_any _ _ n m c cap v D _ (HM.out.keep Hbel.out) HR.out.ints HB5.out (by omega) (by omega)) ?_
          intro w2 hD2
          have HR2 := Lib.hid (HR.out.dn hD2)
          have Hbel2 := Lib.hid (Hbel.out.trans ((hD2.below _).mono Hbel.out.size))
          have hph := phi_bd HB.out hn hm D
          obtain ⟨G, hG⟩ : ∃ G : Nat, (G : Int) = 2800 - phi n m v D := ⟨(2800 - phi n m v D).toNat, by omega⟩
          have HG := Lib.hid hG
          clear hD2 hph hG
          go_wp2_with fail
          go_loopg [3, 6] G (fun gk s x wr => ∃ (E : Nat → Int) (gd cap : Nat), (gk : Int) = 2800 - phi n m v E ∧ Reach n m v D E ∧ s = .slice (some ⟨gd, 0, none⟩) m cap ∧ x = .int .i64 (calmI n m v E n) ∧ RowC wr gd cap m E ∧ w.heap.size ≤ gd ∧ Below w.heap.size w wr)
          case atStart => exact ⟨D, gd, cap, HG.out, .refl, rfl, rfl, HR2.out, HGd0.out, Hbel2.out⟩
          case round =>
            obtain ⟨E, gd, cap, hgk, hre, rfl, rfl, hRE, hgd, hbel⟩ := hrel
            have HGk := Lib.hid hgk
            have HRe := Lib.hid hre
            have HRE := Lib.hid hRE
            have HGd := Lib.hid hgd
            have Hbel := Lib.hid hbel
            clear hgk hre hRE hgd hbel
            rcases calm_cases n m v E with ⟨hc, hall⟩ | ⟨j, hj, hc, -⟩
            · have HCm := Lib.hid hc
              rw [hc]
              have HAll := Lib.hid hall
              clear hc hall
              go_wp2_with fail
              refine (rcycle_any _ _ n m c cap v E _ (HM.out.keep Hbel.out) HRE.out.ints HB5.out (by omega) hn0 hn).mono ?_
              rintro e w3 ⟨x, rfl, hb3, hrep⟩
              have HR3 := Lib.hid (HRE.out.keep hb3)
              have Hbel3 := Lib.hid (Hbel.out.trans (hb3.mono Hbel.out.size))
              cases hsh : shC (envE m v E) n with
              | none => exact (shC_none (envE_irr m v E) hn0 HAll.out hsh).elim
              | some C =>
                rw [hsh] at hrep
                obtain ⟨b5, o5, c5, rfl, hI5, hB5⟩ := hrep
                obtain ⟨hcyc, hcl⟩ := shC_some hsh
                have HCyc := Lib.hid hcyc
                have HShC := Lib.hid hsh
                have two := hcyc.two
                have HI5 := Lib.hid hI5
                obtain ⟨L, hL⟩ : ∃ L, L = C.length := ⟨_, rfl⟩
                rw [← hL] at HI5 hcl two ⊢
                have HL := Lib.hid hL
                clear hsh hI5 hcyc hb3 hL
                have hb0 : Below w3.heap.size w3 (w3.alloc (.cells #[] 3)) := (Below.refl _ _).alloc (Nat.le_refl _) _
                have Hb0 := Lib.hid hb0
                have hRn := HR3.out.ints
                have HRn := Lib.hid hRn
                clear hb0 hRn
                go_wp2_with (at_builtin; go_loud (refine wpList_append_ints rfl (.tmp 40) (.tmp 41) rfl w3.heap.size (.slice (some ⟨w3.heap.size, 0, none⟩) 0 0) [] rfl (nil_lst2 w3 w3.heap.size (Nat.le_refl _)) (some ⟨gd, 0, none⟩) m cap E rfl (HRn.out.keep Hb0.out) (by simp; omega) (by simp) ?_))
                intro v4 w4 hv4 hg4 _
                replace hv4 : OwnL w4 w3.heap.size v4 (lst m E) := hv4
                have hbw4 : Below w3.heap.size w3 w4 := Hb0.out.grown hg4 (by simp) (fun g hg => by
                  simp [Value.ownBlock] at hg
                  omega)
                obtain ⟨g4, cap4, rfl, hg4b, hrow4⟩ := hv4.rowC hm0
                have HRow4 := Lib.hid hrow4
                have HR4 := Lib.hid (HR3.out.keep hbw4)
                have HI4 := Lib.hid (HI5.out.keep hbw4)
                have Hbel4 := Lib.hid (Hbel3.out.trans (hbw4.mono Hbel3.out.size))
                have hne5 : b5 ≠ g4 := by
                  have h1 := World.block_lt_of_cell? _ _ (HI5.out.cell (show 0 < L by omega))
                  simp only at h1
                  omega
                have hned : gd ≠ g4 := by
                  have := HR3.out.lt
                  omega
                have hgw4 : w.heap.size ≤ g4 := Nat.le_trans Hbel3.out.size hg4b
                have HGw4 := Lib.hid hgw4
                clear hv4 hg4 hbw4 hrow4 hg4b hgw4
                go_wp2_with fail
                obtain ⟨wo, hwo⟩ : ∃ wo : World, wo = w4 := ⟨_, rfl⟩
                have HWo := Lib.hid hwo
                clear hwo
                go_loopw [45] (fun x wi => ∃ a : Nat, a ≤ L ∧ x = .int .i64 a ∧ RowC wi g4 cap4 m (resX C E a) ∧ Exc g4 w4 wi) (fun x _ => L - (intOf x).toNat)
                case atStart => exact ⟨0, Nat.zero_le _, rfl, HRow4.out, Exc.refl _ _⟩
                case round =>
                  obtain ⟨a, ha, rfl, hRa, hEa⟩ := hrel
                  have HRa := Lib.hid hRa
                  have HEa := Lib.hid hEa
                  clear hRa hEa
                  by_cases hlta : a < L
                  · have hca := HEa.out.cell (HI4.out.cell hlta) hne5
                    have hxl : (a + 1) % L < L := Nat.mod_lt _ (by omega)
                    have t1 := tmod_next a L
                    have hLz : ¬ (L : Int) = 0 := by omega
                    obtain ⟨xa, hxa⟩ : ∃ xa, xa = (a + 1) % L := ⟨_, rfl⟩
                    rw [← hxa] at t1 hxl
                    have HStep : Hid (∀ h, resX C E (a + 1) h = if E h = fL C xa then fL C a else resX C E a h) := Lib.hid (fun h => by
                      show (if E h = fL C ((a + 1) % C.length) then fL C a else resX C E a h) = _
                      rw [← HL.out, ← hxa])
                    have hx0 : (0 : Int) ≤ xa := by omega
                    have hx1 : (xa : Int) < L := by omega
                    clear hxa
                    go_wp2_with fail
                    obtain ⟨wo2, hwo2⟩ : ∃ wo2 : World, wo2 = wr := ⟨_, rfl⟩
                    have HWo2 := Lib.hid hwo2
                    clear hwo2 hca
                    go_loopw [52] (fun x wj => ∃ h : Nat, h ≤ m ∧ x = .int .i64 h ∧ RowC wj g4 cap4 m (fun y => if y < h then resX C E (a + 1) y else resX C E a y) ∧ Exc g4 w4 wj) (fun x _ => m - (intOf x).toNat)
                    case atStart => exact ⟨0, Nat.zero_le _, rfl, HRa.out.congr (fun i _ => by rw [if_neg (by omega)]), HEa.out⟩
                    case round =>
                      obtain ⟨h, hh, rfl, hRh, hEh⟩ := hrel
                      have HRh := Lib.hid hRh
                      have HEh := Lib.hid hEh
                      clear hRh hEh
                      by_cases hlth : h < m
                      · have hcd := HEh.out.cell (HR4.out.cell hlth) hned
                        have hcx := HEh.out.cell (HI4.out.cell hxl) hne5
                        have hck := HRh.out.cell hlth
                        have hfz := HRh.out.frozen h
                        by_cases e : E h = fL C xa
                        · have HX : Hid (resX C E (a + 1) h = fL C a) := Lib.hid (by rw [HStep.out, if_pos e])
                          have hBe := beq_t e
                          clear e
                          go_wp2
                          go_roundw
                          case rel =>
                            refine ⟨h + 1, by omega, by go_num, (HRh.out.set h _).congr (fun y hy => ?_), HEh.out.set h _⟩
                            simp only [upd]
                            by_cases e2 : y = h
                            · rw [if_pos e2, if_pos (by omega), e2, HX.out]
                            · rw [if_neg e2]
                              by_cases e3 : y < h
                              · rw [if_pos e3, if_pos (by omega)]
                              · rw [if_neg e3, if_neg (by omega)]
                          case measure => simp [intOf]; omega
                        · have HX : Hid (resX C E (a + 1) h = resX C E a h) := Lib.hid (by rw [HStep.out, if_neg e])
                          have hBe := beq_f e
                          clear e
                          go_wp2
                          go_roundw
                          case rel =>
                            refine ⟨h + 1, by omega, by go_num, HRh.out.congr (fun y hy => ?_), HEh.out⟩
                            by_cases e2 : y = h
                            · rw [e2, if_neg (by omega), if_pos (by omega), HX.out]
                            · by_cases e3 : y < h
                              · rw [if_pos e3, if_pos (by omega)]
                              · rw [if_neg e3, if_neg (by omega)]
                          case measure => simp [intOf]; omega
                      · obtain rfl : h = m := by omega
                        go_wp2
                        go_roundw
                        case rel => exact ⟨a + 1, by omega, by go_num, HRh.out.congr (fun y hy => by rw [if_pos hy]), HEh.out⟩
                        case measure => simp [intOf]; omega
                  · obtain rfl : a = L := by omega
                    have HRf := Lib.hid (HRa.out.congr (D' := resF C E) (fun g _ => by rw [HL.out]; exact resX_all HCyc.out E g))
                    have HbelA := Lib.hid (Hbel4.out.trans (HEa.out.below HGw4.out Hbel4.out.size))
                    go_wp2_with fail
                    refine Ro.use (rcalm_any _ _ n m c cap4 v (resF C E) _ (HM.out.keep HbelA.out) HRf.out.ints HB5.out (by omega) (by omega)) ?_
                    intro w6 hD6
                    have HR6 := Lib.hid (HRf.out.dn hD6)
                    have Hbel6 := Lib.hid (HbelA.out.trans ((hD6.below _).mono HbelA.out.size))
                    have HRe2 := Lib.hid (Reach.step HRe.out HCm.out HShC.out)
                    have hup := phi_up HCyc.out
                    have hb1 := phi_bd HB.out hn hm (resF C E)
                    obtain ⟨g', hg'⟩ : ∃ g' : Nat, (g' : Int) = 2800 - phi n m v (resF C E) := ⟨(2800 - phi n m v (resF C E)).toNat, by omega⟩
                    have HLt : Hid (g' < gk) := Lib.hid (by have := HGk.out; omega)
                    have HG' := Lib.hid hg'
                    clear hD6 hup hb1 hg'
                    go_wp2
                    go_roundg g'
                    case rel => exact ⟨resF C E, g4, cap4, HG'.out, HRe2.out, rfl, rfl, HR6.out, HGw4.out, Hbel6.out⟩
                    case measure => exact HLt.out
            · have HP2 : Hid (CySeq n m v (k + 1) (upd E k (j : Int))) := Lib.hid (.next HP.out HRe.out hc)
              rw [hc]
              have hj0 : ¬ ((j : Int) < 0) := by omega
              have hck := HRE.out.cell hlt
              have hfz := HRE.out.frozen k
              have HR7 := Lib.hid (HRE.out.set k (j : Int))
              have Hb7 := Lib.hid (Hbel.out.setCell (p := ⟨gd, k, none⟩) HGd.out (.int .i64 (j : Int)))
              clear hc
              go_wp2
              go_roundw
              case rel => exact ⟨k + 1, _, gd, cap, by omega, by go_num, rfl, HR7.out, HGd.out, HP2.out, Hb7.out⟩
              case measure => simp [intOf]; omega
        · obtain rfl : k = m := by omega
          go_wp2
          go_ret
          exact ⟨_, _, D, rfl, HR.out.ints, HP.out, Hbel.out⟩
end Go.Proofs.Ytkgikehagkpmoaa
