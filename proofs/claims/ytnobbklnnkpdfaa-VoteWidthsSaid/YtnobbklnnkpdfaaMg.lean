/- count of ballots that are not valid; rows; Margins. -/
import Derived.Test.YtnobbklnnkpdfaaCt
namespace Go.Proofs.Ytnobbklnnkpdfaa
open Go.RowKit

theorem run_storePoll (W : World) (g : Nat) (F : Nat → Value) (A : Option Addr) (n cA c : Nat) (T : Nat → Int) (h : W.rowIs g 56 27 F) :
    (storeCells ⟨g, 0, none⟩ (pollL A n cA c T)).run Try.prog W = .ok () (W.setCells g 0 (pollL A n cA c T)) := by
  have := run_storeCells_cells (P := Try.prog) g 0 (pollL A n cA c T) 0 W (fun j hj => by
    rw [pollL_len] at hj
    have e : 0 + 0 + j = j := by omega
    rw [e, World.rowIs.cell h hj]
    rfl) (fun j hj => by
    have e : 0 + 0 + j = j := by omega
    rw [e]
    exact World.rowIs.frozen h j) (fun u hu => Array.all_eq_true_iff_forall_mem.1 pollL_one u (by simpa using hu))
  simpa using this
theorem run_loadPoll {W : World} {g : Nat} {A : Option Addr} {n cA c : Nat} {T : Nat → Int} (h : PollI W g A n cA c T) :
    (loadVar 56 ⟨g, 0, none⟩).run Try.prog W = .ok (.agg (pollL A n cA c T).toArray) W := by
  have hl : (Try.prog.info? 56).map (·.size) = some (pollL A n cA c T).length := by rw [pollL_len]; exact infoPoll
  exact run_loadVar_mid (P := Try.prog) W g 0 56 (pollL A n cA c T) _ h.range Try.underlying56 rfl hl

theorem run_storeAtPoll (W : World) (g : Nat) (F : Nat → Value) (A : Option Addr) (n cA c : Nat) (T : Nat → Int) (h : W.rowIs g 56 27 F) :
    (Instr.storeAt 56 (.pointer (some ⟨g, 0, none⟩)) (.agg (pollL A n cA c T).toArray)).run Try.prog W = .ok () (W.setCells g 0 (pollL A n cA c T)) := by
  have hs : (pollL A n cA c T).toArray.size = 27 := by simp [pollL_len]
  have := run_storeAt_mid (P := Try.prog) W g 0 56 (pollL A n cA c T).toArray (fun j hj => ⟨by rw [hs] at hj; rw [Nat.zero_add, World.rowIs.cell h hj]; rfl, by rw [Nat.zero_add]; exact World.rowIs.frozen h j⟩) (by rw [hs]; exact infoPoll) pollL_one
  simpa using this
theorem run_loadAtPoll {W : World} {g : Nat} {A : Option Addr} {n cA c : Nat} {T : Nat → Int} (h : PollI W g A n cA c T) :
    (Instr.loadAt 56 (.pointer (some ⟨g, 0, none⟩))).run Try.prog W = .ok (.agg (pollL A n cA c T).toArray) W := by
  have hl : (Try.prog.info? 56).map (·.size) = some (pollL A n cA c T).length := by rw [pollL_len]; exact infoPoll
  exact run_loadAt_mid (P := Try.prog) W g 0 56 (pollL A n cA c T) _ h.range Try.underlying56 rfl hl
theorem run_loadAtTab {W : World} {g : Nat} {A : Option Addr} {n cA c : Nat} {T : Nat → Int} (h : PollI W g A n cA c T) :
    (Instr.loadAt 54 (.pointer (some ⟨g, 2, none⟩))).run Try.prog W = .ok (.agg (tabL T).toArray) W := by
  have hl : (Try.prog.info? 54).map (·.size) = some (tabL T).length := by rw [tabL_len]; exact infoTab
  exact run_loadAt_mid (P := Try.prog) W g 2 54 (tabL T) _ h.tab Try.underlying54 rfl hl

theorem mk_rowsV (n : Nat) (hn : n ≤ 10000) (w : World) :
    (Instr.makeSlice 22 (.int .i64 (n : Int)) (.int .i64 (n : Int))).run Try.prog w = .ok (.slice (some ⟨w.heap.size, 0, none⟩) n n) (w.alloc (.cells (madeCells #[.slice none 0 0] n) 23)) := by
  obtain ⟨i0, hi, hz0, hz1, hz2⟩ := info_parts infoInts
  have := run_make_rowN (P := Try.prog) 22 23 i0 (.slice none 0 0) Try.underlying22 hi hz0 .i64 .i64 n n (Nat.le_refl _) (by rw [hz2]; omega) (by omega) w
  rw [hz1, Nat.mul_one] at this
  exact this
theorem made_full (w : World) (base : Nat) (z : Value) (n : Nat) (e : TypeId) (hb : base ≤ w.heap.size) (hn : n ≤ 1000) (hz : z.oneCell' = true) :
    (w.alloc (.cells (madeCells #[z] n) e)).ownsRow base e 1 (.slice (some ⟨w.heap.size, 0, none⟩) n n) n (List.replicate n z) := by
  have hs : (madeCells #[z] n).size = n := size_madeCells _ _
  refine ⟨by simp, .inr ⟨w.heap.size, n, madeCells #[z] n, rfl, hb, heap_alloc_new w _, Nat.le_refl _, by unfold maxLen; omega, by rw [hs, Nat.mul_one], ?_⟩⟩
  apply List.ext_getElem?
  intro i
  rw [Nat.mul_one]
  by_cases hi : i < n
  · rw [List.getElem?_take_of_lt hi, List.getElem?_replicate_of_lt hi, Array.getElem?_toList]
    simp [madeCells, hi, Nat.mod_one]
  · rw [List.getElem?_eq_none (by simp; omega), List.getElem?_eq_none (by simp; omega)]

theorem ownsRow_base {w : World} {base base' size n : Nat} {e : TypeId} {v : Value} {xs : List Value} (h : w.ownsRow base e size v n xs) (hb : base' ≤ base) : w.ownsRow base' e size v n xs := by
  refine ⟨h.1, ?_⟩
  rcases h.2 with hn | ⟨g, cap, cur, e, hg, r⟩
  · exact .inl hn
  · exact .inr ⟨g, cap, cur, e, by omega, r⟩
theorem slice_five (a : Addr) (c : Nat) (hc : c ≤ 5) (w : World) : (Instr.sliceAt 52 (.pointer (some a)) none (some (.int .i64 (c : Int))) none).run Try.prog w = .ok (.slice (some a) c 5) w := by
  have hlen : Try.prog.arrayLen 52 = 5 := by kernel_rfl
  have hso : (sizeOf (Try.prog.elem 52)).run Try.prog w = .ok 1 w := by kernel_rfl
  rw [run_sliceAt_array_h (P := Try.prog) w 52 a (by kernel_rfl) .i64 (c : Int) (by omega) (by rw [hlen]; omega), hso, hlen]
  simp only [Result.andThen_ok, slicedAt, Nat.zero_mul, Int.toNat_natCast, Nat.sub_zero]
  congr 4
theorem tabL_at (T : Nat → Int) {i : Nat} (hi : i < 25) : (tabL T)[i]? = some (.int .i64 (T i)) := by
  unfold tabL
  rw [List.getElem?_map, List.getElem?_range hi]
  rfl
theorem TabI.box (w : World) (T : Nat → Int) : TabI (w.alloc (.cells (tabL T).toArray 54)) w.heap.size T := by
  have := World.rowIs_alloc w (tabL T).toArray 54 (fun i => .int .i64 (T i)) (fun i hi => by
    have hi' : i < 25 := by simpa [tabL_len] using hi
    rw [List.getElem?_toArray]
    exact tabL_at T hi')
  simpa [TabI, tabL_len] using this
theorem TabI.keep {w w' : World} {g : Nat} {T : Nat → Int} (h : TabI w g T) (hb : Below w.heap.size w w') : TabI w' g T := World.rowIs.of_block h (hb.block g (World.rowIs.lt h))
theorem TabI.ints {w : World} {g : Nat} {T : Nat → Int} (h : TabI w g T) {a c : Nat} (ha : a < 5) (hc : c ≤ 5) : Ints w (some ⟨g, a * 5, none⟩) c (fun b => T (5 * a + b)) := fun _ => ⟨g, a * 5, rfl, fun k hk => by
  rw [World.rowIs.cell h (by omega : a * 5 + k < 25), show a * 5 + k = 5 * a + k by omega]⟩

set_option maxHeartbeats 1000000 in
set_option maxRecDepth 1000000 in
theorem rows_any (T : Nat → Int) (c : Nat) (hc : c ≤ 5) (hc1 : 1 ≤ c) (w : World) :
    Calls Try.prog 45 #[.agg (tabL T).toArray, .int .i64 c] w fun e w' => ∃ x, e = .returned x ∧ OwnR w' w.heap.size x c (fun _ => c) (fun a b => T (5 * a + b)) ∧ Below w.heap.size w w' := by
  have hmk := mk_rowsV c (by omega)
  have HT := Lib.hid (TabI.box w T)
  have Hb0 := Lib.hid ((Below.refl w.heap.size w).alloc (Nat.le_refl _) (.cells (tabL T).toArray 54))
  go_enter Try.func45, Try.ntmps45
  obtain ⟨W, hW⟩ : ∃ W, W = w.alloc (.cells (tabL T).toArray 54) := ⟨_, rfl⟩
  rw [← hW] at HT Hb0
  have hWs : W.heap.size = w.heap.size + 1 := by rw [hW]; simp
  go_wp2
  simp only [← hW]
  clear hW
  have HR0 := Lib.hid (made_full W W.heap.size (.slice none 0 0) c 23 (Nat.le_refl _) (by omega) rfl)
  have HT0 := Lib.hid (HT.out.keep ((Below.refl W.heap.size W).alloc (Nat.le_refl _) (.cells (madeCells #[.slice none 0 0] c) 23)))
  have Hb1 := Lib.hid (Hb0.out.alloc (by omega) (.cells (madeCells #[.slice none 0 0] c) 23))
  rw [hWs] at HR0
  obtain ⟨G, hG⟩ : ∃ G, G = w.heap.size + 1 := ⟨_, rfl⟩
  rw [← hG] at HR0 ⊢
  have HG : Hid (w.heap.size + 1 ≤ G) := Lib.hid (by omega)
  have HG2 := Lib.hid hG
  clear hG hWs Hb0 HT
  generalize W.alloc (.cells (madeCells #[.slice none 0 0] c) 23) = W1 at *
  go_loopw [10] (fun i wr => ∃ k : Nat, k ≤ c ∧ i = .int .i64 k ∧ TabI wr w.heap.size T ∧ Below w.heap.size w wr ∧ ∃ vals : List Value, vals.length = c ∧ wr.ownsRow G 23 1 (.slice (some ⟨G, 0, none⟩) c c) c vals ∧ ∀ j x, j < k → vals[j]? = some x → OwnL wr G x (lst c (fun b => T (5 * j + b)))) (fun i _ => c - (intOf i).toNat)
  case atStart => exact ⟨0, Nat.zero_le _, rfl, HT0.out, Hb1.out, _, by simp, HR0.out, fun j x hj => absurd hj (by omega)⟩
  case round =>
    obtain ⟨k, hk, rfl, hT, hB, vals, hl, hown, hv⟩ := hrel
    have HT2 := Lib.hid hT
    have HB2 := Lib.hid hB
    have HO2 := Lib.hid hown
    have HV2 := Lib.hid hv
    have HL2 := Lib.hid hl
    clear hT hB hown hv hl HR0 HT0 Hb1
    by_cases hlt : k < c
    · have hk5 : k < 5 := by omega
      have HCl := Lib.hid (clone_any (some ⟨w.heap.size, k * 5, none⟩) c 5 (fun b => T (5 * k + b)) wr (HT2.out.ints hk5 hc) (by omega))
      have hsl := slice_five ⟨w.heap.size, k * 5, none⟩ c hc
      go_wp2_with fail
      refine HCl.out.mono ?_
      rintro e w3 ⟨x, rfl, hx, -, hb3⟩
      obtain ⟨A3, c3, hxe, -⟩ := hx.form
      rw [lst_len] at hxe
      subst hxe
      have HX := Lib.hid hx
      have HB3 := Lib.hid (HB2.out.trans (hb3.mono HB2.out.size))
      have HO3 := Lib.hid (ownsRow_below HO2.out hb3)
      have HT3 := Lib.hid (HT2.out.keep hb3)
      have HSz : Hid (G ≤ wr.heap.size) := Lib.hid (by have := World.rowIs.lt HT2.out; have := HG2.out; omega)
      have HV3 : Hid (∀ j x, j < k → vals[j]? = some x → OwnL w3 G x (lst c (fun b => T (5 * j + b)))) := Lib.hid (fun j x hj hx => (HV2.out j x hj hx).below hb3)
      have hcG : w3.cell? ⟨G, k, none⟩ = vals[k]? := World.ownsRow.cellAt HO3.out k (by omega)
      rw [List.getElem?_eq_getElem (by have := HL2.out; omega)] at hcG
      have hfG := World.ownsRow.frozenAt HO3.out k
      have hst := World.ownsRow.stored HO3.out k (.slice A3 c c3)
      have HS := Lib.hid hst
      clear hst hx hb3 HCl
      go_wp2
      go_roundw
      case rel =>
        have hg := HS.out.2
        refine ⟨k + 1, by omega, by go_num, World.rowIs.setOther HT3.out (by have := HG.out; show w.heap.size ≠ G; omega) _, HB3.out.setCell (p := ⟨G, k, none⟩) (by have := HG.out; show w.heap.size ≤ G; omega) _, vals.set k (.slice A3 c c3), by simp [HL2.out], HS.out.1, fun j y hj hy => ?_⟩
        have hne : ∀ (z : Value) (l : List Int), OwnL w3 G z l → OwnL (w3.setCell ⟨G, k, none⟩ (.slice A3 c c3)) G z l := fun z l hz =>
          World.ownsRow.kept (row := some G) hz hg (by have := own_other hz HO3.out (by decide); simpa [Value.ownBlock] using this)
        rw [List.getElem?_set] at hy
        by_cases ejk : k = j
        · subst ejk
          rw [if_pos rfl, if_pos (by rw [HL2.out]; exact hlt)] at hy
          injection hy with hy
          subst hy
          exact hne _ _ (HX.out.rebase HSz.out)
        · rw [if_neg ejk] at hy
          exact hne _ _ (HV3.out j y (by omega) hy)
      case measure => simp [intOf]; omega
    · obtain rfl : k = c := by omega
      go_wp2
      go_ret
      exact ⟨_, rfl, ⟨vals, HL2.out, ownsRow_base HO2.out (by have := HG.out; omega), fun i x hx => (HV2.out i x (by have := (List.getElem?_eq_some_iff.1 hx).1; have := HL2.out; omega) hx).rebase (by have := HG.out; omega)⟩, HB2.out⟩

set_option maxHeartbeats 1000000 in
set_option maxRecDepth 1000000 in
theorem count_bad (A : Option Addr) (n cA : Nat) (L : Nat → Nat) (v : Nat → Nat → Int) (w : World) (h : RowsK w A n L v) (hok : okBal n L v = false) (hn : n ≤ 1000) (hL : ∀ i, i < n → L i ≤ 1000) :
    Calls Try.prog 33 #[.slice A n cA] w fun e w' => e = .returned (.tuple #[.agg (pollL none 0 0 0 (fun _ => 0)).toArray, .bool false]) ∧ Below w.heap.size w w' := by
  have HV : Hid (∀ w' : World, Below w.heap.size w w' → Ro 53 #[.slice A n cA] w' (.bool false)) := Lib.hid (fun w' hb => by
    have := valid_any A n cA L v w' (h.keep hb) hn hL
    rwa [hok] at this)
  clear h hok
  have Hb0 := Lib.hid (zero_below w)
  have HZ0 := Lib.hid (PollI.zero w)
  go_enter Try.func33, Try.ntmps33
  go_wp2_with fail
  refine Ro.use (HV.out _ Hb0.out) ?_
  intro w2 hd2
  have Hb2 := Lib.hid (Hb0.out.trans (hd2.below _))
  have HZ2 := Lib.hid (HZ0.out.dn hd2)
  clear hd2 Hb0 HZ0
  have hR := PollI.stored (A := none) (n := 0) (cA := 0) (c := 0) (T := fun _ => 0) HZ2.out
  have hB := below_setCells (pollL none 0 0 0 (fun _ => 0)) 0 (Nat.le_refl _) Hb2.out
  have HS : Hid (∃ W2, W2 = w2.setCells w.heap.size 0 (pollL none 0 0 0 (fun _ => 0)) ∧ PollI W2 w.heap.size none 0 0 0 (fun _ => 0) ∧ Below w.heap.size w W2) := Lib.hid ⟨_, rfl, hR, hB⟩
  clear hR hB
  go_wp2_with (first
    | (refine wpList_store_mid rfl 56 _ _ rfl w.heap.size 0 (pollL none 0 0 0 (fun _ => 0)).toArray ?hx ?hy ?there ?info pollL_one ?_; (case hx => rfl); (case hy => rfl); (case info => exact infoPoll); (case there => exact by simpa [pollL_len] using HZ2.out.there); rw [List.toList_toArray]; obtain ⟨W2, hW2, hR, hB⟩ := HS.out; rw [← hW2]; clear hW2; have HR := Lib.hid hR; have HB := Lib.hid hB; clear hR hB)
    | fail)
  have hld := run_loadPoll HR.out
  refine bodyPost_ret (v := .tuple #[.agg (pollL none 0 0 0 (fun _ => 0)).toArray, .bool false]) (poll_results _ _ w.heap.size _ _ rfl rfl hld) rfl ?_
  exact ⟨rfl, HB.out⟩
set_option maxHeartbeats 1000000 in
set_option maxRecDepth 1000000 in
theorem Margins_ok (A : Option Addr) (n cA : Nat) (L : Nat → Nat) (v : Nat → Nat → Int) (w : World) (h : RowsK w A n L v) (hok : okBal n L v = true) (hA : n ≤ cA) :
    Calls Try.prog 20 #[.slice A n cA] w fun e w' => ∃ x, e = .returned (.tuple #[x, .int .i64 0]) ∧ OwnR w' w.heap.size x (L 0) (fun _ => L 0) (fun a b => mAll v (L 0) n (5 * a + b)) ∧ Below w.heap.size w w' := by
  obtain ⟨-, ⟨hc1, hc5⟩, -⟩ := okBal_iff.1 hok
  have HC := Lib.hid (count_ok A n cA L v w h hok hA)
  clear h hok
  go_enter Try.func20, Try.ntmps20
  go_wp2_with fail
  refine HC.out.mono ?_
  rintro e w2 ⟨rfl, hb2⟩
  have Hb2 := Lib.hid hb2
  have HZ2 := Lib.hid (PollI.zero w2)
  have Hb3 := Lib.hid (hb2.trans ((zero_below w2).mono hb2.size))
  have hsz := hb2.size
  clear hb2 HC
  go_wp2_with fail
  rw [run_storePoll _ _ _ A n cA (L 0) (mAll v (L 0) n) HZ2.out]
  simp only [Result.andThen_ok]
  rw [Oper.upon_skip]
  have HR := Lib.hid (PollI.stored (A := A) (n := n) (cA := cA) (c := L 0) (T := mAll v (L 0) n) HZ2.out)
  have HB := Lib.hid (below_setCells (pollL A n cA (L 0) (mAll v (L 0) n)) 0 hsz Hb3.out)
  clear HZ2 Hb3
  generalize World.setCells _ w2.heap.size 0 (pollL A n cA (L 0) (mAll v (L 0) n)) = W3 at *
  have HRw := Lib.hid (rows_any (mAll v (L 0) n) (L 0) hc5 hc1 W3)
  have hq1 := HR.out.c1
  go_wp2_with (first
    | (refine wpList_load_mid rfl 54 _ rfl w2.heap.size 2 rfl (tabL (mAll v (L 0) n)) _ HR.out.tab Try.underlying54 rfl (by rw [tabL_len]; exact infoTab) ?_)
    | fail)
  refine HRw.out.mono ?_
  rintro e w5 ⟨x, rfl, hx, hb5⟩
  have HX := Lib.hid hx
  have HB5 := Lib.hid (HB.out.trans (hb5.mono HB.out.size))
  clear hx hb5 HRw
  go_wp2
  go_ret2
  exact ⟨x, rfl, ⟨HX.out.choose, HX.out.choose_spec.1, ownsRow_base HX.out.choose_spec.2.1 HB.out.size, fun i y hy => (HX.out.choose_spec.2.2 i y hy).rebase HB.out.size⟩, HB5.out⟩
end Go.Proofs.Ytnobbklnnkpdfaa
