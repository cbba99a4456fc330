/- count of ballots that are not valid; rows; Margins. -/
import Derived.Test.YtdbeblmlikkjhaaCt
namespace Go.Proofs.Ytdbeblmlikkjhaa
open Go.RowKit

theorem run_storePoll (W : World) (g : Nat) (F : Nat → Value) (A : Option Addr) (n cA c : Nat) (T : Nat → Int) (h : W.rowIs g 37 27 F) :
    (storeCells ⟨g, 0, none⟩ (pollL A n cA c T)).run Try.prog W = .ok () (W.setCells g 0 (pollL A n cA c T)) := by
  have := run_storeCells_cells (P := Try.prog) g 0 (pollL A n cA c T) 0 W (fun j hj => by
    rw [pollL_len] at hj
    have e : 0 + 0 + j = j := by omega
    rw [e, World.rowIs.cell h hj]
    rfl) (fun j hj => by
    have e : 0 + 0 + j = j := by omega
    rw [e]
    exact World.rowIs.frozen h j) (fun u hu => Array.all_eq_true_iff_forall_mem.1 pollL_one u (by simpa using hu))
  simpa using this
theorem run_loadPoll {W : World} {g : Nat} {A : Option Addr} {n cA c : Nat} {T : Nat → Int} (h : PollI W g A n cA c T) :
    (loadVar 37 ⟨g, 0, none⟩).run Try.prog W = .ok (.agg (pollL A n cA c T).toArray) W := by
  have hl : (Try.prog.info? 37).map (·.size) = some (pollL A n cA c T).length := by rw [pollL_len]; exact infoPoll
  exact run_loadVar_mid (P := Try.prog) W g 0 37 (pollL A n cA c T) _ h.range Try.underlying37 rfl hl

theorem run_storeAtPoll (W : World) (g : Nat) (F : Nat → Value) (A : Option Addr) (n cA c : Nat) (T : Nat → Int) (h : W.rowIs g 37 27 F) :
    (Instr.storeAt 37 (.pointer (some ⟨g, 0, none⟩)) (.agg (pollL A n cA c T).toArray)).run Try.prog W = .ok () (W.setCells g 0 (pollL A n cA c T)) := by
  have hs : (pollL A n cA c T).toArray.size = 27 := by simp [pollL_len]
  have := run_storeAt_mid (P := Try.prog) W g 0 37 (pollL A n cA c T).toArray (fun j hj => ⟨by rw [hs] at hj; rw [Nat.zero_add, World.rowIs.cell h hj]; rfl, by rw [Nat.zero_add]; exact World.rowIs.frozen h j⟩) (by rw [hs]; exact infoPoll) pollL_one
  simpa using this
theorem run_loadAtPoll {W : World} {g : Nat} {A : Option Addr} {n cA c : Nat} {T : Nat → Int} (h : PollI W g A n cA c T) :
    (Instr.loadAt 37 (.pointer (some ⟨g, 0, none⟩))).run Try.prog W = .ok (.agg (pollL A n cA c T).toArray) W := by
  have hl : (Try.prog.info? 37).map (·.size) = some (pollL A n cA c T).length := by rw [pollL_len]; exact infoPoll
  exact run_loadAt_mid (P := Try.prog) W g 0 37 (pollL A n cA c T) _ h.range Try.underlying37 rfl hl
theorem run_loadAtTab {W : World} {g : Nat} {A : Option Addr} {n cA c : Nat} {T : Nat → Int} (h : PollI W g A n cA c T) :
    (Instr.loadAt 35 (.pointer (some ⟨g, 2, none⟩))).run Try.prog W = .ok (.agg (tabL T).toArray) W := by
  have hl : (Try.prog.info? 35).map (·.size) = some (tabL T).length := by rw [tabL_len]; exact infoTab
  exact run_loadAt_mid (P := Try.prog) W g 2 35 (tabL T) _ h.tab Try.underlying35 rfl hl

theorem mk_rowsV (n : Nat) (hn : n ≤ 10000) (w : World) :
    (Instr.makeSlice 22 (.int .i64 (n : Int)) (.int .i64 (n : Int))).run Try.prog w = .ok (.slice (some ⟨w.heap.size, 0, none⟩) n n) (w.alloc (.cells (madeCells #[.slice none 0 0] n) 24)) := by
  obtain ⟨i0, hi, hz0, hz1, hz2⟩ := info_parts infoInts
  have := run_make_rowN (P := Try.prog) 22 24 i0 (.slice none 0 0) Try.underlying22 hi hz0 .i64 .i64 n n (Nat.le_refl _) (by rw [hz2]; omega) (by omega) w
  rw [hz1, Nat.mul_one] at this
  exact this
theorem made_full (w : World) (base : Nat) (z : Value) (n : Nat) (e : TypeId) (hb : base ≤ w.heap.size) (hn : n ≤ 1000) (hz : z.oneCell' = true) :
    (w.alloc (.cells (madeCells #[z] n) e)).ownsRow base e 1 (.slice (some ⟨w.heap.size, 0, none⟩) n n) n (List.replicate n z) := by
  have hs : (madeCells #[z] n).size = n := size_madeCells _ _
  refine ⟨by simp, .inr ⟨w.heap.size, n, madeCells #[z] n, rfl, hb, heap_alloc_new w _, Nat.le_refl _, by unfold maxLen; omega, by rw [hs, Nat.mul_one], ?_⟩⟩
  apply List.ext_getElem?
  intro i
  rw [Nat.mul_one]
  by_cases hi : i < n
  · rw [List.getElem?_take_of_lt hi, List.getElem?_replicate_of_lt hi, Array.getElem?_toList]
    simp [madeCells, hi, Nat.mod_one]
  · rw [List.getElem?_eq_none (by simp; omega), List.getElem?_eq_none (by simp; omega)]

theorem ownsRow_base {w : World} {base base' size n : Nat} {e : TypeId} {v : Value} {xs : List Value} (h : w.ownsRow base e size v n xs) (hb : base' ≤ base) : w.ownsRow base' e size v n xs := by
  refine ⟨h.1, ?_⟩
  rcases h.2 with hn | ⟨g, cap, cur, e, hg, r⟩
  · exact .inl hn
  · exact .inr ⟨g, cap, cur, e, by omega, r⟩
theorem slice_five (a : Addr) (c : Nat) (hc : c ≤ 5) (w : World) : (Instr.sliceAt 33 (.pointer (some a)) none (some (.int .i64 (c : Int))) none).run Try.prog w = .ok (.slice (some a) c 5) w := by
  have hlen : Try.prog.arrayLen 33 = 5 := by kernel_rfl
  have hso : (sizeOf (Try.prog.elem 33)).run Try.prog w = .ok 1 w := by kernel_rfl
  rw [run_sliceAt_array_h (P := Try.prog) w 33 a (by kernel_rfl) .i64 (c : Int) (by omega) (by rw [hlen]; omega), hso, hlen]
  simp only [Result.andThen_ok, slicedAt, Nat.zero_mul, Int.toNat_natCast, Nat.sub_zero]
  congr 4
theorem tabL_at (T : Nat → Int) {i : Nat} (hi : i < 25) : (tabL T)[i]? = some (.int .i64 (T i)) := by
  unfold tabL
  rw [List.getElem?_map, List.getElem?_range hi]
  rfl
theorem TabI.box (w : World) (T : Nat → Int) : TabI (w.alloc (.cells (tabL T).toArray 35)) w.heap.size T := by
  have := World.rowIs_alloc w (tabL T).toArray 35 (fun i => .int .i64 (T i)) (fun i hi => by
    have hi' : i < 25 := by simpa [tabL_len] using hi
    rw [List.getElem?_toArray]
    exact tabL_at T hi')
  simpa [TabI, tabL_len] using this
theorem TabI.keep {w w' : World} {g : Nat} {T : Nat → Int} (h : TabI w g T) (hb : Below w.heap.size w w') : TabI w' g T := World.rowIs.of_block h (hb.block g (World.rowIs.lt h))
theorem TabI.ints {w : World} {g : Nat} {T : Nat → Int} (h : TabI w g T) {a c : Nat} (ha : a < 5) (hc : c ≤ 5) : Ints w (some ⟨g, a * 5, none⟩) c (fun b => T (5 * a + b)) := fun _ => ⟨g, a * 5, rfl, fun k hk => by
  rw [World.rowIs.cell h (by omega : a * 5 + k < 25), show a * 5 + k = 5 * a + k by omega]⟩


set_option maxHeartbeats 1000000 in
set_option maxRecDepth 1000000 in
theorem count_bad (A : Option Addr) (n cA : Nat) (L : Nat → Nat) (v : Nat → Nat → Int) (w : World) (h : RowsK w A n L v) (hok : okBal n L v = false) (hn : n ≤ 1000) (hL : ∀ i, i < n → L i ≤ 1000) :
    Calls Try.prog 10 #[.slice A n cA] w fun e w' => e = .returned (.tuple #[.agg (pollL none 0 0 0 (fun _ => 0)).toArray, .bool false]) ∧ Below w.heap.size w w' := by
  have HV : Hid (∀ w' : World, Below w.heap.size w w' → Ro 18 #[.slice A n cA] w' (.bool false)) := Lib.hid (fun w' hb => by
    have := valid_any A n cA L v w' (h.keep hb) hn hL
    rwa [hok] at this)
  clear h hok
  have Hb0 := Lib.hid (zero_below w)
  have HZ0 := Lib.hid (PollI.zero w)
  go_enter Try.func10, Try.ntmps10
  go_wp2_with fail
  refine Ro.use (HV.out _ Hb0.out) ?_
  intro w2 hd2
  have Hb2 := Lib.hid (Hb0.out.trans (hd2.below _))
  have HZ2 := Lib.hid (HZ0.out.dn hd2)
  clear hd2 Hb0 HZ0
  have hR := PollI.stored (A := none) (n := 0) (cA := 0) (c := 0) (T := fun _ => 0) HZ2.out
  have hB := below_setCells (pollL none 0 0 0 (fun _ => 0)) 0 (Nat.le_refl _) Hb2.out
  have HS : Hid (∃ W2, W2 = w2.setCells w.heap.size 0 (pollL none 0 0 0 (fun _ => 0)) ∧ PollI W2 w.heap.size none 0 0 0 (fun _ => 0) ∧ Below w.heap.size w W2) := Lib.hid ⟨_, rfl, hR, hB⟩
  clear hR hB
  go_wp2_with (first
    | (refine wpList_store_mid rfl 37 _ _ rfl w.heap.size 0 (pollL none 0 0 0 (fun _ => 0)).toArray ?hx ?hy ?there ?info pollL_one ?_; (case hx => rfl); (case hy => rfl); (case info => exact infoPoll); (case there => exact by simpa [pollL_len] using HZ2.out.there); rw [List.toList_toArray]; obtain ⟨W2, hW2, hR, hB⟩ := HS.out; rw [← hW2]; clear hW2; have HR := Lib.hid hR; have HB := Lib.hid hB; clear hR hB)
    | fail)
  have hld := run_loadPoll HR.out
  refine bodyPost_ret (v := .tuple #[.agg (pollL none 0 0 0 (fun _ => 0)).toArray, .bool false]) (poll_results _ _ w.heap.size _ _ rfl rfl hld) rfl ?_
  exact ⟨rfl, HB.out⟩
end Go.Proofs.Ytdbeblmlikkjhaa
