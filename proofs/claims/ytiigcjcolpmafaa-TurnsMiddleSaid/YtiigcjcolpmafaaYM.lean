/- Part of the proof: YM. -/
import Derived.Test.YtiigcjcolpmafaaLay
import Derived.Test.YtiigcjcolpmafaaVe
import Derived.Test.YtiigcjcolpmafaaYF
import Derived.Test.YtiigcjcolpmafaaYC
import Derived.Test.YtiigcjcolpmafaaSb
import Derived.Test.YtiigcjcolpmafaaTurnsJoins
/- slices.SortFunc by rank, at whatever length; choice and middle of whatever many matchings. -/
namespace Go.Proofs.Ytiigcjcolpmafaa
open Go.RowKit Go.Shelf Go.Lib Go.Sort

theorem size_sortW (enc : Int → Value) (w : World) (g m : Nat) (d : Array Int) (os : Array Obj) : (sortWorld enc w g 0 m d os).heap.size = w.heap.size + os.size := by
  unfold sortWorld grow
  simp [ahead]
theorem heap_sortW (enc : Int → Value) (w : World) (g m : Nat) (d : Array Int) (os : Array Obj) {k : Nat} (hk : k < w.heap.size) (hne : k ≠ g) : (sortWorld enc w g 0 m d os).heap[k]? = w.heap[k]? := by
  unfold sortWorld grow putRow mapBlock
  simp only
  rw [Array.getElem?_append_left (by simpa [ahead] using hk), Array.getElem?_modify, if_neg (fun e => hne e.symm)]
  rfl
theorem heap_sortW_at (enc : Int → Value) (w : World) (g m : Nat) (d : Array Int) (os : Array Obj) {c : Array Value} {t : TypeId} (h : w.heap[g]? = some (.cells c t (0, 0))) : (sortWorld enc w g 0 m d os).heap[g]? = some (.cells (putCells enc 0 d c) t (0, 0)) := by
  have hk : g < w.heap.size := (Array.getElem?_eq_some_iff.1 h).1
  unfold sortWorld grow putRow mapBlock
  simp only
  rw [Array.getElem?_append_left (by simpa [ahead] using hk), Array.getElem?_modify, if_pos rfl]
  show Option.map _ (w.heap[g]?) = _
  rw [h]
  rfl
theorem exc_sortW (w : World) (g m : Nat) (d : Array Int) (os : Array Obj) : Exc g w (sortWorld (Value.int .i64) w g 0 m d os) :=
  ⟨rfl, rfl, rfl, by rw [size_sortW]; omega, fun k hk hne => heap_sortW _ _ _ _ _ _ hk (fun e => hne (by rw [e]))⟩
theorem rowC_sortW {w : World} {g cap n m : Nat} {F : Nat → Int} {d : Array Int} {os : Array Obj} (h : RowC w g cap n F) (hd : d.size = n) : RowC (sortWorld (Value.int .i64) w g 0 m d os) g cap n (fun i => d[i]!) := by
  obtain ⟨G, ⟨c, h1, h2, h3⟩, hn, -⟩ := h
  refine ⟨fun i => if i < n then .int .i64 d[i]! else G i, ⟨_, heap_sortW_at _ _ _ _ _ _ h1, by unfold putCells; simp [h2], fun i hi => ?_⟩, hn, fun i hi => if_pos hi⟩
  unfold putCells
  rw [Array.getElem?_mapIdx, h3 i hi]
  simp only [Option.map_some, Nat.zero_le, true_and, Nat.zero_add, hd, Nat.sub_zero]
theorem swo_rank (r : Int → Int) : SWO (ltOf fun x y => r x - r y) where
  irrefl x := by
    show decide (r x - r x < 0) = false
    exact decide_eq_false (by omega)
  trans x y z h1 h2 := by
    have h1 : decide (r x - r y < 0) = true := h1
    have h2 : decide (r y - r z < 0) = true := h2
    show decide (r x - r z < 0) = true
    rw [decide_eq_true_iff] at *
    omega
  ntrans x y z h1 h2 := by
    have h1 : decide (r x - r y < 0) = false := h1
    have h2 : decide (r y - r z < 0) = false := h2
    show decide (r x - r z < 0) = false
    rw [decide_eq_false_iff_not] at *
    omega
theorem arr_lst (d : Array Int) : d.toList = lst d.size (fun i => d[i]!) := by
  refine List.ext_getElem (by rw [lst_len]; simp) (fun i h1 h2 => ?_)
  rw [lst_len] at h2
  have e1 := lst_get d.size (fun i => d[i]!) i h2
  rw [List.getElem?_eq_getElem (by rw [lst_len]; exact h2)] at e1
  injection e1 with e1
  rw [e1]
  simp [h2]

set_option maxHeartbeats 2000000 in
set_option maxRecDepth 1000000 in
theorem sortFunc_big (g cap n bx : Nat) (F : Nat → Int) (A : Option Addr) (L c : Nat) (f : Nat → Int) (w : World) (hR : RowC w g cap n F) (_ : 0 < n) (hn : n ≤ 1000000)
    (hb : w.cell? ⟨bx, 0, none⟩ = some (.slice A L c)) (hI : Ints w A L f) (hL : L ≤ 10000) (hne : bx ≠ g) (hneA : 0 < L → ∀ b o, A = some ⟨b, o, none⟩ → b ≠ g) :
    Calls Try.prog 120 #[.slice (some ⟨g, 0, none⟩) n cap, .func (.func 121) #[] #[.pointer (some ⟨bx, 0, none⟩)]] w fun e w' =>
      e = .returned (.tuple #[]) ∧ ∃ F', RowC w' g cap n F' ∧ (lst n F').Perm (lst n F) ∧ Srt (rkI f L) F' n ∧ Exc g w w' := by
  have hds : (lst n F).toArray.size = n := by simp [lst_len]
  have eg : ∀ args w, (callFunc 121 args).run Try.prog w = .ok (.enter 121 args) w := enters_of Try.func121 (by kernel_rfl) rfl
  have hcmp : CmpReads Try.prog 121 #[.pointer (some ⟨bx, 0, none⟩)] (Value.int .i64) (fun x y => rkI f L x - rkI f L y) g 0 (lst n F).toArray.size w := fun m os dk _ x y => by
    have he := exc_sortW w g m dk os
    exact cmpRank_any bx A L c f x y _ (he.cell hb hne) (fun hp => by
      obtain ⟨b, o, e, hc⟩ := hI hp
      exact ⟨b, o, e, fun k hk => he.cell (hc k hk) (hneA hp b o e)⟩) hL
  have hH : Holds (Value.int .i64) w g 0 (lst n F).toArray := fun j hj => by
    rw [hds] at hj
    refine ⟨?_, hR.frozen _⟩
    rw [Nat.zero_add, hR.cell hj]
    have : (lst n F).toArray[j]! = F j := by
      have e1 := lst_get n F j hj
      rw [getElem!_pos _ _ (by rw [hds]; exact hj)]
      rw [List.getElem?_eq_getElem (by rw [lst_len]; exact hj)] at e1
      injection e1 with e1
    rw [this]
  have hcon := Any.slices_SortFunc Try.sortF (Value.int .i64) (fun _ => rfl) (fun x y => rkI f L x - rkI f L y) (swo_rank _) 121 #[.pointer (some ⟨bx, 0, none⟩)] g 0 cap (lst n F).toArray w eg hcmp.lays hH hR.lt (by rw [hds]; omega)
  change Calls Try.prog 120 _ _ _ at hcon
  rw [hds] at hcon
  refine hcon.mono ?_
  rintro e w' ⟨rfl, d', m, os, ⟨hp1, -, hp3⟩, hs, rfl⟩
  rw [hds] at hp1
  refine ⟨rfl, fun i => d'[i]!, rowC_sortW hR hp1, ?_, fun i j hij hj => ?_, exc_sortW _ _ _ _ _⟩
  · have e1 : (d'.extract 0 n).toList = d'.toList := by
      rw [← hp1]
      simp
    have e2 : ∀ l : List Int, (l.toArray.extract 0 l.length).toList = l := fun l => by simp
    have e3 := e2 (lst n F)
    rw [lst_len] at e3
    rw [e1, e3, arr_lst, hp1] at hp3
    exact hp3
  · have := hs i j (Nat.zero_le _) hij hj
    have this : decide (rkI f L d'[j]! - rkI f L d'[i]! < 0) = false := this
    rw [decide_eq_false_iff_not] at this
    show rkI f L d'[i]! ≤ rkI f L d'[j]!
    omega
end Go.Proofs.Ytiigcjcolpmafaa

/- choice and middle of whatever many matchings. -/
namespace Go.Proofs.Ytiigcjcolpmafaa
open Go.RowKit

theorem clone_some_big (a : Addr) (n c : Nat) (f : Nat → Int) (w : World) (h : ∀ j u, ((lst n f).map (Value.int .i64))[j]? = some u → w.cell? (a.add j) = some u) (hn : n ≤ 1000000) :
    Calls Try.prog 63 #[.slice (some a) n c] w fun e w' => ∃ v', e = .returned v' ∧ OwnL w' w.heap.size v' (lst n f) ∧ v' ≠ .slice none 0 0 ∧ Below w.heap.size w w' := by
  have q := fun (w : World) (a : Option Addr) (n c n' c' : Nat) => Lib.run_eql_slice_nil (P := Try.prog) w 23 3 a n c n' c' Try.underlying23
  obtain ⟨i0, hi, hz0, hz1, hz2⟩ := info_parts infoInt
  have H := Lib.hid h
  clear h
  go_enter Try.func63, Try.ntmps63
  go_wp2_with (at_builtin; refine wpList_append_own _ rfl _ _ 23 rfl w.heap.size 3 i0 (.int .i64 0) 1 8 Try.underlying23 hi hz0 hz1 hz2 rfl (by decide) _ _ _ rfl (World.ownsRow_made w #[] 0 (Nat.le_refl _) (Nat.zero_le _) rfl) a n c ((lst n f).map (Value.int .i64)) rfl ?qc1 ?qc2 ?qc3 ?qc4 ?qc5 ?qc6 ?_)
  case qc1 => simp [lst_len]
  case qc2 => exact fun j u hu => Lib.cell?_alloc_some _ (H.out j u hu)
  case qc3 => exact one_of_ints _
  case qc4 => unfold maxLen; omega
  case qc5 => omega
  case qc6 => simp
  intro v' w1 hown hgrow hnil
  go_wp2
  go_ret
  refine ⟨v', rfl, ?_, ?_, ?_⟩
  · unfold OwnL; rw [lst_len]; simpa using hown
  · exact hnil
  · exact ((Below.refl _ w).alloc (Nat.le_refl _) _).grown hgrow (by simp) (by intro k hk; simp [Value.ownBlock] at hk; omega)



theorem clone_any_big (A : Option Addr) (n c : Nat) (f : Nat → Int) (w : World) (h : Ints w A n f) (hn : n ≤ 1000000) :
    Calls Try.prog 63 #[.slice A n c] w fun e w' => ∃ v', e = .returned v' ∧ OwnL w' w.heap.size v' (lst n f) ∧ (v' = .slice none 0 0 ↔ A = none) ∧ Below w.heap.size w w' := by
  rcases A with _ | a
  · obtain rfl := h.none_
    refine (clone_nil 0 c w).mono ?_
    rintro e w' ⟨rfl, rfl⟩
    exact ⟨_, rfl, OwnL.nil_ _ _, by simp, Below.refl _ _⟩
  · refine (clone_some_big a n c f w ?_ hn).mono ?_
    · intro j u hu
      have hj : 0 < n := by
        have := (List.getElem?_eq_some_iff.1 hu).1
        simp [lst] at this
        omega
      obtain ⟨b, o, e, _⟩ := h.at hj
      injection e with e
      subst e
      exact cells_of_ints h j u hu
    · rintro e w' ⟨v', rfl, h1, h2, h3⟩
      exact ⟨v', rfl, h1, by simp [h2], h3⟩



set_option maxHeartbeats 2000000 in
set_option maxRecDepth 1000000 in
theorem byRank_big (A B : Option Addr) (L c n cB : Nat) (f o : Nat → Int) (w : World) (hI : Ints w A L f) (hO : Ints w B n o) (hL : L ≤ 10000) (hn0 : 0 < n) (hn : n ≤ 1000000) :
    Calls Try.prog 111 #[.slice A L c, .slice B n cB] w fun e w' => ∃ g cap F, e = .returned (.slice (some ⟨g, 0, none⟩) n cap) ∧ RowC w' g cap n F ∧ (lst n F).Perm (lst n o) ∧ Srt (rkI f L) F n ∧ Below w.heap.size w w' := by
  have HI := Lib.hid hI
  have HO := Lib.hid hO
  have hb0 : Below w.heap.size w (w.alloc (.cells #[.slice A L c] 23)) := (Below.refl _ _).alloc (Nat.le_refl _) _
  have Hb0 := Lib.hid hb0
  have hbox : (w.alloc (.cells #[.slice A L c] 23)).cell? ⟨w.heap.size, 0, none⟩ = some (.slice A L c) := by simp [World.cell?_alloc_at]
  have HBox := Lib.hid hbox
  clear hI hO hb0 hbox
  go_enter Try.func111, Try.ntmps111
  go_wp2_with fail
  refine (clone_any_big B n cB o _ (HO.out.keep Hb0.out) (by omega)).mono ?_
  rintro e w1 ⟨v, rfl, hv, -, hb1⟩
  obtain ⟨g, cap, rfl, hg, hrow⟩ := hv.rowC hn0
  have hbx := hb1.cell (show (⟨w.heap.size, 0, none⟩ : Addr).block < _ by simp)
  rw [HBox.out] at hbx
  have hgw : w.heap.size + 1 ≤ g := by simpa using hg
  have HSo := Lib.hid (sortFunc_big g cap n w.heap.size o A L c f w1 hrow hn0 hn hbx ((HI.out.keep Hb0.out).keep hb1) hL (by omega) (fun h0 b p e => by
    obtain ⟨b', o', e', hc⟩ := HI.out h0
    rw [e] at e'
    injection e' with e'
    injection e' with e1
    have := World.block_lt_of_cell? _ _ (hc 0 h0)
    simp only at this
    omega))
  have Hb1 := Lib.hid (Hb0.out.trans (hb1.mono Hb0.out.size))
  clear hv hb1 hrow hbx hg
  go_wp2_with fail
  refine HSo.out.mono ?_
  rintro e w2 ⟨rfl, F, hR, hP, hS, hE⟩
  have HR := Lib.hid hR
  have HP := Lib.hid hP
  have HS := Lib.hid hS
  have Hb2 := Lib.hid (Hb1.out.trans (hE.below (by omega) Hb1.out.size))
  clear hR hP hS hE
  go_wp2
  go_ret
  exact ⟨g, cap, F, rfl, HR.out, HP.out, HS.out, Hb2.out⟩

set_option maxHeartbeats 1000000 in
set_option maxRecDepth 1000000 in
theorem choice_big (A B : Option Addr) (L c n cB k : Nat) (f o : Nat → Int) (x0 : Int) (w : World) (hI : Ints w A L f) (hO : Ints w B n o) (hL : L ≤ 10000) (hn : n ≤ 1000000) (hk : k < n)
    (hx : ∀ F : Nat → Int, (lst n F).Perm (lst n o) → Srt (rkI f L) F n → F k = x0) :
    Lr 90 #[.slice A L c, .int .i64 ((k + 1 : Nat) : Int), .slice B n cB] w (.int .i64 x0) := by
  have HC := Lib.hid (byRank_big A B L c n cB f o w hI hO hL (by omega) hn)
  have HX := Lib.hid hx
  obtain ⟨K, hK⟩ : ∃ K, K = k + 1 := ⟨_, rfl⟩
  have u1 : IntKind.i64.wrap ((K : Int) - 1) = (K : Int) - 1 := IntWalk.i64_in _ ⟨by omega, by omega⟩
  have u2 : ((K : Int) - 1).toNat = k := by omega
  have u3 : (0 : Int) ≤ (K : Int) - 1 := by omega
  have u4 : (K : Int) - 1 < n := by omega
  rw [← hK]
  clear hI hO hx hK
  show Calls _ _ _ _ _
  go_enter Try.func90, Try.ntmps90
  go_wp2_with fail
  refine HC.out.mono ?_
  rintro e w1 ⟨g, cap, F, rfl, hR, hP, hS, hb⟩
  have hc := hR.cell hk
  rw [HX.out F hP hS] at hc
  have Hb := Lib.hid hb
  clear hR hP hS hb
  go_wp2
  go_ret
  exact ⟨rfl, Hb.out⟩
set_option maxHeartbeats 2000000 in
set_option maxRecDepth 1000000 in
theorem middle_big (AH AS AP M : Option Addr) (cH cS cP N cM k : Nat) (p : PlanD) (mm : Nat → Nat → Int) (mid : Nat → Int) (w : World) (hp : PlanIn w AH AS AP p) (hM : Rows2 w M N (fun _ => p.nH) mm) (hN : N ≤ 1000000) (hk : k < N)
    (hmid : ∀ h, h < p.nH → ∀ F : Nat → Int, (lst N F).Perm (lst N (fun j => mm j h)) → Srt (rkI (p.vH h) (p.LH h)) F N → F k = mid h) :
    Calls Try.prog 58 #[.agg #[.slice AH p.nH cH, .slice AS p.nS cS, .slice AP p.nP cP], .int .i64 ((k + 1 : Nat) : Int), .slice M N cM] w fun e w' => ∃ g, e = .returned (.slice (some ⟨g, 0, none⟩) p.nH p.nH) ∧ RowI w' g p.nH mid ∧ Below w.heap.size w w' := by
  obtain ⟨i0, hi, hz0, hz1, hz2⟩ := info_parts infoInt
  have hnH := hp.nH9
  have hmk := mk_ints p.nH (by omega)
  have HsH := Lib.hid hp.sH
  have Hb0 := Lib.hid (below_box w (.cells #[.slice AH p.nH cH, .slice AS p.nS cS, .slice AP p.nP cP] 29))
  have HB0 := Lib.hid (BoxP.new w AH AS AP p.nH p.nS p.nP cH cS cP)
  obtain ⟨W, hW⟩ : ∃ W, W = w.alloc (.cells #[.slice AH p.nH cH, .slice AS p.nS cS, .slice AP p.nP cP] 29) := ⟨_, rfl⟩
  rw [← hW] at Hb0 HB0
  have HHd := Lib.hid (hp.hands.keep Hb0.out)
  have HM := Lib.hid (hM.keep Hb0.out)
  have HMid := Lib.hid hmid
  obtain ⟨K, hK⟩ : ∃ K, K = k + 1 := ⟨_, rfl⟩
  rw [← hK]
  have HK := Lib.hid hK
  have hr0 : RowI (W.alloc (.cells (madeCells #[.int .i64 0] p.nH) 3)) W.heap.size p.nH (fun g => if g < 0 then mid g else 0) := (RowI.made W p.nH).congr fun g _ => by rw [if_neg (by omega)]
  have HR0 := Lib.hid hr0
  have Hbm := Lib.hid (below_box W (.cells (madeCells #[.int .i64 0] p.nH) 3))
  obtain ⟨q0, q1, q2⟩ := HB0.out
  have q0' := old_cell q0 Hbm.out
  clear hp hM hmid hK hr0
  go_enter Try.func58, Try.ntmps58
  have hWs : W.heap.size = w.heap.size + 1 := by rw [hW]; simp
  rw [hWs] at HR0
  go_wp2
  rw [← hW]
  clear hmk q0 q1 q2 q0' hW
  obtain ⟨gm, hgm⟩ : ∃ gm, gm = w.heap.size + 1 := ⟨_, rfl⟩
  have HGm : Hid (gm = W.heap.size) := Lib.hid (by rw [hgm, hWs])
  rw [← hgm]
  rw [← hgm] at HR0
  clear hWs
  have HBm2 := Lib.hid (HB0.out.keep Hbm.out)
  have Hwm := Lib.hid (Hb0.out.trans (Hbm.out.mono Hb0.out.size))
  clear hgm
  go_loopw [20] (fun x wr => ∃ h : Nat, h ≤ p.nH ∧ x = .int .i64 h ∧ RowI wr gm p.nH (fun g => if g < h then mid g else 0) ∧ Below w.heap.size w wr ∧ Below W.heap.size W wr) (fun x _ => p.nH - (intOf x).toNat)
  case atStart => exact ⟨0, Nat.zero_le _, rfl, HR0.out, Hwm.out, Hbm.out⟩
  case round =>
    obtain ⟨h, hh, rfl, hR, hbel, hbW⟩ := hrel
    have HR := Lib.hid hR
    have Hbel := Lib.hid hbel
    have HbW := Lib.hid hbW
    clear hR hbel hbW
    by_cases hlt : h < p.nH
    · obtain ⟨bH, oH, RH, kH, rfl, hcH, -, hIH⟩ := (HHd.out.keep HbW.out).at hlt
      have HIH := Lib.hid hIH
      clear hIH
      go_wp2
      obtain ⟨wo, hwo⟩ : ∃ wo : World, wo = wr := ⟨_, rfl⟩
      have HWo := Lib.hid hwo
      clear hwo
      go_loopw [10, 27] (fun s x wi => ∃ j : Nat, j ≤ N ∧ x = .int .i64 j ∧ OwnL wi wo.heap.size s (lst j (fun i => mm i h)) ∧ Below wo.heap.size wo wi) (fun _ x _ => N - (intOf x).toNat)
      case atStart => exact ⟨0, Nat.zero_le _, rfl, OwnL.nil_ _ _, by rw [HWo.out]; exact Below.refl _ _⟩
      case round =>
        obtain ⟨j, hj, rfl, hown, hbi⟩ := hrel
        have HOwn := Lib.hid hown
        have HBi := Lib.hid hbi
        have hszi := hbi.size
        clear hown hbi
        have HbWi : Hid (Below W.heap.size W wr) := Lib.hid (by
          have h1 := HbW.out
          rw [← HWo.out] at h1
          exact h1.trans (HBi.out.mono h1.size))
        by_cases hlt2 : j < N
        · obtain ⟨bM, oM, RM, kM, rfl, hcM, hIM⟩ := (HM.out.keep HbWi.out).at hlt2
          obtain ⟨bm, om, rfl, hcm⟩ := hIM.at hlt
          have hlen := lst_len j (fun i => mm i h)
          have HS := Lib.hid (lst_succ j (fun i => mm i h))
          go_wp2_with (at_builtin; go_loud (refine wpList_append_own _ rfl _ _ 23 rfl wo.heap.size 3 i0 (.int .i64 0) 1 8 Try.underlying23 hi hz0 hz1 hz2 rfl (by decide) _ _ _ rfl (World.ownsRow.alloc HOwn.out _) ⟨wr.heap.size, 0, none⟩ 1 1 [.int .i64 (mm j h)] rfl rfl (news1 _ _ _) (one1 rfl) (by rw [hlen]; unfold maxLen; omega) (by rw [hlen]; omega) (by simp; omega) ?_))
          intro v2 w2 hown2 hgrow2 _
          have hb2 : Below wo.heap.size wo w2 := (HBi.out.alloc hszi _).grown hgrow2 (by simp; omega) (fun g hg => (World.ownsRow.lt HOwn.out g hg).1)
          have hO2 : OwnL w2 wo.heap.size v2 (lst (j + 1) (fun i => mm i h)) := by
            rw [HS.out]
            unfold OwnL
            simpa [hlen] using hown2
          have HO2 := Lib.hid hO2
          have Hb2 := Lib.hid hb2
          clear hown2 hgrow2 hO2 hb2
          go_wp2
          go_roundw
          case rel => exact ⟨j + 1, by omega, by go_num, HO2.out, Hb2.out⟩
          case measure => simp [intOf]; omega
        · obtain rfl : j = N := by omega
          obtain ⟨A3, c3, rfl, hI3'⟩ := HOwn.out.shp (lst_len _ _)
          have hI3 := hI3'.congr (g := fun i => mm i h) (fun q hq => lst_getD _ _ _ hq)
          clear hI3'
          have hLh := HsH.out h hlt
          have hch := choice_big RH A3 (p.LH h) kH j c3 k (p.vH h) (fun i => mm i h) (mid h) wr (by
            have h1 := HIH.out
            rw [← HWo.out] at h1
            exact h1.keep HBi.out) hI3 (by omega) hN hk (HMid.out h hlt)
          rw [← HK.out] at hch
          have HCh := Lib.hid hch
          have HR2 : Hid (RowI wr gm p.nH (fun g => if g < h then mid g else 0)) := Lib.hid (by
            have h1 := HR.out
            rw [← HWo.out] at h1
            exact h1.keep HBi.out)
          have Hbel2 : Hid (Below w.heap.size w wr) := Lib.hid (by
            have h1 := Hbel.out
            rw [← HWo.out] at h1
            exact h1.trans (HBi.out.mono h1.size))
          clear hch hI3
          go_wp2_with fail
          refine Lr.use HCh.out ?_
          intro w4 hb4
          have HR4 := HR2.out.keep hb4
          have hck := HR4.cell hlt
          have hfz := HR4.frozen h
          have HR5 := Lib.hid (HR4.set h (mid h))
          have hgw : w.heap.size ≤ gm := by rw [HGm.out]; exact Hb0.out.size
          have hgW : W.heap.size ≤ gm := by rw [HGm.out]; exact Nat.le_refl _
          have Hb5 := Lib.hid ((Hbel2.out.trans (hb4.mono Hbel2.out.size)).setCell (p := ⟨gm, h, none⟩) hgw (.int .i64 (mid h)))
          have HbW5 := Lib.hid ((HbWi.out.trans (hb4.mono HbWi.out.size)).setCell (p := ⟨gm, h, none⟩) hgW (.int .i64 (mid h)))
          clear HR4 hb4 hgw hgW
          go_wp2
          go_roundw
          case rel =>
            refine ⟨h + 1, by omega, by go_num, HR5.out.congr (fun g hg => ?_), Hb5.out, HbW5.out⟩
            simp only [upd]
            by_cases e : g = h
            · rw [if_pos e, if_pos (by omega), e]
            · rw [if_neg e]
              by_cases e2 : g < h
              · rw [if_pos e2, if_pos (by omega)]
              · rw [if_neg e2, if_neg (by omega)]
          case measure => simp [intOf]; omega
    · obtain rfl : h = p.nH := by omega
      go_wp2
      go_ret
      exact ⟨gm, rfl, HR.out.congr (fun g hg => by rw [if_pos hg]), Hbel.out⟩
end Go.Proofs.Ytiigcjcolpmafaa

/- Middle and Last of a plan. -/
namespace Go.Proofs.Ytiigcjcolpmafaa
open Go.RowKit

/-- What each hand has in the middle, at the k-th place. -/
noncomputable def midG (p : PlanD) : Nat → Nat → Int := if h : okPlan p = true then Classical.choose (mid_ex h) else fun _ _ => 0
theorem midG_spec {p : PlanD} (hok : okPlan p = true) : (∀ k, k < kP p → Stb p (midG p k)) ∧ (∀ h, h < p.nH → ∀ F : Nat → Int, (lst (kP p) F).Perm (lst (kP p) (fun j => mmP p j h)) → Srt (rkI (p.vH h) (p.LH h)) F (kP p) → ∀ k, k < kP p → F k = midG p k h) ∧
    (∀ h, h < p.nH → (lst (kP p) (fun k => midG p k h)).Perm (lst (kP p) (fun j => mmP p j h))) ∧ ∀ h i j, h < p.nH → i ≤ j → j < kP p → rHd p h (midG p i h) ≤ rHd p h (midG p j h) := by
  have := Classical.choose_spec (mid_ex hok)
  unfold midG
  rw [dif_pos hok]
  exact this
theorem lst_mem {n : Nat} {f : Nat → Int} {x : Int} : x ∈ lst n f ↔ ∃ i, i < n ∧ f i = x := by
  unfold lst
  rw [List.mem_map]
  exact ⟨fun ⟨i, h1, h2⟩ => ⟨i, List.mem_range.1 h1, h2⟩, fun ⟨i, h1, h2⟩ => ⟨i, List.mem_range.2 h1, h2⟩⟩
/-- The first in the middle is the best, and the last the worst. -/
theorem midG_first {p : PlanD} (hok : okPlan p = true) {u : Nat → Int} (hu : Stb p u) {h : Nat} (hh : h < p.nH) : rHd p h (midG p 0 h) ≤ rHd p h (u h) ∧ rHd p h (u h) ≤ rHd p h (midG p (kP p - 1) h) := by
  obtain ⟨-, -, h3, h4⟩ := midG_spec hok
  obtain ⟨i, hi, he⟩ := mm_all hok hu
  have h5 : u h ∈ lst (kP p) (fun j => mmP p j h) := lst_mem.2 ⟨i, hi, he h hh⟩
  obtain ⟨k, hk, e⟩ := lst_mem.1 ((h3 h hh).mem_iff.2 h5)
  rw [← e]
  exact ⟨h4 h 0 k hh (Nat.zero_le _) hk, h4 h k (kP p - 1) hh (by omega) (by omega)⟩
theorem kP_le {p : PlanD} (hok : okPlan p = true) : kP p ≤ 100000 := by
  obtain ⟨⟨a1, a2, a3, a4, -⟩, -⟩ := okPlan_of hok
  have h1 := stL_len p a4 p.nH 0 (fun _ => -1)
  have h2 : 5 ^ p.nH ≤ 5 ^ 6 := Nat.pow_le_pow_right (by omega) a2
  unfold kP LsP
  omega
theorem all_mat {w : World} {base : Nat} {x : Value} {p : PlanD} (hok : okPlan p = true) (h : OwnLL w base x (LsP p)) : ∃ A c, x = .slice A (kP p) c ∧ Mat w A (kP p) p.nH (mmP p) := by
  obtain ⟨A, c, rfl, hr⟩ := h.rows
  exact ⟨A, c, rfl, Mat.of hr (fun i hi => mm_len hok hi)⟩

set_option maxHeartbeats 1000000 in
set_option maxRecDepth 1000000 in
theorem Middle_bad (AH AS AP : Option Addr) (cH cS cP : Nat) (K : Int) (p : PlanD) (w : World) (hp : PlanIn w AH AS AP p) (hok : okPlan p = false) :
    Lr 33 #[.agg #[.slice AH p.nH cH, .slice AS p.nS cS, .slice AP p.nP cP], .int .i64 K] w (.tuple #[.slice none 0 0, .int .i64 2]) := by
  have Hb0 := Lib.hid (below_box w (.cells #[.slice AH p.nH cH, .slice AS p.nS cS, .slice AP p.nP cP] 29))
  have hv := valid_any AH AS AP cH cS cP p _ (hp.keep Hb0.out)
  rw [hok] at hv
  have HV := Lib.hid hv
  clear hp hv hok
  show Calls _ _ _ _ _
  go_enter Try.func33, Try.ntmps33
  go_wp2_with fail
  refine Lr.use HV.out ?_
  intro w1 hb1
  have Hb1 := Lib.hid (Hb0.out.trans (hb1.mono Hb0.out.size))
  clear hb1
  go_wp2
  go_returns
  exact ⟨rfl, Hb1.out⟩
set_option maxHeartbeats 1000000 in
set_option maxRecDepth 1000000 in
theorem Middle_out (AH AS AP : Option Addr) (cH cS cP : Nat) (K : Int) (p : PlanD) (w : World) (hp : PlanIn w AH AS AP p) (hok : okPlan p = true) (hK : K < 1 ∨ (kP p : Int) < K) :
    Lr 33 #[.agg #[.slice AH p.nH cH, .slice AS p.nS cS, .slice AP p.nP cP], .int .i64 K] w (.tuple #[.slice none 0 0, .int .i64 2]) := by
  have Hb0 := Lib.hid (below_box w (.cells #[.slice AH p.nH cH, .slice AS p.nS cS, .slice AP p.nP cP] 29))
  have HB0 := Lib.hid (BoxP.new w AH AS AP p.nH p.nS p.nP cH cS cP)
  have hv := valid_any AH AS AP cH cS cP p _ (hp.keep Hb0.out)
  rw [hok] at hv
  have HV := Lib.hid hv
  have HA : Hid (∀ w', Below w.heap.size w w' → Calls Try.prog 57 #[.agg #[.slice AH p.nH cH, .slice AS p.nS cS, .slice AP p.nP cP]] w' fun e w'' => ∃ x, e = .returned x ∧ OwnLL w'' w'.heap.size x (stL p p.nH 0 (fun _ => -1)) ∧ Below w'.heap.size w' w'') := Lib.hid (fun w' hb => allStable_any AH AS AP cH cS cP p w' (hp.keep hb) hok)
  have HOk := Lib.hid hok
  clear hp hv hok
  show Calls _ _ _ _ _
  go_enter Try.func33, Try.ntmps33
  go_wp2_with fail
  refine Lr.use HV.out ?_
  intro w1 hb1
  have Hb1 := Lib.hid (Hb0.out.trans (hb1.mono Hb0.out.size))
  obtain ⟨k0, k1, k2⟩ := HB0.out.keep hb1
  clear hb1
  go_wp2_with fail
  refine (HA.out _ Hb1.out).mono ?_
  rintro e w2 ⟨x, rfl, hx, hb2⟩
  obtain ⟨A, c, rfl, -⟩ := all_mat HOk.out hx
  have Hb2 := Lib.hid (Hb1.out.trans (hb2.mono Hb1.out.size))
  clear hx hb2 k0 k1 k2
  generalize kP p = n at *
  by_cases h1 : K < 1
  · have d1 : decide (K < 1) = true := decide_eq_true h1
    go_wp2
    go_returns
    exact ⟨rfl, Hb2.out⟩
  · have d1 : decide (K < 1) = false := decide_eq_false h1
    have d2 : decide ((n : Int) < K) = true := decide_eq_true (by omega)
    go_wp2
    go_returns
    exact ⟨rfl, Hb2.out⟩
set_option maxHeartbeats 1000000 in
set_option maxRecDepth 1000000 in
theorem Middle_ok (AH AS AP : Option Addr) (cH cS cP K : Nat) (p : PlanD) (w : World) (hp : PlanIn w AH AS AP p) (hok : okPlan p = true) (h1 : 1 ≤ K) (h2 : K ≤ kP p) :
    Calls Try.prog 33 #[.agg #[.slice AH p.nH cH, .slice AS p.nS cS, .slice AP p.nP cP], .int .i64 K] w fun e w' => ∃ g, e = .returned (.tuple #[.slice (some ⟨g, 0, none⟩) p.nH p.nH, .int .i64 0]) ∧ RowI w' g p.nH (midG p (K - 1)) ∧ Below w.heap.size w w' := by
  have Hb0 := Lib.hid (below_box w (.cells #[.slice AH p.nH cH, .slice AS p.nS cS, .slice AP p.nP cP] 29))
  have HB0 := Lib.hid (BoxP.new w AH AS AP p.nH p.nS p.nP cH cS cP)
  have hv := valid_any AH AS AP cH cS cP p _ (hp.keep Hb0.out)
  rw [hok] at hv
  have HV := Lib.hid hv
  have HA : Hid (∀ w', Below w.heap.size w w' → Calls Try.prog 57 #[.agg #[.slice AH p.nH cH, .slice AS p.nS cS, .slice AP p.nP cP]] w' fun e w'' => ∃ x, e = .returned x ∧ OwnLL w'' w'.heap.size x (stL p p.nH 0 (fun _ => -1)) ∧ Below w'.heap.size w' w'') := Lib.hid (fun w' hb => allStable_any AH AS AP cH cS cP p w' (hp.keep hb) hok)
  have HOk := Lib.hid hok
  have HP := Lib.hid (fun w' (hb : Below w.heap.size w w') => hp.keep hb)
  have HMi : Hid (∀ (A : Option Addr) (c : Nat) (w' : World), Below w.heap.size w w' → Mat w' A (kP p) p.nH (mmP p) → Calls Try.prog 58 #[.agg #[.slice AH p.nH cH, .slice AS p.nS cS, .slice AP p.nP cP], .int .i64 K, .slice A (kP p) c] w' fun e w'' => ∃ g, e = .returned (.slice (some ⟨g, 0, none⟩) p.nH p.nH) ∧ RowI w'' g p.nH (midG p (K - 1)) ∧ Below w'.heap.size w' w'') := Lib.hid (fun A c w' hb hM => by
    obtain ⟨k, rfl⟩ : ∃ k, K = k + 1 := ⟨K - 1, by omega⟩
    exact middle_big AH AS AP A cH cS cP (kP p) c k p (mmP p) (midG p k) w' (hp.keep hb) hM (by have := kP_le hok; omega) (by omega) (fun h hh F hF hS => (midG_spec hok).2.1 h hh F hF hS k (by omega)))
  clear hp hv hok
  go_enter Try.func33, Try.ntmps33
  go_wp2_with fail
  refine Lr.use HV.out ?_
  intro w1 hb1
  have Hb1 := Lib.hid (Hb0.out.trans (hb1.mono Hb0.out.size))
  obtain ⟨k0, k1, k2⟩ := HB0.out.keep hb1
  have HBx1 := Lib.hid (HB0.out.keep hb1)
  clear hb1
  go_wp2_with fail
  refine (HA.out _ Hb1.out).mono ?_
  rintro e w2 ⟨x, rfl, hx, hb2⟩
  obtain ⟨A, c, rfl, hM⟩ := all_mat HOk.out hx
  have Hb2 := Lib.hid (Hb1.out.trans (hb2.mono Hb1.out.size))
  have HM2 := Lib.hid (HMi.out A c w2 Hb2.out hM)
  clear k0 k1 k2
  obtain ⟨k0, k1, k2⟩ := HBx1.out.keep hb2
  clear hx hb2 hM HMi
  generalize kP p = n at *
  have d1 : decide ((K : Int) < 1) = false := decide_eq_false (by omega)
  have d2 : decide ((n : Int) < K) = false := decide_eq_false (by omega)
  go_wp2_with fail
  refine HM2.out.mono ?_
  rintro e w3 ⟨g, rfl, hR, hb3⟩
  have HR := Lib.hid hR
  have Hb3 := Lib.hid (Hb2.out.trans (hb3.mono Hb2.out.size))
  clear hR hb3 k0 k1 k2
  go_wp2
  go_returns
  exact ⟨g, rfl, HR.out, Hb3.out⟩
set_option maxHeartbeats 1000000 in
set_option maxRecDepth 1000000 in
theorem Last_bad (AH AS AP : Option Addr) (cH cS cP : Nat) (p : PlanD) (w : World) (hp : PlanIn w AH AS AP p) (hok : okPlan p = false) :
    Lr 22 #[.agg #[.slice AH p.nH cH, .slice AS p.nS cS, .slice AP p.nP cP]] w (.tuple #[.slice none 0 0, .int .i64 2]) := by
  have Hb0 := Lib.hid (below_box w (.cells #[.slice AH p.nH cH, .slice AS p.nS cS, .slice AP p.nP cP] 29))
  have hv := valid_any AH AS AP cH cS cP p _ (hp.keep Hb0.out)
  rw [hok] at hv
  have HV := Lib.hid hv
  clear hp hv hok
  show Calls _ _ _ _ _
  go_enter Try.func22, Try.ntmps22
  go_wp2_with fail
  refine Lr.use HV.out ?_
  intro w1 hb1
  have Hb1 := Lib.hid (Hb0.out.trans (hb1.mono Hb0.out.size))
  clear hb1
  go_wp2
  go_returns
  exact ⟨rfl, Hb1.out⟩
set_option maxHeartbeats 1000000 in
set_option maxRecDepth 1000000 in
theorem Last_ok (AH AS AP : Option Addr) (cH cS cP : Nat) (p : PlanD) (w : World) (hp : PlanIn w AH AS AP p) (hok : okPlan p = true) :
    Calls Try.prog 22 #[.agg #[.slice AH p.nH cH, .slice AS p.nS cS, .slice AP p.nP cP]] w fun e w' => ∃ g, e = .returned (.tuple #[.slice (some ⟨g, 0, none⟩) p.nH p.nH, .int .i64 0]) ∧ RowI w' g p.nH (midG p (kP p - 1)) ∧ Below w.heap.size w w' := by
  have Hb0 := Lib.hid (below_box w (.cells #[.slice AH p.nH cH, .slice AS p.nS cS, .slice AP p.nP cP] 29))
  have HB0 := Lib.hid (BoxP.new w AH AS AP p.nH p.nS p.nP cH cS cP)
  have hv := valid_any AH AS AP cH cS cP p _ (hp.keep Hb0.out)
  rw [hok] at hv
  have HV := Lib.hid hv
  have HA : Hid (∀ w', Below w.heap.size w w' → Calls Try.prog 57 #[.agg #[.slice AH p.nH cH, .slice AS p.nS cS, .slice AP p.nP cP]] w' fun e w'' => ∃ x, e = .returned x ∧ OwnLL w'' w'.heap.size x (stL p p.nH 0 (fun _ => -1)) ∧ Below w'.heap.size w' w'') := Lib.hid (fun w' hb => allStable_any AH AS AP cH cS cP p w' (hp.keep hb) hok)
  have HOk := Lib.hid hok
  have hkp := kP_pos hok
  have HMi : Hid (∀ (A : Option Addr) (c : Nat) (w' : World), Below w.heap.size w w' → Mat w' A (kP p) p.nH (mmP p) → Calls Try.prog 58 #[.agg #[.slice AH p.nH cH, .slice AS p.nS cS, .slice AP p.nP cP], .int .i64 (kP p : Nat), .slice A (kP p) c] w' fun e w'' => ∃ g, e = .returned (.slice (some ⟨g, 0, none⟩) p.nH p.nH) ∧ RowI w'' g p.nH (midG p (kP p - 1)) ∧ Below w'.heap.size w' w'') := Lib.hid (fun A c w' hb hM => by
    have := middle_big AH AS AP A cH cS cP (kP p) c (kP p - 1) p (mmP p) (midG p (kP p - 1)) w' (hp.keep hb) hM (by have := kP_le hok; omega) (by omega) (fun h hh F hF hS => (midG_spec hok).2.1 h hh F hF hS (kP p - 1) (by omega))
    rw [show kP p - 1 + 1 = kP p by omega] at this
    exact this)
  clear hp hv hok
  go_enter Try.func22, Try.ntmps22
  go_wp2_with fail
  refine Lr.use HV.out ?_
  intro w1 hb1
  have Hb1 := Lib.hid (Hb0.out.trans (hb1.mono Hb0.out.size))
  obtain ⟨k0, k1, k2⟩ := HB0.out.keep hb1
  have HBx1 := Lib.hid (HB0.out.keep hb1)
  clear hb1
  go_wp2_with fail
  refine (HA.out _ Hb1.out).mono ?_
  rintro e w2 ⟨x, rfl, hx, hb2⟩
  obtain ⟨A, c, rfl, hM⟩ := all_mat HOk.out hx
  have Hb2 := Lib.hid (Hb1.out.trans (hb2.mono Hb1.out.size))
  have HM2 := Lib.hid (HMi.out A c w2 Hb2.out hM)
  clear k0 k1 k2
  obtain ⟨k0, k1, k2⟩ := HBx1.out.keep hb2
  clear hx hb2 hM HMi
  go_wp2_with fail
  refine HM2.out.mono ?_
  rintro e w3 ⟨g, rfl, hR, hb3⟩
  have HR := Lib.hid hR
  have Hb3 := Lib.hid (Hb2.out.trans (hb3.mono Hb2.out.size))
  clear hR hb3 k0 k1 k2
  go_wp2
  go_returns
  exact ⟨g, rfl, HR.out, Hb3.out⟩
end Go.Proofs.Ytiigcjcolpmafaa

/- The reference's Middle puts what a hand has into a list by insertion: the list's theory. -/
namespace Go.Proofs.Ytiigcjcolpmafaa
open Go.RowKit

/-- The first place of a list that x is liked more than. -/
def atI (r : Int → Int) (x : Int) : List Int → Nat
  | [] => 0
  | y :: l => if r x < r y then 0 else atI r x l + 1
def insI (r : Int → Int) (l : List Int) (x : Int) : List Int := l.take (atI r x l) ++ x :: l.drop (atI r x l)
theorem atI_le (r : Int → Int) (x : Int) : ∀ l : List Int, atI r x l ≤ l.length := by
  intro l
  induction l with
  | nil => exact Nat.le_refl _
  | cons y l ih =>
    show (if _ then _ else _) ≤ _
    split
    · exact Nat.zero_le _
    · exact Nat.succ_le_succ ih
theorem insI_perm (r : Int → Int) (l : List Int) (x : Int) : (insI r l x).Perm (x :: l) := by
  unfold insI
  have h := (List.perm_middle (a := x) (l₁ := l.take (atI r x l)) (l₂ := l.drop (atI r x l)))
  rwa [List.take_append_drop] at h
theorem insI_len (r : Int → Int) (l : List Int) (x : Int) : (insI r l x).length = l.length + 1 := (insI_perm r l x).length_eq
theorem insI_cons (r : Int → Int) (y x : Int) (l : List Int) : insI r (y :: l) x = if r x < r y then x :: y :: l else y :: insI r l x := by
  unfold insI
  by_cases h : r x < r y
  · have e : atI r x (y :: l) = 0 := by show (if _ then _ else _) = _; rw [if_pos h]
    rw [e, if_pos h]
    rfl
  · have e : atI r x (y :: l) = atI r x l + 1 := by show (if _ then _ else _) = _; rw [if_neg h]
    rw [e, if_neg h]
    rfl
theorem insI_srt (r : Int → Int) (x : Int) : ∀ l : List Int, l.Pairwise (fun a b => r a ≤ r b) → (insI r l x).Pairwise (fun a b => r a ≤ r b) := by
  intro l
  induction l with
  | nil => intro _; exact List.pairwise_singleton _ _
  | cons y l ih =>
    intro h
    obtain ⟨h1, h2⟩ := List.pairwise_cons.1 h
    rw [insI_cons]
    by_cases g : r x < r y
    · rw [if_pos g]
      refine List.pairwise_cons.2 ⟨fun z hz => ?_, h⟩
      rcases List.mem_cons.1 hz with rfl | hz
      · omega
      · have := h1 z hz; omega
    · rw [if_neg g]
      refine List.pairwise_cons.2 ⟨fun z hz => ?_, ih h2⟩
      rcases List.mem_cons.1 ((insI_perm r l x).mem_iff.1 hz) with rfl | hz
      · omega
      · exact h1 z hz
def hadI (r : Int → Int) (v : Nat → Int) : Nat → List Int
  | 0 => []
  | j + 1 => insI r (hadI r v j) (v j)
theorem hadI_len (r : Int → Int) (v : Nat → Int) : ∀ n, (hadI r v n).length = n := by
  intro n
  induction n with
  | zero => rfl
  | succ n ih =>
    show (insI r (hadI r v n) (v n)).length = n + 1
    rw [insI_len, ih]
theorem hadI_perm (r : Int → Int) (v : Nat → Int) : ∀ n, (hadI r v n).Perm (lst n v) := by
  intro n
  induction n with
  | zero => exact List.Perm.refl _
  | succ n ih =>
    rw [lst_succ]
    refine (insI_perm r (hadI r v n) (v n)).trans ?_
    refine (List.Perm.cons _ ih).trans ?_
    exact (List.perm_append_singleton (v n) (lst n v)).symm
theorem hadI_srt (r : Int → Int) (v : Nat → Int) : ∀ n, (hadI r v n).Pairwise (fun a b => r a ≤ r b) := by
  intro n
  induction n with
  | zero => exact List.Pairwise.nil
  | succ n ih => exact insI_srt r (v n) _ ih
theorem mid_ref {p : PlanD} (hok : okPlan p = true) {h k : Nat} (hh : h < p.nH) (hk : k < kP p) : (hadI (rkI (p.vH h) (p.LH h)) (fun j => mmP p j h) (kP p)).getD k 0 = midG p k h := by
  have hl := hadI_len (rkI (p.vH h) (p.LH h)) (fun j => mmP p j h) (kP p)
  have hp := hadI_perm (rkI (p.vH h) (p.LH h)) (fun j => mmP p j h) (kP p)
  have hs := hadI_srt (rkI (p.vH h) (p.LH h)) (fun j => mmP p j h) (kP p)
  generalize hadI (rkI (p.vH h) (p.LH h)) (fun j => mmP p j h) (kP p) = L at *
  refine (midG_spec hok).2.1 h hh (fun i => L.getD i 0) ?_ ?_ k hk
  · have e := lst_of L
    rw [hl] at e
    rw [e]
    exact hp
  · intro i j hij hj
    have hi' : i < L.length := by omega
    have hj' : j < L.length := by omega
    have := List.pairwise_iff_getElem.1 hs i j hi' hj' hij
    simpa only [List.getD_eq_getElem?_getD, List.getElem?_eq_getElem hi', List.getElem?_eq_getElem hj', Option.getD_some] using this
end Go.Proofs.Ytiigcjcolpmafaa

/- The few's stable matchings are the plan's. -/
namespace Go.Proofs.Ytiigcjcolpmafaa
open Go.RowKit

theorem last_all {p : PlanD} (hok : okPlan p = true) :
    Stb p (midG (fewP p) (kP (fewP p) - 1)) ∧ ∀ u, Stb p u → ∀ x, x < p.nH → rHd p x (u x) ≤ rHd p x (midG (fewP p) (kP (fewP p) - 1) x) := by
  have hk := kP_pos (few_okT hok)
  refine ⟨(few_stb hok).1 ((midG_spec (few_okT hok)).1 _ (by omega)), fun u hu x hx => ?_⟩
  have := (midG_first (few_okT hok) ((few_stb hok).2 hu) (h := x) (by rw [(few_n hok).1]; exact hx)).2
  rw [few_rHd hok hx, few_rHd hok hx] at this
  exact this
end Go.Proofs.Ytiigcjcolpmafaa

/- Join and Meet of stable matchings; slices.ContainsFunc with the laws' closures. -/
namespace Go.Proofs.Ytiigcjcolpmafaa
open Go.RowKit

theorem eqB_cg {n : Nat} {f g : Nat → Int} (h : ∀ x, x < n → f x = g x) : eqB n n f g = true := by
  simp only [eqB, decide_true, Bool.true_and]
  exact allB_t (fun x hx => by simp [eqP, h x hx])
theorem eqB_cgi {n : Nat} {f g : Nat → Int} : eqB n n f g = true ↔ ∀ x, x < n → f x = g x := by
  constructor
  · intro h x hx
    simp only [eqB, decide_true, Bool.true_and] at h
    have := allB_iff.1 h x hx
    simpa [eqP] using this
  · exact eqB_cg
theorem eqB_sym (n n' : Nat) (f g : Nat → Int) : eqB n n' f g = eqB n' n g f := by
  rw [Bool.eq_iff_iff]
  constructor
  · intro h
    by_cases e : n = n'
    · subst e
      exact eqB_cg (fun x hx => (eqB_cgi.1 h x hx).symm)
    · unfold eqB at h
      rw [decide_eq_false e] at h
      cases h
  · intro h
    by_cases e : n = n'
    · subst e
      exact eqB_cg (fun x hx => (eqB_cgi.1 h x hx).symm)
    · unfold eqB at h
      rw [decide_eq_false (fun x => e x.symm)] at h
      cases h
theorem Join_st (AH AS AP DA DB : Option Addr) (cH cS cP ca cb : Nat) (p : PlanD) (a b : Nat → Int) (w : World) (hp : PlanIn w AH AS AP p) (hA : Ints w DA p.nH a) (hB : Ints w DB p.nH b) (hok : okPlan p = true) (ha : Stb p a) (hb : Stb p b) :
    Calls Try.prog 31 #[.agg #[.slice AH p.nH cH, .slice AS p.nS cS, .slice AP p.nP cP], .slice DA p.nH ca, .slice DB p.nH cb] w fun e w' => ∃ g, e = .returned (.tuple #[.slice (some ⟨g, 0, none⟩) p.nH p.nH, .int .i64 0]) ∧ RowI w' g p.nH (jnM p a b) ∧ Below w.heap.size w w' := by
  obtain ⟨a1, a2⟩ := (stb_iff hok).2 ha
  obtain ⟨b1, b2⟩ := (stb_iff hok).2 hb
  refine (Join_any AH AS AP DA DB cH cS cP p.nH ca p.nH cb p (fun v w' => ∃ g, v = .tuple #[.slice (some ⟨g, 0, none⟩) p.nH p.nH, .int .i64 0] ∧ RowI w' g p.nH (jnM p a b)) w (fun w' hb' => (two_ok AH AS AP DA DB cH cS cP p.nH p.nH ca cb 0 1 p a b _ w' (hp.keep hb') (hA.keep hb') (hB.keep hb') rfl rfl a1 b1 a2 b2 (by omega) rfl (fun h hh F hp hs => (mid_jn hok hh (okMat_has a1) (okMat_has b1) F hp hs).1)).mono (by
    rintro e w'' ⟨g, rfl, hR, hb''⟩
    exact ⟨_, _, rfl, ⟨g, rfl, hR⟩, hb''⟩))).mono ?_
  rintro e w'' ⟨v, rfl, ⟨g, rfl, hR⟩, hb⟩
  exact ⟨g, rfl, hR, hb⟩
theorem Meet_st (AH AS AP DA DB : Option Addr) (cH cS cP ca cb : Nat) (p : PlanD) (a b : Nat → Int) (w : World) (hp : PlanIn w AH AS AP p) (hA : Ints w DA p.nH a) (hB : Ints w DB p.nH b) (hok : okPlan p = true) (ha : Stb p a) (hb : Stb p b) :
    Calls Try.prog 32 #[.agg #[.slice AH p.nH cH, .slice AS p.nS cS, .slice AP p.nP cP], .slice DA p.nH ca, .slice DB p.nH cb] w fun e w' => ∃ g, e = .returned (.tuple #[.slice (some ⟨g, 0, none⟩) p.nH p.nH, .int .i64 0]) ∧ RowI w' g p.nH (mtM p a b) ∧ Below w.heap.size w w' := by
  obtain ⟨a1, a2⟩ := (stb_iff hok).2 ha
  obtain ⟨b1, b2⟩ := (stb_iff hok).2 hb
  refine (Meet_any AH AS AP DA DB cH cS cP p.nH ca p.nH cb p (fun v w' => ∃ g, v = .tuple #[.slice (some ⟨g, 0, none⟩) p.nH p.nH, .int .i64 0] ∧ RowI w' g p.nH (mtM p a b)) w (fun w' hb' => (two_ok AH AS AP DA DB cH cS cP p.nH p.nH ca cb 1 2 p a b _ w' (hp.keep hb') (hA.keep hb') (hB.keep hb') rfl rfl a1 b1 a2 b2 (by omega) rfl (fun h hh F hp hs => (mid_jn hok hh (okMat_has a1) (okMat_has b1) F hp hs).2)).mono (by
    rintro e w'' ⟨g, rfl, hR, hb''⟩
    exact ⟨_, _, rfl, ⟨g, rfl, hR⟩, hb''⟩))).mono ?_
  rintro e w'' ⟨v, rfl, ⟨g, rfl, hR⟩, hb⟩
  exact ⟨g, rfl, hR, hb⟩
set_option maxHeartbeats 1000000 in
set_option maxRecDepth 1000000 in
theorem lat_eq (A M : Option Addr) (n c n' c' q : Nat) (f g : Nat → Int) (w : World) (hA : Ints w A n f) (hq : w.cell? ⟨q, 0, none⟩ = some (.slice M n' c')) (hM : Ints w M n' g) (hn : n ≤ 10000) (hn' : n' ≤ 10000) :
    Lr 35 #[.slice A n c, .pointer (some ⟨q, 0, none⟩)] w (.bool (eqB n n' f g)) := by
  unfold Lr
  have H := Lib.hid (equal_any A M n n' c c' f g w hA hM hn hn')
  have HD : Hid (eqB n n' f g = eqB n n' f g) := Lib.hid (rfl)
  rw [HD.out]
  clear HD
  generalize eqB n n' f g = b at *
  clear hA hM
  go_enter Try.func35, Try.ntmps35
  go_wp2_with fail
  refine Ro.use H.out ?_
  intro w1 hd1
  have Hb1 := Lib.hid (hd1.below w.heap.size)
  clear hd1 hq
  go_wp2
  go_ret
  exact ⟨rfl, Hb1.out⟩
set_option maxHeartbeats 1000000 in
set_option maxRecDepth 1000000 in
theorem lat_index (L M : Option Addr) (k c n c' n' cM q : Nat) (v : Nat → Nat → Int) (g : Nat → Int) (w : World) (hL : Mat w L k n v) (hq : w.cell? ⟨q, 0, none⟩ = some (.slice M n' cM)) (hM : Ints w M n' g) (hn : n ≤ 10000) (hn' : n' ≤ 10000) (hk : k ≤ 100000) :
    Calls Try.prog 67 #[.slice L k c, .func (.func 35) #[] #[.pointer (some ⟨q, 0, none⟩)]] w fun e w' => ∃ r : Int, e = .returned (.int .i64 r) ∧ -1 ≤ r ∧ r ≤ k ∧ decide (0 ≤ r) = anyB (fun i => eqB n n' (v i) g) k ∧ Below w.heap.size w w' := by
  have HL := Lib.hid hL
  have HM := Lib.hid hM
  have HQ := Lib.hid hq
  clear hL hM hq
  go_enter Try.func67, Try.ntmps67
  go_wp2
  go_loopw [8] (fun i wr => ∃ j : Nat, j ≤ k ∧ i = .int .i64 j ∧ NoneLt (fun i => eqB n n' (v i) g) j ∧ Below w.heap.size w wr) (fun i _ => k - (intOf i).toNat)
  case atStart => exact ⟨0, Nat.zero_le _, rfl, NoneLt.zero, Below.refl _ _⟩
  case round =>
    obtain ⟨j, hj, rfl, he, hD⟩ := hrel
    have HE := Lib.hid he
    have HD := Lib.hid hD
    clear he hD
    by_cases hlt : j < k
    · obtain ⟨b, o, AR, cR, rfl, c0, hI⟩ := (HL.out.keep HD.out).at hlt
      have HC := Lib.hid (lat_eq AR M n cR n' cM q (v j) g wr hI (old_cell HQ.out HD.out) (HM.out.keep HD.out) hn hn')
      clear hI
      have hji : (j : Int) < k := by omega
      cases hx : eqB n n' (v j) g with
      | true =>
        have HR : Hid (anyB (fun i => eqB n n' (v i) g) k = true) := Lib.hid (anyB_t (p := fun i => eqB n n' (v i) g) hlt hx)
        rw [hx] at HC
        clear hx
        go_wp2_with fail
        refine Lr.use HC.out ?_
        intro w2 hb2
        have HD2 := Lib.hid (HD.out.trans (hb2.mono HD.out.size))
        clear hb2 c0
        go_wp2
        go_ret
        exact ⟨j, rfl, by omega, by omega, by rw [HR.out]; simp, HD2.out⟩
      | false =>
        have HE2 := Lib.hid (HE.out.succ hx)
        rw [hx] at HC
        clear hx
        go_wp2_with fail
        refine Lr.use HC.out ?_
        intro w2 hb2
        have HD2 := Lib.hid (HD.out.trans (hb2.mono HD.out.size))
        clear hb2 c0
        go_wp2
        go_roundw
        case rel => exact ⟨j + 1, by omega, by go_num, HE2.out, HD2.out⟩
        case measure => simp [intOf]; omega
    · obtain rfl : k = j := by omega
      go_wp2
      go_ret
      exact ⟨-1, rfl, by omega, by omega, by rw [anyB_f HE.out]; rfl, HD.out⟩
theorem lat_has (L M : Option Addr) (k c n n' cM q : Nat) (v : Nat → Nat → Int) (g : Nat → Int) (w : World) (hL : Mat w L k n v) (hq : w.cell? ⟨q, 0, none⟩ = some (.slice M n' cM)) (hM : Ints w M n' g) (hn : n ≤ 10000) (hn' : n' ≤ 10000) (hk : k ≤ 100000) :
    Lr 34 #[.slice L k c, .func (.func 35) #[] #[.pointer (some ⟨q, 0, none⟩)]] w (.bool (anyB (fun i => eqB n n' (v i) g) k)) := by
  unfold Lr
  have H := Lib.hid (lat_index L M k c n c n' cM q v g w hL hq hM hn hn' hk)
  clear hL hq hM
  go_enter Try.func34, Try.ntmps34
  go_wp2_with fail
  refine H.out.mono ?_
  rintro e w' ⟨r, rfl, h1, h2, h3, hb⟩
  have H3 := Lib.hid h3
  clear h3
  go_wp2
  go_ret
  exact ⟨ret_bool H3.out, hb⟩
set_option maxHeartbeats 1000000 in
set_option maxRecDepth 1000000 in
theorem sta_eq (A M : Option Addr) (n c n' c' q : Nat) (f g : Nat → Int) (w : World) (hA : Ints w A n f) (hq : w.cell? ⟨q, 0, none⟩ = some (.slice M n' c')) (hM : Ints w M n' g) (hn : n ≤ 10000) (hn' : n' ≤ 10000) :
    Lr 37 #[.slice A n c, .pointer (some ⟨q, 0, none⟩)] w (.bool (eqB n n' f g)) := by
  unfold Lr
  have H := Lib.hid (equal_any M A n' n c' c g f w hM hA hn' hn)
  have HD : Hid (eqB n n' f g = eqB n' n g f) := Lib.hid (eqB_sym _ _ _ _)
  rw [HD.out]
  clear HD
  generalize eqB n' n g f = b at *
  clear hA hM
  go_enter Try.func37, Try.ntmps37
  go_wp2_with fail
  refine Ro.use H.out ?_
  intro w1 hd1
  have Hb1 := Lib.hid (hd1.below w.heap.size)
  clear hd1 hq
  go_wp2
  go_ret
  exact ⟨rfl, Hb1.out⟩
set_option maxHeartbeats 1000000 in
set_option maxRecDepth 1000000 in
theorem sta_index (L M : Option Addr) (k c n c' n' cM q : Nat) (v : Nat → Nat → Int) (g : Nat → Int) (w : World) (hL : Mat w L k n v) (hq : w.cell? ⟨q, 0, none⟩ = some (.slice M n' cM)) (hM : Ints w M n' g) (hn : n ≤ 10000) (hn' : n' ≤ 10000) (hk : k ≤ 100000) :
    Calls Try.prog 67 #[.slice L k c, .func (.func 37) #[] #[.pointer (some ⟨q, 0, none⟩)]] w fun e w' => ∃ r : Int, e = .returned (.int .i64 r) ∧ -1 ≤ r ∧ r ≤ k ∧ decide (0 ≤ r) = anyB (fun i => eqB n n' (v i) g) k ∧ Below w.heap.size w w' := by
  have HL := Lib.hid hL
  have HM := Lib.hid hM
  have HQ := Lib.hid hq
  clear hL hM hq
  go_enter Try.func67, Try.ntmps67
  go_wp2
  go_loopw [8] (fun i wr => ∃ j : Nat, j ≤ k ∧ i = .int .i64 j ∧ NoneLt (fun i => eqB n n' (v i) g) j ∧ Below w.heap.size w wr) (fun i _ => k - (intOf i).toNat)
  case atStart => exact ⟨0, Nat.zero_le _, rfl, NoneLt.zero, Below.refl _ _⟩
  case round =>
    obtain ⟨j, hj, rfl, he, hD⟩ := hrel
    have HE := Lib.hid he
    have HD := Lib.hid hD
    clear he hD
    by_cases hlt : j < k
    · obtain ⟨b, o, AR, cR, rfl, c0, hI⟩ := (HL.out.keep HD.out).at hlt
      have HC := Lib.hid (sta_eq AR M n cR n' cM q (v j) g wr hI (old_cell HQ.out HD.out) (HM.out.keep HD.out) hn hn')
      clear hI
      have hji : (j : Int) < k := by omega
      cases hx : eqB n n' (v j) g with
      | true =>
        have HR : Hid (anyB (fun i => eqB n n' (v i) g) k = true) := Lib.hid (anyB_t (p := fun i => eqB n n' (v i) g) hlt hx)
        rw [hx] at HC
        clear hx
        go_wp2_with fail
        refine Lr.use HC.out ?_
        intro w2 hb2
        have HD2 := Lib.hid (HD.out.trans (hb2.mono HD.out.size))
        clear hb2 c0
        go_wp2
        go_ret
        exact ⟨j, rfl, by omega, by omega, by rw [HR.out]; simp, HD2.out⟩
      | false =>
        have HE2 := Lib.hid (HE.out.succ hx)
        rw [hx] at HC
        clear hx
        go_wp2_with fail
        refine Lr.use HC.out ?_
        intro w2 hb2
        have HD2 := Lib.hid (HD.out.trans (hb2.mono HD.out.size))
        clear hb2 c0
        go_wp2
        go_roundw
        case rel => exact ⟨j + 1, by omega, by go_num, HE2.out, HD2.out⟩
        case measure => simp [intOf]; omega
    · obtain rfl : k = j := by omega
      go_wp2
      go_ret
      exact ⟨-1, rfl, by omega, by omega, by rw [anyB_f HE.out]; rfl, HD.out⟩
theorem sta_has (L M : Option Addr) (k c n n' cM q : Nat) (v : Nat → Nat → Int) (g : Nat → Int) (w : World) (hL : Mat w L k n v) (hq : w.cell? ⟨q, 0, none⟩ = some (.slice M n' cM)) (hM : Ints w M n' g) (hn : n ≤ 10000) (hn' : n' ≤ 10000) (hk : k ≤ 100000) :
    Lr 34 #[.slice L k c, .func (.func 37) #[] #[.pointer (some ⟨q, 0, none⟩)]] w (.bool (anyB (fun i => eqB n n' (v i) g) k)) := by
  unfold Lr
  have H := Lib.hid (sta_index L M k c n c n' cM q v g w hL hq hM hn hn' hk)
  clear hL hq hM
  go_enter Try.func34, Try.ntmps34
  go_wp2_with fail
  refine H.out.mono ?_
  rintro e w' ⟨r, rfl, h1, h2, h3, hb⟩
  have H3 := Lib.hid h3
  clear h3
  go_wp2
  go_ret
  exact ⟨ret_bool H3.out, hb⟩
end Go.Proofs.Ytiigcjcolpmafaa

/- Join, Meet and Middle on the few's plan, in the plan's own words. -/
namespace Go.Proofs.Ytiigcjcolpmafaa
open Go.RowKit
theorem Join_few (AH AS AP DA DB : Option Addr) (cH cS cP ca cb : Nat) (p : PlanD) (a b : Nat → Int) (w : World) (hp : PlanIn w AH AS AP (fewP p)) (hA : Ints w DA p.nH a) (hB : Ints w DB p.nH b) (hok : okPlan p = true) (ha : Stb p a) (hb : Stb p b) :
    Calls Try.prog 31 #[.agg #[.slice AH (min p.nH 8) cH, .slice AS (min p.nS 8) cS, .slice AP (min p.nP 9) cP], .slice DA p.nH ca, .slice DB p.nH cb] w fun e w' => ∃ g, e = .returned (.tuple #[.slice (some ⟨g, 0, none⟩) p.nH p.nH, .int .i64 0]) ∧ Ints w' (some ⟨g, 0, none⟩) p.nH (jnM p a b) ∧ Below w.heap.size w w' := by
  have e := (few_n hok).1
  have key : ∀ n, n = (fewP p).nH → Ints w DA n a → Ints w DB n b → Calls Try.prog 31 #[.agg #[.slice AH (min p.nH 8) cH, .slice AS (min p.nS 8) cS, .slice AP (min p.nP 9) cP], .slice DA n ca, .slice DB n cb] w fun e w' => ∃ g, e = .returned (.tuple #[.slice (some ⟨g, 0, none⟩) n n, .int .i64 0]) ∧ Ints w' (some ⟨g, 0, none⟩) n (jnM (fewP p) a b) ∧ Below w.heap.size w w' := by
    rintro n rfl h1 h2
    refine (Join_st AH AS AP DA DB cH cS cP ca cb (fewP p) a b w hp h1 h2 (few_okT hok) ((few_stb hok).2 ha) ((few_stb hok).2 hb)).mono ?_
    rintro e w' ⟨g, rfl, hR, hb⟩
    exact ⟨g, rfl, hR.ints, hb⟩
  refine (key p.nH e.symm hA hB).mono ?_
  rintro e w' ⟨g, rfl, hR, hb⟩
  exact ⟨g, rfl, hR.congr (fun i hi => (jn_few hok hi).1), hb⟩
theorem Meet_few (AH AS AP DA DB : Option Addr) (cH cS cP ca cb : Nat) (p : PlanD) (a b : Nat → Int) (w : World) (hp : PlanIn w AH AS AP (fewP p)) (hA : Ints w DA p.nH a) (hB : Ints w DB p.nH b) (hok : okPlan p = true) (ha : Stb p a) (hb : Stb p b) :
    Calls Try.prog 32 #[.agg #[.slice AH (min p.nH 8) cH, .slice AS (min p.nS 8) cS, .slice AP (min p.nP 9) cP], .slice DA p.nH ca, .slice DB p.nH cb] w fun e w' => ∃ g, e = .returned (.tuple #[.slice (some ⟨g, 0, none⟩) p.nH p.nH, .int .i64 0]) ∧ Ints w' (some ⟨g, 0, none⟩) p.nH (mtM p a b) ∧ Below w.heap.size w w' := by
  have e := (few_n hok).1
  have key : ∀ n, n = (fewP p).nH → Ints w DA n a → Ints w DB n b → Calls Try.prog 32 #[.agg #[.slice AH (min p.nH 8) cH, .slice AS (min p.nS 8) cS, .slice AP (min p.nP 9) cP], .slice DA n ca, .slice DB n cb] w fun e w' => ∃ g, e = .returned (.tuple #[.slice (some ⟨g, 0, none⟩) n n, .int .i64 0]) ∧ Ints w' (some ⟨g, 0, none⟩) n (mtM (fewP p) a b) ∧ Below w.heap.size w w' := by
    rintro n rfl h1 h2
    refine (Meet_st AH AS AP DA DB cH cS cP ca cb (fewP p) a b w hp h1 h2 (few_okT hok) ((few_stb hok).2 ha) ((few_stb hok).2 hb)).mono ?_
    rintro e w' ⟨g, rfl, hR, hb⟩
    exact ⟨g, rfl, hR.ints, hb⟩
  refine (key p.nH e.symm hA hB).mono ?_
  rintro e w' ⟨g, rfl, hR, hb⟩
  exact ⟨g, rfl, hR.congr (fun i hi => (jn_few hok hi).2), hb⟩
theorem Middle_few (AH AS AP : Option Addr) (cH cS cP k : Nat) (K : Int) (p : PlanD) (w : World) (hp : PlanIn w AH AS AP (fewP p)) (hok : okPlan p = true) (hk : k < kP p) (hK : K = ((k + 1 : Nat) : Int)) :
    Calls Try.prog 33 #[.agg #[.slice AH (min p.nH 8) cH, .slice AS (min p.nS 8) cS, .slice AP (min p.nP 9) cP], .int .i64 K] w fun e w' => ∃ g, e = .returned (.tuple #[.slice (some ⟨g, 0, none⟩) p.nH p.nH, .int .i64 0]) ∧ Ints w' (some ⟨g, 0, none⟩) p.nH (midG (fewP p) k) ∧ Below w.heap.size w w' := by
  subst hK
  have e := (few_n hok).1
  have key : ∀ n, n = (fewP p).nH → Calls Try.prog 33 #[.agg #[.slice AH (min p.nH 8) cH, .slice AS (min p.nS 8) cS, .slice AP (min p.nP 9) cP], .int .i64 ((k + 1 : Nat) : Int)] w fun e w' => ∃ g, e = .returned (.tuple #[.slice (some ⟨g, 0, none⟩) n n, .int .i64 0]) ∧ Ints w' (some ⟨g, 0, none⟩) n (midG (fewP p) k) ∧ Below w.heap.size w w' := by
    rintro n rfl
    refine (Middle_ok AH AS AP cH cS cP (k + 1) (fewP p) w hp (few_okT hok) (by omega) (by rw [few_kP hok]; omega)).mono ?_
    rintro e w' ⟨g, rfl, hR, hb⟩
    exact ⟨g, rfl, hR.ints, hb⟩
  exact key p.nH e.symm
theorem midK {t : Int} {x k : Nat} (hX : wrap64 t = (x : Int)) (hx : x < k) (hk : k ≤ 100000) : IntKind.i64.wrap (1 + IntKind.i64.wrap t) = ((x + 1 : Nat) : Int) := by
  rw [IntKind.wrap_i64, IntKind.wrap_i64]
  unfold wrap64 at hX
  omega
theorem mid_few {p : PlanD} (hok : okPlan p = true) {k : Nat} (hk : k < kP p) : Stb p (midG (fewP p) k) :=
  (few_stb hok).1 ((midG_spec (few_okT hok)).1 _ (by rw [few_kP hok]; exact hk))
theorem mid_zero {p : PlanD} (hok : okPlan p = true) {m : Nat → Int} (hm : Stb p m) (hb : ∀ u, Stb p u → ∀ x, x < p.nH → rHd p x (m x) ≤ rHd p x (u x)) : ∀ x, x < p.nH → midG (fewP p) 0 x = m x := by
  have h0 := mid_few hok (kP_pos hok)
  exact best_one hok h0 hm (fun x hx => by
    have := (midG_first (few_okT hok) ((few_stb hok).2 hm) (h := x) (by rw [(few_n hok).1]; exact hx)).1
    rw [few_rHd hok hx, few_rHd hok hx] at this
    exact this) (fun x hx => hb _ h0 x hx)
theorem any_stb {p : PlanD} (hok : okPlan p = true) {m : Nat → Int} (hm : Stb p m) : anyB (fun i => eqB p.nH p.nH (mmP p i) m) (kP p) = true := by
  obtain ⟨i, hi, e⟩ := mm_all hok hm
  exact anyB_t (p := fun i => eqB p.nH p.nH (mmP p i) m) hi (eqB_cg e)
theorem jn_top {p : PlanD} {m b : Nat → Int} {x : Nat} (h : rHd p x (m x) ≤ rHd p x (b x)) : jnM p m b x = m x := by
  unfold jnM
  exact if_neg (by omega)
theorem mt_bot {p : PlanD} (hok : okPlan p = true) {l b : Nat → Int} (hl : Stb p l) (hb : Stb p b) {x : Nat} (hx : x < p.nH) (h : rHd p x (b x) ≤ rHd p x (l x)) : mtM p l b x = l x := by
  unfold mtM
  by_cases e : rHd p x (b x) < rHd p x (l x)
  · exact if_pos e
  · rw [if_neg e]
    exact Stb.same hok hb hl hx (by omega)
end Go.Proofs.Ytiigcjcolpmafaa

/- TurnsMiddle, walked from a contract of the reference's Middle (that is what is left: its region 13). -/
namespace Go.Proofs.Ytiigcjcolpmafaa
open Go.RowKit

theorem mid_eq {p : PlanD} (hok : okPlan p = true) {h k : Nat} (hh : h < p.nH) (hk : k < kP p) : midG (fewP p) k h = midG p k h := by
  have e1 := mid_ref (few_okT hok) (h := h) (k := k) (by rw [(few_n hok).1]; exact hh) (by rw [few_kP hok]; exact hk)
  have e2 := mid_ref hok hh hk
  rw [few_kP hok, few_mmP hok, (few_n hok).2.2.1 h hh] at e1
  exact e1.symm.trans e2
/-- What the reference's Middle owes. -/
def RMid (AH AS AP : Option Addr) (cH cS cP : Nat) (p : PlanD) : Prop := ∀ (k : Nat) (w : World), k < kP p → PlanArg w AH AS AP cH cS cP p →
  Calls Try.prog 43 #[.agg #[.slice AH p.nH cH, .slice AS p.nS cS, .slice AP p.nP cP], .int .i64 ((k + 1 : Nat) : Int)] w fun e w' => ∃ A c, e = .returned (.slice A p.nH c) ∧ Ints w' A p.nH (midG p k) ∧ Below w.heap.size w w'
set_option maxHeartbeats 4000000 in
set_option maxRecDepth 1000000 in
theorem turnsMiddle_from (AH AS AP : Option Addr) (cH cS cP : Nat) (p : PlanD) (q : Int) (w : World) (hp : PlanArg w AH AS AP cH cS cP p) (hr : okPlan p = true → RMid AH AS AP cH cS cP p) :
    Calls Try.prog 13 #[.agg #[.slice AH p.nH cH, .slice AS p.nS cS, .slice AP p.nP cP], .int .i64 q] w fun e w' => e = .returned (.bool true) ∧ Below w.heap.size w w' := by
  have Hb0 := Lib.hid (below_box w (.cells #[.slice AH p.nH cH, .slice AS p.nS cS, .slice AP p.nP cP] 25))
  have HB0 := Lib.hid (BoxP.newR w AH AS AP p.nH p.nS p.nP cH cS cP)
  have HP := Lib.hid hp
  have HR := Lib.hid hr
  clear hp hr
  go_enter Try.func13, Try.ntmps13
  go_wp2_with fail
  refine (of_any AH AS AP cH cS cP p _ (HP.out.keep Hb0.out)).mono ?_
  rintro e w1 ⟨BH, BdH, BS, BdS, BP, BdP, rfl, hpl, hb1⟩
  have Hb1 := Lib.hid (Hb0.out.trans (hb1.mono Hb0.out.size))
  have HPl1 := Lib.hid hpl
  have HBx1 := Lib.hid (HB0.out.keep hb1)
  clear hpl hb1
  cases hok : okPlan p with
  | false =>
    have HOk := Lib.hid hok
    have HC2 := Lib.hid (Middle_bad BH BS BP BdH BdS BdP q (fewP p) w1 HPl1.out (by rw [okPlan_few]; exact hok))
    clear hok
    go_wp2_with fail
    refine Lr.use HC2.out ?_
    intro w2 hb2
    have Hb2 := Lib.hid (Hb1.out.trans (hb2.mono Hb1.out.size))
    have HBx2 := Lib.hid (HBx1.out.keep hb2)
    clear hb2 HC2
    obtain ⟨q0, q1, q2⟩ := HBx2.out
    have HC3 := Lib.hid (rValid_any AH AS AP cH cS cP p w2 (HP.out.keep Hb2.out))
    rw [HOk.out] at HC3
    go_wp2_with fail
    refine Lr.use HC3.out ?_
    intro w3 hb3
    have Hb3 := Lib.hid (Hb2.out.trans (hb3.mono Hb2.out.size))
    clear hb3 HC3 q0 q1 q2
    go_wp2_with fail
    refine (awake_any _).mono ?_
    rintro e w7 ⟨rfl, hb7⟩
    have Hb7 := Lib.hid (Hb3.out.trans (hb7.mono Hb3.out.size))
    clear hb7
    go_wp2
    go_ret
    exact ⟨rfl, Hb7.out⟩
  | true =>
    have HOk := Lib.hid hok
    have hkl := kP_le hok
    have hn6 : p.nH ≤ 6 := (okPlan_of hok).1.2.1
    have HKf := Lib.hid (few_kP hok)
    have HOf := Lib.hid (few_okT hok)
    have HRm := Lib.hid (HR.out hok)
    clear hok HR
    by_cases hin : 1 ≤ q ∧ q ≤ (kP p : Nat)
    · obtain ⟨k, hk⟩ : ∃ k : Nat, q = ((k + 1 : Nat) : Int) := ⟨(q - 1).toNat, by omega⟩
      have hkk : k < kP p := by omega
      subst hk
      have HC2 := Lib.hid (Middle_few BH BS BP BdH BdS BdP k _ p w1 HPl1.out HOk.out hkk rfl)
      have HMe := Lib.hid (fun h (hh : h < p.nH) => mid_eq HOk.out hh hkk)
      have d1 : decide (((k + 1 : Nat) : Int) < 1) = false := decide_eq_false (by omega)
      have d2 : decide (((kP p : Nat) : Int) < ((k + 1 : Nat) : Int)) = false := decide_eq_false (by omega)
      clear hin
      obtain ⟨K, hK⟩ : ∃ K : Int, K = ((k + 1 : Nat) : Int) := ⟨_, rfl⟩
      have HRk := Lib.hid (fun w' h => HRm.out k w' hkk h)
      rw [← hK] at HC2 d1 d2 HRk ⊢
      clear hK
      go_wp2_with fail
      refine HC2.out.mono ?_
      rintro e w2 ⟨g, rfl, hI, hb2⟩
      have HI2 := Lib.hid (hI.congr HMe.out)
      have Hb2 := Lib.hid (Hb1.out.trans (hb2.mono Hb1.out.size))
      have HBx2 := Lib.hid (HBx1.out.keep hb2)
      clear hb2 HC2 hI
      obtain ⟨q0, q1, q2⟩ := HBx2.out
      have HC3 := Lib.hid (rValid_any AH AS AP cH cS cP p w2 (HP.out.keep Hb2.out))
      rw [HOk.out] at HC3
      go_wp2_with fail
      refine Lr.use HC3.out ?_
      intro w3 hb3
      have Hb3 := Lib.hid (Hb2.out.trans (hb3.mono Hb2.out.size))
      have HBx3 := Lib.hid (HBx2.out.keep hb3)
      have HI3 := Lib.hid (HI2.out.keep hb3)
      clear hb3 HC3 q0 q1 q2
      obtain ⟨q0, q1, q2⟩ := HBx3.out
      go_wp2_with fail
      refine (rStable_any AH AS AP cH cS cP p HOk.out w3 (HP.out.keep Hb3.out)).mono ?_
      rintro e w4 ⟨x, rfl, hx, hb4⟩
      obtain ⟨A, c, rfl, -⟩ := all_mat HOk.out hx
      have Hb4 := Lib.hid (Hb3.out.trans (hb4.mono Hb3.out.size))
      have HBx4 := Lib.hid (HBx3.out.keep hb4)
      have HI4 := Lib.hid (HI3.out.keep hb4)
      clear hb4 hx q0 q1 q2
      obtain ⟨q0, q1, q2⟩ := HBx4.out
      go_wp2_with fail
      refine (HRk.out w4 (HP.out.keep Hb4.out)).mono ?_
      rintro e w5 ⟨A5, c5, rfl, hI5, hb5⟩
      have Hb5 := Lib.hid (Hb4.out.trans (hb5.mono Hb4.out.size))
      have HI5 := Lib.hid (HI4.out.keep hb5)
      have HJ5 := Lib.hid hI5
      clear hb5 hI5 q0 q1 q2
      have HE := Lib.hid (equal_any (some ⟨g, 0, none⟩) A5 p.nH p.nH p.nH c5 (midG p k) (midG p k) w5 HI5.out HJ5.out (by omega) (by omega))
      rw [eqB_id] at HE
      go_wp2_with fail
      refine Ro.use HE.out ?_
      intro w6 hd6
      have Hb6 := Lib.hid (Hb5.out.trans ((hd6.below _).mono Hb5.out.size))
      clear hd6 HE
      go_wp2_with fail
      refine (awake_any _).mono ?_
      rintro e w7 ⟨rfl, hb7⟩
      have Hb7 := Lib.hid (Hb6.out.trans (hb7.mono Hb6.out.size))
      clear hb7
      go_wp2
      go_ret
      exact ⟨rfl, Hb7.out⟩
    · have HC2 := Lib.hid (Middle_out BH BS BP BdH BdS BdP q (fewP p) w1 HPl1.out HOf.out (by rw [HKf.out]; omega))
      go_wp2_with fail
      refine Lr.use HC2.out ?_
      intro w2 hb2
      have Hb2 := Lib.hid (Hb1.out.trans (hb2.mono Hb1.out.size))
      have HBx2 := Lib.hid (HBx1.out.keep hb2)
      clear hb2 HC2
      obtain ⟨q0, q1, q2⟩ := HBx2.out
      have HC3 := Lib.hid (rValid_any AH AS AP cH cS cP p w2 (HP.out.keep Hb2.out))
      rw [HOk.out] at HC3
      by_cases h1 : q < 1
      · have d1 : decide (q < 1) = true := decide_eq_true h1
        clear hin
        go_wp2_with fail
        refine Lr.use HC3.out ?_
        intro w3 hb3
        have Hb3 := Lib.hid (Hb2.out.trans (hb3.mono Hb2.out.size))
        clear hb3 HC3 q0 q1 q2
        go_wp2_with fail
        refine (awake_any _).mono ?_
        rintro e w7 ⟨rfl, hb7⟩
        have Hb7 := Lib.hid (Hb3.out.trans (hb7.mono Hb3.out.size))
        clear hb7
        go_wp2
        go_ret
        exact ⟨rfl, Hb7.out⟩
      · have d1 : decide (q < 1) = false := decide_eq_false h1
        have d2 : decide (((kP p : Nat) : Int) < q) = true := decide_eq_true (by omega)
        clear hin
        go_wp2_with fail
        refine Lr.use HC3.out ?_
        intro w3 hb3
        have Hb3 := Lib.hid (Hb2.out.trans (hb3.mono Hb2.out.size))
        have HBx3 := Lib.hid (HBx2.out.keep hb3)
        clear hb3 HC3 q0 q1 q2
        obtain ⟨q0, q1, q2⟩ := HBx3.out
        go_wp2_with fail
        refine (rStable_any AH AS AP cH cS cP p HOk.out w3 (HP.out.keep Hb3.out)).mono ?_
        rintro e w4 ⟨x, rfl, hx, hb4⟩
        obtain ⟨A, c, rfl, -⟩ := all_mat HOk.out hx
        have Hb4 := Lib.hid (Hb3.out.trans (hb4.mono Hb3.out.size))
        clear hb4 hx q0 q1 q2
        go_wp2_with fail
        refine (awake_any _).mono ?_
        rintro e w7 ⟨rfl, hb7⟩
        have Hb7 := Lib.hid (Hb4.out.trans (hb7.mono Hb4.out.size))
        clear hb7
        go_wp2
        go_ret
        exact ⟨rfl, Hb7.out⟩
end Go.Proofs.Ytiigcjcolpmafaa

