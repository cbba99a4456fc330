/- The law VoteLied, walked. -/
import Derived.Test.YtnobbklnnkpdfaaLk
import Derived.Test.YtnobbklnnkpdfaaPt
import Derived.Test.YtnobbklnnkpdfaaRv
import Derived.Test.YtnobbklnnkpdfaaVg
import Derived.Test.YtnobbklnnkpdfaaAk
namespace Go.Proofs.Ytnobbklnnkpdfaa
open Go.RowKit

theorem RowI.arg {w : World} {g m : Nat} {f : Nat → Int} (h : RowI w g m f) (hm : m ≤ 1000) : ArgI w (some ⟨g, 0, none⟩) m m f := ⟨Nat.le_refl _, by unfold maxLen; omega, (fun e => by cases e), h.ints⟩
theorem RowsK.congrL {w : World} {A : Option Addr} {n : Nat} {L L' : Nat → Nat} {v v' : Nat → Nat → Int} (h : RowsK w A n L v) (e : ∀ i, i < n → L i = L' i) (e2 : ∀ i k, i < n → k < L i → v i k = v' i k) : RowsK w A n L' v' := fun hn => by
  obtain ⟨b, o, hA, hc⟩ := h hn
  refine ⟨b, o, hA, fun i hi => ?_⟩
  obtain ⟨A', c', h1, h2, h3⟩ := hc i hi
  rw [← e i hi]
  exact ⟨A', c', h1, h2, h3.congr (fun k hk => e2 i k hi hk)⟩

set_option maxHeartbeats 2000000 in
set_option maxRecDepth 1000000 in
theorem voteLied_bad (A : Option Addr) (n c : Nat) (L : Nat → Nat) (v : Nat → Nat → Int) (q : Int) (w : World) (h : ArgR w A n c L v) (hok : okBal n L v = false ∨ q < 0 ∨ 4 ≤ q) :
    Calls Try.prog 3 #[.slice A n c, .int .i64 q] w fun e w' => e = .returned (.bool true) ∧ Below w.heap.size w w' := by
  have H := Lib.hid h
  have HK := Lib.hid hok
  clear h hok
  go_enter Try.func3, Try.ntmps3
  go_wp2_with fail
  refine (FewF A n c L v _ H.out).mono ?_
  rintro e w1 ⟨A1, k1, c1, rfl, hk1, hr1, hc1, hb1⟩
  have HK1 := Lib.hid hk1
  have HR1 := Lib.hid hr1
  have HC1 := Lib.hid hc1
  have Hb1 := Lib.hid (hb1)
  clear hk1 hr1 hc1 hb1
  go_wp2_with fail
  refine Lr.use (LieFbad HR1.out HK1.out HC1.out HK.out) ?_
  intro w2 hb2
  have Hb2 := Lib.hid (Hb1.out.trans (hb2.mono Hb1.out.size))
  clear hb2
  go_wp2_with fail
  refine (FewF A n c L v _ (H.out.below Hb2.out)).mono ?_
  rintro e w3 ⟨A3, k3, c3, rfl, hk3, hr3, hc3, hb3⟩
  have HK3 := Lib.hid hk3
  have HR3 := Lib.hid hr3
  have HC3 := Lib.hid hc3
  have Hb3 := Lib.hid (Hb2.out.trans (hb3.mono Hb2.out.size))
  clear hk3 hr3 hc3 hb3
  go_wp2_with fail
  refine Lr.use (WinRFbad HR3.out HK3.out HC3.out HK.out) ?_
  intro w4 hb4
  have Hb4 := Lib.hid (Hb3.out.trans (hb4.mono Hb3.out.size))
  clear hb4
  go_wp2_with fail
  refine Lr.use (awake_any _) ?_
  intro w9 hb9
  have Hb9 := Lib.hid (Hb4.out.trans (hb9.mono Hb4.out.size))
  clear hb9
  go_wp2
  go_ret
  exact ⟨rfl, Hb9.out⟩

set_option maxHeartbeats 4000000 in
set_option maxRecDepth 1000000 in
theorem voteLied_ok (r : Nat) (hr : r < 4) (A : Option Addr) (n c : Nat) (L : Nat → Nat) (v : Nat → Nat → Int) (w : World) (h : ArgR w A n c L v) (hok : okBal n L v = true) :
    Calls Try.prog 3 #[.slice A n c, .int .i64 (r : Int)] w fun e w' => e = .returned (.bool true) ∧ Below w.heap.size w w' := by
  have H := Lib.hid h
  have HK := Lib.hid hok
  obtain ⟨⟨hB1, hB9⟩, ⟨hB2, hB3⟩, hB4⟩ := okBal_iff.1 hok
  obtain ⟨b0, o0, eA, -⟩ := h.2.2.2 (by omega)
  subst eA
  have HV : Hid (∀ w' : World, Below w.heap.size w w' → Ro 14 #[.slice (some ⟨b0, o0, none⟩) n c] w' (.bool true)) := Lib.hid (fun w' hb => by
    have := validR_any (some ⟨b0, o0, none⟩) n c L v w' (H.out.below hb)
    rwa [HK.out] at this)
  have HO := Lib.hid hB4
  clear h hok hB4
  go_enter Try.func3, Try.ntmps3
  go_wp2_with fail
  refine (FewF (some ⟨b0, o0, none⟩) n c L v _ H.out).mono ?_
  rintro e w1 ⟨A1, k1, c1, rfl, hk1, hr1, hc1, hb1⟩
  have HK1 := Lib.hid hk1
  have HR1 := Lib.hid hr1
  have HC1 := Lib.hid hc1
  have Hb1 := Lib.hid (hb1)
  clear hk1 hr1 hc1 hb1
  go_wp2_with fail
  refine (LieF hr HR1.out HK1.out HC1.out HK.out).mono ?_
  rintro e w2 ⟨hL, hb2⟩
  have Hb2 := Lib.hid (Hb1.out.trans (hb2.mono Hb1.out.size))
  have hs2 := hb2.size
  clear hb2
  rcases hL with ⟨u, x, p, t, g, hu, -, hx, -, hgain, rfl, hg, hrow⟩ | ⟨-, rfl⟩
  rotate_left
  · go_wp2_with fail
    refine (FewF (some ⟨b0, o0, none⟩) n c L v _ (H.out.below Hb2.out)).mono ?_
    rintro e w3 ⟨A3, k3, c3, rfl, hk3, hr3, hc3, hb3⟩
    have HK3 := Lib.hid hk3
    have HR3 := Lib.hid hr3
    have HC3 := Lib.hid hc3
    have Hb3 := Lib.hid (Hb2.out.trans (hb3.mono Hb2.out.size))
    clear hk3 hr3 hc3 hb3
    go_wp2_with fail
    refine Lr.use (WinRF hr HR3.out HK3.out HC3.out HK.out) ?_
    intro w4 hb4
    have Hb4 := Lib.hid (Hb3.out.trans (hb4.mono Hb3.out.size))
    clear hb4
    go_wp2_with fail
    refine Lr.use (awake_any _) ?_
    intro w9 hb9
    have Hb9 := Lib.hid (Hb4.out.trans (hb9.mono Hb4.out.size))
    clear hb9
    go_wp2
    go_ret
    exact ⟨rfl, Hb9.out⟩
  have HRow := Lib.hid hrow
  have hxo : Ord (L 0) (rowF x) := (ord_of_mem (by rw [hx]; simp)).2
  have hLu : L u = L 0 := (HO.out u hu).1
  have HG := Lib.hid hgain
  clear hrow hx hgain
  go_wp2_with fail
  refine (FewF (some ⟨b0, o0, none⟩) n c L v _ (H.out.below Hb2.out)).mono ?_
  rintro e w3 ⟨A3, k3, c3, rfl, hk3, hr3, hc3, hb3⟩
  have HK3 := Lib.hid hk3
  have HR3 := Lib.hid hr3
  have HC3 := Lib.hid hc3
  have Hb3 := Lib.hid (Hb2.out.trans (hb3.mono Hb2.out.size))
  have HRow3 := Lib.hid (HRow.out.keep hb3)
  clear hk3 hr3 hc3 hb3
  go_wp2_with fail
  refine Lr.use (WinRF hr HR3.out HK3.out HC3.out HK.out) ?_
  intro w4 hb4
  have Hb4 := Lib.hid (Hb3.out.trans (hb4.mono Hb3.out.size))
  have HRow4 := Lib.hid (HRow3.out.keep hb4)
  clear hb4 HRow HRow3 HR1 HR3 HK1 HK3 HC1 HC3
  have hz0 : decide ((u : Int) < 0) = false := decide_eq_false (by omega)
  have hz1 : decide ((n : Int) ≤ (u : Int)) = false := decide_eq_false (by omega)
  have hz2 : decide ((u : Int) < (n : Int)) = true := decide_eq_true (by omega)
  go_wp2_with fail
  refine Ro.use (HV.out _ Hb4.out) ?_
  intro w5 hd5
  have HRow5 := Lib.hid (HRow4.out.dn hd5)
  have Hb5 := Lib.hid (Hb4.out.trans (hd5.below _))
  clear hd5 HRow4
  go_wp2_with fail
  refine (fewS_any (some ⟨b0, o0, none⟩) n c L v _ (H.out.below Hb5.out)).mono ?_
  rintro e w6 ⟨y6, rfl, hS6, hb6⟩
  rw [Nat.min_eq_left (show n ≤ 11 by omega)] at hS6
  have HS6 := Lib.hid hS6
  have HB6 := Lib.hid hb6
  have HRow6 := Lib.hid (HRow5.out.keep hb6)
  have Hb6 := Lib.hid (Hb5.out.trans (hb6.mono Hb5.out.size))
  obtain ⟨A6, c6, ey, -⟩ := hS6.own.rowsKc
  subst ey
  clear hS6 hb6 HRow5
  go_wp2_with fail
  refine (listW (HRow6.out.arg (by omega))).mono ?_
  rintro e w7 ⟨A7, k7, c7, rfl, hk7, hl7, hc7, hb7⟩
  have HS7 := Lib.hid (HS6.out.below hb7)
  have hs67 := HB6.out.size
  obtain ⟨G, cG, z, eG, hcz, hfz, hGb, hGc, hput⟩ := HS7.out.put (p := u) hu (hl7.rebase hs67)
  injection eG with eG1 eG2 eG3
  subst eG1 eG3
  have ek7 : k7 = L 0 := by omega
  have HP := Lib.hid hput
  have HB7 := Lib.hid (HB6.out.trans (hb7.mono HB6.out.size))
  have Hb7 := Lib.hid (Hb6.out.trans (hb7.mono Hb6.out.size))
  clear hl7 hb7 hput HS6 HS7 HB6 HRow6 hk7
  subst ek7
  go_wp2_with fail
  have hw6 := Hb6.out.size
  have hw5 := Hb5.out.size
  have hx8 : Exc G w7 (w7.setCell ⟨G, u, none⟩ (.slice A7 (L 0) c7)) := (Exc.refl _ _).set u _
  have Hb8 := Lib.hid (Hb7.out.trans (hx8.below (by omega) Hb7.out.size))
  obtain ⟨A8, c8, e8, hK8, hc8⟩ := HP.out.rowsKc
  injection e8 with e8 e9 e10
  subst e8 e10
  have hK9 : RowsK (w7.setCell ⟨G, u, none⟩ (.slice A7 (L 0) c7)) (some ⟨G, 0, none⟩) n L (fun k => if k = u then rowF x else v k) := hK8.congrL (fun i hi => by
    by_cases e : i = u
    · simp only [if_pos e]; rw [e, hLu]
    · simp only [if_neg e]; have := (HO.out i hi).1; omega) (fun i k hi hk => rfl)
  have hok9 : okBal n L (fun k => if k = u then rowF x else v k) = true := okBal_iff.2 ⟨⟨hB1, hB9⟩, ⟨hB2, hB3⟩, fun k hk => ⟨(HO.out k hk).1, by
    by_cases e : k = u
    · simp only [if_pos e]; exact hxo
    · simp only [if_neg e]; exact (HO.out k hk).2⟩⟩
  have HW9 := Lib.hid (Win_rule r hr _ n c6 L _ _ hK9 hok9 hc8)
  clear hK8 hK9 hok9 HP hx8 e9
  generalize w7.setCell ⟨G, u, none⟩ (.slice A7 (L 0) c7) = w8 at *
  refine Lr.use HW9.out ?_
  intro w9 hb9
  have Hb9 := Lib.hid (Hb8.out.trans (hb9.mono Hb8.out.size))
  clear hb9 HW9
  obtain ⟨b1, o1, Au, cu, eA, hcu, hIu⟩ := (H.out.below Hb9.out).at hu
  injection eA with eA
  injection eA with eA1 eA2 eA3
  subst eA1 eA2
  rw [hLu] at hcu hIu
  have HIu := Lib.hid hIu.2.2.2
  have k0 : ∀ q : Later w9, q.to.cell? ⟨b0, o0 + u, none⟩ = some (.slice Au (L 0) cu) := fun q => q.cell hcu
  clear hIu
  have hgx : idxI (v u) ((winF r n (L 0) (fun k => if k = u then rowF x else v k) : Nat) : Int) (L 0) < idxI (v u) ((winF r n (L 0) v : Nat) : Int) (L 0) := by
    exact of_decide_eq_true HG.out
  have HI1 : ∀ q : Later w9, Hid (Lr 16 #[.slice Au (L 0) cu, .int .i64 ((winF r n (L 0) (fun k => if k = u then rowF x else v k) : Nat) : Int)] q.to (.int .i64 (idxI (v u) ((winF r n (L 0) (fun k => if k = u then rowF x else v k) : Nat) : Int) (L 0)))) := fun q => Lib.hid ((index_any Au (L 0) cu (v u) _ q.to (HIu.out.keep q.below) (by omega)).mono (by rintro e w' ⟨rfl, rfl⟩; exact ⟨rfl, Below.refl _ _⟩))
  have HI2 : ∀ q : Later w9, Hid (Lr 16 #[.slice Au (L 0) cu, .int .i64 ((winF r n (L 0) v : Nat) : Int)] q.to (.int .i64 (idxI (v u) ((winF r n (L 0) v : Nat) : Int) (L 0)))) := fun q => Lib.hid ((index_any Au (L 0) cu (v u) _ q.to (HIu.out.keep q.below) (by omega)).mono (by rintro e w' ⟨rfl, rfl⟩; exact ⟨rfl, Below.refl _ _⟩))
  clear HG
  generalize winF r n (L 0) (fun k => if k = u then rowF x else v k) = x1 at *
  generalize winF r n (L 0) v = x2 at *
  generalize idxI (v u) (x1 : Int) (L 0) = p1 at *
  generalize idxI (v u) (x2 : Int) (L 0) = p2 at *
  have hd : decide (p1 < p2) = true := decide_eq_true hgx
  go_wp2_with fail
  refine wp_region_later (by kernel_rfl) (by kernel_rfl) ?_
  repeat
    (with_reducible refine wpQuiet_step ?_
     intro K hK
     go_simp
     first
       | (refine hK _ ?_; clear hK K)
       | (apply Exists.intro
          refine ⟨fun _ => ?_, hK _ ?_⟩
          (first
            | (go_at_call 13; exact Lr.later (awake_any _))
            | (go_at_call_of 16 (x1 : Int); exact Lr.later (HI1 _).out)
            | (go_at_call_of 16 (x2 : Int); exact Lr.later (HI2 _).out))
          clear hK K))
  with_reducible refine wpQuiet_nil ?_
  intro _ hw'
  obtain ⟨q, hw''⟩ := hw'
  subst hw''
  have Hb10 := Lib.hid (Hb9.out.trans (q.below.mono Hb9.out.size))
  clear k0 HI1 HI2
  go_wp2
  go_ret
  exact ⟨rfl, Hb10.out⟩
theorem voteLied_walk (A : Option Addr) (n c : Nat) (L : Nat → Nat) (v : Nat → Nat → Int) (q : Int) (w : World) (h : ArgR w A n c L v) (_hq : (Lit.int .i64 q).wf = true) :
    Calls Try.prog 3 #[.slice A n c, .int .i64 q] w fun e w' => e = .returned (.bool true) ∧ Below w.heap.size w w' := by
  cases hok : okBal n L v with
  | false => exact voteLied_bad A n c L v q w h (.inl hok)
  | true =>
    by_cases hq : q < 0 ∨ 4 ≤ q
    · exact voteLied_bad A n c L v q w h (.inr hq)
    · obtain ⟨r, rfl⟩ : ∃ r : Nat, q = (r : Int) := ⟨q.toNat, by omega⟩
      exact voteLied_ok r (by omega) A n c L v w h hok
end Go.Proofs.Ytnobbklnnkpdfaa
