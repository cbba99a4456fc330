/- Serial, the program's. -/
import Derived.Test.YtoeimngbpagegaaDoorGso
import Derived.Test.YtoeimngbpagegaaDoorGrd
namespace Go.Proofs.YtoeimngbpagegaaDoor
open Go.RowKit

theorem permG_all {n : Nat} {f F : Nat → Int} {P : Int → Prop} (h : (lst n f).Perm (lst n F)) (hF : ∀ k, k < n → P (F k)) : ∀ k, k < n → P (f k) := fun a ha => by
  have h1 : f a ∈ lst n f := List.mem_of_getElem? (lst_get n f a ha)
  have h2 := h.mem_iff.1 h1
  unfold lst at h2
  obtain ⟨k, hk, e⟩ := List.mem_map.1 h2
  rw [← e]
  exact hF k (List.mem_range.1 hk)
/-- Where the stretch that ends at stop a begins. -/
def pvS (G : Nat → Int) : Nat → Int
  | 0 => 0
  | a + 1 => G a
/-- What each of its users pays for a stretch, in twelfths. -/
def ptS (G : Nat → Int) (n a : Nat) : Int := (G a - pvS G a) * (12 / ((n - a : Nat) : Int))
/-- What player p pays for the first t stretches, in twelfths. -/
def svP (F G : Nat → Int) (n p : Nat) : Nat → Int
  | 0 => 0
  | a + 1 => if G a ≤ F p then svP F G n p a + ptS G n a else svP F G n p a
def seF (F G : Nat → Int) (n : Nat) : Nat → Nat → Int := fun p i => if i = 0 then rN (svP F G n p n) 12 else rD (svP F G n p n) 12
theorem pvS_bd {G : Nat → Int} {n : Nat} (hG : ∀ k, k < n → 0 ≤ G k ∧ G k ≤ 1000) (hs : Srt (fun x => x) G n) (a : Nat) (ha : a < n) : 0 ≤ pvS G a ∧ pvS G a ≤ G a := by
  rcases a with _ | a
  · exact ⟨Int.le_refl _, (hG 0 ha).1⟩
  · exact ⟨(hG a (by omega)).1, hs a (a + 1) (by omega) ha⟩
theorem quoS {d : Nat} (h1 : 1 ≤ d) (h4 : d ≤ 4) : ∃ q : Int, (12 : Int) / (d : Int) = q ∧ (q = 12 ∨ q = 6 ∨ q = 4 ∨ q = 3) := by
  have : d = 1 ∨ d = 2 ∨ d = 3 ∨ d = 4 := by omega
  rcases this with rfl | rfl | rfl | rfl
  · exact ⟨12, by decide, by omega⟩
  · exact ⟨6, by decide, by omega⟩
  · exact ⟨4, by decide, by omega⟩
  · exact ⟨3, by decide, by omega⟩
theorem ptS_bd {G : Nat → Int} {n : Nat} (hn : n ≤ 4) (hG : ∀ k, k < n → 0 ≤ G k ∧ G k ≤ 1000) (hs : Srt (fun x => x) G n) (a : Nat) (ha : a < n) : 0 ≤ ptS G n a ∧ ptS G n a ≤ 12000 := by
  have h1 := hG a ha
  have h2 := pvS_bd hG hs a ha
  obtain ⟨q, hq, hq2⟩ := quoS (d := n - a) (by omega) (by omega)
  unfold ptS
  rw [hq]
  rcases hq2 with rfl | rfl | rfl | rfl <;> omega
theorem svP_bd {F G : Nat → Int} {n : Nat} (hn : n ≤ 4) (hG : ∀ k, k < n → 0 ≤ G k ∧ G k ≤ 1000) (hs : Srt (fun x => x) G n) (p : Nat) : ∀ t, t ≤ n → 0 ≤ svP F G n p t ∧ svP F G n p t ≤ 12000 * (t : Int) := by
  intro t
  induction t with
  | zero => intro _; simp [svP]
  | succ t ih =>
    intro ht
    have h1 := ih (by omega)
    have h2 := ptS_bd hn hG hs t (by omega)
    unfold svP
    split <;> omega
set_option maxHeartbeats 2000000 in
set_option maxRecDepth 1000000 in
theorem serial_ok (A : Option Addr) (n c : Nat) (F : Nat → Int) (w : World) (h : Ints w A n F) (hok : okL n F = true) :
    Calls Tryd.prog 40 #[.slice A n c] w fun e w' => ∃ (gx : Nat) (G : Nat → Int), (lst n G).Perm (lst n F) ∧ Srt (fun x => x) G n ∧ e = .returned (.tuple #[.slice (some ⟨gx, 0, none⟩) n n, .int .i64 0]) ∧ w.heap.size ≤ gx ∧ FrI w' gx n (seF F G n) ∧ Below w.heap.size w w' := by
  obtain ⟨⟨hn1, hn4⟩, hF⟩ := okL_iff.1 hok
  have HI := Lib.hid h
  have HL := Lib.hid (areLengths_any A n c F w h (by unfold maxLen; omega))
  rw [hok] at HL
  have HCl := Lib.hid (clone_any A n c F w h (by omega))
  have HF := Lib.hid hF
  clear h hok hF
  go_enter Tryd.func40, Tryd.ntmps40
  go_wp2_with fail
  refine HL.out.mono ?_
  rintro e w' ⟨rfl, rfl⟩
  go_wp2_with fail
  refine HCl.out.mono ?_
  rintro e w1 ⟨v, rfl, hv, -, hb⟩
  obtain ⟨g, cap, rfl, hbg, hRC⟩ := hv.rowC (by omega)
  have HB1 := Lib.hid hb
  have HR1 := Lib.hid hRC
  clear hv hb hRC HCl
  go_wp2_with fail
  refine (sortG g cap n F w1 HR1.out (by omega) (by omega)).mono ?_
  rintro e w2 ⟨rfl, G, hR2, hPm, hSr, hE2⟩
  have HB2 := Lib.hid (HB1.out.trans (hE2.below hbg HB1.out.size))
  have HR2 := Lib.hid hR2
  have HPm := Lib.hid hPm
  have HSr := Lib.hid hSr
  have hG := permG_all (P := fun x => 0 ≤ x ∧ x ≤ 1000) hPm HF.out
  have HG := Lib.hid hG
  have HPv := Lib.hid (pvS_bd hG hSr)
  have HPt := Lib.hid (ptS_bd hn4 hG hSr)
  have HSv := Lib.hid (fun p => svP_bd (F := F) hn4 hG hSr p)
  have HS : Hid (∀ p a, svP F G n p (a + 1) = if G a ≤ F p then svP F G n p a + ptS G n a else svP F G n p a) := Lib.hid (fun _ _ => rfl)
  have HS0 : Hid (∀ p, svP F G n p 0 = 0) := Lib.hid (fun _ => rfl)
  have HPe : Hid (∀ a, ptS G n a = (G a - pvS G a) * (12 / ((n - a : Nat) : Int))) := Lib.hid (fun _ => rfl)
  have HP1 : Hid (∀ a, pvS G (a + 1) = G a) := Lib.hid (fun _ => rfl)
  have HP0 : Hid (pvS G 0 = 0) := Lib.hid rfl
  clear hR2 hPm hSr hE2 hG HR1
  have hmk := mk_ints n (by omega) w2
  have HM := Lib.hid (RowI.made w2 n)
  have HB3 := Lib.hid (HB2.out.alloc HB2.out.size (.cells (madeCells #[.int .i64 0] n) 3))
  have HR3 := Lib.hid (HR2.out.keep ((Below.refl w2.heap.size w2).alloc (Nat.le_refl _) (.cells (madeCells #[.int .i64 0] n) 3)))
  have hgP := HR2.out.lt
  have hwP := HB2.out.size
  go_wp2_with fail
  clear hmk
  generalize w2.alloc (.cells (madeCells #[.int .i64 0] n) 3) = W3 at *
  obtain ⟨P, hP⟩ : ∃ P, P = w2.heap.size := ⟨_, rfl⟩
  rw [← hP] at HM hgP hwP ⊢
  clear hP
  go_loopw [6, 27] (fun fr i wr => ∃ a : Nat, a ≤ n ∧ i = .int .i64 a ∧ fr = .int .i64 (pvS G a) ∧ RowI wr P n (fun p => svP F G n p a) ∧ RowC wr g cap n G ∧ Below w.heap.size w wr) (fun _ i _ => n - (intOf i).toNat)
  case atStart => exact ⟨0, Nat.zero_le _, rfl, by rw [HP0.out], HM.out.congr (fun q _ => by rw [HS0.out]), HR3.out, HB3.out⟩
  case round =>
    obtain ⟨a, ha, rfl, rfl, hR, hC, hD⟩ := hrel
    have HR := Lib.hid hR
    have HC := Lib.hid hC
    have HD := Lib.hid hD
    clear hR hC hD
    by_cases hal : a < n
    · have cg := HC.out.cell hal
      have g1 := HG.out a hal
      have g2 := HPv.out a hal
      have g3 := HPt.out a hal
      have hpe := HPe.out a
      have HSa := Lib.hid (fun p => HS.out p a)
      have HPa := Lib.hid (HP1.out a)
      obtain ⟨d, hd⟩ : ∃ d, n - a = d := ⟨_, rfl⟩
      rw [hd] at hpe
      have hsub : (n : Int) - a = (d : Int) := by omega
      obtain ⟨q, hq, hq2⟩ := quoS (d := d) (by omega) (by omega)
      rw [hq] at hpe
      generalize ptS G n a = pt at *
      generalize hpv : pvS G a = pv at *
      generalize hGa : G a = ga at *
      have hd0 : ¬ (d : Int) = 0 := by omega
      have hd1 : (1 : Int) ≤ (d : Int) := by omega
      have hmul : wrap64 ((ga - pv) * q) = pt := by rw [← hpe]; exact IntWalk.wrap64_in _ (by omega)
      have hmul2 : IntKind.i64.wrap ((ga - pv) * q) = pt := (IntWalk.i64_left _).trans hmul
      obtain ⟨g10, g11⟩ := g1
      obtain ⟨g20, g21⟩ := g2
      obtain ⟨g30, g31⟩ := g3
      clear hd hpe hq2
      go_wp2_with fail
      go_loopw [43] (fun i wi => ∃ p : Nat, p ≤ n ∧ i = .int .i64 p ∧ RowI wi P n (fun q => if q < p then svP F G n q (a + 1) else svP F G n q a) ∧ RowC wi g cap n G ∧ Below w.heap.size w wi) (fun i _ => n - (intOf i).toNat)
      case atStart => exact ⟨0, Nat.zero_le _, rfl, HR.out.congr (fun q _ => by rw [if_neg (by omega)]), HC.out, HD.out⟩
      case round =>
        obtain ⟨p, hp, rfl, hR2, hC2, hE⟩ := hrel
        have HR2 := Lib.hid hR2
        have HC2 := Lib.hid hC2
        have HE := Lib.hid hE
        clear hR2 hC2 hE
        by_cases hpl : p < n
        · obtain ⟨b, o, rfl, c0⟩ := (HI.out.keep HE.out).at hpl
          have c1 := HR2.out.cell hpl
          have f1 := HR2.out.frozen p
          rw [if_neg (Nat.lt_irrefl p)] at c1
          have b0 := HF.out p hpl
          have b1 := HSv.out p a (by omega)
          have HSp := Lib.hid (HSa.out p)
          have HUp : Hid (∀ z, svP F G n p (a + 1) = z → ∀ q, q < n → upd (fun q => if q < p then svP F G n q (a + 1) else svP F G n q a) p z q = if q < p + 1 then svP F G n q (a + 1) else svP F G n q a) := Lib.hid (fun z hz q _ => by
            unfold upd
            by_cases h2 : q = p
            · subst h2
              simp only [if_true, if_pos (show q < q + 1 by omega), hz]
            · simp only [if_neg h2]
              by_cases h1 : q < p
              · simp only [if_pos h1, if_pos (show q < p + 1 by omega)]
              · simp only [if_neg h1, if_neg (show ¬ q < p + 1 by omega)])
          have HSet := Lib.hid (fun z => HR2.out.set p z)
          have HKp : Hid (svP F G n p (a + 1) = svP F G n p a → ∀ q, q < n → (if q < p then svP F G n q (a + 1) else svP F G n q a) = if q < p + 1 then svP F G n q (a + 1) else svP F G n q a) := Lib.hid (fun hz q _ => by
            by_cases h2 : q = p
            · subst h2
              simp only [if_neg (Nat.lt_irrefl q), if_pos (show q < q + 1 by omega), hz]
            · by_cases h1 : q < p
              · simp only [if_pos h1, if_pos (show q < p + 1 by omega)]
              · simp only [if_neg h1, if_neg (show ¬ q < p + 1 by omega)])
          have HC3 := Lib.hid (fun z => HC2.out.setOther (a := ⟨P, p, none⟩) (show g ≠ P by omega) z)
          have HE3 := Lib.hid (fun z => HE.out.setCell (p := ⟨P, p, none⟩) hwP z)
          generalize svP F G n p a = X at *
          generalize F p = x at *
          obtain ⟨b00, b01⟩ := b0
          obtain ⟨b10, b11⟩ := b1
          by_cases hge : ga ≤ x
          · have HQ := Lib.hid (HUp.out (X + pt) (by rw [HSp.out, if_pos hge]))
            clear HKp HUp
            go_wp2
            go_roundw
            case rel => exact ⟨p + 1, by omega, by go_num, (HSet.out (X + pt)).congr HQ.out, HC3.out _, HE3.out _⟩
            case measure => simp [intOf]; omega
          · have HQ := Lib.hid (HKp.out (by rw [HSp.out, if_neg hge]))
            clear HKp HUp
            go_wp2
            go_roundw
            case rel => exact ⟨p + 1, by omega, by go_num, HR2.out.congr HQ.out, HC2.out, HE.out⟩
            case measure => simp [intOf]; omega
        · obtain rfl : n = p := by omega
          have HR4 : Hid (RowI wr P n (fun q => svP F G n q (a + 1))) := Lib.hid (HR2.out.congr (fun q hq => by rw [if_pos hq]))
          go_wp2
          go_roundw
          case rel => exact ⟨a + 1, by omega, by go_num, by rw [HPa.out], HR4.out, HC2.out, HE.out⟩
          case measure => simp [intOf]; omega
    · obtain rfl : n = a := by omega
      have hmk := mk_fracs n hn4 wr
      have HMf := Lib.hid (FrI.made wr n)
      have hBa := (Below.refl wr.heap.size wr).alloc (Nat.le_refl _) (.cells (madeCells #[.int .i64 0, .int .i64 0] (n * 2)) 48)
      have HRf := Lib.hid (HR.out.keep hBa)
      have HDf := Lib.hid (HD.out.trans (hBa.mono HD.out.size))
      have hXw := HD.out.size
      have hPX := HR.out.lt
      have HE0 : Hid (∀ p, rN (svP F G n p n) 12 = seF F G n p 0 ∧ rD (svP F G n p n) 12 = seF F G n p 1) := Lib.hid (fun _ => ⟨rfl, rfl⟩)
      clear hBa
      go_wp2_with fail
      clear hmk
      generalize wr.alloc (.cells (madeCells #[.int .i64 0, .int .i64 0] (n * 2)) 48) = W5 at *
      obtain ⟨X, hX⟩ : ∃ X, X = wr.heap.size := ⟨_, rfl⟩
      rw [← hX] at HMf hXw hPX ⊢
      clear hX
      go_loopw [66] (fun i wi => ∃ (p : Nat) (Y : Nat → Nat → Int), p ≤ n ∧ i = .int .i64 p ∧ FrI wi X n Y ∧ (∀ a, a < p → ∀ j, j < 2 → Y a j = seF F G n a j) ∧ RowI wi P n (fun p => svP F G n p n) ∧ Below w.heap.size w wi) (fun i _ => n - (intOf i).toNat)
      case atStart => exact ⟨0, _, Nat.zero_le _, rfl, HMf.out, fun a h => absurd h (by omega), HRf.out, HDf.out⟩
      case round =>
        obtain ⟨p, Y, hp, rfl, hY, hYe, hR2, hE⟩ := hrel
        have HY := Lib.hid hY
        have HYe := Lib.hid hYe
        have HR2 := Lib.hid hR2
        have HE := Lib.hid hE
        clear hY hYe hR2 hE
        by_cases hlt : p < n
        · have c0 := HR2.out.cell hlt
          have b0 := HSv.out p n (Nat.le_refl _)
          obtain ⟨e0, e1⟩ := HE0.out p
          have HRe := Lib.hid (fun w => reduced_any (svP F G n p n) 12 (by omega) (by omega) (by omega) w)
          rw [e0, e1] at HRe
          clear e0 e1
          generalize svP F G n p n = sm at *
          go_wp2_with fail
          refine (HRe.out wr).mono ?_
          rintro e w5 ⟨rfl, hb2⟩
          have HF2 := Lib.hid (HY.out.keep hb2)
          have HB2 := Lib.hid (HE.out.trans (hb2.mono HE.out.size))
          have HRk := Lib.hid (HR2.out.keep hb2)
          have hc0 := HF2.out.cell0 hlt
          have hc1 := HF2.out.cell1 hlt
          have hf0 := HF2.out.frozen (p * 2)
          have hf1 := HF2.out.frozen (p * 2 + 1)
          obtain ⟨x0, hx0⟩ : ∃ x0, seF F G n p 0 = x0 := ⟨_, rfl⟩
          obtain ⟨x1, hx1⟩ : ∃ x1, seF F G n p 1 = x1 := ⟨_, rfl⟩
          have HG0 := Lib.hid hx0
          have HG1 := Lib.hid hx1
          rw [hx0, hx1]
          clear hx0 hx1 hb2 c0
          go_wp2
          go_roundw
          case rel => exact ⟨p + 1, _, by omega, by go_num, HF2.out.set p x0 x1, fun a ha j hj => by
            unfold upF
            by_cases e : a = p
            · subst e
              rw [if_pos rfl]
              have hj2 : j = 0 ∨ j = 1 := by omega
              rcases hj2 with rfl | rfl
              · rw [if_pos rfl, HG0.out]
              · rw [if_neg (by omega), HG1.out]
            · rw [if_neg e]
              exact HYe.out a (by omega) j hj, (HRk.out.setOther (a := ⟨X, p * 2, none⟩) (show P ≠ X by omega) _).setOther (a := ⟨X, p * 2 + 1, none⟩) (show P ≠ X by omega) _, (HB2.out.setCell (p := ⟨X, p * 2, none⟩) hXw _).setCell (p := ⟨X, p * 2 + 1, none⟩) hXw _⟩
          case measure => simp [intOf]; omega
        · obtain rfl : p = n := by omega
          go_wp2
          go_returns
          exact ⟨X, G, HPm.out, HSr.out, rfl, hXw, HY.out.congr (fun k hk i hi => HYe.out k hk i hi), HE.out⟩
end Go.Proofs.YtoeimngbpagegaaDoor
