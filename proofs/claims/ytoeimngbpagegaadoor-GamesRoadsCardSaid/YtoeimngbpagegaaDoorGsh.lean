/- Sums over all orders are the sums weighted by how many orders there are; the reference's Shapley. -/
import Derived.Test.YtoeimngbpagegaaDoorGz
namespace Go.Proofs.YtoeimngbpagegaaDoor
open Go.RowKit

def oF (o : List Nat) : Nat → Int := fun k => (intG o).getD k 0
/-- What all orders of a list together pay. -/
def sumO (C : Nat → Int) (n : Nat) : List (List Nat) → Nat → Int
  | [], _ => 0
  | o :: l, i => jnX C (oF o) n i + sumO C n l i
theorem ordG_is : ∀ n, n ≤ 4 → ∀ o ∈ ordG n n [], isOr n (oF o) n = true := by decide +kernel
theorem ordG_fac : ∀ n, n ≤ 4 → (ordG n n []).length = facN n := by decide +kernel
theorem sumO_snoc (C : Nat → Int) (n : Nat) (o : List Nat) (i : Nat) : ∀ l, sumO C n (l ++ [o]) i = sumO C n l i + jnX C (oF o) n i := by
  intro l
  induction l with
  | nil => simp [sumO]
  | cons a l ih => simp only [List.cons_append, sumO, ih]; omega
theorem sh_l10 (C : Nat → Int) : sumO C 1 (ordG 1 1 []) 0 = riF C 0 0 + (0) := rfl
theorem sh_eq10 (C : Nat → Int) : sumO C 1 (ordG 1 1 []) 0 = shP 1 C 0 2 := by
  rw [sh_l10]
  simp (decide := true) [shP, inS, pcS, facN]
  all_goals omega
theorem sh_l20 (C : Nat → Int) : sumO C 2 (ordG 2 2 []) 0 = riF C 0 0 + (riF C 2 0 + (0)) := rfl
theorem sh_eq20 (C : Nat → Int) : sumO C 2 (ordG 2 2 []) 0 = shP 2 C 0 4 := by
  rw [sh_l20]
  simp (decide := true) [shP, inS, pcS, facN]
  all_goals omega
theorem sh_l21 (C : Nat → Int) : sumO C 2 (ordG 2 2 []) 1 = riF C 1 1 + (riF C 0 1 + (0)) := rfl
theorem sh_eq21 (C : Nat → Int) : sumO C 2 (ordG 2 2 []) 1 = shP 2 C 1 4 := by
  rw [sh_l21]
  simp (decide := true) [shP, inS, pcS, facN]
  all_goals omega
theorem sh_l30 (C : Nat → Int) : sumO C 3 (ordG 3 3 []) 0 = riF C 0 0 + (riF C 0 0 + (riF C 2 0 + (riF C 6 0 + (riF C 4 0 + (riF C 6 0 + (0)))))) := rfl
theorem sh_eq30 (C : Nat → Int) : sumO C 3 (ordG 3 3 []) 0 = shP 3 C 0 8 := by
  rw [sh_l30]
  simp (decide := true) [shP, inS, pcS, facN]
  all_goals omega
theorem sh_l31 (C : Nat → Int) : sumO C 3 (ordG 3 3 []) 1 = riF C 1 1 + (riF C 5 1 + (riF C 0 1 + (riF C 0 1 + (riF C 5 1 + (riF C 4 1 + (0)))))) := rfl
theorem sh_eq31 (C : Nat → Int) : sumO C 3 (ordG 3 3 []) 1 = shP 3 C 1 8 := by
  rw [sh_l31]
  simp (decide := true) [shP, inS, pcS, facN]
  all_goals omega
theorem sh_l32 (C : Nat → Int) : sumO C 3 (ordG 3 3 []) 2 = riF C 3 2 + (riF C 1 2 + (riF C 3 2 + (riF C 2 2 + (riF C 0 2 + (riF C 0 2 + (0)))))) := rfl
theorem sh_eq32 (C : Nat → Int) : sumO C 3 (ordG 3 3 []) 2 = shP 3 C 2 8 := by
  rw [sh_l32]
  simp (decide := true) [shP, inS, pcS, facN]
  all_goals omega
theorem sh_l40 (C : Nat → Int) : sumO C 4 (ordG 4 4 []) 0 = riF C 0 0 + (riF C 0 0 + (riF C 0 0 + (riF C 0 0 + (riF C 0 0 + (riF C 0 0 + (riF C 2 0 + (riF C 2 0 + (riF C 6 0 + (riF C 14 0 + (riF C 10 0 + (riF C 14 0 + (riF C 4 0 + (riF C 4 0 + (riF C 6 0 + (riF C 14 0 + (riF C 12 0 + (riF C 14 0 + (riF C 8 0 + (riF C 8 0 + (riF C 10 0 + (riF C 14 0 + (riF C 12 0 + (riF C 14 0 + (0)))))))))))))))))))))))) := rfl
theorem sh_eq40 (C : Nat → Int) : sumO C 4 (ordG 4 4 []) 0 = shP 4 C 0 16 := by
  rw [sh_l40]
  simp (decide := true) [shP, inS, pcS, facN]
  all_goals omega
theorem sh_l41 (C : Nat → Int) : sumO C 4 (ordG 4 4 []) 1 = riF C 1 1 + (riF C 1 1 + (riF C 5 1 + (riF C 13 1 + (riF C 9 1 + (riF C 13 1 + (riF C 0 1 + (riF C 0 1 + (riF C 0 1 + (riF C 0 1 + (riF C 0 1 + (riF C 0 1 + (riF C 5 1 + (riF C 13 1 + (riF C 4 1 + (riF C 4 1 + (riF C 13 1 + (riF C 12 1 + (riF C 9 1 + (riF C 13 1 + (riF C 8 1 + (riF C 8 1 + (riF C 13 1 + (riF C 12 1 + (0)))))))))))))))))))))))) := rfl
theorem sh_eq41 (C : Nat → Int) : sumO C 4 (ordG 4 4 []) 1 = shP 4 C 1 16 := by
  rw [sh_l41]
  simp (decide := true) [shP, inS, pcS, facN]
  all_goals omega
theorem sh_l42 (C : Nat → Int) : sumO C 4 (ordG 4 4 []) 2 = riF C 3 2 + (riF C 11 2 + (riF C 1 2 + (riF C 1 2 + (riF C 11 2 + (riF C 9 2 + (riF C 3 2 + (riF C 11 2 + (riF C 2 2 + (riF C 2 2 + (riF C 11 2 + (riF C 10 2 + (riF C 0 2 + (riF C 0 2 + (riF C 0 2 + (riF C 0 2 + (riF C 0 2 + (riF C 0 2 + (riF C 11 2 + (riF C 9 2 + (riF C 11 2 + (riF C 10 2 + (riF C 8 2 + (riF C 8 2 + (0)))))))))))))))))))))))) := rfl
theorem sh_eq42 (C : Nat → Int) : sumO C 4 (ordG 4 4 []) 2 = shP 4 C 2 16 := by
  rw [sh_l42]
  simp (decide := true) [shP, inS, pcS, facN]
  all_goals omega
theorem sh_l43 (C : Nat → Int) : sumO C 4 (ordG 4 4 []) 3 = riF C 7 3 + (riF C 3 3 + (riF C 7 3 + (riF C 5 3 + (riF C 1 3 + (riF C 1 3 + (riF C 7 3 + (riF C 3 3 + (riF C 7 3 + (riF C 6 3 + (riF C 2 3 + (riF C 2 3 + (riF C 7 3 + (riF C 5 3 + (riF C 7 3 + (riF C 6 3 + (riF C 4 3 + (riF C 4 3 + (riF C 0 3 + (riF C 0 3 + (riF C 0 3 + (riF C 0 3 + (riF C 0 3 + (riF C 0 3 + (0)))))))))))))))))))))))) := rfl
theorem sh_eq43 (C : Nat → Int) : sumO C 4 (ordG 4 4 []) 3 = shP 4 C 3 16 := by
  rw [sh_l43]
  simp (decide := true) [shP, inS, pcS, facN]
  all_goals omega
theorem sh_all (C : Nat → Int) (n p : Nat) (h1 : 1 ≤ n) (h4 : n ≤ 4) (hp : p < n) : sumO C n (ordG n n []) p = shP n C p (2 ^ n) := by
  have hn : n = 1 ∨ n = 2 ∨ n = 3 ∨ n = 4 := by omega
  rcases hn with rfl | rfl | rfl | rfl
  · have hq : p = 0 := by omega
    subst hq
    · exact sh_eq10 C
  · have hq : p = 0 ∨ p = 1 := by omega
    rcases hq with rfl | rfl
    · exact sh_eq20 C
    · exact sh_eq21 C
  · have hq : p = 0 ∨ p = 1 ∨ p = 2 := by omega
    rcases hq with rfl | rfl | rfl
    · exact sh_eq30 C
    · exact sh_eq31 C
    · exact sh_eq32 C
  · have hq : p = 0 ∨ p = 1 ∨ p = 2 ∨ p = 3 := by omega
    rcases hq with rfl | rfl | rfl | rfl
    · exact sh_eq40 C
    · exact sh_eq41 C
    · exact sh_eq42 C
    · exact sh_eq43 C
theorem jnX_bd {L m n : Nat} {C O : Nat → Int} (hL : L = 2 ^ n) (hn : n ≤ 4) (hor : isOr m O n = true) (hC : ∀ k, k < L → 0 ≤ C k ∧ C k ≤ 1000) : ∀ j, j ≤ m → ∀ i, -1000 ≤ jnX C O j i ∧ jnX C O j i ≤ 1000 := by
  intro j
  induction j with
  | zero => intro _ i; show -1000 ≤ (0 : Int) ∧ (0 : Int) ≤ 1000; omega
  | succ j ih =>
    intro hj i
    obtain ⟨p, hp, -, hs, -, hsp, -, hX⟩ := jn_facts (C := C) hL hn hor (show j < m by omega)
    rw [hX]
    unfold upd
    split
    · have h1 := hC _ hs
      have h2 := hC _ hsp
      unfold riF
      omega
    · exact ih (by omega) i
theorem sumO_bd {L n : Nat} {C : Nat → Int} (hL : L = 2 ^ n) (hn : n ≤ 4) (hC : ∀ k, k < L → 0 ≤ C k ∧ C k ≤ 1000) : ∀ l : List (List Nat), (∀ o ∈ l, isOr n (oF o) n = true) → ∀ i, -(1000 * (l.length : Int)) ≤ sumO C n l i ∧ sumO C n l i ≤ 1000 * l.length := by
  intro l
  induction l with
  | nil => intro _ i; simp [sumO]
  | cons o l ih =>
    intro h i
    have h1 := ih (fun x hx => h x (List.mem_cons_of_mem _ hx)) i
    have h2 := jnX_bd hL hn (h o (by simp)) hC n (Nat.le_refl _) i
    simp only [sumO, List.length_cons]
    omega
theorem news2 (w : World) (x y : Value) (T : TypeId) : ∀ j u, [x, y][j]? = some u → (w.alloc (.cells #[x, y] T)).cell? ((⟨w.heap.size, 0, none⟩ : Addr).add j) = some u := by
  intro j u hu
  have hc : (w.alloc (.cells #[x, y] T)).cell? ⟨w.heap.size, 0 + j, none⟩ = some u := by
    rcases j with _ | _ | j
    · simp at hu; subst hu; simp [World.cell?_alloc_at]
    · simp at hu; subst hu; simp [World.cell?_alloc_at]
    · simp at hu
  rw [Addr.add_lit]
  exact hc
set_option maxHeartbeats 4000000 in
set_option maxRecDepth 1000000 in
theorem refShapley_any (A : Option Addr) (L c n : Nat) (C : Nat → Int) (w : World) (h : Ints w A L C) (hok : okC L C = true) (hn : tzN L = n) :
    Calls Tryd.prog 33 #[.slice A L c] w fun e w' => ∃ v, e = .returned v ∧ OwnK 2 48 w' w.heap.size v n (shF n L C) ∧ Below w.heap.size w w' := by
  obtain ⟨n', hn', hn1, hn4, hLn, hL2, hL16⟩ := okC_n hok
  have hnn : n' = n := by rw [← hn', hn]
  subst hnn
  have HI := Lib.hid h
  have HP : Hid (plN L C = n') := Lib.hid (by unfold plN; rw [hok, if_pos rfl, hn'])
  have HPl := Lib.hid (refPlayers_any A L c C w h (by unfold maxLen; omega))
  have HOr := Lib.hid (fun (w : World) (hv : OwnL w w.heap.size (.slice none 0 0) (intG [])) => orders_any n' hn4 n' [] w w.heap.size (.slice none 0 0) (by simp) (Nat.le_refl _) hv)
  have HIs := Lib.hid (ordG_is n' hn4)
  have HFac := Lib.hid (ordG_fac n' hn4)
  have HFp := Lib.hid (facN_pos n' hn4)
  have HSh : Hid (∀ p, p < n' → sumO C n' (ordG n' n' []) p = shP n' C p L) := Lib.hid (fun p hp => by rw [hLn]; exact sh_all C n' p hn1 hn4 hp)
  have HBd := Lib.hid (fun l hl i => sumO_bd (C := C) hLn hn4 (okC_iff.1 hok).2.2 l hl i)
  have HJb := Lib.hid (fun o (ho : isOr n' (oF o) n' = true) i => jnX_bd (C := C) hLn hn4 ho (okC_iff.1 hok).2.2 n' (Nat.le_refl _) i)
  have HJ := Lib.hid (fun (B : Option Addr) (c2 : Nat) (o : List Nat) (w : World) (hI : Ints w A L C) (hO : Ints w B n' (oF o)) (ho : isOr n' (oF o) n' = true) => refJoin_any A B L c n' c2 n' C (oF o) w hI hO hok hn' ho)
  have HOl : Hid (∀ o ∈ ordG n' n' [], o.length = n') := Lib.hid (fun o ho => by
    have : ∀ n, n ≤ 4 → ∀ o ∈ ordG n n [], o.length = n := by decide +kernel
    exact this n' hn4 o ho)
  clear h hok hn hn' hLn
  obtain ⟨n, rfl⟩ : ∃ n, n = n' := ⟨n', rfl⟩
  generalize ordG n n [] = ords at *
  have hmk := mk_ints n (by omega) w
  go_enter Tryd.func33, Tryd.ntmps33
  go_wp2_with fail
  refine HPl.out.mono ?_
  rintro e w' ⟨rfl, rfl⟩
  rw [HP.out]
  go_wp2_with fail
  have HM := Lib.hid (RowI.made w n)
  have HB0 := Lib.hid ((Below.refl w.heap.size w).alloc (Nat.le_refl _) (.cells (madeCells #[.int .i64 0] n) 3))
  clear hmk
  have HOr2 := Lib.hid (HOr.out (w.alloc (.cells (madeCells #[.int .i64 0] n) 3)) (OwnL.nil_ _ _))
  clear HOr
  generalize w.alloc (.cells (madeCells #[.int .i64 0] n) 3) = W0 at *
  refine HOr2.out.mono ?_
  rintro e w1 ⟨x, rfl, hx, hb1⟩
  have HX := Lib.hid hx.ll
  have HM1 := Lib.hid (HM.out.keep hb1)
  have hW1 : W0.heap.size ≤ w1.heap.size := hb1.size
  have HB1 := Lib.hid (HB0.out.trans (hb1.mono HB0.out.size))
  obtain ⟨Ax, cx, rfl⟩ := hx.ll.form
  have hlen : (ords.map intG).length = facN n := by rw [List.length_map]; exact HFac.out
  rw [hlen] at HX ⊢
  have Hlen := Lib.hid hlen
  clear hx hb1 hlen HOr2
  have hW0 : w.heap.size < W0.heap.size := HM.out.lt
  have hfp := HFp.out
  have HSn : Hid (∀ t (ht : t < ords.length) i, sumO C n (ords.take (t + 1)) i = sumO C n (ords.take t) i + jnX C (oF ords[t]) n i) := Lib.hid (fun t ht i => by
    rw [List.take_succ_eq_append_getElem ht, sumO_snoc])
  have HBt := Lib.hid (fun t i => HBd.out (ords.take t) (fun o ho => HIs.out o (List.mem_of_mem_take ho)) i)
  have HTl : Hid (∀ t, t ≤ facN n → (ords.take t).length = t) := Lib.hid (fun t ht => by rw [List.length_take, HFac.out]; omega)
  go_wp2_with fail
  go_loopw [21] (fun i wr => ∃ t : Nat, t ≤ facN n ∧ i = .int .i64 t ∧ RowI wr w.heap.size n (fun i => sumO C n (ords.take t) i) ∧ Exc w.heap.size w1 wr) (fun i _ => facN n - (intOf i).toNat)
  case atStart => exact ⟨0, Nat.zero_le _, rfl, HM1.out, Exc.refl _ _⟩
  case round =>
    obtain ⟨t, ht, rfl, hR, hE⟩ := hrel
    have HR := Lib.hid hR
    have HE := Lib.hid hE
    have HD := Lib.hid (HB1.out.trans (hE.below (Nat.le_refl _) (by omega)))
    clear hR
    by_cases hlt : t < facN n
    · have htl : t < ords.length := by rw [HFac.out]; exact hlt
      obtain ⟨G, cG, cp, Ap, eG, hcell, hArg⟩ := (HX.out.exc hE hW0).at (p := t) (by rw [Hlen.out]; exact hlt)
      injection eG with eG1 eG2 eG3
      subst eG1 eG3
      have hgd : (ords.map intG).getD t [] = intG ords[t] := by simp [List.getD, htl]
      rw [hgd, intG_len, HOl.out _ (List.getElem_mem htl)] at hcell hArg
      have HIo := Lib.hid (HIs.out _ (List.getElem_mem htl))
      have HArg : Hid (Ints wr Ap n (oF ords[t])) := Lib.hid hArg.2.2.2
      have HSt := Lib.hid (HSn.out t htl)
      have HBd0 := Lib.hid (HBt.out t)
      have htt := HTl.out t ht
      rw [htt] at HBd0
      have HJb2 := Lib.hid (HJb.out _ HIo.out)
      generalize ords[t] = o at *
      obtain ⟨S0, hS0⟩ : ∃ S0 : Nat → Int, S0 = fun i => sumO C n (ords.take t) i := ⟨_, rfl⟩
      have HS0 := Lib.hid hS0
      rw [← hS0] at HR
      clear hArg hE eG2 hgd htl htt hS0
      go_wp2_with fail
      refine (HJ.out Ap cp o wr (HI.out.keep HD.out) HArg.out HIo.out).mono ?_
      rintro e w2 ⟨rfl, hJr, hb2⟩
      have HJr := Lib.hid hJr
      have HR2 := Lib.hid (HR.out.keep hb2)
      have HE2 := Lib.hid (HE.out.trans (Exc.of_below (G := w.heap.size) hb2))
      have hlw : w.heap.size < wr.heap.size := HR.out.lt
      have hlw2 : wr.heap.size < w2.heap.size := hJr.lt
      clear hJr hb2 hcell
      go_wp2_with fail
      obtain ⟨J, hJd⟩ : ∃ J : Nat → Int, J = jnX C (oF o) n := ⟨_, rfl⟩
      have HJd := Lib.hid hJd
      rw [← hJd] at HJr HJb2
      clear hJd
      obtain ⟨jb, hjb⟩ : ∃ jb, jb = wr.heap.size := ⟨_, rfl⟩
      rw [← hjb] at HJr hlw hlw2 ⊢
      clear hjb
      go_loopw [29] (fun i wi => ∃ a : Nat, a ≤ n ∧ i = .int .i64 a ∧ RowI wi w.heap.size n (fun b => if b < a then S0 b + J b else S0 b) ∧ RowI wi jb n J ∧ Exc w.heap.size w1 wi) (fun i _ => n - (intOf i).toNat)
      case atStart => exact ⟨0, Nat.zero_le _, rfl, HR2.out.congr (fun a _ => by rw [if_neg (by omega)]), HJr.out, HE2.out⟩
      case round =>
        obtain ⟨a, ha, rfl, hR3, hJ3, hE3⟩ := hrel
        have HR3 := Lib.hid hR3
        have HJ3 := Lib.hid hJ3
        have HE3 := Lib.hid hE3
        clear hR3 hJ3 hE3
        by_cases hal : a < n
        · have c0 := HR3.out.cell hal
          have c1 := HJ3.out.cell hal
          have f0 := HR3.out.frozen a
          rw [if_neg (Nat.lt_irrefl a)] at c0
          have b0 := HBd0.out a
          rw [show sumO C n (ords.take t) a = S0 a by rw [HS0.out]] at b0
          have b1 := HJb2.out a
          have HC : Hid (∀ b, b < n → upd (fun b => if b < a then S0 b + J b else S0 b) a (S0 a + J a) b = if b < a + 1 then S0 b + J b else S0 b) := Lib.hid (fun b _ => by
            unfold upd
            by_cases h1 : b = a
            · subst h1
              rw [if_pos rfl, if_pos (by omega)]
            · rw [if_neg h1]
              by_cases h2 : b < a
              · simp only [if_pos h2, if_pos (show b < a + 1 by omega)]
              · simp only [if_neg h2, if_neg (show ¬ b < a + 1 by omega)])
          have HSet := Lib.hid (HR3.out.set a (S0 a + J a))
          have HJset := Lib.hid (HJ3.out.setOther (a := ⟨w.heap.size, a, none⟩) (show jb ≠ w.heap.size by omega) (.int .i64 (S0 a + J a)))
          have HEset := Lib.hid (HE3.out.set a (.int .i64 (S0 a + J a)))
          have hb0a : -24000 ≤ S0 a := by omega
          have hb0b : S0 a ≤ 24000 := by omega
          obtain ⟨hb1a, hb1b⟩ := b1
          generalize S0 a = sa at *
          generalize J a = ja at *
          clear b0
          go_wp2
          go_roundw
          case rel => exact ⟨a + 1, by omega, by go_num, HSet.out.congr HC.out, HJset.out, HEset.out⟩
          case measure => simp [intOf]; omega
        · obtain rfl : a = n := by omega
          have HRf : Hid (RowI wr w.heap.size a (fun i => sumO C a (ords.take (t + 1)) i)) := Lib.hid (HR3.out.congr (fun b hb => by
            rw [if_pos hb, HSt.out, HS0.out, HJd.out]))
          go_wp2
          go_roundw
          case rel => exact ⟨t + 1, by omega, by go_num, HRf.out, HE3.out⟩
          case measure => simp [intOf]; omega
    · obtain rfl : t = facN n := by omega
      have HRf : Hid (RowI wr w.heap.size n (fun p => shP n C p L)) := Lib.hid (HR.out.congr (fun p hp => by
        rw [← HSh.out p hp, List.take_of_length_le (by rw [HFac.out]; omega)]))
      have HBp : Hid (∀ p, p < n → -24000 ≤ shP n C p L ∧ shP n C p L ≤ 24000) := Lib.hid (fun p hp => by
        have := HBd.out ords HIs.out p
        rw [HFac.out, HSh.out p hp] at this
        omega)
      obtain ⟨S, hS⟩ : ∃ S : Nat → Int, S = fun p => shP n C p L := ⟨_, rfl⟩
      have HSf : Hid (∀ p, rN (S p) (facN n : Nat) = shF n L C p 0 ∧ rD (S p) (facN n : Nat) = shF n L C p 1) := Lib.hid (fun p => by rw [hS]; exact ⟨rfl, rfl⟩)
      have HBS : Hid (∀ p, p < n → -24000 ≤ S p ∧ S p ≤ 24000) := Lib.hid (by rw [hS]; exact HBp.out)
      rw [← hS] at HRf
      obtain ⟨fn, hfn⟩ : ∃ fn, fn = facN n := ⟨_, rfl⟩
      rw [← hfn] at hfp HSf ⊢
      clear hS hE hfn HR
      obtain ⟨i0, hi, hz0, hz1, hz2⟩ := info_parts infoFr
      obtain ⟨Y, rfl⟩ : ∃ Y, Y = wr := ⟨wr, rfl⟩
      go_wp2_with fail
      go_loopw [10, 45] (fun s i wi => ∃ p : Nat, p ≤ n ∧ i = .int .i64 p ∧ OwnK 2 48 wi Y.heap.size s p (shF n L C) ∧ Below Y.heap.size Y wi) (fun _ i _ => n - (intOf i).toNat)
      case atStart => exact ⟨0, Nat.zero_le _, rfl, OwnK.nil_ _ _ _ _ _, Below.refl _ _⟩
      case round =>
        obtain ⟨p, hp, rfl, hown, hbel⟩ := hrel
        have HO := Lib.hid hown
        have HB := Lib.hid hbel
        clear hown hbel
        by_cases hpl : p < n
        · have hc := (HRf.out.keep HB.out).cell hpl
          have hb := HBS.out p hpl
          have hsf := HSf.out p
          have HRed := Lib.hid (fun w => ofF_any (S p) (fn : Int) (by omega) (by omega) (by omega) w)
          rw [hsf.1, hsf.2] at HRed
          obtain ⟨x0, hx0⟩ : ∃ x0, x0 = shF n L C p 0 := ⟨_, rfl⟩
          obtain ⟨x1, hx1⟩ : ∃ x1, x1 = shF n L C p 1 := ⟨_, rfl⟩
          have HX0 := Lib.hid hx0
          have HX1 := Lib.hid hx1
          rw [← hx0, ← hx1] at HRed
          clear hsf hx0 hx1 hb
          go_wp2_with fail
          refine (HRed.out wr).use fun w3 hb3 => ?_
          have HO3 := Lib.hid (HO.out.below hb3)
          have HB3 := Lib.hid (HB.out.trans (hb3.mono HB.out.size))
          have hs3 : Y.heap.size ≤ w3.heap.size := HB3.out.size
          clear hb3 hc
          go_wp2_with (at_builtin; go_loud (refine wpList_append_own _ rfl _ _ 23 rfl Y.heap.size 48 i0 (.agg #[.int .i64 0, .int .i64 0]) 2 16 Tryd.underlying23 hi hz0 hz1 hz2 rfl (by decide) _ _ _ rfl (World.ownsRow.alloc HO3.out _) ⟨w3.heap.size, 0, none⟩ 1 1 [.int .i64 x0, .int .i64 x1] rfl rfl (news2 _ _ _ _) (by intro u hu; simp at hu; rcases hu with rfl | rfl <;> rfl) (by unfold maxLen; omega) (by omega) (by simp; omega) ?_))
          intro v' w5 hown hgrow _
          have HO5 := Lib.hid hown
          have hb5 : Below Y.heap.size Y w5 := (HB3.out.alloc hs3 _).grown hgrow (by simp; omega) (fun g hg => (World.ownsRow.lt HO3.out g hg).1)
          have HB5 := Lib.hid hb5
          clear hown hgrow hb5
          go_wp2
          go_roundw
          case rel =>
            refine ⟨p + 1, by omega, by go_num, ?_, HB5.out⟩
            unfold OwnK
            rw [recL]
            have h := HO5.out
            rw [HX0.out, HX1.out] at h
            exact h
          case measure => simp [intOf]; omega
        · obtain rfl : p = n := by omega
          go_wp2
          go_ret
          exact ⟨_, rfl, HO.out.rebase HD.out.size, HD.out.trans (HB.out.mono HD.out.size)⟩
end Go.Proofs.YtoeimngbpagegaaDoor
