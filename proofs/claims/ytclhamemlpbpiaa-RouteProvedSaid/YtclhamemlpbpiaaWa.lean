/- Way's closure. -/
import Derived.Test.YtclhamemlpbpiaaHz
namespace Go.Proofs.Ytclhamemlpbpiaa
open Go.RowKit

def capW (bB eB mB sB fB gB : Nat) : Array Value := #[.pointer (some ⟨bB, 0, none⟩), .pointer (some ⟨eB, 0, none⟩), .pointer (some ⟨mB, 0, none⟩), .pointer (some ⟨sB, 0, none⟩), .pointer (some ⟨fB, 0, none⟩), .pointer (some ⟨gB, 0, none⟩)]
/-- What a call of the closure is to give. -/
def GrowOk (lo mB bB sB fB gB eB n m c : Nat) (A : Option Addr) (b : Nat) (S T : Nat → Int) (f : Nat) : Prop := ∀ (g cp x : Nat) (L : List Int) (v : Value) (B : Option (List Int)) (w : World),
  GEnv w mB bB sB fB gB n m c A b S T (.func (.func 32) #[] (capW bB eB mB sB fB gB)) → lo ≤ w.heap.size → OwnL w lo (.slice (some ⟨g, 0, none⟩) L.length cp) L → 0 < L.length → L.getD (L.length - 1) 0 = (x : Int) → x < n → T (8 * x + b) ≤ f → L.length + f ≤ 5000 →
  BoxV w eB v → BestW w v B → (∀ h, v.ownBlock = some h → lo ≤ h ∧ h ≠ g) →
  Calls Try.prog 32 (#[.slice (some ⟨g, 0, none⟩) L.length cp] ++ capW bB eB mB sB fB gB) w fun e w' => e = .returned (.tuple #[]) ∧ ∃ v', BoxV w' eB v' ∧ BestW w' v' (wyF n S T b f L x B) ∧ (v' = v ∨ ∀ h, v'.ownBlock = some h → w.heap.size ≤ h) ∧ Kp [g, eB] w w' ∧ OwnL w' lo (.slice (some ⟨g, 0, none⟩) L.length cp) L

theorem grow_end {w w2 : World} {lo g eB cp k : Nat} {L : List Int} {u v' v : Value} {B : Option (List Int)} (hO2 : OwnL w2 w.heap.size v' L) (hL : 0 < L.length) (hb : Below w.heap.size w w2) (hV : BoxV w2 eB u) (heg : eB < lo) (hlo : lo ≤ w.heap.size) (hge : lo ≤ g) (hO : OwnL w lo (.slice (some ⟨g, 0, none⟩) k cp) L) (hp : pickW B L = some L) :
    ∃ v'', BoxV (w2.setCell ⟨eB, 0, none⟩ v') eB v'' ∧ BestW (w2.setCell ⟨eB, 0, none⟩ v') v'' (pickW B L) ∧ (v'' = v ∨ ∀ h, v''.ownBlock = some h → w.heap.size ≤ h) ∧ Kp [g, eB] w (w2.setCell ⟨eB, 0, none⟩ v') ∧ OwnL (w2.setCell ⟨eB, 0, none⟩ v') lo (.slice (some ⟨g, 0, none⟩) k cp) L := by
  have hE : Kp [g, eB] w (w2.setCell ⟨eB, 0, none⟩ v') := (Kp.of_below hb).trans ⟨rfl, rfl, rfl, by simp, fun j _ hne => Below.heap_setCell w2 _ v' j (fun e => hne (by rw [e]; simp))⟩
  have hX : Exc eB w2 (w2.setCell ⟨eB, 0, none⟩ v') := (Exc.refl _ _).set _ _
  refine ⟨v', hV.set v', ?_, .inr (fun h hh => (World.ownsRow.lt hO2 h hh).1), hE, hX.ownL (hO.below hb) (.inr (fun e => by
    have e : g = eB := by simpa [Value.ownBlock] using e
    omega))⟩
  rw [hp]
  exact ⟨(hX.ownL hO2 (by
    cases hv : v'.ownBlock with
    | none => exact .inl rfl
    | some h =>
      refine .inr (fun e => ?_)
      injection e with e
      have := (World.ownsRow.lt hO2 h hv).1
      omega)).rebase (Nat.zero_le _), hL⟩
set_option maxHeartbeats 2000000 in
set_option maxRecDepth 1000000 in
theorem grow_leaf (lo mB bB sB fB gB eB n m c : Nat) (A : Option Addr) (b : Nat) (S T : Nat → Int) (_f : Nat) (_ : b < n) (_ : n ≤ 8) (g cp : Nat) (L : List Int) (v : Value) (B : Option (List Int)) (w : World)
    (hE : GEnv w mB bB sB fB gB n m c A b S T (.func (.func 32) #[] (capW bB eB mB sB fB gB))) (hlo : lo ≤ w.heap.size) (hO : OwnL w lo (.slice (some ⟨g, 0, none⟩) L.length cp) L) (hL : 0 < L.length) (hx : L.getD (L.length - 1) 0 = (b : Int))
    (hlen : L.length ≤ 5000) (hV : BoxV w eB v) (hB : BestW w v B) (hsep : ∀ h, v.ownBlock = some h → lo ≤ h ∧ h ≠ g) (heg : eB < lo) :
    Calls Try.prog 32 (#[.slice (some ⟨g, 0, none⟩) L.length cp] ++ capW bB eB mB sB fB gB) w fun e w' => e = .returned (.tuple #[]) ∧ ∃ v', BoxV w' eB v' ∧ BestW w' v' (pickW B L) ∧ (v' = v ∨ ∀ h, v'.ownBlock = some h → w.heap.size ≤ h) ∧ Kp [g, eB] w w' ∧ OwnL w' lo (.slice (some ⟨g, 0, none⟩) L.length cp) L := by
  obtain ⟨A1, c1, e1, -, hI, hg1, hcc⟩ := hO.form
  injection e1 with e1 e2 e3
  subst e1 e3
  obtain ⟨hge, hgl, -⟩ := hg1 g 0 rfl
  have hcl : w.cell? ⟨g, 0 + (L.length - 1), none⟩ = some (.int .i64 b) := by rw [hI.cell (show L.length - 1 < L.length by omega), hx]
  have hCl := Lib.hid (fun w' (h : Ints w' (some ⟨g, 0, none⟩) L.length (fun k => L.getD k 0)) => clone_any (some ⟨g, 0, none⟩) L.length cp (fun k => L.getD k 0) w' h (by omega))
  have hbc := hE.end_
  have hvc := World.rowIs.cell hV (show 0 < 1 by omega)
  have hvf := World.rowIs.frozen hV 0
  obtain ⟨Av, cv, ev, hAv⟩ := hB.form
  subst ev
  have HB := Lib.hid hB
  have HV := Lib.hid hV
  have HO := Lib.hid hO
  have HI := Lib.hid hI
  have HS := Lib.hid hsep
  have q := fun (w : World) (a : Option Addr) (n c n' c' : Nat) => Lib.run_eql_slice_nil (P := Try.prog) w 33 3 a n c n' c' Try.underlying33
  have hLL : lst L.length (fun k => L.getD k 0) = L := lst_of L
  have HLL := Lib.hid hLL
  have hbb := beq_t (rfl : (b : Int) = b)
  clear hE hV hB hO hI hsep hg1 hLL
  generalize hi : L.length = i at *
  have hcl2 : w.cell? ⟨g, i - 1, none⟩ = some (.int .i64 b) := by
    rw [← Nat.zero_add (i - 1)]
    exact hcl
  have hi1 : (1 : Int) ≤ i := by omega
  have HLi := Lib.hid hi
  clear hcl hi
  unfold capW
  go_enter Try.func32, Try.ntmps32
  cases B with
  | none =>
    obtain rfl : Av = none := hAv.2 rfl
    have ev : Value.slice none ((none : Option (List Int)).getD []).length cv = .slice none 0 0 := HB.out
    rw [ev] at hvc HV HB HS
    have HPos := Lib.hid (show 0 < L.length by have := HLi.out; omega)
    go_wp2_with fail
    refine (hCl.out w HI.out).mono ?_
    rintro e w2 ⟨v', rfl, hO2, -, hb2⟩
    rw [HLL.out] at hO2
    have HO2 := Lib.hid hO2
    have HB2 := Lib.hid hb2
    have hV2 : BoxV w2 eB _ := World.rowIs.of_block HV.out (hb2.block eB (World.rowIs.lt HV.out))
    have HV2 := Lib.hid hV2
    have hvc2 := World.rowIs.cell hV2 (show 0 < 1 by omega)
    have hvf2 := World.rowIs.frozen hV2 0
    clear hO2 hb2 hV2
    obtain ⟨A2, c2, rfl, -⟩ := HO2.out.form
    go_wp2
    go_returns
    exact ⟨rfl, grow_end HO2.out HPos.out HB2.out HV2.out heg hlo hge HO.out rfl⟩
  | some u =>
    have hA : Av.isNone = false := by
      cases Av with
      | none => exact absurd (hAv.1 rfl) (by simp)
      | some _ => rfl
    have hlu : ((some u : Option (List Int)).getD []).length = u.length := rfl
    rw [hlu] at *
    by_cases hlt : i < u.length
    · have HPos := Lib.hid (show 0 < L.length by have := HLi.out; omega)
      have hd : decide ((i : Int) < (u.length : Int)) = true := decide_eq_true (by omega)
      have hp : pickW (some u) L = some L := by
        have := HLi.out
        simp [pickW, show L.length < u.length by omega]
      have HP := Lib.hid hp
      clear hp
      go_wp2_with fail
      refine (hCl.out w HI.out).mono ?_
      rintro e w2 ⟨v', rfl, hO2, -, hb2⟩
      rw [HLL.out] at hO2
      have HO2 := Lib.hid hO2
      have HB2 := Lib.hid hb2
      have hV2 : BoxV w2 eB _ := World.rowIs.of_block HV.out (hb2.block eB (World.rowIs.lt HV.out))
      have HV2 := Lib.hid hV2
      have hvc2 := World.rowIs.cell hV2 (show 0 < 1 by omega)
      have hvf2 := World.rowIs.frozen hV2 0
      clear hO2 hb2 hV2
      obtain ⟨A2, c2, rfl, -⟩ := HO2.out.form
      go_wp2
      go_returns
      exact ⟨rfl, grow_end HO2.out HPos.out HB2.out HV2.out heg hlo hge HO.out HP.out⟩
    · have hd : decide ((i : Int) < (u.length : Int)) = false := decide_eq_false (by omega)
      have hp : pickW (some u) L = some u := by
        have := HLi.out
        simp [pickW, show ¬ L.length < u.length by omega]
      have HP := Lib.hid hp
      clear hp
      go_wp2
      go_returns
      exact ⟨rfl, _, HV.out, by rw [HP.out]; exact HB.out, .inl rfl, Kp.refl _ _, HO.out⟩
end Go.Proofs.Ytclhamemlpbpiaa
