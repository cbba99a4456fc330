/- orders: fill's step. -/
import Derived.LoopNIn
import Derived.LoopIn
import Derived.Test.YtnobbklnnkpdfaaFl
import Derived.Test.YtnobbklnnkpdfaaOd
namespace Go.Proofs.Ytnobbklnnkpdfaa
open Go.RowKit
attribute [local go_sem] Oper.semAt_some

/-- What the first j things have given. -/
def partO (T : List Nat) (s : Nat) (p : List Nat) (j : Nat) : List (List Nat) := ((T.take j).filter (fun x => !p.contains x)).flatMap (fun x => ordL T s (p ++ [x]))
theorem partO_all (T : List Nat) (s : Nat) (p : List Nat) : partO T s p T.length = ordL T (s + 1) p := by
  unfold partO
  rw [List.take_length]
  rfl
theorem partO_succ (T : List Nat) (s : Nat) (p : List Nat) {j : Nat} (hj : j < T.length) : partO T s p (j + 1) = partO T s p j ++ (if p.contains (T.getD j 0) then [] else ordL T s (p ++ [T.getD j 0])) := by
  have e : T.getD j 0 = T[j] := by simp [List.getD, hj]
  unfold partO
  rw [List.take_succ_eq_append_getElem hj, List.filter_append, List.flatMap_append, e]
  congr 1
  cases hc : p.contains T[j] with
  | true =>
    rw [List.filter_cons_of_neg (by rw [hc]; decide)]
    rfl
  | false =>
    rw [List.filter_cons_of_pos (by rw [hc]; rfl), List.filter_nil, List.flatMap_cons, List.flatMap_nil, List.append_nil]
    rfl
theorem partO_pre (T : List Nat) (s : Nat) (p : List Nat) (j : Nat) : ∃ r, ordL T (s + 1) p = partO T s p j ++ r := by
  refine ⟨((T.drop j).filter (fun x => !p.contains x)).flatMap (fun x => ordL T s (p ++ [x])), ?_⟩
  unfold partO
  rw [← List.flatMap_append, ← List.filter_append, List.take_append_drop]
  rfl

set_option maxHeartbeats 2000000 in
set_option maxRecDepth 1000000 in
theorem fill_succ (l m ps py pr pt pf B : Nat) (A : Option Addr) (cT : Nat) (T : List Nat) (J Jx : List (List Nat) → World → Prop) (L : List (List Nat)) (hm : m ≤ 9) (hT : T.length ≤ 9)
    (hJe : ∀ s W1 W2, J s W1 → Exc B W1 W2 → J s W2) (s : Nat)
    (ih : ∀ (at_ : Nat) (p : List Nat) (came : List (List Nat)) (W : World) (n : Nat) (f : Nat → Int), p.length = at_ → at_ + s = m → FillB W l m ps py pr pt pf B A cT T → J came W → (∃ r, L = came ++ ordL T s p ++ r) → RowI W B m f → (∀ i, i < at_ → f i = rowF p i) →
      CallsIn Fence.wide n Try.prog 68 #[.int .i64 at_, .pointer (some ⟨ps, 0, none⟩), .pointer (some ⟨py, 0, none⟩), .pointer (some ⟨pr, 0, none⟩), .pointer (some ⟨pt, 0, none⟩), .pointer (some ⟨pf, 0, none⟩)] W (FillPost l m ps py pr pt pf B A cT T J Jx came s at_ p))
    (at_ : Nat) (p : List Nat) (came : List (List Nat)) (W : World) (n : Nat) (f : Nat → Int) (hp : p.length = at_) (hs : at_ + (s + 1) = m) (hB : FillB W l m ps py pr pt pf B A cT T) (hJ : J came W) (hL : ∃ r, L = came ++ ordL T (s + 1) p ++ r) (hR : RowI W B m f) (hf : ∀ i, i < at_ → f i = rowF p i) :
    CallsIn Fence.wide n Try.prog 68 #[.int .i64 at_, .pointer (some ⟨ps, 0, none⟩), .pointer (some ⟨py, 0, none⟩), .pointer (some ⟨pr, 0, none⟩), .pointer (some ⟨pt, 0, none⟩), .pointer (some ⟨pf, 0, none⟩)] W (FillPost l m ps py pr pt pf B A cT T J Jx came (s + 1) at_ p) := by
  have HI := Lib.hid ih
  have HJe := Lib.hid hJe
  have HB := Lib.hid hB
  have HL := Lib.hid hL
  have HR := Lib.hid hR
  have HF := Lib.hid hf
  have HJ := Lib.hid hJ
  have c1 := hB.size
  have c4 := hB.things
  have hne := beq_f (a := (at_ : Int)) (b := (m : Int)) (by omega)
  clear ih hJe hB hL hR hf hJ
  refine callsIn_of_wp Try.func68 rfl trivial ?_ rfl
  simp only [Try.ntmps68, List.size_toArray, List.length_cons, List.length_nil, Nat.reduceAdd, Nat.reduceSub, Array.replicate_succ, Array.replicate_zero, List.push_toArray, List.append_toArray, List.nil_append, List.cons_append]
  gi_wp2
  gi_loopw [18] (fun i wr => ∃ (j : Nat) (f' : Nat → Int), j ≤ T.length ∧ i = .int .i64 j ∧ J (came ++ partO T s p j) wr ∧ FillB wr l m ps py pr pt pf B A cT T ∧ RowI wr B m f' ∧ ∀ i, i < at_ → f' i = rowF p i) (fun i _ => T.length - (intOf i).toNat)
  case atStart => exact ⟨0, f, Nat.zero_le _, rfl, by simpa [partO] using HJ.out, HB.out, HR.out, HF.out⟩
  case round =>
    obtain ⟨j, f', hj, rfl, hJ', hB', hR', hF'⟩ := hrel
    have HJ' := Lib.hid hJ'
    have HB' := Lib.hid hB'
    have HR' := Lib.hid hR'
    have HF' := Lib.hid hF'
    clear hJ' hB' hR' hF'
    by_cases hlt : j < T.length
    · obtain ⟨b, o, rfl, hcT⟩ := HB'.out.ints.at hlt
      have cr := HB'.out.row
      have cf := HB'.out.self
      have hin : Ints wr (some ⟨B, 0, none⟩) at_ f' := fun hp' => ⟨B, 0, rfl, fun k hk => by rw [Nat.zero_add]; exact HR'.out.cell (by omega)⟩
      have hbc : hasB f' (rowF T j) at_ = p.contains (T.getD j 0) := by
        rw [Bool.eq_iff_iff, hasB_iff, List.contains_iff_mem, List.mem_iff_getElem]
        constructor
        · rintro ⟨k, hk, he⟩
          rw [HF'.out k hk] at he
          refine ⟨k, by omega, ?_⟩
          have he' : ((p.getD k 0 : Nat) : Int) = ((T.getD j 0 : Nat) : Int) := he
          have : p.getD k 0 = p[k]'(by omega) := by simp [List.getD, show k < p.length by omega]
          omega
        · rintro ⟨k, hk, he⟩
          refine ⟨k, by omega, ?_⟩
          rw [HF'.out k (by omega)]
          show ((p.getD k 0 : Nat) : Int) = ((T.getD j 0 : Nat) : Int)
          have : p.getD k 0 = p[k] := by simp [List.getD, hk]
          omega
      have HC := Lib.hid (contains_any (some ⟨B, 0, none⟩) at_ m f' (rowF T j) wr hin (by omega))
      have HPs := Lib.hid (partO_succ T s p hlt)
      rw [hbc] at HC
      have hxe : rowF T j = ((T.getD j 0 : Nat) : Int) := rfl
      rw [hxe] at HC hcT
      clear hbc hin hxe
      generalize T.getD j 0 = x at *
      cases hc : p.contains x with
      | true =>
        rw [hc] at HC HPs
        clear hc
        gi_wp2_with (first
          | (refine ⟨trivial, (fun h => by cases h), ?_⟩; gi_at_call 23; refine (callsIn_wide.2 HC.out).mono ?_; rintro e w3 ⟨rfl, rfl⟩))
        exact ⟨⟨j + 1, f', by omega, by go_num, by rw [HPs.out]; simpa using HJ'.out, HB'.out, HR'.out, HF'.out⟩, by simp [intOf]; omega⟩
      | false =>
        rw [hc] at HC HPs
        clear hc
        have HW : Hid (RowI (wr.setCell ⟨B, at_, none⟩ (.int .i64 (x : Int))) B m (upd f' at_ (x : Int))) := Lib.hid (HR'.out.set at_ _)
        have ce := HR'.out.cell (i := at_) (by omega)
        have cz := HR'.out.frozen at_
        obtain ⟨W3, hW3⟩ : ∃ W3, W3 = wr.setCell ⟨B, at_, none⟩ (.int .i64 (x : Int)) := ⟨_, rfl⟩
        have hE3 : Exc B wr W3 := by rw [hW3]; exact (Exc.refl _ _).set _ _
        have hB3 := HB'.out.exc hE3
        have hI3 := HI.out (at_ + 1) (p ++ [x]) (came ++ partO T s p j) W3 (n - 1) (upd f' at_ (x : Int)) (by simp [hp]) (by omega) hB3 (HJe.out _ _ _ HJ'.out hE3) (by
          obtain ⟨r, hr⟩ := HL.out
          obtain ⟨r2, hr2⟩ := partO_pre T s p (j + 1)
          refine ⟨r2 ++ r, ?_⟩
          rw [hr, hr2, HPs.out]
          simp) (by rw [hW3]; exact HR'.out.set at_ _) (fun i hi => by
          by_cases e : i = at_
          · rw [e, upd_at]
            simp [rowF, ← hp]
          · rw [upd_ne _ _ e, HF'.out i (by omega)]
            simp [rowF, List.getD, List.getElem?_append_left (show i < p.length by omega)])
        have c5 := hB3.self
        rw [hW3] at hI3 c5
        have H3 := Lib.hid hI3
        clear hI3 hE3 hB3 hW3
        gi_wp2_with (first
          | (refine ⟨trivial, (fun h => by cases h), ?_⟩; gi_at_call 23; refine (callsIn_wide.2 HC.out).mono ?_; rintro e w3 ⟨rfl, rfl⟩)
          | (refine ⟨trivial, (fun h => by cases h), ?_⟩; gi_at_call 68; refine H3.out.mono ?_; rintro e w4 (⟨rfl, hJ4, hB4, f4, hR4, hF4⟩ | ⟨rfl, q, hq⟩)))
        · refine ⟨⟨j + 1, f4, by omega, by go_num, by rw [HPs.out]; simpa using hJ4, hB4, hR4, fun i hi => ?_⟩, by simp [intOf]; omega⟩
          rw [hF4 i (by omega)]
          simp [rowF, List.getD, List.getElem?_append_left (show i < p.length by omega)]
        · go_ret
          exact .inr ⟨rfl, q, hq⟩
    · have hjn : j = T.length := by omega
      gi_wp2
      go_ret
      exact .inl ⟨rfl, by rw [← partO_all, ← hjn]; exact HJ'.out, HB'.out, f', HR'.out, HF'.out⟩
end Go.Proofs.Ytnobbklnnkpdfaa
