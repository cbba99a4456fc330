/- swap: orders. -/
import Derived.RangeFuncBound
import Derived.RangeFuncLeaves
import Derived.Shelf.Abstract
import Derived.WalkKit
import Derived.OwnWalkIn
import Derived.TacticsInMore
import Derived.LoopNIn
import Derived.LoopIn
import Derived.Test.YtocfbafcplhmiaaRl
import Derived.Test.YtocfbafcplhmiaaUi
namespace Go.Proofs.Ytocfbafcplhmiaa
open Go.RowKit
attribute [local go_sem] Oper.semAt_some

theorem fill_end (F : Fence) (hd : F.depth = none) (hf : F.fn 82) (hro : F.round = none) (l n m ps py pr pf B : Nat) (R : Ending → World → Prop) (W : World)
    (h1 : W.cell? ⟨ps, 0, none⟩ = some (.int .i64 m)) (h2 : W.cell? ⟨py, 0, none⟩ = some (.func (.yield l) #[] #[])) (h3 : W.cell? ⟨pr, 0, none⟩ = some (.slice (some ⟨B, 0, none⟩) m m))
    (hY : ∀ k, YieldAt F k Try.prog l #[.slice (some ⟨B, 0, none⟩) m m] W fun e W' => (∃ b, e = .returned (.bool b)) ∧ R e W') :
    CallsIn F n Try.prog 82 #[.int .i64 m, .pointer (some ⟨ps, 0, none⟩), .pointer (some ⟨py, 0, none⟩), .pointer (some ⟨pr, 0, none⟩), .pointer (some ⟨pf, 0, none⟩)] W R := by
  have hdd : ∀ k : Nat, (F.depth.isSome = true → 1 ≤ k) := fun k h => by rw [hd] at h; cases h
  obtain ⟨fn, tmps, assign, body, hy, hR⟩ := hY (n - 1)
  refine callsIn_of_wp Try.func82 rfl hf ?_ hro
  simp only [Try.ntmps82, List.size_toArray, List.length_cons, List.length_nil, Nat.reduceAdd, Nat.reduceSub, Array.replicate_succ, Array.replicate_zero, List.push_toArray, List.append_toArray, List.nil_append, List.cons_append]
  gi_wp2_with (first
    | ((try refine ⟨hdd _, ?_⟩); refine hR.mono ?_; clear hR; rintro e W2 ⟨⟨b, rfl⟩, hW2⟩))
  exact hW2
/-- The four boxes of fill. -/
structure FillS (W : World) (l m ps py pr pf B : Nat) : Prop where
  size : W.cell? ⟨ps, 0, none⟩ = some (.int .i64 m)
  yld : W.cell? ⟨py, 0, none⟩ = some (.func (.yield l) #[] #[])
  row : W.cell? ⟨pr, 0, none⟩ = some (.slice (some ⟨B, 0, none⟩) m m)
  self : W.cell? ⟨pf, 0, none⟩ = some (.func (.func 82) #[] #[.pointer (some ⟨ps, 0, none⟩), .pointer (some ⟨py, 0, none⟩), .pointer (some ⟨pr, 0, none⟩), .pointer (some ⟨pf, 0, none⟩)])
  ne : ps ≠ B ∧ py ≠ B ∧ pr ≠ B ∧ pf ≠ B
theorem cell_of_block {W W' : World} {a : Addr} {v : Value} (h : W'.heap[a.block]? = W.heap[a.block]?) (hc : W.cell? a = some v) : W'.cell? a = some v := by
  unfold World.cell? at hc ⊢
  rw [h]
  exact hc
theorem cell_lt {W : World} {a : Addr} {v : Value} (hc : W.cell? a = some v) : a.block < W.heap.size := by
  obtain ⟨o, ho, _⟩ := cells_of_cell hc
  exact (Array.getElem?_eq_some_iff.1 ho).1
theorem FillS.keep {W W' : World} {l m ps py pr pf B : Nat} (h : FillS W l m ps py pr pf B)
    (hk : ∀ b, (b = ps ∨ b = py ∨ b = pr ∨ b = pf) → b < W.heap.size → W'.heap[b]? = W.heap[b]?) : FillS W' l m ps py pr pf B where
  size := cell_of_block (hk _ (.inl rfl) (cell_lt h.size)) h.size
  yld := cell_of_block (hk _ (.inr (.inl rfl)) (cell_lt h.yld)) h.yld
  row := cell_of_block (hk _ (.inr (.inr (.inl rfl))) (cell_lt h.row)) h.row
  self := cell_of_block (hk _ (.inr (.inr (.inr rfl))) (cell_lt h.self)) h.self
  ne := h.ne
theorem FillS.exc {W W' : World} {l m ps py pr pf B : Nat} (h : FillS W l m ps py pr pf B) (he : Exc B W W') : FillS W' l m ps py pr pf B :=
  h.keep (fun b hb hlt => he.block b hlt (fun e => by
    injection e with e
    obtain ⟨n1, n2, n3, n4⟩ := h.ne
    rcases hb with rfl | rfl | rfl | rfl
    · exact n1 e
    · exact n2 e
    · exact n3 e
    · exact n4 e))
/-- What a call of fill leaves. -/
def FillPost (l m ps py pr pf B : Nat) (J Jx : List (List Nat) → World → Prop) (came : List (List Nat)) (s at_ : Nat) (p : List Nat) (e : Ending) (W' : World) : Prop :=
  (e = .returned (.bool true) ∧ J (came ++ ordL (List.range m) s p) W' ∧ FillS W' l m ps py pr pf B ∧ ∃ f, RowI W' B m f ∧ ∀ i, i < at_ → f i = rowF p i) ∨ (e = .returned (.bool false) ∧ ∃ q, Jx q W')
theorem fill_zero (l m ps py pr pf B : Nat) (J Jx : List (List Nat) → World → Prop) (L : List (List Nat))
    (hY : ∀ k pre x W1, J pre W1 → (∃ r, L = pre ++ x :: r) → RowI W1 B m (rowF x) → FillS W1 l m ps py pr pf B → YieldAt Fence.wide k Try.prog l #[.slice (some ⟨B, 0, none⟩) m m] W1 fun e W' =>
      FillS W' l m ps py pr pf B ∧ RowI W' B m (rowF x) ∧ ((e = .returned (.bool true) ∧ J (pre ++ [x]) W') ∨ (e = .returned (.bool false) ∧ Jx (pre ++ [x]) W')))
    (p : List Nat) (came : List (List Nat)) (W : World) (n : Nat) (f : Nat → Int) (hB : FillS W l m ps py pr pf B) (hJ : J came W) (hL : ∃ r, L = came ++ ordL (List.range m) 0 p ++ r) (hR : RowI W B m f) (hf : ∀ i, i < m → f i = rowF p i) :
    CallsIn Fence.wide n Try.prog 82 #[.int .i64 m, .pointer (some ⟨ps, 0, none⟩), .pointer (some ⟨py, 0, none⟩), .pointer (some ⟨pr, 0, none⟩), .pointer (some ⟨pf, 0, none⟩)] W (FillPost l m ps py pr pf B J Jx came 0 m p) := by
  refine fill_end Fence.wide rfl trivial rfl l n m ps py pr pf B _ W hB.size hB.yld hB.row (fun k => ?_)
  obtain ⟨r, hr⟩ := hL
  refine YieldAt.mono (hY k came p W hJ ⟨r, by rw [hr]; simp [ordL]⟩ (hR.congr hf) hB) ?_
  rintro e W' ⟨h1, h2, ⟨rfl, h3⟩ | ⟨rfl, h3⟩⟩
  · exact ⟨⟨true, rfl⟩, .inl ⟨rfl, h3, h1, _, h2, fun i _ => rfl⟩⟩
  · exact ⟨⟨false, rfl⟩, .inr ⟨rfl, _, h3⟩⟩

/-- What the first j things have given. -/
def partO (T : List Nat) (s : Nat) (p : List Nat) (j : Nat) : List (List Nat) := ((T.take j).filter (fun x => !p.contains x)).flatMap (fun x => ordL T s (p ++ [x]))
theorem partO_all (T : List Nat) (s : Nat) (p : List Nat) : partO T s p T.length = ordL T (s + 1) p := by
  unfold partO
  rw [List.take_length]
  rfl
theorem partO_succ (T : List Nat) (s : Nat) (p : List Nat) {j : Nat} (hj : j < T.length) : partO T s p (j + 1) = partO T s p j ++ (if p.contains (T.getD j 0) then [] else ordL T s (p ++ [T.getD j 0])) := by
  have e : T.getD j 0 = T[j] := by simp [List.getD, hj]
  unfold partO
  rw [List.take_succ_eq_append_getElem hj, List.filter_append, List.flatMap_append, e]
  congr 1
  cases hc : p.contains T[j] with
  | true =>
    rw [List.filter_cons_of_neg (by rw [hc]; decide)]
    rfl
  | false =>
    rw [List.filter_cons_of_pos (by rw [hc]; rfl), List.filter_nil, List.flatMap_cons, List.flatMap_nil, List.append_nil]
    rfl
theorem partO_pre (T : List Nat) (s : Nat) (p : List Nat) (j : Nat) : ∃ r, ordL T (s + 1) p = partO T s p j ++ r := by
  refine ⟨((T.drop j).filter (fun x => !p.contains x)).flatMap (fun x => ordL T s (p ++ [x])), ?_⟩
  unfold partO
  rw [← List.flatMap_append, ← List.filter_append, List.take_append_drop]
  rfl

set_option maxHeartbeats 2000000 in
set_option maxRecDepth 1000000 in
theorem fill_succ (l m ps py pr pf B : Nat) (J Jx : List (List Nat) → World → Prop) (L : List (List Nat)) (hm : m ≤ 9)
    (hJe : ∀ s W1 W2, J s W1 → Exc B W1 W2 → J s W2) (s : Nat)
    (ih : ∀ (at_ : Nat) (p : List Nat) (came : List (List Nat)) (W : World) (n : Nat) (f : Nat → Int), p.length = at_ → at_ + s = m → FillS W l m ps py pr pf B → J came W → (∃ r, L = came ++ ordL (List.range m) s p ++ r) → RowI W B m f → (∀ i, i < at_ → f i = rowF p i) →
      CallsIn Fence.wide n Try.prog 82 #[.int .i64 at_, .pointer (some ⟨ps, 0, none⟩), .pointer (some ⟨py, 0, none⟩), .pointer (some ⟨pr, 0, none⟩), .pointer (some ⟨pf, 0, none⟩)] W (FillPost l m ps py pr pf B J Jx came s at_ p))
    (at_ : Nat) (p : List Nat) (came : List (List Nat)) (W : World) (n : Nat) (f : Nat → Int) (hp : p.length = at_) (hs : at_ + (s + 1) = m) (hB : FillS W l m ps py pr pf B) (hJ : J came W) (hL : ∃ r, L = came ++ ordL (List.range m) (s + 1) p ++ r) (hR : RowI W B m f) (hf : ∀ i, i < at_ → f i = rowF p i) :
    CallsIn Fence.wide n Try.prog 82 #[.int .i64 at_, .pointer (some ⟨ps, 0, none⟩), .pointer (some ⟨py, 0, none⟩), .pointer (some ⟨pr, 0, none⟩), .pointer (some ⟨pf, 0, none⟩)] W (FillPost l m ps py pr pf B J Jx came (s + 1) at_ p) := by
  have HI := Lib.hid ih
  have HJe := Lib.hid hJe
  have HB := Lib.hid hB
  have HL := Lib.hid hL
  have HR := Lib.hid hR
  have HF := Lib.hid hf
  have HJ := Lib.hid hJ
  have c1 := hB.size
  have hne := beq_f (a := (at_ : Int)) (b := (m : Int)) (by omega)
  clear ih hJe hB hL hR hf hJ
  refine callsIn_of_wp Try.func82 rfl trivial ?_ rfl
  simp only [Try.ntmps82, List.size_toArray, List.length_cons, List.length_nil, Nat.reduceAdd, Nat.reduceSub, Array.replicate_succ, Array.replicate_zero, List.push_toArray, List.append_toArray, List.nil_append, List.cons_append]
  gi_wp2
  gi_loopw [15] (fun i wr => ∃ (j : Nat) (f' : Nat → Int), j ≤ m ∧ i = .int .i64 j ∧ J (came ++ partO (List.range m) s p j) wr ∧ FillS wr l m ps py pr pf B ∧ RowI wr B m f' ∧ ∀ i, i < at_ → f' i = rowF p i) (fun i _ => m - (intOf i).toNat)
  case atStart => exact ⟨0, f, Nat.zero_le _, rfl, by simpa [partO] using HJ.out, HB.out, HR.out, HF.out⟩
  case round =>
    obtain ⟨j, f', hj, rfl, hJ', hB', hR', hF'⟩ := hrel
    have HJ' := Lib.hid hJ'
    have HB' := Lib.hid hB'
    have HR' := Lib.hid hR'
    have HF' := Lib.hid hF'
    clear hJ' hB' hR' hF'
    by_cases hlt : j < m
    · have cs := HB'.out.size
      have cr := HB'.out.row
      have cf := HB'.out.self
      have hin : Ints wr (some ⟨B, 0, none⟩) at_ f' := fun hp' => ⟨B, 0, rfl, fun k hk => by rw [Nat.zero_add]; exact HR'.out.cell (by omega)⟩
      have hbc : hasB f' (j : Int) at_ = p.contains j := by
        rw [Bool.eq_iff_iff, hasB_iff, List.contains_iff_mem, List.mem_iff_getElem]
        constructor
        · rintro ⟨k, hk, he⟩
          rw [HF'.out k hk] at he
          refine ⟨k, by omega, ?_⟩
          have he' : ((p.getD k 0 : Nat) : Int) = ((j : Nat) : Int) := he
          have : p.getD k 0 = p[k]'(by omega) := by simp [List.getD, show k < p.length by omega]
          omega
        · rintro ⟨k, hk, he⟩
          refine ⟨k, by omega, ?_⟩
          rw [HF'.out k (by omega)]
          show ((p.getD k 0 : Nat) : Int) = ((j : Nat) : Int)
          have : p.getD k 0 = p[k] := by simp [List.getD, hk]
          omega
      have HC := Lib.hid (contains_any (some ⟨B, 0, none⟩) at_ m f' (j : Int) wr hin (by omega))
      have HPs := Lib.hid (partO_succ (List.range m) s p (show j < (List.range m).length by rw [List.length_range]; exact hlt))
      rw [show (List.range m).getD j 0 = j by simp [List.getD, hlt]] at HPs
      rw [hbc] at HC
      clear hbc hin
      cases hc : p.contains j with
      | true =>
        rw [hc] at HC HPs
        clear hc
        gi_wp2_with (first
          | (refine ⟨trivial, (fun h => by cases h), ?_⟩; gi_at_call 21; refine (callsIn_wide.2 HC.out).mono ?_; rintro e w3 ⟨rfl, rfl⟩))
        exact ⟨⟨j + 1, f', by omega, by go_num, by rw [HPs.out]; simpa using HJ'.out, HB'.out, HR'.out, HF'.out⟩, by simp [intOf]; omega⟩
      | false =>
        rw [hc] at HC HPs
        clear hc
        have HW : Hid (RowI (wr.setCell ⟨B, at_, none⟩ (.int .i64 (j : Int))) B m (upd f' at_ (j : Int))) := Lib.hid (HR'.out.set at_ _)
        have ce := HR'.out.cell (i := at_) (by omega)
        have cz := HR'.out.frozen at_
        obtain ⟨W3, hW3⟩ : ∃ W3, W3 = wr.setCell ⟨B, at_, none⟩ (.int .i64 (j : Int)) := ⟨_, rfl⟩
        have hE3 : Exc B wr W3 := by rw [hW3]; exact (Exc.refl _ _).set _ _
        have hB3 := HB'.out.exc hE3
        have hI3 := HI.out (at_ + 1) (p ++ [j]) (came ++ partO (List.range m) s p j) W3 (n - 1) (upd f' at_ (j : Int)) (by simp [hp]) (by omega) hB3 (HJe.out _ _ _ HJ'.out hE3) (by
          obtain ⟨r, hr⟩ := HL.out
          obtain ⟨r2, hr2⟩ := partO_pre (List.range m) s p (j + 1)
          refine ⟨r2 ++ r, ?_⟩
          rw [hr, hr2, HPs.out]
          simp) (by rw [hW3]; exact HR'.out.set at_ _) (fun i hi => by
          by_cases e : i = at_
          · rw [e, upd_at]
            simp [rowF, ← hp]
          · rw [upd_ne _ _ e, HF'.out i (by omega)]
            simp [rowF, List.getD, List.getElem?_append_left (show i < p.length by omega)])
        have c5 := hB3.self
        rw [hW3] at hI3 c5
        have H3 := Lib.hid hI3
        clear hI3 hE3 hB3 hW3
        gi_wp2_with (first
          | (refine ⟨trivial, (fun h => by cases h), ?_⟩; gi_at_call 21; refine (callsIn_wide.2 HC.out).mono ?_; rintro e w3 ⟨rfl, rfl⟩)
          | (refine ⟨trivial, (fun h => by cases h), ?_⟩; gi_at_call 82; refine H3.out.mono ?_; rintro e w4 (⟨rfl, hJ4, hB4, f4, hR4, hF4⟩ | ⟨rfl, q, hq⟩)))
        · refine ⟨⟨j + 1, f4, by omega, by go_num, by rw [HPs.out]; simpa using hJ4, hB4, hR4, fun i hi => ?_⟩, by simp [intOf]; omega⟩
          rw [hF4 i (by omega)]
          simp [rowF, List.getD, List.getElem?_append_left (show i < p.length by omega)]
        · go_ret
          exact .inr ⟨rfl, q, hq⟩
    · have hjn : j = m := by omega
      have cs := HB'.out.size
      gi_wp2
      go_ret
      exact .inl ⟨rfl, by rw [← partO_all, List.length_range, ← hjn]; rw [hjn]; rw [hjn] at HJ'; exact HJ'.out, HB'.out, f', HR'.out, HF'.out⟩

theorem yieldAt_any {n k l : Nat} {P : Program} {args : Array Value} {W : World} {R : Ending → World → Prop} (h : YieldAt Fence.wide n P l args W R) : YieldAt Fence.wide k P l args W R := by
  obtain ⟨fn, t, a, b, hy, h1, h2⟩ := h
  exact ⟨fn, t, a, b, hy, h1, fun c cs _ => h2 c cs (room_wide _)⟩
theorem fill_any (l m ps py pr pf B : Nat) (J Jx : List (List Nat) → World → Prop) (L : List (List Nat)) (hm : m ≤ 9)
    (hJe : ∀ s W1 W2, J s W1 → Exc B W1 W2 → J s W2)
    (hY : ∀ k pre x W1, J pre W1 → (∃ r, L = pre ++ x :: r) → RowI W1 B m (rowF x) → FillS W1 l m ps py pr pf B → YieldAt Fence.wide k Try.prog l #[.slice (some ⟨B, 0, none⟩) m m] W1 fun e W' =>
      FillS W' l m ps py pr pf B ∧ RowI W' B m (rowF x) ∧ ((e = .returned (.bool true) ∧ J (pre ++ [x]) W') ∨ (e = .returned (.bool false) ∧ Jx (pre ++ [x]) W'))) (s : Nat) :
    ∀ (at_ : Nat) (p : List Nat) (came : List (List Nat)) (W : World) (n : Nat) (f : Nat → Int), p.length = at_ → at_ + s = m → FillS W l m ps py pr pf B → J came W → (∃ r, L = came ++ ordL (List.range m) s p ++ r) → RowI W B m f → (∀ i, i < at_ → f i = rowF p i) →
      CallsIn Fence.wide n Try.prog 82 #[.int .i64 at_, .pointer (some ⟨ps, 0, none⟩), .pointer (some ⟨py, 0, none⟩), .pointer (some ⟨pr, 0, none⟩), .pointer (some ⟨pf, 0, none⟩)] W (FillPost l m ps py pr pf B J Jx came s at_ p) := by
  induction s with
  | zero =>
    intro at_ p came W n f hp hs hB hJ hL hR hf
    obtain rfl : at_ = m := by omega
    exact fill_zero l at_ ps py pr pf B J Jx L hY p came W n f hB hJ hL hR hf
  | succ s ih =>
    intro at_ p came W n f hp hs hB hJ hL hR hf
    exact fill_succ l m ps py pr pf B J Jx L hm hJe s ih at_ p came W n f hp hs hB hJ hL hR hf

theorem box_row (w : World) (x : Value) (T : TypeId) : (w.alloc (.cells #[x] T)).rowIs w.heap.size T 1 (fun _ => x) :=
  World.rowIs_alloc w #[x] T (fun _ => x) (fun i hi => by
    have : i = 0 := by simpa using hi
    subst this
    rfl)
theorem cell_keep {w w' : World} {a : Addr} {v : Value} (h : w.cell? a = some v) (hb : Below w.heap.size w w') : w'.cell? a = some v := cell_of_block (hb.block _ (cell_lt h)) h


end Go.Proofs.Ytocfbafcplhmiaa
