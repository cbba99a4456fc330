import Derived.Test.YtoeimngbpagegaaDoorOwn
import Derived.Deep.OwnRows
import Derived.BigRegion
import Derived.Laws.MakeOwn
import Derived.Laws.Entries
namespace Go.Proofs.YtoeimngbpagegaaDoor
open Go.RowKit

/-- Block g is a row of n integers f 0 .. f (n-1). -/
def RowI (w : World) (g n : Nat) (f : Nat → Int) : Prop := w.rowIs g 3 n (fun i => .int .i64 (f i))
def upd (f : Nat → Int) (i : Nat) (x : Int) : Nat → Int := fun j => if j = i then x else f j
theorem upd_at (f : Nat → Int) (i : Nat) (x : Int) : upd f i x i = x := by simp [upd]
theorem upd_ne (f : Nat → Int) {i j : Nat} (x : Int) (h : j ≠ i) : upd f i x j = f j := by simp [upd, h]

section
variable {w w' : World} {g n : Nat} {f : Nat → Int}
theorem RowI.cell (h : RowI w g n f) {i : Nat} (hi : i < n) : w.cell? ⟨g, i, none⟩ = some (.int .i64 (f i)) := World.rowIs.cell h hi
theorem RowI.frozen (h : RowI w g n f) (i : Nat) : w.frozen? ⟨g, i, none⟩ = false := World.rowIs.frozen h i
theorem RowI.lt (h : RowI w g n f) : g < w.heap.size := World.rowIs.lt h
theorem RowI.ints (h : RowI w g n f) : Ints w (some ⟨g, 0, none⟩) n f := fun _ => ⟨g, 0, rfl, fun k hk => by rw [Nat.zero_add]; exact h.cell hk⟩
theorem RowI.congr {f' : Nat → Int} (h : RowI w g n f) (e : ∀ i, i < n → f i = f' i) : RowI w g n f' := World.rowIs.congr h (fun i hi => by rw [e i hi])
theorem RowI.set (h : RowI w g n f) (i : Nat) (x : Int) : RowI (w.setCell ⟨g, i, none⟩ (.int .i64 x)) g n (upd f i x) :=
  World.rowIs.congr (World.rowIs.set h i (.int .i64 x)) (fun j _ => by by_cases e : j = i <;> simp [upd, e])
theorem RowI.setOther (h : RowI w g n f) {a : Addr} (ha : g ≠ a.block) (v : Value) : RowI (w.setCell a v) g n f := World.rowIs.setOther h ha v
theorem RowI.alloc (h : RowI w g n f) (o : Obj) : RowI (w.alloc o) g n f := World.rowIs.alloc h o
theorem RowI.drew (h : RowI w g n f) : RowI w.drew g n f := h
theorem RowI.dn (h : RowI w g n f) (hd : Dn w w') : RowI w' g n f := by
  obtain ⟨m, rfl⟩ := hd
  exact h
theorem RowI.below {B : Nat} (h : RowI w g n f) (hb : Below B w w') (hg : g < B) : RowI w' g n f := World.rowIs.of_block h (hb.block g hg)
theorem RowI.keep (h : RowI w g n f) (hb : Below w.heap.size w w') : RowI w' g n f := h.below hb h.lt
end
theorem RowI.made (w : World) (n : Nat) : RowI (w.alloc (.cells (madeCells #[.int .i64 0] n) 3)) w.heap.size n (fun _ => 0) := World.rowIs_made w _ n _

theorem run_make_rowN {P : Program} (t e : TypeId) (i : TypeInfo) (z : Value) (ht : P.underlying t = some (.slice e)) (hi : P.info? e = some i) (hz : i.zero = some z)
    (kl kc : IntKind) (n c : Nat) (hnc : n ≤ c) (hbytes : i.bytes * c ≤ 281474976710656) (h63 : c ≤ 9223372036854775807) (w : World) :
    (Instr.makeSlice t (.int kl (n : Int)) (.int kc (c : Int))).run P w = .ok (.slice (some ⟨w.heap.size, 0, none⟩) n c) (w.alloc (.cells (madeCells z.cells (c * i.size)) e)) := by
  have hb : (i.bytes : Int) * (c : Int) ≤ 281474976710656 := by
    have h : ((i.bytes * c : Nat) : Int) ≤ 281474976710656 := by omega
    rwa [Int.natCast_mul] at h
  have hr := run_make (P := P) w t e i z ht hi hz kl kc n c (by omega) (by omega) hb (by omega)
  simp only [Int.toNat_natCast] at hr
  exact hr
/-- make([]int, n). -/
theorem mk_ints (n : Nat) (hn : n ≤ 10000) (w : World) :
    (Instr.makeSlice 22 (.int .i64 (n : Int)) (.int .i64 (n : Int))).run Tryd.prog w = .ok (.slice (some ⟨w.heap.size, 0, none⟩) n n) (w.alloc (.cells (madeCells #[.int .i64 0] n) 3)) := by
  obtain ⟨i0, hi, hz0, hz1, hz2⟩ := info_parts infoInt
  have := run_make_rowN (P := Tryd.prog) 22 3 i0 (.int .i64 0) Tryd.underlying22 hi hz0 .i64 .i64 n n (Nat.le_refl _) (by rw [hz2]; omega) (by omega) w
  rw [hz1, Nat.mul_one] at this
  exact this
end Go.Proofs.YtoeimngbpagegaaDoor
