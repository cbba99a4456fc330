/- onePeak. -/
import Derived.Test.YtdbeblmlikkjhaaVp
namespace Go.Proofs.Ytdbeblmlikkjhaa
open Go.RowKit

/-- The ballot has a before b. -/
def befB (f : Nat → Int) (n : Nat) (a b : Int) : Bool := decide (idxI f a n < idxI f b n)

set_option maxHeartbeats 1000000 in
set_option maxRecDepth 1000000 in
theorem before_any (A : Option Addr) (n c : Nat) (f : Nat → Int) (a b : Int) (w : World) (h : Ints w A n f) (hn : n ≤ 1000) :
    Ro 16 #[.slice A n c, .int .i64 a, .int .i64 b] w (.bool (befB f n a b)) := by
  refine Ro.of ?_
  have H := Lib.hid h
  have HB : Hid (befB f n a b = decide (idxI f a n < idxI f b n)) := Lib.hid rfl
  clear h
  go_enter Try.func16, Try.ntmps16
  go_wp2_with fail
  refine (index_any A n c f a _ H.out (by omega)).mono ?_
  rintro e w1 ⟨rfl, rfl⟩
  go_wp2_with fail
  refine (index_any A n c f b _ H.out (by omega)).mono ?_
  rintro e w1 ⟨rfl, rfl⟩
  generalize idxI f a n = x at *
  generalize idxI f b n = y at *
  go_wp2
  go_ret
  exact ⟨ret_bool (by rw [HB.out]), Dn.refl _⟩

/-- No ballot has y behind both x and z. -/
def pkI (n : Nat) (L : Nat → Nat) (v : Nat → Nat → Int) (x y z : Int) : Bool := allB (fun i => !(befB (v i) (L i) x y && befB (v i) (L i) z y)) n
def pkZ (n : Nat) (L : Nat → Nat) (v : Nat → Nat → Int) (o : Nat → Int) (m k : Nat) (x : Int) : Bool := allB (fun q => pkI n L v x (o k) (o (k + 1 + q))) (m - (k + 1))
def pkX (n : Nat) (L : Nat → Nat) (v : Nat → Nat → Int) (o : Nat → Int) (m k : Nat) : Bool := allB (fun p => pkZ n L v o m k (o p)) k
/-- The order is an axis. -/
def pkB (n : Nat) (L : Nat → Nat) (v : Nat → Nat → Int) (o : Nat → Int) (m : Nat) : Bool := allB (fun k => pkX n L v o m k) m

end Go.Proofs.Ytdbeblmlikkjhaa
