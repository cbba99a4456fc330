import Derived.Test.YtiigcjcolpmafaaVe
namespace Go.Proofs.Ytiigcjcolpmafaa
open Go.RowKit

set_option maxHeartbeats 2000000 in
set_option maxRecDepth 1000000 in
theorem ofTwo_arg (AH AS AP DA DB : Option Addr) (cH cS cP na ca nb cb : Nat) (k : Int) (p : PlanD) (a b : Nat → Int) (w : World) (hp : PlanIn w AH AS AP p) (ha : Ints w DA na a) (hb : Ints w DB nb b) (hna : na ≤ 9) (hnb : nb ≤ 9) (hbad : (okMat p na a && okMat p nb b) = false) :
    Lr 66 #[.agg #[.slice AH p.nH cH, .slice AS p.nS cS, .slice AP p.nP cP], .int .i64 k, .slice DA na ca, .slice DB nb cb] w (.tuple #[.slice none 0 0, .int .i64 2]) := by
  have Hb0 := Lib.hid (below_box w (.cells #[.slice AH p.nH cH, .slice AS p.nS cS, .slice AP p.nP cP] 29))
  have HB0 := Lib.hid (BoxP.new w AH AS AP p.nH p.nS p.nP cH cS cP)
  have HM1 := Lib.hid (matches_any AH AS AP DA cH cS cP na ca p a _ (hp.keep Hb0.out) (ha.keep Hb0.out) hna)
  have HM2 : Hid (∀ w' : World, Below w.heap.size w w' → Lr 68 #[.agg #[.slice AH p.nH cH, .slice AS p.nS cS, .slice AP p.nP cP], .slice DB nb cb] w' (.bool (okMat p nb b))) := Lib.hid (fun w' h => matches_any AH AS AP DB cH cS cP nb cb p b w' (hp.keep h) (hb.keep h) hnb)
  clear hp ha hb
  generalize okMat p na a = x at *
  generalize okMat p nb b = y at *
  show Calls _ _ _ _ _
  go_enter Try.func66, Try.ntmps66
  go_wp2_with fail
  refine Lr.use HM1.out ?_
  intro w1 hb1
  have Hb1 := Lib.hid (Hb0.out.trans (hb1.mono Hb0.out.size))
  obtain ⟨q0, q1, q2⟩ := HB0.out.keep hb1
  clear hb1
  cases x with
  | false =>
    go_wp2
    go_ret2
    exact ⟨rfl, Hb1.out⟩
  | true =>
    obtain rfl : y = false := by simpa using hbad
    go_wp2_with fail
    refine Lr.use (HM2.out w1 Hb1.out) ?_
    intro w2 hb2
    have Hb2 := Lib.hid (Hb1.out.trans (hb2.mono Hb1.out.size))
    clear hb2 q0 q1 q2
    go_wp2
    go_ret2
    exact ⟨rfl, Hb2.out⟩

set_option maxHeartbeats 2000000 in
set_option maxRecDepth 1000000 in
theorem ofTwo_state (AH AS AP DA DB : Option Addr) (cH cS cP na ca nb cb : Nat) (k : Int) (p : PlanD) (a b : Nat → Int) (w : World) (hp : PlanIn w AH AS AP p) (ha : Ints w DA na a) (hb : Ints w DB nb b) (hna : na ≤ 9) (hnb : nb ≤ 9) (h1 : okMat p na a = true) (h2 : okMat p nb b = true) (hbad : (stabB p a && stabB p b) = false) :
    Lr 66 #[.agg #[.slice AH p.nH cH, .slice AS p.nS cS, .slice AP p.nP cP], .int .i64 k, .slice DA na ca, .slice DB nb cb] w (.tuple #[.slice none 0 0, .int .i64 5]) := by
  have Hb0 := Lib.hid (below_box w (.cells #[.slice AH p.nH cH, .slice AS p.nS cS, .slice AP p.nP cP] 29))
  have HB0 := Lib.hid (BoxP.new w AH AS AP p.nH p.nS p.nP cH cS cP)
  have HM1 := Lib.hid (matches_any AH AS AP DA cH cS cP na ca p a _ (hp.keep Hb0.out) (ha.keep Hb0.out) hna)
  have HM2 : Hid (∀ w' : World, Below w.heap.size w w' → Lr 68 #[.agg #[.slice AH p.nH cH, .slice AS p.nS cS, .slice AP p.nP cP], .slice DB nb cb] w' (.bool (okMat p nb b))) := Lib.hid (fun w' h => matches_any AH AS AP DB cH cS cP nb cb p b w' (hp.keep h) (hb.keep h) hnb)
  have e1 := h1
  have e2 := h2
  unfold okMat at e1 e2
  rw [Bool.and_eq_true, Bool.and_eq_true] at e1 e2
  have HS1 : Hid (∀ w' : World, Below w.heap.size w w' → Lr 88 #[.agg #[.slice AH p.nH cH, .slice AS p.nS cS, .slice AP p.nP cP], .slice DA na ca] w' (.bool (stabB p a))) := Lib.hid (fun w' h => stable_any AH AS AP DA cH cS cP na ca p a w' (hp.keep h) (ha.keep h) (of_decide_eq_true e1.1.2) e1.1.1 (okMat_lstd h1))
  have HS2 : Hid (∀ w' : World, Below w.heap.size w w' → Lr 88 #[.agg #[.slice AH p.nH cH, .slice AS p.nS cS, .slice AP p.nP cP], .slice DB nb cb] w' (.bool (stabB p b))) := Lib.hid (fun w' h => stable_any AH AS AP DB cH cS cP nb cb p b w' (hp.keep h) (hb.keep h) (of_decide_eq_true e2.1.2) e2.1.1 (okMat_lstd h2))
  rw [h1] at HM1
  rw [h2] at HM2
  clear hp ha hb h1 h2 e1 e2
  generalize stabB p a = x at *
  generalize stabB p b = y at *
  show Calls _ _ _ _ _
  go_enter Try.func66, Try.ntmps66
  go_wp2_with fail
  refine Lr.use HM1.out ?_
  intro w1 hb1
  have Hb1 := Lib.hid (Hb0.out.trans (hb1.mono Hb0.out.size))
  have HB1 := Lib.hid (HB0.out.keep hb1)
  obtain ⟨q0, q1, q2⟩ := HB1.out
  clear hb1
  go_wp2_with fail
  refine Lr.use (HM2.out w1 Hb1.out) ?_
  intro w2 hb2
  have Hb2 := Lib.hid (Hb1.out.trans (hb2.mono Hb1.out.size))
  have HB2 := Lib.hid (HB1.out.keep hb2)
  clear hb2 q0 q1 q2
  obtain ⟨q0, q1, q2⟩ := HB2.out
  go_wp2_with fail
  refine Lr.use (HS1.out w2 Hb2.out) ?_
  intro w3 hb3
  have Hb3 := Lib.hid (Hb2.out.trans (hb3.mono Hb2.out.size))
  have HB3 := Lib.hid (HB2.out.keep hb3)
  clear hb3 q0 q1 q2
  obtain ⟨q0, q1, q2⟩ := HB3.out
  cases x with
  | false =>
    go_wp2
    go_ret2
    exact ⟨rfl, Hb3.out⟩
  | true =>
    obtain rfl : y = false := by simpa using hbad
    go_wp2_with fail
    refine Lr.use (HS2.out w3 Hb3.out) ?_
    intro w4 hb4
    have Hb4 := Lib.hid (Hb3.out.trans (hb4.mono Hb3.out.size))
    clear hb4 q0 q1 q2
    go_wp2
    go_ret2
    exact ⟨rfl, Hb4.out⟩

def two (a b : Nat → Int) : Nat → Nat → Int := fun j => if j = 0 then a else b
set_option maxHeartbeats 2000000 in
set_option maxRecDepth 1000000 in
theorem ofTwo_ok (AH AS AP DA DB : Option Addr) (cH cS cP ca cb k : Nat) (p : PlanD) (a b mid : Nat → Int) (w : World) (hp : PlanIn w AH AS AP p) (ha : Ints w DA p.nH a) (hb : Ints w DB p.nH b) (h1 : okMat p p.nH a = true) (h2 : okMat p p.nH b = true) (h3 : stabB p a = true) (h4 : stabB p b = true) (hk : k < 2)
    (hmid : ∀ h, h < p.nH → ∀ F : Nat → Int, (lst 2 F).Perm (lst 2 (fun j => two a b j h)) → Srt (rkI (p.vH h) (p.LH h)) F 2 → F k = mid h) :
    Calls Try.prog 66 #[.agg #[.slice AH p.nH cH, .slice AS p.nS cS, .slice AP p.nP cP], .int .i64 ((k + 1 : Nat) : Int), .slice DA p.nH ca, .slice DB p.nH cb] w fun e w' => ∃ g, e = .returned (.tuple #[.slice (some ⟨g, 0, none⟩) p.nH p.nH, .int .i64 0]) ∧ RowI w' g p.nH mid ∧ Below w.heap.size w w' := by
  have Hb0 := Lib.hid (below_box w (.cells #[.slice AH p.nH cH, .slice AS p.nS cS, .slice AP p.nP cP] 29))
  have HB0 := Lib.hid (BoxP.new w AH AS AP p.nH p.nS p.nP cH cS cP)
  have hnH := hp.nH9
  have HM1 := Lib.hid (matches_any AH AS AP DA cH cS cP p.nH ca p a _ (hp.keep Hb0.out) (ha.keep Hb0.out) hnH)
  have HM2 : Hid (∀ w' : World, Below w.heap.size w w' → Lr 68 #[.agg #[.slice AH p.nH cH, .slice AS p.nS cS, .slice AP p.nP cP], .slice DB p.nH cb] w' (.bool (okMat p p.nH b))) := Lib.hid (fun w' h => matches_any AH AS AP DB cH cS cP p.nH cb p b w' (hp.keep h) (hb.keep h) hnH)
  have e1 := h1
  have e2 := h2
  unfold okMat at e1 e2
  rw [Bool.and_eq_true, Bool.and_eq_true] at e1 e2
  have HS1 : Hid (∀ w' : World, Below w.heap.size w w' → Lr 88 #[.agg #[.slice AH p.nH cH, .slice AS p.nS cS, .slice AP p.nP cP], .slice DA p.nH ca] w' (.bool (stabB p a))) := Lib.hid (fun w' h => stable_any AH AS AP DA cH cS cP p.nH ca p a w' (hp.keep h) (ha.keep h) rfl e1.1.1 (okMat_lstd h1))
  have HS2 : Hid (∀ w' : World, Below w.heap.size w w' → Lr 88 #[.agg #[.slice AH p.nH cH, .slice AS p.nS cS, .slice AP p.nP cP], .slice DB p.nH cb] w' (.bool (stabB p b))) := Lib.hid (fun w' h => stable_any AH AS AP DB cH cS cP p.nH cb p b w' (hp.keep h) (hb.keep h) rfl e2.1.1 (okMat_lstd h2))
  rw [h1] at HM1
  rw [h2] at HM2
  rw [h3] at HS1
  rw [h4] at HS2
  have HP := Lib.hid hp
  have HA := Lib.hid ha
  have HBb := Lib.hid hb
  have HMid := Lib.hid hmid
  obtain ⟨K, hK⟩ : ∃ K, K = k + 1 := ⟨_, rfl⟩
  rw [← hK]
  have HK := Lib.hid hK
  clear hp ha hb h1 h2 h3 h4 e1 e2 hmid hK
  go_enter Try.func66, Try.ntmps66
  go_wp2_with fail
  refine Lr.use HM1.out ?_
  intro w1 hb1
  have Hb1 := Lib.hid (Hb0.out.trans (hb1.mono Hb0.out.size))
  have HB1 := Lib.hid (HB0.out.keep hb1)
  obtain ⟨q0, q1, q2⟩ := HB1.out
  clear hb1
  go_wp2_with fail
  refine Lr.use (HM2.out w1 Hb1.out) ?_
  intro w2 hb2
  have Hb2 := Lib.hid (Hb1.out.trans (hb2.mono Hb1.out.size))
  have HB2 := Lib.hid (HB1.out.keep hb2)
  clear hb2 q0 q1 q2
  obtain ⟨q0, q1, q2⟩ := HB2.out
  go_wp2_with fail
  refine Lr.use (HS1.out w2 Hb2.out) ?_
  intro w3 hb3
  have Hb3 := Lib.hid (Hb2.out.trans (hb3.mono Hb2.out.size))
  have HB3 := Lib.hid (HB2.out.keep hb3)
  clear hb3 q0 q1 q2
  obtain ⟨q0, q1, q2⟩ := HB3.out
  go_wp2_with fail
  refine Lr.use (HS2.out w3 Hb3.out) ?_
  intro w4 hb4
  have Hb4 := Lib.hid (Hb3.out.trans (hb4.mono Hb3.out.size))
  have HB4 := Lib.hid (HB3.out.keep hb4)
  clear hb4 q0 q1 q2
  obtain ⟨q0, q1, q2⟩ := HB4.out
  have hb5 := below_box w4 (.cells #[.slice DA p.nH ca, .slice DB p.nH cb] 23)
  have HMi := middle_any AH AS AP (some ⟨w4.heap.size, 0, none⟩) cH cS cP 2 2 k p (two a b) mid (w4.alloc (.cells #[.slice DA p.nH ca, .slice DB p.nH cb] 23)) ((HP.out.keep Hb4.out).keep hb5) (fun _ => ⟨w4.heap.size, 0, rfl, fun i hi => by
    have hi2 : i = 0 ∨ i = 1 := by omega
    rcases hi2 with rfl | rfl
    · exact ⟨DA, ca, by simp [World.cell?_alloc_at], (HA.out.keep Hb4.out).keep hb5⟩
    · exact ⟨DB, cb, by simp [World.cell?_alloc_at], (HBb.out.keep Hb4.out).keep hb5⟩⟩) (by omega) hk HMid.out
  rw [← HK.out] at HMi
  have HMi := Lib.hid HMi
  have Hb5 := Lib.hid (Hb4.out.trans (hb5.mono Hb4.out.size))
  clear hb5
  go_wp2_with fail
  refine HMi.out.mono ?_
  rintro e w6 ⟨g, rfl, hR, hb6⟩
  have HR := Lib.hid hR
  have Hb6 := Lib.hid (Hb5.out.trans (hb6.mono Hb5.out.size))
  clear hR hb6 q0 q1 q2
  go_wp2
  go_ret2
  exact ⟨g, rfl, HR.out, Hb6.out⟩
end Go.Proofs.Ytiigcjcolpmafaa
