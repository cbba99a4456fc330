/- A part of the proof: Txz. -/
import Derived.Test.YtiigcjcolpmafaaTwz
import Derived.Test.YtiigcjcolpmafaaVf
namespace Go.Proofs.Ytiigcjcolpmafaa
open Go.RowKit

def jnF (p : PlanD) (a b : Nat → Int) (h : Nat) : Int := if rkI (p.vH h) (p.LH h) (b h) < rkI (p.vH h) (p.LH h) (a h) then b h else a h
def mtF (p : PlanD) (a b : Nat → Int) (h : Nat) : Int := if rkI (p.vH h) (p.LH h) (b h) < rkI (p.vH h) (p.LH h) (a h) then a h else b h

set_option maxHeartbeats 2000000 in
set_option maxRecDepth 1000000 in
theorem rJoin_any (AH AS AP DA DB : Option Addr) (cH cS cP n ca nb cb : Nat) (p : PlanD) (a b : Nat → Int) (w : World) (hp : PlanArg w AH AS AP cH cS cP p) (ha : Ints w DA n a) (hb : Ints w DB nb b) (hn : n = p.nH) (hnb : nb = p.nH) (hok : okPlan p = true) (h1 : Has p a) (h2 : Has p b) :
    Calls Try.prog 46 #[.agg #[.slice AH p.nH cH, .slice AS p.nS cS, .slice AP p.nP cP], .slice DA n ca, .slice DB nb cb] w fun e w' => ∃ A c, e = .returned (.slice A n c) ∧ Ints w' A n (jnF p a b) ∧ Below w.heap.size w w' := by
  obtain ⟨i0, hi, hz0, hz1, hz2⟩ := info_parts infoInt
  obtain ⟨⟨a1, a2, a3, a4, -⟩, -, -, -⟩ := okPlan_of hok
  have Hb0 := Lib.hid (below_box w (.cells #[.slice AH p.nH cH, .slice AS p.nS cS, .slice AP p.nP cP] 25))
  have HB0 := Lib.hid (BoxP.newR w AH AS AP p.nH p.nS p.nP cH cS cP)
  have HLk : Hid (∀ (w' : World) (h : Nat), Below w.heap.size w w' → h < n → Lr 76 #[.agg #[.slice AH p.nH cH, .slice AS p.nS cS, .slice AP p.nP cP], .int .i64 h, .int .i64 (b h), .int .i64 (a h)] w' (.bool (decide (rkI (p.vH h) (p.LH h) (b h) < rkI (p.vH h) (p.LH h) (a h))))) := Lib.hid (fun w' h hb' hh => by
    rw [← lik_rk hok (by omega) (h2 h (by omega)) (h1 h (by omega))]
    exact likes_any AH AS AP cH cS cP p h (b h) (a h) w' (hp.keep hb').hands.rows hok (by omega))
  have HA := Lib.hid (ha.keep Hb0.out)
  have HB := Lib.hid (hb.keep Hb0.out)
  have hn6 : n ≤ 6 := by omega
  have HNb := Lib.hid (hn.trans hnb.symm)
  clear hp ha hb hn hnb hok h1 h2
  go_enter Try.func46, Try.ntmps46
  obtain ⟨W, hW⟩ : ∃ W, W = w.alloc (.cells #[.slice AH p.nH cH, .slice AS p.nS cS, .slice AP p.nP cP] 25) := ⟨_, rfl⟩
  rw [← hW] at Hb0 HB0 HA HB
  go_wp2
  rw [← hW]
  clear hW
  go_loopw [7, 11] (fun s x wr => ∃ k : Nat, k ≤ n ∧ x = .int .i64 k ∧ OwnL wr W.heap.size s (lst k (jnF p a b)) ∧ Below W.heap.size W wr) (fun _ x _ => n - (intOf x).toNat)
  case atStart => exact ⟨0, Nat.zero_le _, rfl, OwnL.nil_ _ _, Below.refl _ _⟩
  case round =>
    obtain ⟨k, hk, rfl, hown, hbel⟩ := hrel
    have HOwn := Lib.hid hown
    have Hbel := Lib.hid hbel
    clear hown hbel
    by_cases hlt : k < n
    · obtain ⟨bA, oA, rfl, hcA⟩ := (HA.out.keep Hbel.out).at hlt
      have hltb : k < nb := by have := HNb.out; omega
      obtain ⟨bB, oB, rfl, hcB⟩ := (HB.out.keep Hbel.out).at hltb
      have hltb' : (k : Int) < (nb : Int) := by omega
      obtain ⟨q0, q1, q2⟩ := HB0.out.keep Hbel.out
      have HC : ∀ q : Later wr, Hid (Lr 76 #[.agg #[.slice AH p.nH cH, .slice AS p.nS cS, .slice AP p.nP cP], .int .i64 k, .int .i64 (b k), .int .i64 (a k)] q.to (.bool (decide (rkI (p.vH k) (p.LH k) (b k) < rkI (p.vH k) (p.LH k) (a k))))) := fun q => Lib.hid (HLk.out q.to k (Hb0.out.trans ((Hbel.out.trans (q.below.mono Hbel.out.size)).mono Hb0.out.size)) hlt)
      have HS := Lib.hid (lst_succ k (jnF p a b))
      have hlen := lst_len k (jnF p a b)
      have HSp : Hid (jnF p a b k = if rkI (p.vH k) (p.LH k) (b k) < rkI (p.vH k) (p.LH k) (a k) then b k else a k) := Lib.hid rfl
      have k0 : ∀ q : Later wr, q.to.cell? ⟨w.heap.size, 0, none⟩ = some (.slice AH p.nH cH) := fun q => q.cell q0
      have k1 : ∀ q : Later wr, q.to.cell? ⟨w.heap.size, 1, none⟩ = some (.slice AS p.nS cS) := fun q => q.cell q1
      have k2 : ∀ q : Later wr, q.to.cell? ⟨w.heap.size, 2, none⟩ = some (.slice AP p.nP cP) := fun q => q.cell q2
      have k3 : ∀ q : Later wr, q.to.cell? ⟨bA, oA + k, none⟩ = some (.int .i64 (a k)) := fun q => q.cell hcA
      have k4 : ∀ q : Later wr, q.to.cell? ⟨bB, oB + k, none⟩ = some (.int .i64 (b k)) := fun q => q.cell hcB
      by_cases hlk : rkI (p.vH k) (p.LH k) (b k) < rkI (p.vH k) (p.LH k) (a k)
      · have HSy : Hid (jnF p a b k = b k) := Lib.hid (by rw [HSp.out, if_pos hlk])
        have HC2 : ∀ q : Later wr, Hid (Lr 76 #[.agg #[.slice AH p.nH cH, .slice AS p.nS cS, .slice AP p.nP cP], .int .i64 k, .int .i64 (b k), .int .i64 (a k)] q.to (.bool true)) := fun q => Lib.hid (by have := (HC q).out; rw [decide_eq_true hlk] at this; exact this)
        clear hlk HC
        go_wp2_with fail
        refine wp_region_later (by kernel_rfl) (by kernel_rfl) ?_
        repeat
          (with_reducible refine wpQuiet_step ?_
           intro K hK
           go_simp
           first
             | (refine hK _ ?_; clear hK K)
             | (apply Exists.intro
                refine ⟨fun _ => ?_, hK _ ?_⟩
                (go_at_call 76; exact Lr.later (HC2 _).out)
                clear hK K))
        with_reducible refine wpQuiet_nil ?_
        intro _ hw'
        obtain ⟨q, hw''⟩ := hw'
        subst hw''
        have hq := q.below
        clear k0 k1 k2 k3 k4 HC2
        generalize q.to = w2 at hq ⊢
        clear q
        have hcA2 := old_cell hcA hq
        have hcB2 := old_cell hcB hq
        have HOwn2 := Lib.hid (HOwn.out.below hq)
        have Hb2 := Lib.hid (Hbel.out.trans (hq.mono Hbel.out.size))
        have hsz := Hb2.out.size
        clear hq
        go_wp2_with (at_builtin; go_loud (refine wpList_append_own _ rfl _ _ 23 rfl W.heap.size 3 i0 (.int .i64 0) 1 8 Try.underlying23 hi hz0 hz1 hz2 rfl (by decide) _ _ _ rfl (World.ownsRow.alloc HOwn2.out _) ⟨w2.heap.size, 0, none⟩ 1 1 [.int .i64 (b k)] rfl rfl (news1 _ _ _) (one1 rfl) (by rw [hlen]; unfold maxLen; omega) (by rw [hlen]; omega) (by simp; omega) ?_))
        intro v3 w3 hown3 hgrow3 _
        have hb3 : Below W.heap.size W w3 := (Hb2.out.alloc hsz _).grown hgrow3 (by simp; omega) (fun g hg => (World.ownsRow.lt HOwn2.out g hg).1)
        have hO3 : OwnL w3 W.heap.size v3 (lst (k + 1) (jnF p a b)) := by
          rw [HS.out, HSy.out]
          unfold OwnL
          simpa [hlen] using hown3
        have HO3 := Lib.hid hO3
        have Hb3 := Lib.hid hb3
        clear hown3 hgrow3 hO3 hb3
        go_wp2
        go_roundw
        case rel => exact ⟨k + 1, by omega, by go_num, HO3.out, Hb3.out⟩
        case measure => simp [intOf]; omega
      · have HSy : Hid (jnF p a b k = a k) := Lib.hid (by rw [HSp.out, if_neg hlk])
        have HC2 : ∀ q : Later wr, Hid (Lr 76 #[.agg #[.slice AH p.nH cH, .slice AS p.nS cS, .slice AP p.nP cP], .int .i64 k, .int .i64 (b k), .int .i64 (a k)] q.to (.bool false)) := fun q => Lib.hid (by have := (HC q).out; rw [decide_eq_false hlk] at this; exact this)
        clear hlk HC
        go_wp2_with fail
        refine wp_region_later (by kernel_rfl) (by kernel_rfl) ?_
        repeat
          (with_reducible refine wpQuiet_step ?_
           intro K hK
           go_simp
           first
             | (refine hK _ ?_; clear hK K)
             | (apply Exists.intro
                refine ⟨fun _ => ?_, hK _ ?_⟩
                (go_at_call 76; exact Lr.later (HC2 _).out)
                clear hK K))
        with_reducible refine wpQuiet_nil ?_
        intro _ hw'
        obtain ⟨q, hw''⟩ := hw'
        subst hw''
        have hq := q.below
        clear k0 k1 k2 k3 k4 HC2
        generalize q.to = w2 at hq ⊢
        clear q
        have hcA2 := old_cell hcA hq
        have hcB2 := old_cell hcB hq
        have HOwn2 := Lib.hid (HOwn.out.below hq)
        have Hb2 := Lib.hid (Hbel.out.trans (hq.mono Hbel.out.size))
        have hsz := Hb2.out.size
        clear hq
        go_wp2_with (at_builtin; go_loud (refine wpList_append_own _ rfl _ _ 23 rfl W.heap.size 3 i0 (.int .i64 0) 1 8 Try.underlying23 hi hz0 hz1 hz2 rfl (by decide) _ _ _ rfl (World.ownsRow.alloc HOwn2.out _) ⟨w2.heap.size, 0, none⟩ 1 1 [.int .i64 (a k)] rfl rfl (news1 _ _ _) (one1 rfl) (by rw [hlen]; unfold maxLen; omega) (by rw [hlen]; omega) (by simp; omega) ?_))
        intro v3 w3 hown3 hgrow3 _
        have hb3 : Below W.heap.size W w3 := (Hb2.out.alloc hsz _).grown hgrow3 (by simp; omega) (fun g hg => (World.ownsRow.lt HOwn2.out g hg).1)
        have hO3 : OwnL w3 W.heap.size v3 (lst (k + 1) (jnF p a b)) := by
          rw [HS.out, HSy.out]
          unfold OwnL
          simpa [hlen] using hown3
        have HO3 := Lib.hid hO3
        have Hb3 := Lib.hid hb3
        clear hown3 hgrow3 hO3 hb3
        go_wp2
        go_roundw
        case rel => exact ⟨k + 1, by omega, by go_num, HO3.out, Hb3.out⟩
        case measure => simp [intOf]; omega
    · obtain rfl : k = n := by omega
      obtain ⟨A3, c3, rfl, hI3⟩ := HOwn.out.shp (lst_len _ _)
      have HI3 := Lib.hid (hI3.congr (g := jnF p a b) (fun q hq => lst_getD _ _ _ hq))
      clear hI3
      go_wp2
      go_ret
      exact ⟨A3, c3, rfl, HI3.out, Hb0.out.trans (Hbel.out.mono Hb0.out.size)⟩

set_option maxHeartbeats 2000000 in
set_option maxRecDepth 1000000 in
theorem rMeet_any (AH AS AP DA DB : Option Addr) (cH cS cP n ca nb cb : Nat) (p : PlanD) (a b : Nat → Int) (w : World) (hp : PlanArg w AH AS AP cH cS cP p) (ha : Ints w DA n a) (hb : Ints w DB nb b) (hn : n = p.nH) (hnb : nb = p.nH) (hok : okPlan p = true) (h1 : Has p a) (h2 : Has p b) :
    Calls Try.prog 47 #[.agg #[.slice AH p.nH cH, .slice AS p.nS cS, .slice AP p.nP cP], .slice DA n ca, .slice DB nb cb] w fun e w' => ∃ A c, e = .returned (.slice A n c) ∧ Ints w' A n (mtF p a b) ∧ Below w.heap.size w w' := by
  obtain ⟨i0, hi, hz0, hz1, hz2⟩ := info_parts infoInt
  obtain ⟨⟨a1, a2, a3, a4, -⟩, -, -, -⟩ := okPlan_of hok
  have Hb0 := Lib.hid (below_box w (.cells #[.slice AH p.nH cH, .slice AS p.nS cS, .slice AP p.nP cP] 25))
  have HB0 := Lib.hid (BoxP.newR w AH AS AP p.nH p.nS p.nP cH cS cP)
  have HLk : Hid (∀ (w' : World) (h : Nat), Below w.heap.size w w' → h < n → Lr 76 #[.agg #[.slice AH p.nH cH, .slice AS p.nS cS, .slice AP p.nP cP], .int .i64 h, .int .i64 (b h), .int .i64 (a h)] w' (.bool (decide (rkI (p.vH h) (p.LH h) (b h) < rkI (p.vH h) (p.LH h) (a h))))) := Lib.hid (fun w' h hb' hh => by
    rw [← lik_rk hok (by omega) (h2 h (by omega)) (h1 h (by omega))]
    exact likes_any AH AS AP cH cS cP p h (b h) (a h) w' (hp.keep hb').hands.rows hok (by omega))
  have HA := Lib.hid (ha.keep Hb0.out)
  have HB := Lib.hid (hb.keep Hb0.out)
  have hn6 : n ≤ 6 := by omega
  have HNb := Lib.hid (hn.trans hnb.symm)
  clear hp ha hb hn hnb hok h1 h2
  go_enter Try.func47, Try.ntmps47
  obtain ⟨W, hW⟩ : ∃ W, W = w.alloc (.cells #[.slice AH p.nH cH, .slice AS p.nS cS, .slice AP p.nP cP] 25) := ⟨_, rfl⟩
  rw [← hW] at Hb0 HB0 HA HB
  go_wp2
  rw [← hW]
  clear hW
  go_loopw [7, 11] (fun s x wr => ∃ k : Nat, k ≤ n ∧ x = .int .i64 k ∧ OwnL wr W.heap.size s (lst k (mtF p a b)) ∧ Below W.heap.size W wr) (fun _ x _ => n - (intOf x).toNat)
  case atStart => exact ⟨0, Nat.zero_le _, rfl, OwnL.nil_ _ _, Below.refl _ _⟩
  case round =>
    obtain ⟨k, hk, rfl, hown, hbel⟩ := hrel
    have HOwn := Lib.hid hown
    have Hbel := Lib.hid hbel
    clear hown hbel
    by_cases hlt : k < n
    · obtain ⟨bA, oA, rfl, hcA⟩ := (HA.out.keep Hbel.out).at hlt
      have hltb : k < nb := by have := HNb.out; omega
      obtain ⟨bB, oB, rfl, hcB⟩ := (HB.out.keep Hbel.out).at hltb
      have hltb' : (k : Int) < (nb : Int) := by omega
      obtain ⟨q0, q1, q2⟩ := HB0.out.keep Hbel.out
      have HC : ∀ q : Later wr, Hid (Lr 76 #[.agg #[.slice AH p.nH cH, .slice AS p.nS cS, .slice AP p.nP cP], .int .i64 k, .int .i64 (b k), .int .i64 (a k)] q.to (.bool (decide (rkI (p.vH k) (p.LH k) (b k) < rkI (p.vH k) (p.LH k) (a k))))) := fun q => Lib.hid (HLk.out q.to k (Hb0.out.trans ((Hbel.out.trans (q.below.mono Hbel.out.size)).mono Hb0.out.size)) hlt)
      have HS := Lib.hid (lst_succ k (mtF p a b))
      have hlen := lst_len k (mtF p a b)
      have HSp : Hid (mtF p a b k = if rkI (p.vH k) (p.LH k) (b k) < rkI (p.vH k) (p.LH k) (a k) then a k else b k) := Lib.hid rfl
      have k0 : ∀ q : Later wr, q.to.cell? ⟨w.heap.size, 0, none⟩ = some (.slice AH p.nH cH) := fun q => q.cell q0
      have k1 : ∀ q : Later wr, q.to.cell? ⟨w.heap.size, 1, none⟩ = some (.slice AS p.nS cS) := fun q => q.cell q1
      have k2 : ∀ q : Later wr, q.to.cell? ⟨w.heap.size, 2, none⟩ = some (.slice AP p.nP cP) := fun q => q.cell q2
      have k3 : ∀ q : Later wr, q.to.cell? ⟨bA, oA + k, none⟩ = some (.int .i64 (a k)) := fun q => q.cell hcA
      have k4 : ∀ q : Later wr, q.to.cell? ⟨bB, oB + k, none⟩ = some (.int .i64 (b k)) := fun q => q.cell hcB
      by_cases hlk : rkI (p.vH k) (p.LH k) (b k) < rkI (p.vH k) (p.LH k) (a k)
      · have HSy : Hid (mtF p a b k = a k) := Lib.hid (by rw [HSp.out, if_pos hlk])
        have HC2 : ∀ q : Later wr, Hid (Lr 76 #[.agg #[.slice AH p.nH cH, .slice AS p.nS cS, .slice AP p.nP cP], .int .i64 k, .int .i64 (b k), .int .i64 (a k)] q.to (.bool true)) := fun q => Lib.hid (by have := (HC q).out; rw [decide_eq_true hlk] at this; exact this)
        clear hlk HC
        go_wp2_with fail
        refine wp_region_later (by kernel_rfl) (by kernel_rfl) ?_
        repeat
          (with_reducible refine wpQuiet_step ?_
           intro K hK
           go_simp
           first
             | (refine hK _ ?_; clear hK K)
             | (apply Exists.intro
                refine ⟨fun _ => ?_, hK _ ?_⟩
                (go_at_call 76; exact Lr.later (HC2 _).out)
                clear hK K))
        with_reducible refine wpQuiet_nil ?_
        intro _ hw'
        obtain ⟨q, hw''⟩ := hw'
        subst hw''
        have hq := q.below
        clear k0 k1 k2 k3 k4 HC2
        generalize q.to = w2 at hq ⊢
        clear q
        have hcA2 := old_cell hcA hq
        have hcB2 := old_cell hcB hq
        have HOwn2 := Lib.hid (HOwn.out.below hq)
        have Hb2 := Lib.hid (Hbel.out.trans (hq.mono Hbel.out.size))
        have hsz := Hb2.out.size
        clear hq
        go_wp2_with (at_builtin; go_loud (refine wpList_append_own _ rfl _ _ 23 rfl W.heap.size 3 i0 (.int .i64 0) 1 8 Try.underlying23 hi hz0 hz1 hz2 rfl (by decide) _ _ _ rfl (World.ownsRow.alloc HOwn2.out _) ⟨w2.heap.size, 0, none⟩ 1 1 [.int .i64 (a k)] rfl rfl (news1 _ _ _) (one1 rfl) (by rw [hlen]; unfold maxLen; omega) (by rw [hlen]; omega) (by simp; omega) ?_))
        intro v3 w3 hown3 hgrow3 _
        have hb3 : Below W.heap.size W w3 := (Hb2.out.alloc hsz _).grown hgrow3 (by simp; omega) (fun g hg => (World.ownsRow.lt HOwn2.out g hg).1)
        have hO3 : OwnL w3 W.heap.size v3 (lst (k + 1) (mtF p a b)) := by
          rw [HS.out, HSy.out]
          unfold OwnL
          simpa [hlen] using hown3
        have HO3 := Lib.hid hO3
        have Hb3 := Lib.hid hb3
        clear hown3 hgrow3 hO3 hb3
        go_wp2
        go_roundw
        case rel => exact ⟨k + 1, by omega, by go_num, HO3.out, Hb3.out⟩
        case measure => simp [intOf]; omega
      · have HSy : Hid (mtF p a b k = b k) := Lib.hid (by rw [HSp.out, if_neg hlk])
        have HC2 : ∀ q : Later wr, Hid (Lr 76 #[.agg #[.slice AH p.nH cH, .slice AS p.nS cS, .slice AP p.nP cP], .int .i64 k, .int .i64 (b k), .int .i64 (a k)] q.to (.bool false)) := fun q => Lib.hid (by have := (HC q).out; rw [decide_eq_false hlk] at this; exact this)
        clear hlk HC
        go_wp2_with fail
        refine wp_region_later (by kernel_rfl) (by kernel_rfl) ?_
        repeat
          (with_reducible refine wpQuiet_step ?_
           intro K hK
           go_simp
           first
             | (refine hK _ ?_; clear hK K)
             | (apply Exists.intro
                refine ⟨fun _ => ?_, hK _ ?_⟩
                (go_at_call 76; exact Lr.later (HC2 _).out)
                clear hK K))
        with_reducible refine wpQuiet_nil ?_
        intro _ hw'
        obtain ⟨q, hw''⟩ := hw'
        subst hw''
        have hq := q.below
        clear k0 k1 k2 k3 k4 HC2
        generalize q.to = w2 at hq ⊢
        clear q
        have hcA2 := old_cell hcA hq
        have hcB2 := old_cell hcB hq
        have HOwn2 := Lib.hid (HOwn.out.below hq)
        have Hb2 := Lib.hid (Hbel.out.trans (hq.mono Hbel.out.size))
        have hsz := Hb2.out.size
        clear hq
        go_wp2_with (at_builtin; go_loud (refine wpList_append_own _ rfl _ _ 23 rfl W.heap.size 3 i0 (.int .i64 0) 1 8 Try.underlying23 hi hz0 hz1 hz2 rfl (by decide) _ _ _ rfl (World.ownsRow.alloc HOwn2.out _) ⟨w2.heap.size, 0, none⟩ 1 1 [.int .i64 (b k)] rfl rfl (news1 _ _ _) (one1 rfl) (by rw [hlen]; unfold maxLen; omega) (by rw [hlen]; omega) (by simp; omega) ?_))
        intro v3 w3 hown3 hgrow3 _
        have hb3 : Below W.heap.size W w3 := (Hb2.out.alloc hsz _).grown hgrow3 (by simp; omega) (fun g hg => (World.ownsRow.lt HOwn2.out g hg).1)
        have hO3 : OwnL w3 W.heap.size v3 (lst (k + 1) (mtF p a b)) := by
          rw [HS.out, HSy.out]
          unfold OwnL
          simpa [hlen] using hown3
        have HO3 := Lib.hid hO3
        have Hb3 := Lib.hid hb3
        clear hown3 hgrow3 hO3 hb3
        go_wp2
        go_roundw
        case rel => exact ⟨k + 1, by omega, by go_num, HO3.out, Hb3.out⟩
        case measure => simp [intOf]; omega
    · obtain rfl : k = n := by omega
      obtain ⟨A3, c3, rfl, hI3⟩ := HOwn.out.shp (lst_len _ _)
      have HI3 := Lib.hid (hI3.congr (g := mtF p a b) (fun q hq => lst_getD _ _ _ hq))
      clear hI3
      go_wp2
      go_ret
      exact ⟨A3, c3, rfl, HI3.out, Hb0.out.trans (Hbel.out.mono Hb0.out.size)⟩

set_option maxHeartbeats 1000000 in
set_option maxRecDepth 1000000 in
theorem Join_any (AH AS AP DA DB : Option Addr) (cH cS cP na ca nb cb : Nat) (p : PlanD) (R : Value → World → Prop) (w : World)
    (h : ∀ w1 : World, Below w.heap.size w w1 → Calls Try.prog 66 #[.agg #[.slice AH p.nH cH, .slice AS p.nS cS, .slice AP p.nP cP], .int .i64 1, .slice DA na ca, .slice DB nb cb] w1 fun e w' => ∃ x y, e = .returned (.tuple #[x, y]) ∧ R (.tuple #[x, y]) w' ∧ Below w1.heap.size w1 w') :
    Calls Try.prog 31 #[.agg #[.slice AH p.nH cH, .slice AS p.nS cS, .slice AP p.nP cP], .slice DA na ca, .slice DB nb cb] w fun e w' => ∃ x, e = .returned x ∧ R x w' ∧ Below w.heap.size w w' := by
  have Hb0 := Lib.hid (below_box w (.cells #[.slice AH p.nH cH, .slice AS p.nS cS, .slice AP p.nP cP] 29))
  have HC := Lib.hid (h _ Hb0.out)
  clear h
  go_enter Try.func31, Try.ntmps31
  go_wp2_with fail
  refine HC.out.mono ?_
  rintro e w1 ⟨x, y, rfl, hR, hb1⟩
  have HR := Lib.hid hR
  have Hb1 := Lib.hid (Hb0.out.trans (hb1.mono Hb0.out.size))
  clear hR hb1
  go_wp2
  go_ret2
  exact ⟨_, rfl, HR.out, Hb1.out⟩

set_option maxHeartbeats 1000000 in
set_option maxRecDepth 1000000 in
theorem Meet_any (AH AS AP DA DB : Option Addr) (cH cS cP na ca nb cb : Nat) (p : PlanD) (R : Value → World → Prop) (w : World)
    (h : ∀ w1 : World, Below w.heap.size w w1 → Calls Try.prog 66 #[.agg #[.slice AH p.nH cH, .slice AS p.nS cS, .slice AP p.nP cP], .int .i64 2, .slice DA na ca, .slice DB nb cb] w1 fun e w' => ∃ x y, e = .returned (.tuple #[x, y]) ∧ R (.tuple #[x, y]) w' ∧ Below w1.heap.size w1 w') :
    Calls Try.prog 32 #[.agg #[.slice AH p.nH cH, .slice AS p.nS cS, .slice AP p.nP cP], .slice DA na ca, .slice DB nb cb] w fun e w' => ∃ x, e = .returned x ∧ R x w' ∧ Below w.heap.size w w' := by
  have Hb0 := Lib.hid (below_box w (.cells #[.slice AH p.nH cH, .slice AS p.nS cS, .slice AP p.nP cP] 29))
  have HC := Lib.hid (h _ Hb0.out)
  clear h
  go_enter Try.func32, Try.ntmps32
  go_wp2_with fail
  refine HC.out.mono ?_
  rintro e w1 ⟨x, y, rfl, hR, hb1⟩
  have HR := Lib.hid hR
  have Hb1 := Lib.hid (Hb0.out.trans (hb1.mono Hb0.out.size))
  clear hR hb1
  go_wp2
  go_ret2
  exact ⟨_, rfl, HR.out, Hb1.out⟩
end Go.Proofs.Ytiigcjcolpmafaa

