import Derived.Test.YtkgikehagkpmoaaPar1
namespace Go.Proofs.Ytkgikehagkpmoaa

def Ris (l : List Int) : Prop := l.Pairwise (fun x y => decide (x ≤ y) = true)
theorem ris_ins {l : List Int} {x : Int} {p : Nat} (h : Ris l) (h1 : ∀ j, j < p → l.getD j 0 ≤ x) (hp : p ≤ l.length) (h2 : p < l.length → x < l.getD p 0) : Ris (l.take p ++ x :: l.drop p) := by
  unfold Ris at *
  rw [← List.take_append_drop p l, List.pairwise_append] at h
  obtain ⟨ht, hd, hx⟩ := h
  have hb : ∀ b, b ∈ l.drop p → x ≤ b := fun b hb => by
    rcases Nat.lt_or_ge p l.length with hl | hl
    · have h3 := h2 hl
      rw [List.getD_eq_getElem?_getD, List.getElem?_eq_getElem hl, Option.getD_some] at h3
      rw [List.drop_eq_getElem_cons hl] at hb hd
      rcases List.mem_cons.1 hb with e | e
      · omega
      · have := (List.pairwise_cons.1 hd).1 b e
        simp only [decide_eq_true_eq] at this
        omega
    · rw [List.drop_of_length_le hl] at hb
      cases hb
  rw [List.pairwise_append]
  refine ⟨ht, List.pairwise_cons.2 ⟨fun b h => by simpa using hb b h, hd⟩, fun a ha b h => ?_⟩
  rcases List.mem_cons.1 h with rfl | e
  · obtain ⟨j, hj, rfl⟩ := List.mem_iff_getElem.1 ha
    have hjp : j < p := by simp at hj; omega
    have hjl : j < l.length := by simp at hj; omega
    have := h1 j hjp
    rw [List.getD_eq_getElem?_getD, List.getElem?_eq_getElem hjl, Option.getD_some] at this
    simpa using this
  · exact hx a ha b e
theorem perm_ins {l : List Int} {f : Nat → Int} {k : Nat} (p : Nat) (h : l.Perm (lst k f)) : (l.take p ++ f k :: l.drop p).Perm (lst (k + 1) f) := by
  refine List.perm_middle.trans ?_
  rw [List.take_append_drop, lst_succ]
  exact (List.Perm.cons _ h).trans (List.perm_append_singleton _ _).symm
theorem ris_sort {l : List Int} {f : Nat → Int} {n : Nat} (h : Ris l) (hp : l.Perm (lst n f)) : l = lst n (scoreL n f) := by
  have hl : l.length = n := by rw [hp.length_eq, lst_len]
  have hc : ∀ t, l.countP (fun x => decide (x ≤ t)) = cle f n t := fun t => List.Perm.countP_eq _ hp
  have e : lst n (fun k => l.getD k 0) = l := by
    have := lst_of l
    rwa [hl] at this
  rw [← e]
  refine lst_congr fun j hj => ?_
  have a := (sort_count n f (l.getD j 0) j hj).2 (by rw [← hc]; exact (rising_count h (l.getD j 0) j (by omega)).1 (Int.le_refl _))
  have b := (rising_count h (scoreL n f j) j (by omega)).2 (by rw [hc]; exact (sort_count n f (scoreL n f j) j hj).1 (Int.le_refl _))
  omega
end Go.Proofs.Ytkgikehagkpmoaa
