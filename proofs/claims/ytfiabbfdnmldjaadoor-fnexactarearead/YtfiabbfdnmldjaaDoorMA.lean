/-
  A disk on lists: what is written is read; what is flushed reads as it did; what a crash leaves.
-/
import Derived.Test.YtfiabbfdnmldjaaDoorM9
namespace Go.Proofs.YtfiabbfdnmldjaaDoor.Dk
theorem write_ok {ss : List ByteArray} {ps : List Pend} {i : Int} {d : ByteArray} (h : (writeR ss ps i d).k = 0) :
    rightB ss ps = true ∧ 0 ≤ i ∧ i < ss.length ∧ d.size ≤ 64 ∧ ps.length < 200 ∧ writeR ss ps i d = ⟨ss, ps ++ [(i, d)], ⟨#[]⟩, 0⟩ ∧ rightB ss (ps ++ [(i, d)]) = true := by
  unfold writeR at h ⊢
  split at h
  · simp [ill] at h
  · rename_i g0
    split at h
    · simp [ill] at h
    · rename_i g1
      split at h
      · rename_i g2
        split at h
        · simp [ill] at h
        · rename_i g3
          have hR : rightB ss ps = true := by
            cases e : rightB ss ps
            · exact absurd (Or.inl e) g1
            · rfl
          have hd : d.size ≤ 64 := Nat.le_of_not_lt (fun q => g1 (.inr q))
          rw [if_neg g0, if_neg g1, if_pos g2, if_neg g3]
          refine ⟨hR, g2.1, g2.2, hd, by omega, rfl, ?_⟩
          obtain ⟨h1, h2, h3, h4, h5⟩ := (right_iff ss ps).1 hR
          refine (right_iff _ _).2 ⟨h1, h2, by simp; omega, h4, fun p hp => ?_⟩
          rcases List.mem_append.1 hp with q | q
          · exact h5 p q
          · simp at q; subst q; exact ⟨g2.1, g2.2, hd⟩
      · simp [ill] at h
theorem putOne_right {ss : List ByteArray} {p : Pend} (h : ∀ s ∈ ss, s.size ≤ 64) (hp : p.2.size ≤ 64) : ∀ s ∈ putOne ss p, s.size ≤ 64 := by
  intro s hs
  rcases List.mem_or_eq_of_mem_set hs with q | q
  · exact h s q
  · subst q; exact hp
theorem flushOf_sizes : ∀ (ps : List Pend) (ss : List ByteArray), (∀ s ∈ ss, s.size ≤ 64) → (∀ p ∈ ps, p.2.size ≤ 64) → ∀ s ∈ flushOf ss ps, s.size ≤ 64
  | [], _, h, _ => h
  | p :: ps, ss, h, hp => flushOf_sizes ps (putOne ss p) (putOne_right h (hp p (by simp))) (fun q hq => hp q (by simp [hq]))
theorem flush_ok {ss : List ByteArray} {ps : List Pend} (h : (flushR ss ps).k = 0) : rightB ss ps = true ∧ flushR ss ps = ⟨flushOf ss ps, [], ⟨#[]⟩, 0⟩ ∧ rightB (flushOf ss ps) [] = true := by
  unfold flushR at h ⊢
  split at h
  · simp [ill] at h
  · rename_i g
    have hR : rightB ss ps = true := by simpa using g
    rw [if_neg g]
    obtain ⟨h1, h2, h3, h4, h5⟩ := (right_iff ss ps).1 hR
    refine ⟨hR, rfl, (right_iff _ _).2 ⟨by rw [flushOf_length]; exact h1, by rw [flushOf_length]; exact h2, by simp, flushOf_sizes ps ss h4 (fun p hp => (h5 p hp).2.2), by simp⟩⟩
theorem read_ok {ss : List ByteArray} {ps : List Pend} {j : Nat} {t : ByteArray} (hR : rightB ss ps = true) (ht : ss[j]? = some t) : readR ss ps j = ⟨ss, ps, readOf t ps j, 0⟩ := by
  have hj := (List.getElem?_eq_some_iff.1 ht).1
  unfold readR
  rw [if_neg (by rw [hR]; simp), if_pos ⟨by omega, by omega⟩]
  simp [List.getD_eq_getElem?_getD, ht]
theorem read_data {ss : List ByteArray} {ps : List Pend} {i : Int} (h : (readR ss ps i).k = 0) : rightB ss ps = true ∧ (readR ss ps i).ss = ss ∧ (readR ss ps i).ps = ps := by
  unfold readR at h ⊢
  split at h
  · simp [ill] at h
  · rename_i g
    split at h
    · rename_i g2
      rw [if_neg g, if_pos g2]
      exact ⟨by simpa using g, rfl, rfl⟩
    · simp [ill] at h
/-- Flushed, a sector is what it read as. -/
theorem flushOf_get : ∀ (ps : List Pend) (ss : List ByteArray) (j : Nat) (t : ByteArray), ss[j]? = some t → (∀ p ∈ ps, 0 ≤ p.1 ∧ p.1 < ss.length) → (flushOf ss ps)[j]? = some (readOf t ps j)
  | [], _, _, _, h, _ => h
  | p :: ps, ss, j, t, h, hp => by
    have hj := (List.getElem?_eq_some_iff.1 h).1
    have h0 := hp p (by simp)
    show (flushOf (putOne ss p) ps)[j]? = some (readOf (if p.1 = (j : Int) then p.2 else t) ps j)
    refine flushOf_get ps (putOne ss p) j _ ?_ (fun q hq => by rw [putOne_length]; exact hp q (by simp [hq]))
    unfold putOne
    rw [List.getElem?_set]
    by_cases e : p.1.toNat = j
    · rw [if_pos e, if_pos (by omega), if_pos (by omega)]
    · rw [if_neg e, if_neg (by omega)]; exact h
theorem crash_none {ss : List ByteArray} {keep : List Int} (hk : ¬ 400 < keep.length) (hR : rightB ss [] = true) : crashR ss [] keep = (ss, []) := by
  unfold crashR
  rw [if_neg hk, if_neg (by rw [hR]; simp)]
  rfl
/-- Behind a crash a sector is what it was, or something that was pending for it. -/
theorem crash_some (ss : List ByteArray) (ps : List Pend) (keep : List Int) (hp : ∀ p ∈ ps, 0 ≤ p.1 ∧ p.1 < ss.length) (j : Nat) : ∀ (k : Nat) (x : ByteArray), (crashTo ss ps keep k)[j]? = some x → ss[j]? = some x ∨ ∃ m, m < k ∧ ps[m]? = some ((j : Int), x)
  | 0, x, h => .inl h
  | k + 1, x, h => by
    cases hy : keptAt keep k
    · rw [crashTo_lost _ _ _ _ hy] at h
      rcases crash_some ss ps keep hp j k x h with q | ⟨m, hm, q⟩
      · exact .inl q
      · exact .inr ⟨m, by omega, q⟩
    · cases hq : ps[k]? with
      | none =>
        have e : crashTo ss ps keep (k + 1) = crashTo ss ps keep k := by simp [crashTo, hq]
        rw [e] at h
        rcases crash_some ss ps keep hp j k x h with q | ⟨m, hm, q⟩
        · exact .inl q
        · exact .inr ⟨m, by omega, q⟩
      | some p =>
        rw [crashTo_kept _ _ _ _ _ hq hy] at h
        unfold putOne at h
        rw [List.getElem?_set] at h
        have h0 := hp p (List.mem_of_getElem? hq)
        by_cases e : p.1.toNat = j
        · rw [if_pos e] at h
          split at h
          · cases h
            refine .inr ⟨k, by omega, ?_⟩
            rw [hq]
            congr 1
            have : p.1 = (j : Int) := by omega
            rw [← this]
          · cases h
        · rw [if_neg e] at h
          rcases crash_some ss ps keep hp j k x h with q | ⟨m, hm, q⟩
          · exact .inl q
          · exact .inr ⟨m, by omega, q⟩
theorem new_right (n : Int) (h1 : 1 ≤ n) (h2 : n ≤ 64) : rightB (List.replicate n.toNat ⟨#[]⟩) [] = true := by
  refine (right_iff _ _).2 ⟨by simp; omega, by simp; omega, by simp, fun s hs => ?_, by simp⟩
  have := (List.mem_replicate.1 hs).2
  subst this
  exact Nat.zero_le _
end Go.Proofs.YtfiabbfdnmldjaaDoor.Dk
