/-
  A put and what is read then: with all steps, and wherever the power goes.
-/
import Derived.Test.YtfiabbfdnmldjaaGreatDoorW1
namespace Go.Proofs.YtfiabbfdnmldjaaGreatDoor.W2
open Go.Proofs.YtfiabbfdnmldjaaGreatDoor.C6 Go.Proofs.YtfiabbfdnmldjaaGreatDoor.C7 Go.Proofs.YtfiabbfdnmldjaaGreatDoor.U0 Go.Proofs.YtfiabbfdnmldjaaGreatDoor.U2 Go.Proofs.YtfiabbfdnmldjaaGreatDoor.U4 Go.Proofs.YtfiabbfdnmldjaaGreatDoor.U5 Go.Proofs.YtfiabbfdnmldjaaGreatDoor.U8 Go.Proofs.YtfiabbfdnmldjaaGreatDoor.U9 Go.Proofs.YtfiabbfdnmldjaaGreatDoor.V0 Go.Proofs.YtfiabbfdnmldjaaGreatDoor.V3 Go.Proofs.YtfiabbfdnmldjaaGreatDoor.V4 Go.Proofs.YtfiabbfdnmldjaaGreatDoor.W0 Go.Proofs.YtfiabbfdnmldjaaGreatDoor.W1
open Go.Proofs.YtfiabbfdnmldjaaGreatDoor.Dk
/-- The side to which a text is put. -/
def newS (ss : List ByteArray) (ps : List Pend) : Nat := 1 - (seenD ss ps).2.1.toNat
/-- The steps of a put. -/
def stepsD (ss : List ByteArray) (ps : List Pend) (t : ByteArray) : List St := putL (firstN ss.length (newS ss ps)) t (headB ((seenD ss ps).1 + 1) (newS ss ps : Nat) (t.size : Nat))
def putO (ss : List ByteArray) (ps : List Pend) (t : ByteArray) (n : Int) : Out := runS ss ps ((stepsD ss ps t).take n.toNat)
/-- What is told of a put. -/
def putA (ss : List ByteArray) (ps : List Pend) (t : ByteArray) (n : Int) : AOut :=
  if 8000 < t.size then illA 2 else if codeD ss ps = 0 then
    (if halfN ss.length * 64 < t.size ∨ 1000000 ≤ (seenD ss ps).1 then illA 9 else ⟨(putO ss ps t n).ss, (putO ss ps t n).ps, ⟨#[]⟩, 0, (putO ss ps t n).k⟩)
  else illA (codeD ss ps)
theorem put_ok {ss : List ByteArray} {ps : List Pend} {t : ByteArray} {n : Int} (h : (putA ss ps t n).k = 0) :
    t.size ≤ 8000 ∧ codeD ss ps = 0 ∧ t.size ≤ halfN ss.length * 64 ∧ (seenD ss ps).1 < 1000000 ∧ (putO ss ps t n).k = 0 ∧ putA ss ps t n = ⟨(putO ss ps t n).ss, (putO ss ps t n).ps, ⟨#[]⟩, 0, 0⟩ := by
  unfold putA at h ⊢
  split at h
  · exact absurd h (by simp [illA])
  · rename_i h1
    split at h
    · rename_i h2
      split at h
      · exact absurd h (by simp [illA])
      · rename_i h3
        rw [if_neg h1, if_pos h2, if_neg h3]
        have h' : (putO ss ps t n).k = 0 := h
        exact ⟨by omega, h2, by omega, by omega, h', by rw [h']⟩
    · rename_i h2
      exact absurd h h2
theorem code_seen {ss : List ByteArray} {ps : List Pend} (h : codeD ss ps = 0) : (seenD ss ps).2.2.2 = 0 := by
  have hR := code_right h
  unfold codeD at h
  rw [if_neg (by rw [hR]; simp)] at h
  by_cases g : (seenD ss ps).2.2.2 = 0
  · exact g
  · rw [if_neg g] at h; exact h
theorem seenD_ok {ss : List ByteArray} {ps : List Pend} (h : codeD ss ps = 0) : ok64 (seenD ss ps).1 ∧ 0 ≤ (seenD ss ps).1 ∧ (0 ≤ (seenD ss ps).2.1 ∧ (seenD ss ps).2.1 ≤ 1) ∧ 0 ≤ (seenD ss ps).2.2.1 ∧ (seenD ss ps).2.2.1 ≤ (halfN ss.length * 64 : Nat) := seen_ok (x := zeroth ss ps) (room := halfN ss.length * 64) (code_seen h)
theorem newS_le (ss : List ByteArray) (ps : List Pend) : newS ss ps ≤ 1 := by unfold newS; omega
theorem secN_le {t : ByteArray} {n : Nat} (h : t.size ≤ n * 64) : secN t ≤ n := by unfold secN; omega
theorem steps_len (ss : List ByteArray) (ps : List Pend) (t : ByteArray) : (stepsD ss ps t).length = secN t + 3 := putL_length _ _ _
theorem readA_gen {ss : List ByteArray} {ps : List Pend} (h : codeD ss ps = 0) : (readA ss ps).g = (seenD ss ps).1 ∧ (readA ss ps).k = 0 := by
  rw [readA_eq, if_pos h]; exact ⟨rfl, rfl⟩
/-- Where the sectors are that hold the new text and head, what is read is the text. -/
theorem read_new {ss C : List ByteArray} {ps : List Pend} {t : ByteArray} (hk : codeD ss ps = 0) (hg : (seenD ss ps).1 < 1000000) (hz : t.size ≤ halfN ss.length * 64) (hP : rightB ss (ps ++ pendL (firstN ss.length (newS ss ps)) t (secN t)) = true)
    (hC : rightB C [] = true) (hCe : C = (afterT ss ps (firstN ss.length (newS ss ps)) t).set 0 (headB ((seenD ss ps).1 + 1) (newS ss ps : Nat) (t.size : Nat))) : readA C [] = ⟨C, [], t, (readA ss ps).g + 1, 0⟩ := by
  obtain ⟨-, g0, -, -, -⟩ := seenD_ok hk
  obtain ⟨r1, r2, -, -, -⟩ := (right_iff _ _).1 hP
  have hs := newS_le ss ps
  have hcl : C.length = ss.length := by rw [hCe, List.length_set]; exact flushOf_length _ _
  have hn := secN_le hz
  have hfb : firstN ss.length (newS ss ps) + halfN ss.length ≤ ss.length := by
    unfold firstN halfN
    rcases (show newS ss ps = 0 ∨ newS ss ps = 1 by omega) with e | e <;> rw [e] <;> omega
  have hf1 : 1 ≤ firstN ss.length (newS ss ps) := by unfold firstN; omega
  rw [(readA_gen hk).1]
  refine read_there (s := newS ss ps) hC ⟨by omega, by omega⟩ (by omega) hs (by rw [hcl]; exact hz) ?_ (fun k hk' => ?_)
  · rw [hCe, List.getElem?_set_self (by rw [← List.length_set (i := 0) (a := headB ((seenD ss ps).1 + 1) (newS ss ps : Nat) (t.size : Nat)), ← hCe, hcl]; omega)]
  · have hkn : k < secN t := by unfold secN; omega
    rw [hcl, sect_none, List.getD_eq_getElem?_getD, hCe, List.getElem?_set_ne (by omega), afterT_get hP _ (by omega), if_pos (by omega), Nat.add_sub_cancel_left]
    rfl
/-- A text that is put with all steps is read again, of the next number. -/
theorem put_read {ss : List ByteArray} {ps : List Pend} {t : ByteArray} {n : Int} (hk : (putA ss ps t n).k = 0) (hn : 100 ≤ n) :
    readA (putA ss ps t n).ss (putA ss ps t n).ps = ⟨(putA ss ps t n).ss, (putA ss ps t n).ps, t, (readA ss ps).g + 1, 0⟩ ∧ (putA ss ps t n).ps = [] ∧ rightB (putA ss ps t n).ss [] = true := by
  obtain ⟨-, h1, h2, h3, h4, h5⟩ := put_ok hk
  have hR := code_right h1
  obtain ⟨r1, r2, -, -, -⟩ := (right_iff _ _).1 hR
  have hh := half_le _ r2
  have hsn := secN_le h2
  have e : putO ss ps t n = runS ss ps (stepsD ss ps t) := by
    unfold putO
    rw [List.take_of_length_le (by rw [steps_len]; omega)]
  rw [e] at h4
  obtain ⟨p1, p2, p3⟩ := put_all (ss := ss) (ps := ps) h4
  rw [h5, e]
  unfold stepsD
  rw [p3]
  exact ⟨read_new h1 h3 h2 p1 p2 rfl, rfl, p2⟩
theorem form_read {ss : List ByteArray} {ps : List Pend} (hk : (formA ss ps).k = 0) : readA (formA ss ps).ss (formA ss ps).ps = ⟨(formA ss ps).ss, (formA ss ps).ps, ⟨#[]⟩, 0, 0⟩ ∧ (formA ss ps).ps = [] ∧ rightB (formA ss ps).ss [] = true := by
  have hk' : (formO ss ps).k = 0 := hk
  unfold formO at hk'
  split at hk'
  · exact absurd hk' (by simp [ill])
  · rename_i h1
    split at hk'
    · exact absurd hk' (by simp [ill])
    · rename_i h2
      have e : formO ss ps = runS ss ps [.write 0 (headB 0 0 0), .flush] := by unfold formO; rw [if_neg h1, if_neg h2]
      obtain ⟨w1, w2⟩ := write_step hk'
      rw [w2] at hk'
      obtain ⟨f1, f2, f3⟩ := flush_step hk'
      have e2 : formO ss ps = ⟨flushOf ss (ps ++ [(0, headB 0 0 0)]), [], ⟨#[]⟩, 0⟩ := by rw [e, w2, f3]; rfl
      show readA (formO ss ps).ss (formO ss ps).ps = ⟨(formO ss ps).ss, (formO ss ps).ps, _, _, _⟩ ∧ (formO ss ps).ps = [] ∧ rightB (formO ss ps).ss [] = true
      rw [e2]
      refine ⟨?_, rfl, f2⟩
      obtain ⟨r1, r2, -, -, r5⟩ := (right_iff _ _).1 f1
      refine read_there (t := ⟨#[]⟩) (g := 0) (s := 0) f2 ⟨by omega, by omega⟩ (by omega) (by omega) (Nat.zero_le _) ?_ (fun k hk => absurd hk (Nat.not_lt_zero _))
      rw [flushOf_get _ ss 0 _ (getD_some (by omega)) (fun p hp => ⟨(r5 p hp).1, (r5 p hp).2.1⟩), readOf_append]
      rfl
theorem first_apart {n s s' : Nat} (hs : s ≤ 1) (hs' : s' ≤ 1) (hne : s ≠ s') (i k : Nat) (hi : i < halfN n) (hk : k < halfN n) : firstN n s + i ≠ firstN n s' + k := by
  unfold firstN
  rcases (show s = 0 ∨ s = 1 by omega) with rfl | rfl
  · obtain rfl : s' = 1 := by omega
    omega
  · obtain rfl : s' = 0 := by omega
    omega
theorem newS_ne {ss : List ByteArray} {ps : List Pend} (h : codeD ss ps = 0) : (seenD ss ps).2.1.toNat ≤ 1 ∧ (seenD ss ps).2.1.toNat ≠ newS ss ps := by
  obtain ⟨-, -, ⟨s0, s1⟩, -, -⟩ := seenD_ok h
  unfold newS
  omega
/-- A disk whose first sector and old side are what they were reads as it did. -/
theorem read_old {ss C : List ByteArray} {n : Nat} (hk : codeD ss [] = 0) (hn : n ≤ halfN ss.length) (hC : rightB C [] = true) (hl : C.length = ss.length) (hoff : ∀ j, ¬ (firstN ss.length (newS ss []) ≤ j ∧ j < firstN ss.length (newS ss []) + n) → C[j]? = ss[j]?) :
    (readA C []).k = 0 ∧ (readA C []).t = (readA ss []).t ∧ (readA C []).g = (readA ss []).g := by
  obtain ⟨hs, hne⟩ := newS_ne hk
  refine read_same hC hl (hoff 0 (by unfold firstN; omega)) hk (fun i hi => hoff _ (fun h => ?_))
  exact first_apart hs (newS_le ss []) hne i (firstN ss.length (seenD ss []).2.1.toNat + i - firstN ss.length (newS ss [])) hi (by omega) (by omega)
theorem crash_yes {ss : List ByteArray} {ps : List Pend} {keep : List Int} (hk : keep.length ≤ 400) (hR : rightB ss ps = true) : crashR ss ps keep = (crashOf ss ps keep, []) := by
  unfold crashR
  rw [if_neg (by omega), if_neg (by rw [hR]; simp)]
/-- Wherever the power goes, what is read is what there was, or the text. -/
theorem torn {ss : List ByteArray} {t : ByteArray} {n : Int} {keep : List Int} (hx : (putA ss [] t n).k = 0) (hy : (putA ss [] t 1000).k = 0) (hkeep : keep.length ≤ 400) :
    (readA (crashR (putA ss [] t n).ss (putA ss [] t n).ps keep).1 (crashR (putA ss [] t n).ss (putA ss [] t n).ps keep).2).k = 0 ∧
    (((readA (crashR (putA ss [] t n).ss (putA ss [] t n).ps keep).1 (crashR (putA ss [] t n).ss (putA ss [] t n).ps keep).2).t = (readA ss []).t ∧ (readA (crashR (putA ss [] t n).ss (putA ss [] t n).ps keep).1 (crashR (putA ss [] t n).ss (putA ss [] t n).ps keep).2).g = (readA ss []).g) ∨
     ((readA (crashR (putA ss [] t n).ss (putA ss [] t n).ps keep).1 (crashR (putA ss [] t n).ss (putA ss [] t n).ps keep).2).t = t ∧ (readA (crashR (putA ss [] t n).ss (putA ss [] t n).ps keep).1 (crashR (putA ss [] t n).ss (putA ss [] t n).ps keep).2).g = (readA ss []).g + 1)) := by
  obtain ⟨-, h1, h2, h3, h4, h5⟩ := put_ok hx
  obtain ⟨-, -, -, -, h6, -⟩ := put_ok hy
  have hR := code_right h1
  obtain ⟨r1, r2, -, -, -⟩ := (right_iff _ _).1 hR
  have hh := half_le _ r2
  have hsn := secN_le h2
  have e6 : putO ss [] t 1000 = runS ss [] (stepsD ss [] t) := by
    unfold putO
    rw [List.take_of_length_le (by rw [steps_len]; show secN t + 3 ≤ 1000; omega)]
  rw [e6] at h6
  obtain ⟨p1, p2, p3⟩ := put_all (ss := ss) (ps := []) h6
  rw [h5]
  show (readA (crashR (putO ss [] t n).ss (putO ss [] t n).ps keep).1 (crashR (putO ss [] t n).ss (putO ss [] t n).ps keep).2).k = 0 ∧ _
  have hoff1 : ∀ j, ¬ (firstN ss.length (newS ss []) ≤ j ∧ j < firstN ss.length (newS ss []) + secN t) → (afterT ss [] (firstN ss.length (newS ss [])) t)[j]? = ss[j]? := fun j hj => by
    by_cases hjl : j < ss.length
    · rw [afterT_get p1 j hjl, if_neg hj, getD_some hjl]; rfl
    · rw [List.getElem?_eq_none (by unfold afterT; rw [flushOf_length]; omega), List.getElem?_eq_none (by omega)]
  have hl1 : (afterT ss [] (firstN ss.length (newS ss [])) t).length = ss.length := flushOf_length _ _
  have hA : rightB (afterT ss [] (firstN ss.length (newS ss [])) t) [] = true := (put_text (show (runS ss [] (wrL (firstN ss.length (newS ss [])) t (secN t) ++ .flush :: [.write 0 (headB ((seenD ss []).1 + 1) (newS ss [] : Nat) (t.size : Nat)), .flush])).k = 0 from h6)).2.1
  rcases Nat.lt_or_ge n.toNat (secN t + 1) with hc | hc
  · -- in the midst of the text
    have eo : putO ss [] t n = runS ss [] (wrL (firstN ss.length (newS ss [])) t n.toNat) := by
      unfold putO stepsD putL
      rw [List.take_append_of_le_length (by rw [wrL_length]; omega), wrL_take _ _ _ _ (by omega)]
    have h4' := h4
    rw [eo] at h4'
    obtain ⟨q1, q2⟩ := run_wr _ t ss [] _ h4'
    have hRp : rightB ss (pendL (firstN ss.length (newS ss [])) t n.toNat) = true := by
      rcases Nat.eq_zero_or_pos n.toNat with h0 | h0
      · rw [h0]; exact hR
      · exact q2 h0
    rw [eo, q1]
    show (readA (crashR ss (pendL _ t n.toNat) keep).1 _).k = 0 ∧ _
    simp only [List.nil_append]
    rw [crash_yes hkeep hRp]
    obtain ⟨a1, a2, a3⟩ := read_old (n := n.toNat) h1 (by omega) (crash_right keep hRp) (crashTo_length ss _ keep _) (fun j hj => crash_off keep hRp j hj)
    exact ⟨a1, .inl ⟨a2, a3⟩⟩
  · rcases Nat.lt_or_ge n.toNat (secN t + 2) with hc2 | hc2
    · -- flushed, and no head yet
      have en : n.toNat = secN t + 1 := by omega
      have eo : putO ss [] t n = runS ss [] (wrL (firstN ss.length (newS ss [])) t (secN t) ++ .flush :: []) := by
        unfold putO stepsD putL
        rw [en, List.take_append, wrL_length, List.take_of_length_le (by rw [wrL_length]; omega), Nat.add_sub_cancel_left]
        rfl
      have h4' := h4
      rw [eo] at h4'
      obtain ⟨-, -, q3⟩ := put_text h4'
      rw [eo, q3]
      show (readA (crashR (afterT ss [] _ t) [] keep).1 (crashR (afterT ss [] _ t) [] keep).2).k = 0 ∧ _
      rw [show runS (afterT ss [] (firstN ss.length (newS ss [])) t) [] [] = ⟨afterT ss [] (firstN ss.length (newS ss [])) t, [], ⟨#[]⟩, 0⟩ from rfl]
      simp only
      rw [crash_none (by omega) hA]
      obtain ⟨a1, a2, a3⟩ := read_old (n := secN t) h1 hsn hA hl1 hoff1
      exact ⟨a1, .inl ⟨a2, a3⟩⟩
    · rcases Nat.lt_or_ge n.toNat (secN t + 3) with hc3 | hc3
      · -- the head is pending
        have en : n.toNat = secN t + 2 := by omega
        have eo : putO ss [] t n = runS ss [] (wrL (firstN ss.length (newS ss [])) t (secN t) ++ .flush :: [.write 0 (headB ((seenD ss []).1 + 1) (newS ss [] : Nat) (t.size : Nat))]) := by
          unfold putO stepsD putL
          rw [en, List.take_append, wrL_length, List.take_of_length_le (by rw [wrL_length]; omega), Nat.add_sub_cancel_left]
          rfl
        have h4' := h4
        rw [eo] at h4'
        obtain ⟨-, -, q3⟩ := put_text h4'
        rw [q3] at h4'
        obtain ⟨w1, w2⟩ := write_step h4'
        rw [eo, q3, w2]
        rw [show runS (afterT ss [] (firstN ss.length (newS ss [])) t) ([] ++ [(0, headB ((seenD ss []).1 + 1) (newS ss [] : Nat) (t.size : Nat))]) [] = ⟨afterT ss [] (firstN ss.length (newS ss [])) t, [(0, headB ((seenD ss []).1 + 1) (newS ss [] : Nat) (t.size : Nat))], ⟨#[]⟩, 0⟩ from rfl]
        simp only
        have w1' : rightB (afterT ss [] (firstN ss.length (newS ss [])) t) [(0, headB ((seenD ss []).1 + 1) (newS ss [] : Nat) (t.size : Nat))] = true := w1
        rw [crash_yes hkeep w1']
        have hcr := crash_right keep w1'
        cases hq : keptAt keep 0
        · have ec : crashOf (afterT ss [] (firstN ss.length (newS ss [])) t) [(0, headB ((seenD ss []).1 + 1) (newS ss [] : Nat) (t.size : Nat))] keep = afterT ss [] (firstN ss.length (newS ss [])) t := crashTo_lost _ _ _ 0 hq
          rw [ec]
          obtain ⟨a1, a2, a3⟩ := read_old (n := secN t) h1 hsn hA hl1 hoff1
          exact ⟨a1, .inl ⟨a2, a3⟩⟩
        · have ec : crashOf (afterT ss [] (firstN ss.length (newS ss [])) t) [(0, headB ((seenD ss []).1 + 1) (newS ss [] : Nat) (t.size : Nat))] keep = (afterT ss [] (firstN ss.length (newS ss [])) t).set 0 (headB ((seenD ss []).1 + 1) (newS ss [] : Nat) (t.size : Nat)) := crashTo_kept (afterT ss [] (firstN ss.length (newS ss [])) t) [(0, headB ((seenD ss []).1 + 1) (newS ss [] : Nat) (t.size : Nat))] keep 0 (0, headB ((seenD ss []).1 + 1) (newS ss [] : Nat) (t.size : Nat)) rfl hq
          rw [ec] at hcr ⊢
          have := read_new h1 h3 h2 p1 hcr rfl
          rw [this]
          exact ⟨rfl, .inr ⟨rfl, rfl⟩⟩
      · have eo : putO ss [] t n = runS ss [] (stepsD ss [] t) := by
          unfold putO
          rw [List.take_of_length_le (by rw [steps_len]; omega)]
        rw [eo]
        unfold stepsD
        rw [p3]
        simp only
        rw [crash_none (by omega) p2]
        have := read_new h1 h3 h2 p1 p2 rfl
        simp only
        rw [this]
        exact ⟨rfl, .inr ⟨rfl, rfl⟩⟩
end Go.Proofs.YtfiabbfdnmldjaaGreatDoor.W2
