/-
  What a crash leaves of one sector, told as the law's innermost loop gathers it.
-/
import Derived.Test.YtoihhjdllcockaaE5
namespace Go.Proofs.Ytoihhjdllcockaa.E6
open Go.RowKit
open Go.Proofs.Ytoihhjdllcockaa.S0 Go.Proofs.Ytoihhjdllcockaa.E5
open Go.Proofs.Ytoihhjdllcockaa.Dk (crashR crashOf crashTo rightB right_iff crash_some crashTo_length)
theorem strs_at {w : World} {a : Option Addr} {c : Nat} {l : List ByteArray} (h : Strs w (.slice a l.length c) l) {k : Nat} {x : ByteArray} (hk : l[k]? = some x) : ∃ b off, a = some ⟨b, off, none⟩ ∧ b < w.heap.size ∧ w.cell? ⟨b, off + k, none⟩ = some (.string x) := by
  obtain ⟨a', c', e, -, hc⟩ := h
  have hk' := (List.getElem?_eq_some_iff.1 hk).1
  obtain ⟨b, off, ha, hb, hcc⟩ := hc (by omega)
  cases e
  exact ⟨b, off, ha, hb, hcc k x hk⟩
theorem pends_at {w : World} {a : Option Addr} {c : Nat} {l : List Pend} (h : Pends w (.slice a l.length c) l) {k : Nat} {x : Pend} (hk : l[k]? = some x) : ∃ b off, a = some ⟨b, off, none⟩ ∧ b < w.heap.size ∧ w.cell? ⟨b, off + k * 2, none⟩ = some (.int .i64 x.1) ∧ w.cell? ⟨b, off + k * 2 + 1, none⟩ = some (.string x.2) := by
  obtain ⟨a', c', e, -, hc⟩ := h
  have hk' := (List.getElem?_eq_some_iff.1 hk).1
  obtain ⟨b, off, ha, hb, hcc⟩ := hc (by omega)
  cases e
  exact ⟨b, off, ha, hb, hcc k x hk⟩
theorem strs_some {w : World} {a : Option Addr} {c : Nat} {l : List ByteArray} (h : Strs w (.slice a l.length c) l) (h0 : 0 < l.length) : ∃ b off, a = some ⟨b, off, none⟩ := by
  obtain ⟨b, off, ha, -⟩ := strs_at h (List.getElem?_eq_getElem h0)
  exact ⟨b, off, ha⟩
/-- What a crash leaves: as many sectors, each as it was or as something that was pending for it. -/
theorem crash_left {ss s3 : List ByteArray} {ps p3 : List Pend} {kp : List Int} (hk : ¬ 400 < kp.length) (hR : rightB ss ps = true) (h : crashR ss ps kp = (s3, p3)) :
    s3.length = ss.length ∧ ∀ (k : Nat) (x : ByteArray), s3[k]? = some x → ss[k]? = some x ∨ ∃ m, m < ps.length ∧ ps[m]? = some ((k : Int), x) := by
  have e : crashR ss ps kp = (crashOf ss ps kp, []) := by
    unfold crashR
    rw [if_neg hk, if_neg (show ¬ rightB ss ps = false by rw [hR]; simp)]
  rw [e] at h
  have h1 : crashOf ss ps kp = s3 := congrArg Prod.fst h
  subst h1
  refine ⟨crashTo_length ss ps kp _, fun k x hx => ?_⟩
  have hp := ((right_iff ss ps).1 hR).2.2.2.2
  exact crash_some ss ps kp (fun p q => ⟨(hp p q).1, (hp p q).2.1⟩) k ps.length x hx
/-- What the innermost loop has gathered of the first m that were pending: it says yes where one of them is what the sector is now. -/
def Gath (x2 x3 : ByteArray) (ps : List Pend) (k m : Nat) (b : Bool) : Prop := (x3 = x2 ∨ ∃ j, j < m ∧ ps[j]? = some ((k : Int), x3)) → b = true
def RelM (W : World) (x2 x3 : ByteArray) (ps : List Pend) (k : Nat) (x y : Value) (wr : World) : Prop :=
  ∃ (m : Nat) (b : Bool), m ≤ ps.length ∧ x = .bool b ∧ y = .int .i64 m ∧ Gath x2 x3 ps k m b ∧ Below W.heap.size W wr
/-- What is known of the first comparing. -/
def RelB (W : World) (x2 x3 : ByteArray) (x : Value) (wr : World) : Prop := ∃ b : Bool, x = .bool b ∧ (x3 = x2 → b = true) ∧ Below W.heap.size W wr
theorem gath_yes (x2 x3 : ByteArray) (ps : List Pend) (k m : Nat) : Gath x2 x3 ps k m true := fun _ => rfl
theorem gath_none {x2 x3 : ByteArray} {b : Bool} (ps : List Pend) (k : Nat) (h : x3 = x2 → b = true) : Gath x2 x3 ps k 0 b := by
  rintro (q | ⟨j, hj, -⟩)
  · exact h q
  · exact absurd hj (by omega)
theorem gath_more {x2 x3 : ByteArray} {ps : List Pend} {k m : Nat} {p : Pend} (h : Gath x2 x3 ps k m false) (hp : ps[m]? = some p) (hn : ¬ (p.1 = (k : Int) ∧ p.2 = x3)) : Gath x2 x3 ps k (m + 1) false := by
  rintro (q | ⟨j, hj, hq⟩)
  · exact h (.inl q)
  · by_cases e : j = m
    · subst e
      rw [hp] at hq
      cases hq
      exact absurd ⟨rfl, rfl⟩ hn
    · exact h (.inr ⟨j, by omega, hq⟩)
theorem apart_of {p q : ByteArray} (h : (p.toList == q.toList) = false) : ¬ p = q := by
  intro e
  subst e
  simp at h
theorem gath_all {x2 x3 : ByteArray} {ps : List Pend} {k : Nat} {b : Bool} (h : Gath x2 x3 ps k ps.length b) {ss s3 : List ByteArray} (hc : ∀ (k : Nat) (x : ByteArray), s3[k]? = some x → ss[k]? = some x ∨ ∃ m, m < ps.length ∧ ps[m]? = some ((k : Int), x)) (h2 : ss[k]? = some x2) (h3 : s3[k]? = some x3) : b = true := by
  rcases hc k x3 h3 with q | q
  · rw [h2] at q
    cases q
    exact h (.inl rfl)
  · exact h (.inr q)
end Go.Proofs.Ytoihhjdllcockaa.E6
