/-
  A disk that came in, opened: its rows of texts and of Pending. What a walk carries from world to world.
-/
import Derived.Test.YtfiabbfdnmldjaaS3
import Derived.Deep.Strs
import Derived.Deep.SlicePairs
import Derived.Lib.SmallJoins
import Derived.ProofKit
import Derived.OpenShut
namespace Go.Proofs.Ytfiabbfdnmldjaa.O1
open Go.RowKit Go.WideShapes Go.Joins
open Go.Proofs.Ytfiabbfdnmldjaa.C0 Go.Proofs.Ytfiabbfdnmldjaa.S0

theorem spot_none {w : World} {a : Addr} {v : Value} (h : w.cell? (a.add 0) = some v) : ∃ b off, a = ⟨b, off, none⟩ ∧ b < w.heap.size := by
  obtain ⟨b, off, spot⟩ := a
  have hspot : spot = none := by simpa [Addr.add] using World.cell?_spot h
  subst hspot
  refine ⟨b, off, rfl, ?_⟩
  rcases Nat.lt_or_ge b w.heap.size with hh | hh
  · exact hh
  · simp [World.cell?, Addr.add, Array.getElem?_eq_none hh] at h
section
variable {W : World} {H : Type} {enc : TypeId × Value → H}
set_option maxRecDepth 100000 in
theorem strs_of {v : Value} {n : Nat} {y : DataW H × List MemPlace} (h : DataW.trod enc Try.prog W 0 (fun _ => true) true n 22 [v] = some y) : ∃ ss, Strs W v ss ∧ ∀ s ∈ ss, s.size ≤ maxLen := by
  rcases Go.Deep.open_strs Try.underlying22 Try.underlying9 (by kernel_rfl) h with ⟨hcs, _⟩ | ⟨a, len, cap, m, Sx, hcs, _, hl, hm, hmm, _, hcell⟩
  · simp at hcs; subst hcs
    exact ⟨[], ⟨none, 0, rfl, by simp, fun q => by simp at q⟩, by simp⟩
  · simp at hcs; subst hcs
    simp at hmm; subst hmm
    refine ⟨(List.range len).map Sx, ⟨some a, m, by simp, by simp; omega, fun q => ?_⟩, ?_⟩
    · simp at q
      obtain ⟨b, off, rfl, hb⟩ := spot_none (hcell 0 (by omega)).1
      refine ⟨b, off, rfl, hb, fun i s hs => ?_⟩
      have hi : i < len := by
        have := (List.getElem?_eq_some_iff.1 hs).1; simpa using this
      have := (hcell i (by omega)).1
      rw [add0] at this
      rw [this]
      simp [hi] at hs
      rw [hs]
    · intro s hs
      simp at hs
      obtain ⟨i, hi, rfl⟩ := hs
      exact (hcell i (by omega)).2
set_option maxRecDepth 100000 in
theorem pends_of {v : Value} {n : Nat} {y : DataW H × List MemPlace} (h : DataW.trod enc Try.prog W 0 (fun _ => true) true n 23 [v] = some y) : ∃ ps, Pends W v ps ∧ ∀ p ∈ ps, p.2.size ≤ maxLen := by
  rcases Go.Deep.open_slice_pairs Try.underlying23 Try.underlying43 (by kernel_rfl) rfl rfl (by kernel_rfl) (by kernel_rfl) h with ⟨hcs, _⟩ | ⟨a, len, cap, m, n', V0, V1, D0, D1, P0, P1, hcs, _, hl, hm, hmm, _, hcell⟩
  · simp at hcs; subst hcs
    exact ⟨[], ⟨none, 0, rfl, by simp, fun q => by simp at q⟩, by simp⟩
  · simp at hcs; subst hcs
    simp at hmm; subst hmm
    have each : ∀ i, i < m → ∃ p : Pend, V0 i = .int .i64 p.1 ∧ V1 i = .string p.2 ∧ p.2.size ≤ maxLen := fun i hi => by
      obtain ⟨_, _, h0, h1⟩ := hcell i hi
      obtain ⟨z, e0, _, _⟩ := DataW.trod_int Try.underlying2 h0
      obtain ⟨s, e1, _, hz⟩ := DataW.trod_string Try.underlying9 h1
      exact ⟨(z, s), by simpa using e0, by simpa using e1, hz⟩
    obtain ⟨Px, hP⟩ := Go.Deep.choose_lt each
    refine ⟨(List.range len).map Px, ⟨some a, m, by simp, by simp; omega, fun q => ?_⟩, ?_⟩
    · simp at q
      obtain ⟨b, off, rfl, hb⟩ := spot_none (by simpa using (hcell 0 (by omega)).1)
      refine ⟨b, off, rfl, hb, fun i s hs => ?_⟩
      have hi : i < len := by
        have := (List.getElem?_eq_some_iff.1 hs).1; simpa using this
      have h0 := (hcell i (by omega)).1
      have h1 := (hcell i (by omega)).2.1
      have hp := hP i (by omega)
      rw [add0] at h0 h1
      simp [hi] at hs
      rw [hp.1, hs] at h0
      rw [hp.2.1, hs] at h1
      exact ⟨h0, by rw [Nat.add_assoc]; exact h1⟩
    · intro s hs
      simp at hs
      obtain ⟨i, hi, rfl⟩ := hs
      exact (hP i (by omega)).2.2
set_option maxRecDepth 100000 in
theorem disk_of {r : Reach} {b0 : Nat} {v : Value} {d : DataW H} {p : List MemPlace} (hv : Value.okWide Try.prog W r b0 25 v) (h : DataW.Trod enc Try.prog W 0 (fun _ => true) true 25 v d p) :
    ∃ vs vp ss ps, v = .agg #[vs, vp] ∧ Strs W vs ss ∧ Pends W vp ps ∧ (∀ s ∈ ss, s.size ≤ maxLen) ∧ ∀ p ∈ ps, p.2.size ≤ maxLen := by
  obtain ⟨v0, v1, y0, y1, n, rfl, _, _, h0, h1⟩ := open_agg2 Try.underlying25 (by kernel_rfl) (by kernel_rfl) hv h
  obtain ⟨ss, hs, hz⟩ := strs_of h0
  obtain ⟨ps, hp, hzp⟩ := pends_of h1
  exact ⟨v0, v1, ss, ps, rfl, hs, hp, hz, hzp⟩
end
/-- A block that a walk has laid, behind what only makes memory. -/
theorem carry {w w' : World} {g : Nat} {x : Obj} (k : w.heap[g]? = some x) (hb : Below w.heap.size w w') : w'.heap[g]? = some x :=
  (hb.block g (Array.getElem?_eq_some_iff.1 k).1).trans k
theorem carryA {w : World} {g : Nat} {x : Obj} (k : w.heap[g]? = some x) (o : Obj) : (w.alloc o).heap[g]? = some x := carry k ((Below.refl _ _).alloc (Nat.le_refl _) o)
theorem carryW {S : Nat → Prop} {w w' : World} {g : Nat} {x : Obj} (k : w.heap[g]? = some x) (ht : Wrote S w w') (hS : ¬ S g) : w'.heap[g]? = some x :=
  (ht.block g (Array.getElem?_eq_some_iff.1 k).1 hS).trans k
theorem undrew {w w' : World} (h : Below w.drew.heap.size w.drew w') : Below w.heap.size w w' := ⟨h.os, h.tape, h.output, h.size, h.block⟩
theorem asz (w : World) (o : Obj) : (w.alloc o).heap.size = w.heap.size + 1 := by simp
theorem albel (w : World) (o : Obj) : Below w.heap.size w (w.alloc o) := (Below.refl _ _).alloc (Nat.le_refl _) _
theorem bel2 {a b c : World} (h : Below a.heap.size a b) (k : Below b.heap.size b c) : Below a.heap.size a c := h.trans (k.mono h.size)
theorem belW {S : Nat → Prop} {a b c : World} (h : Below a.heap.size a b) (k : Wrote S b c) (hS : ∀ g, S g → a.heap.size ≤ g) : Below a.heap.size a c := h.trans (k.below h.size hS)
theorem lt_some {w : World} {g : Nat} {x : Obj} (k : w.heap[g]? = some x) : g < w.heap.size := (Array.getElem?_eq_some_iff.1 k).1
/-- Where the rows of a disk of the call's own lie. -/
theorem _root_.Go.Proofs.Ytfiabbfdnmldjaa.S0.ODisk.rows {B : Nat} {w : World} {vs vp : Value} {ss : List ByteArray} {ps : List Pend} (h : ODisk B w vs vp ss ps) : ∀ g, (vs.ownBlock = some g ∨ vp.ownBlock = some g) → B ≤ g ∧ g < w.heap.size := by
  intro g hg
  rcases hg with hg | hg
  · exact h.1.lt g hg
  · exact h.2.lt g hg
theorem _root_.Go.Proofs.Ytfiabbfdnmldjaa.S0.ODisk.wrote {S : Nat → Prop} {B : Nat} {w w' : World} {vs vp : Value} {ss : List ByteArray} {ps : List Pend} (h : ODisk B w vs vp ss ps) (ht : Wrote S w w') (hS : ∀ g, S g → (vs.ownBlock = some g ∨ vp.ownBlock = some g) → False) : ODisk B w' vs vp ss ps :=
  ⟨h.1.touch ht (fun g hg hs => hS g hs (.inl hg)), h.2.touch ht (fun g hg hs => hS g hs (.inr hg))⟩
end Go.Proofs.Ytfiabbfdnmldjaa.O1
