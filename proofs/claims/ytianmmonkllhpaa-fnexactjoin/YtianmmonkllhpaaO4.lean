/-
  A share, and a row of shares, that came in, opened.
-/
import Derived.Test.YtianmmonkllhpaaSH
import Derived.Deep.SlicePairs
import Derived.Lib.SmallJoins
import Derived.ProofKit
import Derived.OpenShut
namespace Go.Proofs.Ytianmmonkllhpaa.O4
open Go.RowKit Go.WideShapes Go.Joins Go.ChangeShapes
open Go.Proofs.Ytianmmonkllhpaa.SH
theorem spot_none {w : World} {a : Addr} {v : Value} (h : w.cell? (a.add 0) = some v) : ∃ b off, a = ⟨b, off, none⟩ ∧ b < w.heap.size := by
  obtain ⟨b, off, spot⟩ := a
  have hspot : spot = none := by simpa [Addr.add] using World.cell?_spot h
  subst hspot
  refine ⟨b, off, rfl, ?_⟩
  rcases Nat.lt_or_ge b w.heap.size with hh | hh
  · exact hh
  · simp [World.cell?, Addr.add, Array.getElem?_eq_none hh] at h
section
variable {W : World} {H : Type} {enc : TypeId × Value → H}
set_option maxRecDepth 100000 in
theorem share_of {r : Reach} {b0 : Nat} {v : Value} {d : DataW H} {p : List MemPlace} (hv : Value.okWide Try.prog W r b0 27 v) (h : DataW.Trod enc Try.prog W 0 (fun _ => true) true 27 v d p) :
    ∃ (i : Int) (s : ByteArray), v = .agg #[.int .i64 i, .string s] ∧ (-9223372036854775808 ≤ i ∧ i ≤ 9223372036854775807) ∧ s.size ≤ maxLen := by
  obtain ⟨v0, v1, y0, y1, n, rfl, _, _, h0, h1⟩ := open_agg2 Try.underlying27 (by kernel_rfl) (by kernel_rfl) hv h
  obtain ⟨z, e0, _, b0⟩ := DataW.trod_int Try.underlying2 h0
  obtain ⟨s, e1, _, hz⟩ := DataW.trod_string Try.underlying9 h1
  obtain rfl : v0 = .int .i64 z := by simpa using e0
  obtain rfl : v1 = .string s := by simpa using e1
  have q0 := bounds_i64 b0
  exact ⟨z, s, rfl, by omega, hz⟩
set_option maxRecDepth 100000 in
theorem shares_in {v : Value} {n : Nat} {y : DataW H × List MemPlace} (h : DataW.trod enc Try.prog W 0 (fun _ => true) true n 33 [v] = some y) : ∃ ps, Shares W v ps ∧ ∀ p ∈ ps, p.2.size ≤ maxLen := by
  rcases Go.Deep.open_slice_pairs Try.underlying33 Try.underlying27 (by kernel_rfl) rfl rfl (by kernel_rfl) (by kernel_rfl) h with ⟨hcs, _⟩ | ⟨a, len, cap, m, n', V0, V1, D0, D1, P0, P1, hcs, _, hl, hm, hmm, _, hcell⟩
  · simp at hcs; subst hcs
    exact ⟨[], ⟨none, 0, rfl, by simp, fun q => by simp at q⟩, by simp⟩
  · simp at hcs; subst hcs
    simp at hmm; subst hmm
    have each : ∀ i, i < m → ∃ p : Sh, V0 i = .int .i64 p.1 ∧ V1 i = .string p.2 ∧ p.2.size ≤ maxLen := fun i hi => by
      obtain ⟨_, _, h0, h1⟩ := hcell i hi
      obtain ⟨z, e0, _, _⟩ := DataW.trod_int Try.underlying2 h0
      obtain ⟨s, e1, _, hz⟩ := DataW.trod_string Try.underlying9 h1
      exact ⟨(z, s), by simpa using e0, by simpa using e1, hz⟩
    obtain ⟨Px, hP⟩ := Go.Deep.choose_lt each
    refine ⟨(List.range len).map Px, ⟨some a, m, by simp, by simp; omega, fun q => ?_⟩, ?_⟩
    · simp at q
      obtain ⟨b, off, rfl, hb⟩ := spot_none (by simpa using (hcell 0 (by omega)).1)
      refine ⟨b, off, rfl, hb, fun i s hs => ?_⟩
      have hi : i < len := by
        have := (List.getElem?_eq_some_iff.1 hs).1; simpa using this
      have h0 := (hcell i (by omega)).1
      have h1 := (hcell i (by omega)).2.1
      have hp := hP i (by omega)
      rw [add0] at h0 h1
      simp [hi] at hs
      rw [hp.1, hs] at h0
      rw [hp.2.1, hs] at h1
      exact ⟨h0, by rw [Nat.add_assoc]; exact h1⟩
    · intro s hs
      simp at hs
      obtain ⟨i, hi, rfl⟩ := hs
      exact (hP i (by omega)).2.2
theorem shares_of {r : Reach} {b0 : Nat} {v : Value} {d : DataW H} {p : List MemPlace} (hv : Value.okWide Try.prog W r b0 33 v) (h : DataW.Trod enc Try.prog W 0 (fun _ => true) true 33 v d p) : ∃ l, Shares W v l ∧ ∀ q ∈ l, q.2.size ≤ maxLen := by
  obtain ⟨a0, len, cap, rfl⟩ := okWide_slice Try.underlying33 hv
  obtain ⟨fuel, hf⟩ := h
  exact shares_in hf
end
end Go.Proofs.Ytianmmonkllhpaa.O4
