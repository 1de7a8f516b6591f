/-
  A row of numbers that came in, opened.
-/
import Derived.Test.YtoihhjdllcockabTC
import Derived.ProofKit
import Derived.OpenShut
namespace Go.Proofs.Ytoihhjdllcockab.O2
open Go.RowKit Go.WideShapes Go.ChangeShapes
open Go.Proofs.Ytoihhjdllcockab.C0 Go.Proofs.Ytoihhjdllcockab.S0 Go.Proofs.Ytoihhjdllcockab.O1 Go.Proofs.Ytoihhjdllcockab.TC
theorem ints_of {W : World} {H : Type} {enc : TypeId × Value → H} {r : Reach} {b0 : Nat} {v : Value} {d : DataW H} {p : List MemPlace} (hv : Value.okWide Try.prog W r b0 26 v) (h : DataW.Trod enc Try.prog W 0 (fun _ => true) true 26 v d p) : ∃ l, Ints W v l := by
  obtain ⟨a0, len, cap, rfl⟩ := okWide_slice Try.underlying26 hv
  obtain ⟨fuel, hf⟩ := h
  rcases open_ints Try.underlying26 Try.underlying2 (by kernel_rfl) hf with ⟨hcs, _⟩ | ⟨x, l, c, zs, hcs, _, hl, hm, hz, _, hcell, hwz⟩
  · simp [Value.cells] at hcs
    obtain ⟨rfl, rfl, rfl⟩ := hcs
    exact ⟨[], none, 0, rfl, by simp, fun q => by simp at q⟩
  · simp [Value.cells] at hcs
    obtain ⟨rfl, rfl, rfl⟩ := hcs
    have hzl : zs.length = cap := by simpa using hz
    refine ⟨zs.take len, _, _, by rw [List.length_take, Nat.min_eq_left (by omega)], by rw [List.length_take]; omega, fun q => ?_⟩
    have hlen : 0 < len := by rw [List.length_take] at q; omega
    obtain ⟨b, off, rfl, hb⟩ := spot_none (hcell 0 (by omega))
    refine ⟨b, off, rfl, hb, fun i z hi => ?_⟩
    have hil : i < len := by have := (List.getElem?_eq_some_iff.1 hi).1; rw [List.length_take] at this; omega
    have := hcell i (by omega)
    rw [add0] at this
    rw [this]
    rw [List.getElem?_take, if_pos hil] at hi
    rw [List.getD_eq_getElem?_getD, hi]; rfl
end Go.Proofs.Ytoihhjdllcockab.O2
