/-
  A pair of numbers that came in, opened.
-/
import Derived.Test.YthmlkbgnooahlaaC0
import Derived.Lib.SmallJoins
import Derived.ProofKit
import Derived.OpenShut
namespace Go.Proofs.Ythmlkbgnooahlaa.O3
open Go.RowKit Go.WideShapes Go.Joins
section
variable {W : World} {H : Type} {enc : TypeId × Value → H}
set_option maxRecDepth 100000 in
theorem sig_of {r : Reach} {b0 : Nat} {v : Value} {d : DataW H} {p : List MemPlace} (hv : Value.okWide Try.prog W r b0 27 v) (h : DataW.Trod enc Try.prog W 0 (fun _ => true) true 27 v d p) :
    ∃ e s : Int, v = .agg #[.int .i64 e, .int .i64 s] ∧ (-9223372036854775808 ≤ e ∧ e ≤ 9223372036854775807) ∧ (-9223372036854775808 ≤ s ∧ s ≤ 9223372036854775807) := by
  obtain ⟨v0, v1, y0, y1, n, rfl, _, _, h0, h1⟩ := open_agg2 Try.underlying27 (by kernel_rfl) (by kernel_rfl) hv h
  obtain ⟨z, e0, _, b0⟩ := DataW.trod_int Try.underlying2 h0
  obtain ⟨y, e1, _, b1⟩ := DataW.trod_int Try.underlying2 h1
  obtain rfl : v0 = .int .i64 z := by simpa using e0
  obtain rfl : v1 = .int .i64 y := by simpa using e1
  have q0 := bounds_i64 b0
  have q1 := bounds_i64 b1
  exact ⟨z, y, rfl, by omega, by omega⟩
end
end Go.Proofs.Ythmlkbgnooahlaa.O3
