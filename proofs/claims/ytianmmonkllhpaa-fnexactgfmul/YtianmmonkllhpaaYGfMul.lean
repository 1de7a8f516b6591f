/-
  The walk of the exact law on GfMul.
-/
import Derived.Test.YtianmmonkllhpaaJ3
namespace Go.Proofs.Ytianmmonkllhpaa.YGfMul
open Go.RowKit
open Go.Proofs.Ytianmmonkllhpaa.C0
theorem walk (a b : Int) (w : World) (_ : -9223372036854775808 ≤ a ∧ a ≤ 9223372036854775807) (_ : -9223372036854775808 ≤ b ∧ b ≤ 9223372036854775807) :
    Calls Try.prog 3 #[.int .i64 a, .int .i64 b] w fun e w' => e = .returned (.bool true) ∧ Below w.heap.size w w' := by
  go_enter Try.func3, Try.ntmps3
  go_wp2_with fail
  refine (J3.mul_spec a b _).mono ?_
  rintro e w1 ⟨rfl, rfl⟩
  go_wp2_with fail
  refine (L0.mul_any a b _).mono ?_
  rintro e w2 ⟨rfl, rfl⟩
  go_wp2
  go_ret
  exact ⟨rfl, Below.refl _ _⟩
end Go.Proofs.Ytianmmonkllhpaa.YGfMul
