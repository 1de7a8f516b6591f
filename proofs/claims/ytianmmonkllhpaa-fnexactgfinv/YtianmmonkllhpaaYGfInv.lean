/-
  The walk of the exact law on GfInv.
-/
import Derived.Test.YtianmmonkllhpaaJ3
namespace Go.Proofs.Ytianmmonkllhpaa.YGfInv
open Go.RowKit
open Go.Proofs.Ytianmmonkllhpaa.C0
theorem walk (a : Int) (w : World) (_ : -9223372036854775808 ≤ a ∧ a ≤ 9223372036854775807) :
    Calls Try.prog 4 #[.int .i64 a] w fun e w' => e = .returned (.bool true) ∧ Below w.heap.size w w' := by
  go_enter Try.func4, Try.ntmps4
  go_wp2_with fail
  refine (J3.inv_spec a _).mono ?_
  rintro e w1 ⟨rfl, rfl⟩
  go_wp2_with fail
  refine (L0.inv_any a _).mono ?_
  rintro e w2 ⟨rfl, rfl⟩
  go_wp2
  go_ret
  exact ⟨rfl, Below.refl _ _⟩
end Go.Proofs.Ytianmmonkllhpaa.YGfInv
