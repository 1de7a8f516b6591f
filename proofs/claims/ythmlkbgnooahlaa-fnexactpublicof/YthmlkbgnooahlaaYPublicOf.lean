/-
  The walk of the exact law on PublicOf.
-/
import Derived.Test.YthmlkbgnooahlaaH0
namespace Go.Proofs.Ythmlkbgnooahlaa.YPublicOf
open Go.RowKit
open Go.Proofs.Ythmlkbgnooahlaa.C0
theorem walk (a : Int) (w : World) (_ : -9223372036854775808 ≤ a ∧ a ≤ 9223372036854775807) :
    Calls Try.prog 4 #[.int .i64 a] w fun e w' => e = .returned (.bool true) ∧ Below w.heap.size w w' := by
  go_enter Try.func4, Try.ntmps4
  go_wp2_with fail
  refine (G2.public_spec a _).mono ?_
  rintro e w1 ⟨rfl, rfl⟩
  go_wp2_with fail
  refine (H0.public_impl a _).mono ?_
  rintro e w2 ⟨rfl, hb⟩
  go_wp2
  go_ret
  exact ⟨rfl, hb⟩
end Go.Proofs.Ythmlkbgnooahlaa.YPublicOf
