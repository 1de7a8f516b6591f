/-
  The walk of the exact law on PowMod.
-/
import Derived.Test.YthmlkbgnooahlaaH0
namespace Go.Proofs.Ythmlkbgnooahlaa.YPowMod
open Go.RowKit
open Go.Proofs.Ythmlkbgnooahlaa.C0
theorem walk (a b c : Int) (w : World) (_ : -9223372036854775808 ≤ a ∧ a ≤ 9223372036854775807) (_ : -9223372036854775808 ≤ b ∧ b ≤ 9223372036854775807) (_ : -9223372036854775808 ≤ c ∧ c ≤ 9223372036854775807) :
    Calls Try.prog 3 #[.int .i64 a, .int .i64 b, .int .i64 c] w fun e w' => e = .returned (.bool true) ∧ Below w.heap.size w w' := by
  go_enter Try.func3, Try.ntmps3
  go_wp2_with fail
  refine (G2.powmod_spec a b c _).mono ?_
  rintro e w1 ⟨rfl, rfl⟩
  go_wp2_with fail
  refine (H0.powmod_impl a b c _).mono ?_
  rintro e w2 ⟨rfl, hb⟩
  go_wp2
  go_ret
  exact ⟨rfl, hb⟩
end Go.Proofs.Ythmlkbgnooahlaa.YPowMod
