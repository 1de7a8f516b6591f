/-
  Powers modulo a number, in the specification.
-/
import Derived.Test.YtkpjdmmgdmbmnaaDoorQB
import Derived.Test.YtkpjdmmgdmbmnaaDoorQA
namespace Go.Proofs.YtkpjdmmgdmbmnaaDoor.G0
open Go.RowKit
open Go.Proofs.YtkpjdmmgdmbmnaaDoor.C0

theorem is_spec (n lo hi : Int) (w : World) :
    Calls Tryd.prog 58 #[.int .i64 n, .int .i64 lo, .int .i64 hi] w fun e w' => e = .returned (.bool (decide (lo ≤ n ∧ n ≤ hi))) ∧ w = w' := by
  by_cases h1 : lo ≤ n
  · by_cases h2 : n ≤ hi
    · rw [show decide (lo ≤ n ∧ n ≤ hi) = true by simp [h1, h2]]
      go_enter Tryd.func58, Tryd.ntmps58
      go_wp2
      go_ret
      exact ⟨rfl, rfl⟩
    · rw [show decide (lo ≤ n ∧ n ≤ hi) = false by simp [h1, h2]]
      go_enter Tryd.func58, Tryd.ntmps58
      go_wp2
      go_ret
      exact ⟨rfl, rfl⟩
  · rw [show decide (lo ≤ n ∧ n ≤ hi) = false by simp [h1]]
    go_enter Tryd.func58, Tryd.ntmps58
    go_wp2
    go_ret
    exact ⟨rfl, rfl⟩

/-- What holds at the head of a round. -/
def Rel (res m : Nat) (a n o : Value) : Prop :=
  ∃ a' n' o' : Nat, a = .int .i64 a' ∧ n = .int .i64 n' ∧ o = .int .i64 o' ∧ a' < m ∧ o' < m ∧ n' ≤ 9223372036854775807 ∧ o' * a' ^ n' % m = res
theorem mul_small {a b m : Nat} (ha : a < m) (hb : b < m) (hm : m ≤ 1000000) : a * b ≤ 1000000000000 :=
  Nat.le_trans (Nat.mul_le_mul (show a ≤ 1000000 by omega) (show b ≤ 1000000 by omega)) (by decide)

end Go.Proofs.YtkpjdmmgdmbmnaaDoor.G0
