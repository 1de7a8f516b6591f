/-
  Is a text a pin, is a card right: in the program.
-/
import Derived.Test.YtkpjdmmgdmbmnaaDoorN0
import Derived.LoopTactic
import Derived.Laws.RangeAny
namespace Go.Proofs.YtkpjdmmgdmbmnaaDoor.P0
open Go.RowKit
open Go.Proofs.YtkpjdmmgdmbmnaaDoor.C0 Go.Proofs.YtkpjdmmgdmbmnaaDoor.HB
open Go.Proofs.YtkpjdmmgdmbmnaaDoor.J1 (shareR yes2 no2)
open Go.Proofs.YtkpjdmmgdmbmnaaDoor.N0 (Cd cdV cardB byN byN_get digUp pinB pinB_no)

theorem from_impl (lo n hi : Int) (w : World) :
    Calls Tryd.prog 56 #[.int .i64 lo, .int .i64 n, .int .i64 hi] w fun e w' => e = .returned (.bool (decide (lo ≤ n ∧ n ≤ hi))) ∧ w = w' := by
  by_cases h1 : lo ≤ n
  · by_cases h2 : n ≤ hi
    · rw [show decide (lo ≤ n ∧ n ≤ hi) = true by simp [h1, h2]]
      go_enter Tryd.func56, Tryd.ntmps56
      go_wp2
      go_ret
      exact ⟨rfl, rfl⟩
    · rw [show decide (lo ≤ n ∧ n ≤ hi) = false by simp [h1, h2]]
      go_enter Tryd.func56, Tryd.ntmps56
      go_wp2
      go_ret
      exact ⟨rfl, rfl⟩
  · rw [show decide (lo ≤ n ∧ n ≤ hi) = false by simp [h1]]
    go_enter Tryd.func56, Tryd.ntmps56
    go_wp2
    go_ret
    exact ⟨rfl, rfl⟩
end Go.Proofs.YtkpjdmmgdmbmnaaDoor.P0
