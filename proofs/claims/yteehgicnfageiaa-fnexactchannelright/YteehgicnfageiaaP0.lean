/-
  Is a text a pin, is a card right: in the program.
-/
import Derived.Test.YteehgicnfageiaaN0
import Derived.LoopTactic
import Derived.Laws.RangeAny
namespace Go.Proofs.Yteehgicnfageiaa.P0
open Go.RowKit
open Go.Proofs.Yteehgicnfageiaa.C0 Go.Proofs.Yteehgicnfageiaa.HB
open Go.Proofs.Yteehgicnfageiaa.J1 (shareR yes2 no2)
open Go.Proofs.Yteehgicnfageiaa.N0 (Cd cdV cardB byN byN_get digUp pinB pinB_no)

theorem time_impl (n : Int) (w : World) :
    Calls Try.prog 9 #[.int .i64 n] w fun e w' => e = .returned (.bool (decide (0 ≤ n ∧ n ≤ 1000000))) ∧ w = w' := by
  by_cases h1 : 0 ≤ n
  · by_cases h2 : n ≤ 1000000
    · rw [show decide (0 ≤ n ∧ n ≤ 1000000) = true by simp [h1, h2]]
      go_enter Try.func9, Try.ntmps9
      go_wp2
      go_ret
      exact ⟨rfl, rfl⟩
    · rw [show decide (0 ≤ n ∧ n ≤ 1000000) = false by simp [h1, h2]]
      go_enter Try.func9, Try.ntmps9
      go_wp2
      go_ret
      exact ⟨rfl, rfl⟩
  · rw [show decide (0 ≤ n ∧ n ≤ 1000000) = false by simp [h1]]
    go_enter Try.func9, Try.ntmps9
    go_wp2
    go_ret
    exact ⟨rfl, rfl⟩
end Go.Proofs.Yteehgicnfageiaa.P0
