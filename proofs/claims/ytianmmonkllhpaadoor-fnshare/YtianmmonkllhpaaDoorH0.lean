/-
  Powers, and what lies between two numbers, in the program.
-/
import Derived.Test.YtianmmonkllhpaaDoorC0
import Derived.Test.YtianmmonkllhpaaDoorPA
import Derived.Test.YtianmmonkllhpaaDoorG2
import Derived.Deep.RegionWith
namespace Go.Proofs.YtianmmonkllhpaaDoor.H0
open Go.RowKit
open Go.Proofs.YtianmmonkllhpaaDoor.C0
open Go.Proofs.YtianmmonkllhpaaDoor.G2

theorem from_impl (lo n hi : Int) (w : World) :
    Calls Tryd.prog 50 #[.int .i64 lo, .int .i64 n, .int .i64 hi] w fun e w' => e = .returned (.bool (decide (lo ≤ n ∧ n ≤ hi))) ∧ w = w' := by
  by_cases h1 : lo ≤ n
  · by_cases h2 : n ≤ hi
    · rw [show decide (lo ≤ n ∧ n ≤ hi) = true by simp [h1, h2]]
      go_enter Tryd.func50, Tryd.ntmps50
      go_wp2
      go_ret
      exact ⟨rfl, rfl⟩
    · rw [show decide (lo ≤ n ∧ n ≤ hi) = false by simp [h1, h2]]
      go_enter Tryd.func50, Tryd.ntmps50
      go_wp2
      go_ret
      exact ⟨rfl, rfl⟩
  · rw [show decide (lo ≤ n ∧ n ≤ hi) = false by simp [h1]]
    go_enter Tryd.func50, Tryd.ntmps50
    go_wp2
    go_ret
    exact ⟨rfl, rfl⟩




end Go.Proofs.YtianmmonkllhpaaDoor.H0
