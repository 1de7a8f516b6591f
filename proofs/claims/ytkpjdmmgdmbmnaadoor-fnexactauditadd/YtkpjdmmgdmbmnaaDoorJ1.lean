/-
  Is a share right: in the specification.
-/
import Derived.Test.YtkpjdmmgdmbmnaaDoorG0
import Derived.Test.YtkpjdmmgdmbmnaaDoorHB
namespace Go.Proofs.YtkpjdmmgdmbmnaaDoor.J1
open Go.RowKit
open Go.Proofs.YtkpjdmmgdmbmnaaDoor.C0 Go.Proofs.YtkpjdmmgdmbmnaaDoor.HB

/-- Is it a right share? -/
def shareR (i : Int) (d : ByteArray) : Bool := decide (1 ≤ i ∧ i ≤ 6 ∧ 1 ≤ d.size ∧ d.size ≤ 16)
theorem yes2 {lo n hi : Int} (h : lo ≤ n ∧ n ≤ hi) : decide (lo ≤ n ∧ n ≤ hi) = true := decide_eq_true h
theorem no2 {lo n hi : Int} (h : ¬ (lo ≤ n ∧ n ≤ hi)) : decide (lo ≤ n ∧ n ≤ hi) = false := decide_eq_false h
end Go.Proofs.YtkpjdmmgdmbmnaaDoor.J1
