/-
  Is a share right: in the specification.
-/
import Derived.Test.YtkpjdmmgdmbmnaaG0
import Derived.Test.YtkpjdmmgdmbmnaaHB
namespace Go.Proofs.Ytkpjdmmgdmbmnaa.J1
open Go.RowKit
open Go.Proofs.Ytkpjdmmgdmbmnaa.C0 Go.Proofs.Ytkpjdmmgdmbmnaa.HB

/-- Is it a right share? -/
def shareR (i : Int) (d : ByteArray) : Bool := decide (1 ≤ i ∧ i ≤ 6 ∧ 1 ≤ d.size ∧ d.size ≤ 16)
theorem yes2 {lo n hi : Int} (h : lo ≤ n ∧ n ≤ hi) : decide (lo ≤ n ∧ n ≤ hi) = true := decide_eq_true h
theorem no2 {lo n hi : Int} (h : ¬ (lo ≤ n ∧ n ≤ hi)) : decide (lo ≤ n ∧ n ≤ hi) = false := decide_eq_false h
end Go.Proofs.Ytkpjdmmgdmbmnaa.J1
