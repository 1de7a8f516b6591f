/-
  A new disk; a refusal.
-/
import Derived.Test.YtoihhjdllcockabT3
import Derived.Test.YtoihhjdllcockabT1
namespace Go.Proofs.Ytoihhjdllcockab.T4
open Go.RowKit
open Go.Proofs.Ytoihhjdllcockab.C0 Go.Proofs.Ytoihhjdllcockab.S0 Go.Proofs.Ytoihhjdllcockab.S1 Go.Proofs.Ytoihhjdllcockab.S2 Go.Proofs.Ytoihhjdllcockab.S3 Go.Proofs.Ytoihhjdllcockab.O1 Go.Proofs.Ytoihhjdllcockab.T0 Go.Proofs.Ytoihhjdllcockab.T2
def emp : ByteArray := ⟨#[]⟩
theorem none_told (w w' : World) (hb : Below w.heap.size w w') : DTold w [] [] (.returned (.agg #[.slice none 0 0, .slice none 0 0])) w' :=
  ⟨none, 0, none, 0, rfl, ⟨World.ownsRow_nil _ _ _ _, World.ownsRow_nil _ _ _ _⟩, hb⟩

/-- What is told of a disk and a text, with a code. -/
abbrev OTold (w : World) (ss : List ByteArray) (ps : List Pend) (d : ByteArray) (k : Int) (e : Ending) (w' : World) : Prop :=
  ∃ a c a' c', e = .returned (.agg #[.slice a ss.length c, .slice a' ps.length c', .string d, .int .i64 k]) ∧ ODisk w.heap.size w' (.slice a ss.length c) (.slice a' ps.length c') ss ps ∧ Below w.heap.size w w'
theorem none_otold (w w' : World) (k : Int) (hb : Below w.heap.size w w') : OTold w [] [] emp k (.returned (.agg #[.slice none 0 0, .slice none 0 0, .string ⟨#[]⟩, .int .i64 k])) w' :=
  ⟨none, 0, none, 0, rfl, ⟨World.ownsRow_nil _ _ _ _, World.ownsRow_nil _ _ _ _⟩, hb⟩
end Go.Proofs.Ytoihhjdllcockab.T4
