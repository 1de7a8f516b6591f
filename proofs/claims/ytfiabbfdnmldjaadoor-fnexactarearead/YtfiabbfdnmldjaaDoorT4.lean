/-
  A new disk; a refusal.
-/
import Derived.Test.YtfiabbfdnmldjaaDoorT3
import Derived.Test.YtfiabbfdnmldjaaDoorT1
namespace Go.Proofs.YtfiabbfdnmldjaaDoor.T4
open Go.RowKit
open Go.Proofs.YtfiabbfdnmldjaaDoor.C0 Go.Proofs.YtfiabbfdnmldjaaDoor.S0 Go.Proofs.YtfiabbfdnmldjaaDoor.S1 Go.Proofs.YtfiabbfdnmldjaaDoor.S2 Go.Proofs.YtfiabbfdnmldjaaDoor.S3 Go.Proofs.YtfiabbfdnmldjaaDoor.O1 Go.Proofs.YtfiabbfdnmldjaaDoor.T0 Go.Proofs.YtfiabbfdnmldjaaDoor.T2
def emp : ByteArray := ⟨#[]⟩
theorem none_told (w w' : World) (hb : Below w.heap.size w w') : DTold w [] [] (.returned (.agg #[.slice none 0 0, .slice none 0 0])) w' :=
  ⟨none, 0, none, 0, rfl, ⟨World.ownsRow_nil _ _ _ _, World.ownsRow_nil _ _ _ _⟩, hb⟩

/-- What is told of a disk and a text, with a code. -/
abbrev OTold (w : World) (ss : List ByteArray) (ps : List Pend) (d : ByteArray) (k : Int) (e : Ending) (w' : World) : Prop :=
  ∃ a c a' c', e = .returned (.agg #[.slice a ss.length c, .slice a' ps.length c', .string d, .int .i64 k]) ∧ ODisk w.heap.size w' (.slice a ss.length c) (.slice a' ps.length c') ss ps ∧ Below w.heap.size w w'
theorem none_otold (w w' : World) (k : Int) (hb : Below w.heap.size w w') : OTold w [] [] emp k (.returned (.agg #[.slice none 0 0, .slice none 0 0, .string ⟨#[]⟩, .int .i64 k])) w' :=
  ⟨none, 0, none, 0, rfl, ⟨World.ownsRow_nil _ _ _ _, World.ownsRow_nil _ _ _ _⟩, hb⟩
set_option maxRecDepth 100000 in
theorem ill_spec (k : Int) (w : World) : Calls Tryd.prog 41 #[.int .i64 k] w fun e w' => e = .returned (.agg #[.slice none 0 0, .slice none 0 0, .string ⟨#[]⟩, .int .i64 k]) ∧ Below w.heap.size w w' := by
  go_enter Tryd.func41, Tryd.ntmps41
  go_wp2
  exact bodyPost_ret (v := .agg #[.slice none 0 0, .slice none 0 0, .string ⟨#[]⟩, .int .i64 k]) (by simp [results, Tryd.results41, go_sem]) rfl ⟨rfl, (Below.refl _ _).alloc (Nat.le_refl _) _⟩
end Go.Proofs.YtfiabbfdnmldjaaDoor.T4
