/-
  The laws' own comparisons of answers, field by field: where both are the same they answer true.
-/
import Derived.Test.YtmfghkoimfckjadDoorC0
namespace Go.Proofs.YtmfghkoimfckjadDoor.CE
open Go.RowKit

set_option maxRecDepth 100000 in
theorem text_same (t : ByteArray) (a c : Int) (w : World) :
    Calls Tryd.prog 10 #[.agg #[.string t, .int .i64 a, .int .i64 c], .agg #[.string t, .int .i64 a, .int .i64 c]] w fun e w' => e = .returned (.bool true) ∧ Below w.heap.size w w' := by
  have ht : (t.toList == t.toList) = true := by simp
  go_enter Tryd.func10, Tryd.ntmps10
  go_wp2
  go_ret
  exact ⟨rfl, ((Below.refl _ _).alloc (Nat.le_refl _) _).alloc (by simp) _⟩
set_option maxRecDepth 100000 in
theorem num_same (n a c : Int) (w : World) :
    Calls Tryd.prog 7 #[.agg #[.int .i64 n, .int .i64 a, .int .i64 c], .agg #[.int .i64 n, .int .i64 a, .int .i64 c]] w fun e w' => e = .returned (.bool true) ∧ Below w.heap.size w w' := by
  go_enter Tryd.func7, Tryd.ntmps7
  go_wp2
  go_ret
  exact ⟨rfl, ((Below.refl _ _).alloc (Nat.le_refl _) _).alloc (by simp) _⟩
end Go.Proofs.YtmfghkoimfckjadDoor.CE
