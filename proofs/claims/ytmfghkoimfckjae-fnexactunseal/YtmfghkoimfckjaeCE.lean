/-
  The laws' own comparisons of answers, field by field: where both are the same they answer true.
-/
import Derived.Test.YtmfghkoimfckjaeC0
namespace Go.Proofs.Ytmfghkoimfckjae.CE
open Go.RowKit

set_option maxRecDepth 100000 in
theorem text_same (t : ByteArray) (a c : Int) (w : World) :
    Calls Try.prog 9 #[.agg #[.string t, .int .i64 a, .int .i64 c], .agg #[.string t, .int .i64 a, .int .i64 c]] w fun e w' => e = .returned (.bool true) ∧ Below w.heap.size w w' := by
  have ht : (t.toList == t.toList) = true := by simp
  go_enter Try.func9, Try.ntmps9
  go_wp2
  go_ret
  exact ⟨rfl, ((Below.refl _ _).alloc (Nat.le_refl _) _).alloc (by simp) _⟩
end Go.Proofs.Ytmfghkoimfckjae.CE
