/-
  The code that the program takes out of an error: 0 without any, else the fault's own.
-/
import Derived.Test.YtfiabbfdnmldjaaDoorCA
import Derived.Handy
namespace Go.Proofs.YtfiabbfdnmldjaaDoor.CF
open Go.RowKit
open Go.Proofs.YtfiabbfdnmldjaaDoor.C0

/-- The variable that errors.As reads lies as the program's text lays it. -/
def Laid (w : World) : Prop := w.cell? ⟨4, 0, none⟩ = some (.iface 126 (.agg #[.pointer (some ⟨5, 51, none⟩)]))
theorem Laid.lt {w : World} (h : Laid w) : 4 < w.heap.size := by
  rcases Nat.lt_or_ge 4 w.heap.size with h' | h'
  · exact h'
  · simp [Laid, World.cell?, Array.getElem?_eq_none h'] at h
theorem Laid.below {w w' : World} (h : Laid w) (hb : Below w.heap.size w w') : Laid w' := by
  unfold Laid; rw [hb.cell (p := ⟨4, 0, none⟩) h.lt]; exact h
theorem Laid.alloc {w : World} (h : Laid w) (o : Obj) : Laid (w.alloc o) := h.below ((Below.refl _ _).alloc (Nat.le_refl _) o)
theorem Laid.drew {w : World} (h : Laid w) : Laid w.drew := h
/-- An error of the program's own, of code c. -/
def fault (c : Int) : Value := .iface 94 (.agg #[.int .i64 c])

theorem code_nil (w : World) : Calls Tryd.prog 51 #[.nilIface] w fun e w' => e = .returned (.int .i64 0) ∧ Below w.heap.size w w' := by
  go_enter Tryd.func51, Tryd.ntmps51
  go_wp2_with fail
  refine (CA.as_nil _ _).mono ?_
  rintro e w1 ⟨rfl, rfl⟩
  go_wp2
  go_ret
  exact ⟨rfl, (Below.refl _ _).alloc (Nat.le_refl _) _⟩

set_option maxRecDepth 100000 in
theorem code_fault (c : Int) (w : World) (hg : Laid w) : Calls Tryd.prog 51 #[fault c] w fun e w' => e = .returned (.int .i64 c) ∧ Below w.heap.size w w' := by
  unfold fault
  have hg1 := hg.alloc (.cells #[.int .i64 0] 94)
  unfold Laid at hg1
  go_enter Tryd.func51, Tryd.ntmps51
  go_wp2_with fail
  refine (CA.as_hit c ⟨w.heap.size, 0, none⟩ (.int .i64 0) _ hg1 (by simp) (by simp)).mono ?_
  rintro e w1 ⟨rfl, rfl⟩
  go_wp2
  go_ret
  exact ⟨rfl, by go_grown⟩
end Go.Proofs.YtfiabbfdnmldjaaDoor.CF
