/-
  What the draws of a number and of a text to be put leave: some number, some text, in their bounds.
-/
import Derived.Test.YtoihhjdllcockaaD2
import Derived.Deep.OwnRows
namespace Go.Proofs.Ytoihhjdllcockaa.D4
open Go.RowKit
open Go.Proofs.Ytoihhjdllcockaa.C0
open Go.Proofs.Ytoihhjdllcockaa.D0

theorem owns_row (base : Nat) (w : World) (l : List UInt8) (cs : Array Value) (n : Nat) (hb : base ≤ w.heap.size) (hn : l.length = n) (hm : n ≤ maxLen) (hc : cs.toList = (Mb.cells l).map (Value.int .u8)) :
    owns base (.slice (some ⟨w.heap.size, 0, none⟩) n n) l (w.alloc (.cells cs 5)) := by
  subst hn
  unfold owns
  rw [← hc]
  refine World.ownsRow_lit w cs l.length hb hm ?_
  have := congrArg List.length hc
  simpa [Mb.cells] using this
theorem made_row (base : Nat) (w : World) (n : Nat) (hb : base ≤ w.heap.size) (hn : n ≤ 1000000) :
    owns base (.slice (some ⟨w.heap.size, 0, none⟩) n n) (List.replicate n 0) (w.alloc (.cells (madeCells #[.int .u8 0] n) 5)) := by
  refine owns_row base w (List.replicate n 0) _ n hb (by simp) (by unfold maxLen; omega) ?_
  rw [toList_madeCells_one]
  simp [Mb.cells]



end Go.Proofs.Ytoihhjdllcockaa.D4
