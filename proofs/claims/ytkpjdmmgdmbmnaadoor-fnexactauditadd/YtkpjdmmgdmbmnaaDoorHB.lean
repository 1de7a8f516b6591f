/-
  What a walk carries from world to world.
-/
import Derived.Test.YtkpjdmmgdmbmnaaDoorQC
import Derived.Below
namespace Go.Proofs.YtkpjdmmgdmbmnaaDoor.HB
open Go.RowKit
theorem carry {w w' : World} {g : Nat} {x : Obj} (k : w.heap[g]? = some x) (hb : Below w.heap.size w w') : w'.heap[g]? = some x :=
  (hb.block g (Array.getElem?_eq_some_iff.1 k).1).trans k
theorem carryA {w : World} {g : Nat} {x : Obj} (k : w.heap[g]? = some x) (o : Obj) : (w.alloc o).heap[g]? = some x := carry k ((Below.refl _ _).alloc (Nat.le_refl _) o)
theorem undrew {w w' : World} (h : Below w.drew.heap.size w.drew w') : Below w.heap.size w w' := ⟨h.os, h.tape, h.output, h.size, h.block⟩
theorem asz (w : World) (o : Obj) : (w.alloc o).heap.size = w.heap.size + 1 := by simp
theorem albel (w : World) (o : Obj) : Below w.heap.size w (w.alloc o) := (Below.refl _ _).alloc (Nat.le_refl _) _
theorem bel2 {a b c : World} (h : Below a.heap.size a b) (k : Below b.heap.size b c) : Below a.heap.size a c := h.trans (k.mono h.size)
theorem lt_some {w : World} {g : Nat} {x : Obj} (k : w.heap[g]? = some x) : g < w.heap.size := (Array.getElem?_eq_some_iff.1 k).1
theorem block_cell {w : World} {p : Nat} {cs : Array Value} {T : TypeId} {f : Nat × Nat} (h : w.heap[p]? = some (.cells cs T f)) (i : Nat) : w.cell? ⟨p, i, none⟩ = cs[i]? := by
  simp [World.cell?, h]
end Go.Proofs.YtkpjdmmgdmbmnaaDoor.HB
