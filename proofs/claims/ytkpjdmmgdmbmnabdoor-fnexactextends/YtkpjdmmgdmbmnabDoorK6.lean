/-
  The numbers of a block, as the specification reckons them, and its rounds' numbers.
-/
import Derived.Test.YtkpjdmmgdmbmnabDoorK2
import Derived.Test.YtkpjdmmgdmbmnabDoorCT
namespace Go.Proofs.YtkpjdmmgdmbmnabDoor.K6
open Go.RowKit
open Go.Proofs.YtkpjdmmgdmbmnabDoor.C0
open Go.Proofs.YtkpjdmmgdmbmnabDoor.K1 (num wCells)
open Go.Deep (blk_alloc_lt blk_alloc_new nblk_alloc)

def keyCells : Array Value := (Ms.keys.map num).toArray
theorem keyCells_at (i : Nat) (hi : i < 64) : keyCells[i]? = some (num (Ms.key i)) := by
  have hl := Ms.keys_length
  simp [keyCells, Ms.key, List.getD, show i < Ms.keys.length by omega]
theorem info_u32 : (Tryd.prog.info? 72).map (fun i => (i.zero, i.size, i.bytes)) = some (some (.int .u32 0), 1, 4) := by kernel_rfl

set_option maxRecDepth 100000 in
theorem keys_spec (w : World) : Calls Tryd.prog 54 #[] w fun e w' => e = .returned (.slice (some ⟨w.heap.size, 0, none⟩) 64 64) ∧ w' = w.alloc (.cells keyCells 72) := by
  go_enter Tryd.func54, Tryd.ntmps54
  go_wp2
  go_ret
  exact ⟨rfl, rfl⟩

/-- What holds at the head of a round that takes a number out of the text. -/
def Rel (l : List UInt8) (w0 : World) (i : Value) (w : World) : Prop :=
  ∃ (k : Nat) (f : Nat → Value), k ≤ 16 ∧ i = .int .i64 k ∧ w.rowIs w0.heap.size 72 64 f ∧ (∀ j, j < k → f j = num (Ms.wAt l j)) ∧ Below w0.heap.size w0 w
def Rel2 (l : List UInt8) (w0 : World) (i : Value) (w : World) : Prop :=
  ∃ (n : Nat) (f : Nat → Value), n ≤ 48 ∧ i = .int .i64 ((n + 16 : Nat) : Int) ∧ w.rowIs w0.heap.size 72 64 f ∧ (∀ j, j < n + 16 → f j = num (Ms.wAt l j)) ∧ Below w0.heap.size w0 w
theorem row_set {l : List UInt8} {w0 w : World} {m : Nat} {f : Nat → Value} (hrow : w.rowIs w0.heap.size 72 64 f) (hlo : ∀ j, j < m → f j = num (Ms.wAt l j)) (hbel : Below w0.heap.size w0 w) :
    ∃ g, (w.setCell ⟨w0.heap.size, m, none⟩ (num (Ms.wAt l m))).rowIs w0.heap.size 72 64 g ∧ (∀ j, j < m + 1 → g j = num (Ms.wAt l j)) ∧ Below w0.heap.size w0 (w.setCell ⟨w0.heap.size, m, none⟩ (num (Ms.wAt l m))) := by
  refine ⟨_, hrow.set _ _, fun j hj => ?_, hbel.setCell (Nat.le_refl _) _⟩
  show (if j = m then _ else f j) = _
  by_cases h : j = m
  · rw [if_pos h, h]
  · rw [if_neg h]; exact hlo j (by omega)

theorem turn_still (x : Nat) (z : Int) (w : World) (hx : x < 4294967296) (h1 : 0 < z) (h2 : z < 32) :
    Calls Tryd.prog 53 #[.int .u32 x, .int .u64 z] w fun e w' => e = .returned (.int .u32 (Ms.rotr x z.toNat : Nat)) ∧ w' = w :=
  (K0.turn_any_spec x z w hx h1 h2).mono fun _ _ h => ⟨h.1, h.2.symm⟩
def i64s (l : List Nat) : List Value := l.map fun n : Nat => Value.int .i64 (n : Int)
theorem info_i64 : (Tryd.prog.info? 2).map (fun i => (i.zero, i.size, i.bytes)) = some (some (.int .i64 0), 1, 8) := by kernel_rfl
/-- What holds at the head of a round of the last loop: k numbers of the new state are there. -/
def Rel4 (p : Ms.St) (base : Nat) (W : World) (out i : Value) (w : World) : Prop :=
  ∃ k : Nat, k ≤ 8 ∧ i = .int .i64 k ∧ w.ownsRow base 2 1 out k (i64s (p.list.take k)) ∧ Below base W w ∧ base ≤ w.heap.size
theorem take_more (p : Ms.St) (k : Nat) (hk : k < 8) : i64s (p.list.take (k + 1)) = i64s (p.list.take k) ++ [Value.int .i64 ((p.list.getD k 0 : Nat) : Int)] := by
  match k, hk with
  | 0, _ => rfl
  | 1, _ => rfl
  | 2, _ => rfl
  | 3, _ => rfl
  | 4, _ => rfl
  | 5, _ => rfl
  | 6, _ => rfl
  | 7, _ => rfl
theorem list_lt {s : Ms.St} (hs : s.ok) (k : Nat) (hk : k < 8) : s.list.getD k 0 < 4294967296 := by
  match k, hk with
  | 0, _ => exact hs.a
  | 1, _ => exact hs.b
  | 2, _ => exact hs.c
  | 3, _ => exact hs.d
  | 4, _ => exact hs.e
  | 5, _ => exact hs.f
  | 6, _ => exact hs.g
  | 7, _ => exact hs.h
end Go.Proofs.YtkpjdmmgdmbmnabDoor.K6
