/-
  Small facts that the walks of this seat share: rows of bytes that the call itself makes, and the text that is made of such a row.
-/
import Derived.Test.YtkpjdmmgdmbmnabDoorChecked
import Derived.Test.YtkpjdmmgdmbmnabDoorQA
import Derived.WalkKit
import Derived.WalkSpells
import Derived.WalkLawsBesides
import Derived.Laws.IdiomStrings
import Derived.Laws.BytesArg
namespace Go.Proofs.YtkpjdmmgdmbmnabDoor.C0
open Go.RowKit
theorem ret_int {k : IntKind} {a b : Int} (h : a = b) : Ending.returned (.int k a) = .returned (.int k b) := by rw [h]
theorem ret_str {a b : List UInt8} (h : a = b) : Ending.returned (.string ⟨a.toArray⟩) = .returned (.string ⟨b.toArray⟩) := by rw [h]
theorem info_u8 : (Tryd.prog.info? 5).map (fun i => (i.zero, i.size, i.bytes)) = some (some (.int .u8 0), 1, 1) := by kernel_rfl

/-- A row of bytes of the call's own. -/
def owns (base : Nat) (v : Value) (l : List UInt8) (w : World) : Prop := w.ownsRow base 5 1 v l.length ((Mb.cells l).map (Value.int .u8))

theorem owns_nil (base : Nat) (w : World) : owns base (.slice none 0 0) [] w := World.ownsRow_nil _ _ _ _
theorem owns_lit0 (base : Nat) (w : World) (hb : base ≤ w.heap.size) : owns base (.slice (some ⟨w.heap.size, 0, none⟩) 0 0) [] (w.alloc (.cells #[] 5)) :=
  World.ownsRow_lit w #[] 0 hb (by decide) rfl

theorem cell_of (l : List UInt8) (j : Nat) (hj : j < l.length) : ((Mb.cells l).map (Value.int .u8))[j]? = some (.int .u8 (l[j].toNat : Int)) := by
  simp [Mb.cells, hj]

/-- string(b), b a row of the call's own. -/
theorem conv_own {base : Nat} {v : Value} {l : List UInt8} {w : World} (h : owns base v l w) :
    (convert 64 9 v).run Tryd.prog w = .ok (.string ⟨l.toArray⟩) w := by
  rcases h.2 with ⟨rfl, h0⟩ | ⟨g, cap, cur, rfl, hb, hg, hnc, hcm, hcs, htake⟩
  · rw [run_convert_bytes_nil (w := w) 64 5 Tryd.underlying64 Tryd.underlying5 0 0 9 Tryd.underlying9]
    rw [List.length_eq_zero_iff.1 h0]; rfl
  · refine run_convert_bytes_back w 64 9 5 _ cap l Tryd.underlying64 Tryd.underlying5 Tryd.underlying9 ?_
    intro j hj
    exact World.ownsRow.cells h rfl j _ (cell_of l j hj)

/-- append(b, c): one byte more. -/
theorem owns_snoc {base : Nat} {v : Value} {l : List UInt8} {w : World} (c : UInt8)
    (h : w.ownsRow base 5 1 v (l.length + 1) ((Mb.cells l).map (Value.int .u8) ++ [.int .u8 (c.toNat : Int)])) : owns base v (l ++ [c]) w := by
  unfold owns; simpa [Mb.cells] using h
/-- Behind a call that only makes memory: all old cells, all old marks read as before. -/
theorem bcell {W w1 : World} (hb : Below W.heap.size W w1) : (∀ b o, b < W.heap.size → w1.cell? ⟨b, o, none⟩ = W.cell? ⟨b, o, none⟩) ∧ (∀ b o, b < W.heap.size → w1.frozen? ⟨b, o, none⟩ = W.frozen? ⟨b, o, none⟩) :=
  ⟨fun b o h => hb.cell (p := ⟨b, o, none⟩) h, fun b o h => hb.frozen (p := ⟨b, o, none⟩) h⟩
/-- A result of three cells that lies in the call's first block: it reads on behind whatever only makes memory. -/
theorem kept3 {w w2 : World} {a b c : Value} {T : TypeId} (hb : Below (w.heap.size + 1) (w.alloc (.cells #[a, b, c] T)) w2) :
    w2.cell? ⟨w.heap.size, 0, none⟩ = some a ∧ w2.cell? ⟨w.heap.size, 1, none⟩ = some b ∧ w2.cell? ⟨w.heap.size, 2, none⟩ = some c ∧ (∀ o, w2.frozen? ⟨w.heap.size, o, none⟩ = false) ∧ w.heap.size < w2.heap.size := by
  refine ⟨?_, ?_, ?_, fun o => ?_, ?_⟩
  · rw [hb.cell (p := ⟨w.heap.size, 0, none⟩) (Nat.lt_succ_self _)]; simp [go_sem]
  · rw [hb.cell (p := ⟨w.heap.size, 1, none⟩) (Nat.lt_succ_self _)]; simp [go_sem]
  · rw [hb.cell (p := ⟨w.heap.size, 2, none⟩) (Nat.lt_succ_self _)]; simp [go_sem]
  · rw [hb.frozen (p := ⟨w.heap.size, o, none⟩) (Nat.lt_succ_self _)]; simp [go_sem]
  · have := hb.size; simp at this; omega
theorem ret_val {a b : Value} (h : a = b) : Ending.returned a = .returned b := by rw [h]
end Go.Proofs.YtkpjdmmgdmbmnabDoor.C0
