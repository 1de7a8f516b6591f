/-
  A whole array out of a block and into one, as one step of a walk.
-/
import Derived.Test.YtkpjdmmgdmbmnabDoorC0
import Derived.Deep.WholeRow
import Derived.Deep.OwnRows
import Derived.Laws.CopyOwn
import Derived.Laws.ResultCell
namespace Go.Proofs.YtkpjdmmgdmbmnabDoor.C9
open Go.RowKit
open Go.Proofs.YtkpjdmmgdmbmnabDoor.C0
open Go.Deep (blk_alloc_lt blk_alloc_new nblk_alloc)
variable {P : Program}

theorem load_row (w : World) (g : Nat) (t ty : TypeId) (c : Array Value) (fr : Nat × Nat) (n : Nat) (e : TypeId) (hg : w.heap[g]? = some (.cells c ty fr)) (hu : P.underlying t = some (.array n e)) (hi : (P.info? t).map (·.size) = some c.size) :
    (Instr.loadAt t (.pointer (some ⟨g, 0, none⟩))).run P w = .ok (.agg c) w := by
  simp only [Instr.loadAt, Instr.sureAddr, Sem.run_bind, Sem.run_pure, Result.andThen]
  exact run_loadVar_row w g ty t c fr _ hg hu rfl hi
theorem store_row (w : World) (g : Nat) (t ty : TypeId) (old c : Array Value) (hg : w.heap[g]? = some (.cells old ty (0, 0))) (hi : (P.info? t).map (·.size) = some c.size) (ho : old.size = c.size) (h1 : c.all (·.oneCell') = true) :
    (Instr.storeAt t (.pointer (some ⟨g, 0, none⟩)) (.agg c)).run P w = .ok () (w.setRow g c) := by
  simp only [Instr.storeAt, Instr.sureAddr, Sem.run_bind, Sem.run_pure, Result.andThen]
  exact run_storeVar_row w g ty t old c hg hi ho h1
theorem wpList_load_whole {w : World} {ops : Array Oper} {rest : List Oper} {o : Oper} {a : Act} {Q : Exit → Act → World → Prop}
    (hg : o.guard = none) (t : TypeId) (p : Operand) (hop : o.op = Op.load t p) (ad : Addr) (hp : a.eval p = .pointer (some ad)) (v : Value)
    (hrun : (Instr.loadAt t (.pointer (some ad))).run P w = .ok v w) (hK : wpList P ops Q rest (a.put o.dst v) w) : wpList P ops Q (o :: rest) a w := by
  refine wpList_plain hg fun K hK' => ?_
  unfold Oper.wp
  simp [execOp, hop, hp, hrun, Result.andThen]
  exact hK' _ _ hK
theorem wpList_store_whole {w : World} {ops : Array Oper} {rest : List Oper} {o : Oper} {a : Act} {Q : Exit → Act → World → Prop}
    (hg : o.guard = none) (hd : o.dst = none) (t : TypeId) (p q : Operand) (hop : o.op = Op.store t p q) (ad : Addr) (hp : a.eval p = .pointer (some ad)) (v : Value) (hq : a.eval q = v) (w' : World)
    (hrun : (Instr.storeAt t (.pointer (some ad)) v).run P w = .ok () w') (hK : wpList P ops Q rest a w') : wpList P ops Q (o :: rest) a w := by
  refine wpList_plain hg fun K hK' => ?_
  unfold Oper.wp
  simp [execOp, hop, hp, hq, hrun, Result.andThen]
  refine hK' _ _ ?_
  rw [hd]
  exact hK
theorem results_row {fn : Func} {p : Tmp} {ty : TypeId} (h : fn.results = #[.cell p ty]) (tmps : Array Value) (w : World) (g : Nat) (t : TypeId) (c : Array Value) (fr : Nat × Nat) (n : Nat) (e : TypeId) (hp : tmps.getD p undef = .pointer (some ⟨g, 0, none⟩))
    (hg : w.heap[g]? = some (.cells c t fr)) (hu : P.underlying ty = some (.array n e)) (hi : (P.info? ty).map (·.size) = some c.size) :
    (results fn tmps).run P w = .ok (.agg c) w := by
  have hl := run_loadVar_row (P := P) w g t ty c fr _ hg hu rfl hi
  have hp' : tmps[p]?.getD undef = .pointer (some ⟨g, 0, none⟩) := by simpa using hp
  simp only [results, h]
  simp [hp', asAddr, hl]
/-- Two blocks that a call lays first, behind whatever only makes memory. -/
theorem two_laid {w w1 : World} {o1 o2 : Obj} (hb : Below ((w.alloc o1).alloc o2).heap.size ((w.alloc o1).alloc o2) w1) :
    w1.heap[w.heap.size]? = some o1 ∧ w1.heap[w.heap.size + 1]? = some o2 ∧ w.heap.size + 2 ≤ w1.heap.size ∧ Below w.heap.size w w1 := by
  have hs : ((w.alloc o1).alloc o2).heap.size = w.heap.size + 2 := by rw [nblk_alloc, nblk_alloc]
  have h1 : (w.alloc o1).heap.size = w.heap.size + 1 := nblk_alloc _ _
  refine ⟨?_, ?_, ?_, ?_⟩
  · rw [hb.block _ (by omega), blk_alloc_lt _ _ _ (by omega), blk_alloc_new]
  · rw [hb.block _ (by omega), ← h1, blk_alloc_new]
  · have := hb.size; omega
  · exact (((Below.refl _ _).alloc (Nat.le_refl _) _).alloc (by omega) _).trans (hb.mono (by omega))
end Go.Proofs.YtkpjdmmgdmbmnabDoor.C9
