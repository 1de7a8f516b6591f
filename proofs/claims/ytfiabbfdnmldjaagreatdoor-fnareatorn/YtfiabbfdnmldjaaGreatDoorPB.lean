/-
  C0 C9 S0 S1 S2 S3 S4 S5 S6: parts of the proof, one behind the other.
-/
import Derived.Test.YtfiabbfdnmldjaaGreatDoorChecked
import Derived.Test.YtfiabbfdnmldjaaGreatDoorPA
import Derived.WalkKit
import Derived.WalkSpells
import Derived.WalkLawsBesides
import Derived.Laws.IdiomStrings
import Derived.Laws.BytesArg
import Derived.Deep.WholeRow
import Derived.Deep.OwnRows
import Derived.Laws.CopyOwn
import Derived.Laws.ResultCell
import Derived.Deep.QuietTactic
import Derived.BigQuiet
import Derived.Deep.RegionWith
/-
  Small facts that the walks of this seat share: rows of bytes that the call itself makes, and the text that is made of such a row.
-/
namespace Go.Proofs.YtfiabbfdnmldjaaGreatDoor.C0
open Go.RowKit
theorem ret_int {k : IntKind} {a b : Int} (h : a = b) : Ending.returned (.int k a) = .returned (.int k b) := by rw [h]
theorem ret_str {a b : List UInt8} (h : a = b) : Ending.returned (.string ⟨a.toArray⟩) = .returned (.string ⟨b.toArray⟩) := by rw [h]
theorem info_u8 : (Tryz.prog.info? 5).map (fun i => (i.zero, i.size, i.bytes)) = some (some (.int .u8 0), 1, 1) := by kernel_rfl

/-- A row of bytes of the call's own. -/
def owns (base : Nat) (v : Value) (l : List UInt8) (w : World) : Prop := w.ownsRow base 5 1 v l.length ((Mb.cells l).map (Value.int .u8))

theorem owns_nil (base : Nat) (w : World) : owns base (.slice none 0 0) [] w := World.ownsRow_nil _ _ _ _
theorem owns_lit0 (base : Nat) (w : World) (hb : base ≤ w.heap.size) : owns base (.slice (some ⟨w.heap.size, 0, none⟩) 0 0) [] (w.alloc (.cells #[] 5)) :=
  World.ownsRow_lit w #[] 0 hb (by decide) rfl

theorem cell_of (l : List UInt8) (j : Nat) (hj : j < l.length) : ((Mb.cells l).map (Value.int .u8))[j]? = some (.int .u8 (l[j].toNat : Int)) := by
  simp [Mb.cells, hj]

/-- string(b), b a row of the call's own. -/
theorem conv_own {base : Nat} {v : Value} {l : List UInt8} {w : World} (h : owns base v l w) :
    (convert 22 9 v).run Tryz.prog w = .ok (.string ⟨l.toArray⟩) w := by
  rcases h.2 with ⟨rfl, h0⟩ | ⟨g, cap, cur, rfl, hb, hg, hnc, hcm, hcs, htake⟩
  · rw [run_convert_bytes_nil (w := w) 22 5 Tryz.underlying22 Tryz.underlying5 0 0 9 Tryz.underlying9]
    rw [List.length_eq_zero_iff.1 h0]; rfl
  · refine run_convert_bytes_back w 22 9 5 _ cap l Tryz.underlying22 Tryz.underlying5 Tryz.underlying9 ?_
    intro j hj
    exact World.ownsRow.cells h rfl j _ (cell_of l j hj)

/-- append(b, c): one byte more. -/
theorem owns_snoc {base : Nat} {v : Value} {l : List UInt8} {w : World} (c : UInt8)
    (h : w.ownsRow base 5 1 v (l.length + 1) ((Mb.cells l).map (Value.int .u8) ++ [.int .u8 (c.toNat : Int)])) : owns base v (l ++ [c]) w := by
  unfold owns; simpa [Mb.cells] using h
/-- Behind a call that only makes memory: all old cells, all old marks read as before. -/
theorem bcell {W w1 : World} (hb : Below W.heap.size W w1) : (∀ b o, b < W.heap.size → w1.cell? ⟨b, o, none⟩ = W.cell? ⟨b, o, none⟩) ∧ (∀ b o, b < W.heap.size → w1.frozen? ⟨b, o, none⟩ = W.frozen? ⟨b, o, none⟩) :=
  ⟨fun b o h => hb.cell (p := ⟨b, o, none⟩) h, fun b o h => hb.frozen (p := ⟨b, o, none⟩) h⟩
/-- A result of three cells that lies in the call's first block: it reads on behind whatever only makes memory. -/
theorem kept3 {w w2 : World} {a b c : Value} {T : TypeId} (hb : Below (w.heap.size + 1) (w.alloc (.cells #[a, b, c] T)) w2) :
    w2.cell? ⟨w.heap.size, 0, none⟩ = some a ∧ w2.cell? ⟨w.heap.size, 1, none⟩ = some b ∧ w2.cell? ⟨w.heap.size, 2, none⟩ = some c ∧ (∀ o, w2.frozen? ⟨w.heap.size, o, none⟩ = false) ∧ w.heap.size < w2.heap.size := by
  refine ⟨?_, ?_, ?_, fun o => ?_, ?_⟩
  · rw [hb.cell (p := ⟨w.heap.size, 0, none⟩) (Nat.lt_succ_self _)]; simp [go_sem]
  · rw [hb.cell (p := ⟨w.heap.size, 1, none⟩) (Nat.lt_succ_self _)]; simp [go_sem]
  · rw [hb.cell (p := ⟨w.heap.size, 2, none⟩) (Nat.lt_succ_self _)]; simp [go_sem]
  · rw [hb.frozen (p := ⟨w.heap.size, o, none⟩) (Nat.lt_succ_self _)]; simp [go_sem]
  · have := hb.size; simp at this; omega
theorem ret_val {a b : Value} (h : a = b) : Ending.returned a = .returned b := by rw [h]
end Go.Proofs.YtfiabbfdnmldjaaGreatDoor.C0

/-
  A whole array out of a block and into one, as one step of a walk.
-/
namespace Go.Proofs.YtfiabbfdnmldjaaGreatDoor.C9
open Go.RowKit
open Go.Proofs.YtfiabbfdnmldjaaGreatDoor.C0
open Go.Deep (blk_alloc_lt blk_alloc_new nblk_alloc)
variable {P : Program}

theorem load_row (w : World) (g : Nat) (t ty : TypeId) (c : Array Value) (fr : Nat × Nat) (n : Nat) (e : TypeId) (hg : w.heap[g]? = some (.cells c ty fr)) (hu : P.underlying t = some (.array n e)) (hi : (P.info? t).map (·.size) = some c.size) :
    (Instr.loadAt t (.pointer (some ⟨g, 0, none⟩))).run P w = .ok (.agg c) w := by
  simp only [Instr.loadAt, Instr.sureAddr, Sem.run_bind, Sem.run_pure, Result.andThen]
  exact run_loadVar_row w g ty t c fr _ hg hu rfl hi
theorem store_row (w : World) (g : Nat) (t ty : TypeId) (old c : Array Value) (hg : w.heap[g]? = some (.cells old ty (0, 0))) (hi : (P.info? t).map (·.size) = some c.size) (ho : old.size = c.size) (h1 : c.all (·.oneCell') = true) :
    (Instr.storeAt t (.pointer (some ⟨g, 0, none⟩)) (.agg c)).run P w = .ok () (w.setRow g c) := by
  simp only [Instr.storeAt, Instr.sureAddr, Sem.run_bind, Sem.run_pure, Result.andThen]
  exact run_storeVar_row w g ty t old c hg hi ho h1
theorem wpList_load_whole {w : World} {ops : Array Oper} {rest : List Oper} {o : Oper} {a : Act} {Q : Exit → Act → World → Prop}
    (hg : o.guard = none) (t : TypeId) (p : Operand) (hop : o.op = Op.load t p) (ad : Addr) (hp : a.eval p = .pointer (some ad)) (v : Value)
    (hrun : (Instr.loadAt t (.pointer (some ad))).run P w = .ok v w) (hK : wpList P ops Q rest (a.put o.dst v) w) : wpList P ops Q (o :: rest) a w := by
  refine wpList_plain hg fun K hK' => ?_
  unfold Oper.wp
  simp [execOp, hop, hp, hrun, Result.andThen]
  exact hK' _ _ hK
theorem wpList_store_whole {w : World} {ops : Array Oper} {rest : List Oper} {o : Oper} {a : Act} {Q : Exit → Act → World → Prop}
    (hg : o.guard = none) (hd : o.dst = none) (t : TypeId) (p q : Operand) (hop : o.op = Op.store t p q) (ad : Addr) (hp : a.eval p = .pointer (some ad)) (v : Value) (hq : a.eval q = v) (w' : World)
    (hrun : (Instr.storeAt t (.pointer (some ad)) v).run P w = .ok () w') (hK : wpList P ops Q rest a w') : wpList P ops Q (o :: rest) a w := by
  refine wpList_plain hg fun K hK' => ?_
  unfold Oper.wp
  simp [execOp, hop, hp, hq, hrun, Result.andThen]
  refine hK' _ _ ?_
  rw [hd]
  exact hK
theorem results_row {fn : Func} {p : Tmp} {ty : TypeId} (h : fn.results = #[.cell p ty]) (tmps : Array Value) (w : World) (g : Nat) (t : TypeId) (c : Array Value) (fr : Nat × Nat) (n : Nat) (e : TypeId) (hp : tmps.getD p undef = .pointer (some ⟨g, 0, none⟩))
    (hg : w.heap[g]? = some (.cells c t fr)) (hu : P.underlying ty = some (.array n e)) (hi : (P.info? ty).map (·.size) = some c.size) :
    (results fn tmps).run P w = .ok (.agg c) w := by
  have hl := run_loadVar_row (P := P) w g t ty c fr _ hg hu rfl hi
  have hp' : tmps[p]?.getD undef = .pointer (some ⟨g, 0, none⟩) := by simpa using hp
  simp only [results, h]
  simp [hp', asAddr, hl]
/-- Two blocks that a call lays first, behind whatever only makes memory. -/
theorem two_laid {w w1 : World} {o1 o2 : Obj} (hb : Below ((w.alloc o1).alloc o2).heap.size ((w.alloc o1).alloc o2) w1) :
    w1.heap[w.heap.size]? = some o1 ∧ w1.heap[w.heap.size + 1]? = some o2 ∧ w.heap.size + 2 ≤ w1.heap.size ∧ Below w.heap.size w w1 := by
  have hs : ((w.alloc o1).alloc o2).heap.size = w.heap.size + 2 := by rw [nblk_alloc, nblk_alloc]
  have h1 : (w.alloc o1).heap.size = w.heap.size + 1 := nblk_alloc _ _
  refine ⟨?_, ?_, ?_, ?_⟩
  · rw [hb.block _ (by omega), blk_alloc_lt _ _ _ (by omega), blk_alloc_new]
  · rw [hb.block _ (by omega), ← h1, blk_alloc_new]
  · have := hb.size; omega
  · exact (((Below.refl _ _).alloc (Nat.le_refl _) _).alloc (by omega) _).trans (hb.mono (by omega))
end Go.Proofs.YtfiabbfdnmldjaaGreatDoor.C9

/-
  Rows of texts, rows of what is pending: how they lie in memory, and which of them are the call's own.
-/
namespace Go.Proofs.YtfiabbfdnmldjaaGreatDoor.S0
open Go.RowKit
open Go.Proofs.YtfiabbfdnmldjaaGreatDoor.C0
open Go.Deep (blk_alloc_lt blk_alloc_new nblk_alloc)

abbrev Pend := Int × ByteArray
theorem add0 (b off j : Nat) : (⟨b, off, none⟩ : Addr).add j = ⟨b, off + j, none⟩ := by unfold Addr.add; split <;> simp_all

/-- A slice of texts that reads as l. -/
def Strs (w : World) (v : Value) (l : List ByteArray) : Prop :=
  ∃ (a : Option Addr) (cap : Nat), v = .slice a l.length cap ∧ l.length ≤ maxLen ∧
    (0 < l.length → ∃ b off, a = some ⟨b, off, none⟩ ∧ b < w.heap.size ∧ ∀ i s, l[i]? = some s → w.cell? ⟨b, off + i, none⟩ = some (.string s))
/-- A slice of Pending that reads as l. -/
def Pends (w : World) (v : Value) (l : List Pend) : Prop :=
  ∃ (a : Option Addr) (cap : Nat), v = .slice a l.length cap ∧ l.length ≤ maxLen ∧
    (0 < l.length → ∃ b off, a = some ⟨b, off, none⟩ ∧ b < w.heap.size ∧
      ∀ i s, l[i]? = some s → w.cell? ⟨b, off + i * 2, none⟩ = some (.int .i64 s.1) ∧ w.cell? ⟨b, off + i * 2 + 1, none⟩ = some (.string s.2))

/-- What was written between w and w' lies in new blocks, or in those of S. -/
structure Wrote (S : Nat → Prop) (w w' : World) : Prop where
  os : w'.os = w.os
  tape : w'.tape = w.tape
  output : w'.output = w.output
  size : w.heap.size ≤ w'.heap.size
  block : ∀ k, k < w.heap.size → ¬ S k → w'.heap[k]? = w.heap[k]?
theorem Wrote.refl (S : Nat → Prop) (w : World) : Wrote S w w := ⟨rfl, rfl, rfl, Nat.le_refl _, fun _ _ _ => rfl⟩
theorem Wrote.trans {S : Nat → Prop} {a b c : World} (h : Wrote S a b) (k : Wrote S b c) : Wrote S a c :=
  ⟨k.os.trans h.os, k.tape.trans h.tape, k.output.trans h.output, Nat.le_trans h.size k.size, fun i hi hs => (k.block i (Nat.lt_of_lt_of_le hi h.size) hs).trans (h.block i hi hs)⟩
theorem Wrote.of_below {S : Nat → Prop} {a b : World} (h : Below a.heap.size a b) : Wrote S a b := ⟨h.os, h.tape, h.output, h.size, fun k hk _ => h.block k hk⟩
theorem Wrote.below {S : Nat → Prop} {a b : World} {B : Nat} (h : Wrote S a b) (hB : B ≤ a.heap.size) (hS : ∀ k, S k → B ≤ k) : Below B a b :=
  ⟨h.os, h.tape, h.output, h.size, fun k hk => h.block k (by omega) (fun hs => by have := hS k hs; omega)⟩
theorem Wrote.mono {S S' : Nat → Prop} {a b : World} (h : Wrote S a b) (hS : ∀ k, S k → S' k) : Wrote S' a b :=
  ⟨h.os, h.tape, h.output, h.size, fun k hk hs => h.block k hk (fun q => hs (hS k q))⟩
theorem Wrote.of_grown {S : Nat → Prop} {a b : World} {row : Option Nat} (h : a.grownBy b row) (hS : ∀ k, row = some k → S k) : Wrote S a b :=
  ⟨h.os, h.tape, h.output, h.size, fun k hk hs => h.block k hk (fun e => hs (hS k e.symm))⟩
theorem Wrote.alloc {S : Nat → Prop} {a b : World} (h : Wrote S a b) (o : Obj) : Wrote S a (b.alloc o) :=
  h.trans (Wrote.of_below ((Below.refl _ _).alloc (Nat.le_refl _) o))
theorem Wrote.setCell {S : Nat → Prop} {a b : World} (h : Wrote S a b) {p : Addr} (hp : a.heap.size ≤ p.block ∨ S p.block) (u : Value) : Wrote S a (b.setCell p u) :=
  ⟨h.os, h.tape, h.output, by simpa [World.setCell] using h.size, fun k hk hs => by
    have hne : k ≠ p.block := by
      intro e
      rcases hp with hp | hp
      · omega
      · exact hs (e ▸ hp)
    rw [Below.heap_setCell _ _ _ _ hne]; exact h.block k hk hs⟩
theorem Wrote.drew {S : Nat → Prop} {a b : World} (h : Wrote S a b) : Wrote S a b.drew := ⟨h.os, h.tape, h.output, h.size, h.block⟩

theorem Strs.keep {w w' : World} {v : Value} {l : List ByteArray} (h : Strs w v l) (hz : w.heap.size ≤ w'.heap.size) (hk : ∀ g, v.ownBlock = some g → g < w.heap.size → w'.heap[g]? = w.heap[g]?) : Strs w' v l := by
  obtain ⟨a, cap, rfl, hl, hc⟩ := h
  refine ⟨a, cap, rfl, hl, fun h0 => ?_⟩
  obtain ⟨b, off, rfl, hb, hcc⟩ := hc h0
  exact ⟨b, off, rfl, by omega, fun i s hs => by rw [World.cell?_of_block (w := w) (hk b rfl hb)]; exact hcc i s hs⟩
theorem Strs.below {w w' : World} {v : Value} {l : List ByteArray} (h : Strs w v l) (hb : Below w.heap.size w w') : Strs w' v l :=
  h.keep hb.size fun g _ hg => hb.block g hg
theorem Strs.alloc {w : World} {v : Value} {l : List ByteArray} (h : Strs w v l) (o : Obj) : Strs (w.alloc o) v l := h.below ((Below.refl _ _).alloc (Nat.le_refl _) o)
theorem Strs.touch {S : Nat → Prop} {w w' : World} {v : Value} {l : List ByteArray} (h : Strs w v l) (ht : Wrote S w w') (hS : ∀ g, v.ownBlock = some g → ¬ S g) : Strs w' v l :=
  h.keep ht.size fun g hv hg => ht.block g hg (hS g hv)
theorem Pends.keep {w w' : World} {v : Value} {l : List Pend} (h : Pends w v l) (hz : w.heap.size ≤ w'.heap.size) (hk : ∀ g, v.ownBlock = some g → g < w.heap.size → w'.heap[g]? = w.heap[g]?) : Pends w' v l := by
  obtain ⟨a, cap, rfl, hl, hc⟩ := h
  refine ⟨a, cap, rfl, hl, fun h0 => ?_⟩
  obtain ⟨b, off, rfl, hb, hcc⟩ := hc h0
  exact ⟨b, off, rfl, by omega, fun i s hs => ⟨(World.cell?_of_block (w := w) (a := ⟨b, off + i * 2, none⟩) (hk b rfl hb)).trans (hcc i s hs).1, (World.cell?_of_block (w := w) (a := ⟨b, off + i * 2 + 1, none⟩) (hk b rfl hb)).trans (hcc i s hs).2⟩⟩
theorem Pends.below {w w' : World} {v : Value} {l : List Pend} (h : Pends w v l) (hb : Below w.heap.size w w') : Pends w' v l :=
  h.keep hb.size fun g _ hg => hb.block g hg
theorem Pends.alloc {w : World} {v : Value} {l : List Pend} (h : Pends w v l) (o : Obj) : Pends (w.alloc o) v l := h.below ((Below.refl _ _).alloc (Nat.le_refl _) o)
theorem Pends.touch {S : Nat → Prop} {w w' : World} {v : Value} {l : List Pend} (h : Pends w v l) (ht : Wrote S w w') (hS : ∀ g, v.ownBlock = some g → ¬ S g) : Pends w' v l :=
  h.keep ht.size fun g hv hg => ht.block g hg (hS g hv)

/-- The cells of a row of texts, of a row of Pending. -/
def cs (l : List ByteArray) : List Value := l.map .string
def cp (l : List Pend) : List Value := l.flatMap fun p => [.int .i64 p.1, .string p.2]
theorem cs_length (l : List ByteArray) : (cs l).length = l.length * 1 := by simp [cs]
theorem cp_length (l : List Pend) : (cp l).length = l.length * 2 := by
  induction l with
  | nil => rfl
  | cons p l ih => simp only [cp, List.flatMap_cons, List.length_append, List.length_cons, List.length_nil] at ih ⊢; omega
theorem cp_at (l : List Pend) : ∀ (i : Nat) (p : Pend), l[i]? = some p → (cp l)[i * 2]? = some (.int .i64 p.1) ∧ (cp l)[i * 2 + 1]? = some (.string p.2) := by
  induction l with
  | nil => intro i p h; simp at h
  | cons q l ih =>
    intro i p h
    cases i with
    | zero => simp at h; subst h; simp [cp]
    | succ i =>
      have := ih i p (by simpa using h)
      rw [show (i + 1) * 2 = i * 2 + 2 by omega]
      simpa [cp] using this
def OStrs (B : Nat) (w : World) (v : Value) (l : List ByteArray) : Prop := w.ownsRow B 9 1 v l.length (cs l)
def OPends (B : Nat) (w : World) (v : Value) (l : List Pend) : Prop := w.ownsRow B 82 2 v l.length (cp l)

theorem OStrs.strs {B : Nat} {w : World} {v : Value} {l : List ByteArray} (h : OStrs B w v l) : Strs w v l := by
  have h' := h
  rcases h.2 with ⟨rfl, h0⟩ | ⟨g, cap, cur, rfl, hb, hg, hnc, hcm, hcs, htake⟩
  · exact ⟨none, 0, by rw [h0], by rw [h0]; exact Nat.zero_le _, fun q => by omega⟩
  · refine ⟨_, cap, rfl, by omega, fun _ => ⟨g, 0, rfl, (Array.getElem?_eq_some_iff.1 hg).1, fun i s hs => ?_⟩⟩
    have := World.ownsRow.cells h' rfl i (.string s) (by simp [cs, hs])
    rwa [add0] at this
theorem OPends.pends {B : Nat} {w : World} {v : Value} {l : List Pend} (h : OPends B w v l) : Pends w v l := by
  have h' := h
  rcases h.2 with ⟨rfl, h0⟩ | ⟨g, cap, cur, rfl, hb, hg, hnc, hcm, hcs, htake⟩
  · exact ⟨none, 0, by rw [h0], by rw [h0]; exact Nat.zero_le _, fun q => by omega⟩
  · refine ⟨_, cap, rfl, by omega, fun _ => ⟨g, 0, rfl, (Array.getElem?_eq_some_iff.1 hg).1, fun i s hs => ?_⟩⟩
    have h2 := cp_at l i s hs
    have h3 := World.ownsRow.cells h' rfl _ _ h2.1
    have h4 := World.ownsRow.cells h' rfl _ _ h2.2
    rw [add0] at h3 h4
    exact ⟨h3, by rw [Nat.add_assoc]; exact h4⟩
theorem own_keep {B : Nat} {e : TypeId} {sz n : Nat} {xs : List Value} {w w' : World} {v : Value} (h : w.ownsRow B e sz v n xs) (hk : ∀ g, v.ownBlock = some g → w'.heap[g]? = w.heap[g]?) : w'.ownsRow B e sz v n xs := by
  refine ⟨h.1, ?_⟩
  rcases h.2 with hn | ⟨g, cap, cur, rfl, hb, hg, rest⟩
  · exact .inl hn
  · exact .inr ⟨g, cap, cur, rfl, hb, (hk g rfl).trans hg, rest⟩
theorem OStrs.below {B : Nat} {w w' : World} {v : Value} {l : List ByteArray} (h : OStrs B w v l) (hb : Below w.heap.size w w') : OStrs B w' v l :=
  own_keep h fun g hg => hb.block g (h.lt g hg).2
theorem OPends.below {B : Nat} {w w' : World} {v : Value} {l : List Pend} (h : OPends B w v l) (hb : Below w.heap.size w w') : OPends B w' v l :=
  own_keep h fun g hg => hb.block g (h.lt g hg).2
theorem OStrs.touch {S : Nat → Prop} {B : Nat} {w w' : World} {v : Value} {l : List ByteArray} (h : OStrs B w v l) (ht : Wrote S w w') (hS : ∀ g, v.ownBlock = some g → ¬ S g) : OStrs B w' v l :=
  own_keep h fun g hg => ht.block g (h.lt g hg).2 (hS g hg)
theorem OPends.touch {S : Nat → Prop} {B : Nat} {w w' : World} {v : Value} {l : List Pend} (h : OPends B w v l) (ht : Wrote S w w') (hS : ∀ g, v.ownBlock = some g → ¬ S g) : OPends B w' v l :=
  own_keep h fun g hg => ht.block g (h.lt g hg).2 (hS g hg)
theorem OStrs.mono {B B' : Nat} {w : World} {v : Value} {l : List ByteArray} (h : OStrs B w v l) (hb : B' ≤ B) : OStrs B' w v l := by
  refine ⟨h.1, ?_⟩
  rcases h.2 with hn | ⟨g, cap, cur, rfl, hb', rest⟩
  · exact .inl hn
  · exact .inr ⟨g, cap, cur, rfl, by omega, rest⟩
theorem OPends.mono {B B' : Nat} {w : World} {v : Value} {l : List Pend} (h : OPends B w v l) (hb : B' ≤ B) : OPends B' w v l := by
  refine ⟨h.1, ?_⟩
  rcases h.2 with hn | ⟨g, cap, cur, rfl, hb', rest⟩
  · exact .inl hn
  · exact .inr ⟨g, cap, cur, rfl, by omega, rest⟩
/-- A row of texts and a row of Pending never lie in one block. -/
theorem own_apart {B B' : Nat} {w : World} {v u : Value} {l : List ByteArray} {m : List Pend} (h : OStrs B w v l) (k : OPends B' w u m) : ∀ g, v.ownBlock = some g → u.ownBlock ≠ some g := by
  intro g hg hu
  rcases h.2 with ⟨rfl, _⟩ | ⟨g1, cap, cur, rfl, hb, hg1, _⟩
  · simp [Value.ownBlock] at hg
  · rcases k.2 with ⟨rfl, _⟩ | ⟨g2, cap2, cur2, rfl, hb2, hg2, _⟩
    · simp [Value.ownBlock] at hu
    · simp [Value.ownBlock] at hg hu
      subst hg; subst hu
      rw [hg1] at hg2
      simp at hg2
theorem Strs.len {w : World} {v : Value} {l : List ByteArray} (h : Strs w v l) : ∃ a cap, v = .slice a l.length cap := by
  obtain ⟨a, cap, e, _⟩ := h; exact ⟨a, cap, e⟩
/-- Behind a store below B, whatever was the call's own from B on stays. -/
theorem OStrs.set {B : Nat} {w : World} {v : Value} {l : List ByteArray} (h : OStrs B w v l) {p : Addr} (hp : p.block < B) (u : Value) : OStrs B (w.setCell p u) v l :=
  own_keep h fun g hg => Below.heap_setCell _ _ _ _ (by have := (h.lt g hg).1; omega)
theorem OPends.set {B : Nat} {w : World} {v : Value} {l : List Pend} (h : OPends B w v l) {p : Addr} (hp : p.block < B) (u : Value) : OPends B (w.setCell p u) v l :=
  own_keep h fun g hg => Below.heap_setCell _ _ _ _ (by have := (h.lt g hg).1; omega)
/-- A disk of the call's own, from block B on. -/
def ODisk (B : Nat) (w : World) (vs vp : Value) (ss : List ByteArray) (ps : List Pend) : Prop := OStrs B w vs ss ∧ OPends B w vp ps
theorem ODisk.below {B : Nat} {w w' : World} {vs vp : Value} {ss : List ByteArray} {ps : List Pend} (h : ODisk B w vs vp ss ps) (hb : Below w.heap.size w w') : ODisk B w' vs vp ss ps := ⟨h.1.below hb, h.2.below hb⟩
theorem ODisk.mono {B B' : Nat} {w : World} {vs vp : Value} {ss : List ByteArray} {ps : List Pend} (h : ODisk B w vs vp ss ps) (hb : B' ≤ B) : ODisk B' w vs vp ss ps := ⟨h.1.mono hb, h.2.mono hb⟩
/-- What a block of so many cells holds. -/
theorem blk2 {w : World} {g : Nat} {a b : Value} {T : TypeId} (h : w.heap[g]? = some (.cells #[a, b] T (0, 0))) : w.cell? ⟨g, 0, none⟩ = some a ∧ w.cell? ⟨g, 1, none⟩ = some b ∧ (∀ o, w.frozen? ⟨g, o, none⟩ = false) ∧ g < w.heap.size :=
  ⟨by simp [World.cell?, h], by simp [World.cell?, h], fun o => by simp [World.frozen?, h], (Array.getElem?_eq_some_iff.1 h).1⟩
theorem blk3 {w : World} {g : Nat} {a b c : Value} {T : TypeId} (h : w.heap[g]? = some (.cells #[a, b, c] T (0, 0))) : w.cell? ⟨g, 0, none⟩ = some a ∧ w.cell? ⟨g, 1, none⟩ = some b ∧ w.cell? ⟨g, 2, none⟩ = some c ∧ (∀ o, w.frozen? ⟨g, o, none⟩ = false) ∧ g < w.heap.size :=
  ⟨by simp [World.cell?, h], by simp [World.cell?, h], by simp [World.cell?, h], fun o => by simp [World.frozen?, h], (Array.getElem?_eq_some_iff.1 h).1⟩
theorem blk4 {w : World} {g : Nat} {a b c d : Value} {T : TypeId} (h : w.heap[g]? = some (.cells #[a, b, c, d] T (0, 0))) : w.cell? ⟨g, 0, none⟩ = some a ∧ w.cell? ⟨g, 1, none⟩ = some b ∧ w.cell? ⟨g, 2, none⟩ = some c ∧ w.cell? ⟨g, 3, none⟩ = some d ∧ (∀ o, w.frozen? ⟨g, o, none⟩ = false) ∧ g < w.heap.size :=
  ⟨by simp [World.cell?, h], by simp [World.cell?, h], by simp [World.cell?, h], by simp [World.cell?, h], fun o => by simp [World.frozen?, h], (Array.getElem?_eq_some_iff.1 h).1⟩
end Go.Proofs.YtfiabbfdnmldjaaGreatDoor.S0

/-
  How great a disk that came in is: the laws' own measure.
-/
namespace Go.Proofs.YtfiabbfdnmldjaaGreatDoor.S1
open Go.RowKit
open Go.Proofs.YtfiabbfdnmldjaaGreatDoor.C0 Go.Proofs.YtfiabbfdnmldjaaGreatDoor.S0

/-- What a measure that has not run out says of a row of texts. -/
def okS (l : List ByteArray) (left r : Int) : Prop := r < 0 ∨ (0 ≤ r ∧ r ≤ left ∧ (l.length : Int) ≤ left ∧ ∀ s ∈ l, (s.size : Int) ≤ left)
theorem get_take_succ {α : Type} (l : List α) (k : Nat) (x : α) (h : l[k]? = some x) : l.take (k + 1) = l.take k ++ [x] := by
  rw [List.take_add_one, h]; rfl
set_option maxRecDepth 100000 in
set_option maxHeartbeats 800000 in
theorem szStrs_any (v : Value) (l : List ByteArray) (left : Int) (w : World) (hv : Strs w v l) (hz : ∀ s ∈ l, s.size ≤ maxLen) (h0 : 0 ≤ left) (h1 : left ≤ 1048576) :
    Calls Tryz.prog 57 #[v, .int .i64 left] w fun e w' => ∃ r, e = .returned (.int .i64 r) ∧ okS l left r ∧ w' = w := by
  obtain ⟨a, cap, rfl, hl, hc⟩ := hv
  unfold maxLen at hl hz
  by_cases hb : left < l.length
  · go_enter Tryz.func57, Tryz.ntmps57
    go_wp2
    go_ret
    exact ⟨_, rfl, .inl (by omega), rfl⟩
  go_enter Tryz.func57, Tryz.ntmps57
  go_wp2
  go_loop [1, 5] (fun q i => ∃ k : Nat, k ≤ l.length ∧ i = .int .i64 k ∧ ∃ r : Int, q = .int .i64 r ∧ 0 ≤ r ∧ r ≤ left ∧ ∀ s ∈ l.take k, (s.size : Int) ≤ left) (fun _ i => l.length - (intOf i).toNat)
  case atStart => exact ⟨0, Nat.zero_le _, rfl, _, rfl, by omega, by omega, by simp⟩
  case round =>
    obtain ⟨k, hk, rfl, r, rfl, hr0, hr1, hrs⟩ := hrel
    by_cases hlt : k < l.length
    · obtain ⟨b, off, rfl, hbb, hcc⟩ := hc (by omega)
      obtain ⟨s, hs⟩ : ∃ s, l[k]? = some s := ⟨_, List.getElem?_eq_getElem hlt⟩
      have hcell := hcc k s hs
      have hsz := hz s (List.mem_of_getElem? hs)
      have HS : Hid (l[k]? = some s) := hs
      clear hs hcc
      go_wp2
      · go_ret
        exact ⟨_, rfl, .inl (by omega), rfl⟩
      · go_round
        case rel => 
          refine ⟨k + 1, by omega, by go_num, _, rfl, by omega, by omega, ?_⟩
          rw [get_take_succ l k s HS.out]
          intro x hx
          rcases List.mem_append.1 hx with h | h
          · exact hrs x h
          · simp at h; subst h; omega
        case measure => simp [intOf]; omega
    · go_wp2
      go_ret
      refine ⟨_, rfl, .inr ⟨by omega, by omega, by omega, ?_⟩, rfl⟩
      rw [List.take_of_length_le (by omega)] at hrs
      exact hrs

def okOne (s : ByteArray) (left r : Int) : Prop := r < 0 ∨ (0 ≤ r ∧ r ≤ left ∧ (s.size : Int) ≤ left)
set_option maxRecDepth 100000 in
theorem szPend_any (at_ : Int) (s : ByteArray) (left : Int) (w : World) (hz : s.size ≤ maxLen) (h0 : 0 ≤ left) (h1 : left ≤ 1048576) :
    Calls Tryz.prog 89 #[.agg #[.int .i64 at_, .string s], .int .i64 left] w fun e w' => ∃ r, e = .returned (.int .i64 r) ∧ okOne s left r ∧ Below w.heap.size w w' := by
  unfold maxLen at hz
  by_cases hb : left < s.size
  · go_enter Tryz.func89, Tryz.ntmps89
    go_wp2
    go_ret
    exact ⟨_, rfl, .inl (by omega), (Below.refl _ _).alloc (Nat.le_refl _) _⟩
  · go_enter Tryz.func89, Tryz.ntmps89
    go_wp2
    go_ret
    exact ⟨_, rfl, .inr ⟨by omega, by omega, by omega⟩, (Below.refl _ _).alloc (Nat.le_refl _) _⟩
def RelP (l : List Pend) (left : Int) (w : World) (q i : Value) (wr : World) : Prop :=
  ∃ (k : Nat) (r : Int), k ≤ l.length ∧ i = .int .i64 k ∧ q = .int .i64 r ∧ 0 ≤ r ∧ r ≤ left ∧ (∀ s ∈ l.take k, (s.2.size : Int) ≤ left) ∧ Below w.heap.size w wr
def okP (l : List Pend) (left r : Int) : Prop := r < 0 ∨ (0 ≤ r ∧ r ≤ left ∧ (l.length : Int) ≤ left ∧ ∀ s ∈ l, (s.2.size : Int) ≤ left)
set_option maxRecDepth 100000 in
set_option maxHeartbeats 800000 in
theorem szPends_any (v : Value) (l : List Pend) (left : Int) (w : World) (hv : Pends w v l) (hz : ∀ s ∈ l, s.2.size ≤ maxLen) (h0 : 0 ≤ left) (h1 : left ≤ 1048576) :
    Calls Tryz.prog 58 #[v, .int .i64 left] w fun e w' => ∃ r, e = .returned (.int .i64 r) ∧ okP l left r ∧ Below w.heap.size w w' := by
  obtain ⟨a, cap, rfl, hl, hc⟩ := hv
  unfold maxLen at hl
  by_cases hb : left < l.length
  · go_enter Tryz.func58, Tryz.ntmps58
    go_wp2
    go_ret
    exact ⟨_, rfl, .inl (by omega), Below.refl _ _⟩
  go_enter Tryz.func58, Tryz.ntmps58
  go_wp2
  go_loopw [1, 5] (fun q i wr => RelP l left w q i wr) (fun _ i _ => l.length - (intOf i).toNat)
  case atStart => exact ⟨0, _, Nat.zero_le _, rfl, rfl, by omega, by omega, by simp, Below.refl _ _⟩
  case round =>
    obtain ⟨k, r, hk, rfl, rfl, hr0, hr1, hrs, hbel⟩ := hrel
    by_cases hlt : k < l.length
    · obtain ⟨b, off, rfl, hbb, hcc⟩ := hc (by omega)
      obtain ⟨s, hs⟩ : ∃ s, l[k]? = some s := ⟨_, List.getElem?_eq_getElem hlt⟩
      obtain ⟨c0, c1⟩ := hcc k s hs
      rw [← hbel.cell (p := ⟨b, off + k * 2, none⟩) hbb] at c0
      rw [← hbel.cell (p := ⟨b, off + k * 2 + 1, none⟩) hbb] at c1
      have hsz := hz s (List.mem_of_getElem? hs)
      have HS : Hid (l[k]? = some s) := hs
      clear hs hcc
      go_wp2_with (first | (go_at_call 89; refine (szPend_any _ _ _ _ hsz hr0 (by omega)).mono ?_; rintro e w1 ⟨r', rfl, hr', hbel1⟩))
      all_goals (unfold okOne at hr')
      · go_ret
        exact ⟨_, rfl, .inl (by omega), hbel.trans (hbel1.mono hbel.size)⟩
      · go_roundw
        case rel => 
          refine ⟨k + 1, _, by omega, by go_num, rfl, by omega, by omega, ?_, hbel.trans (hbel1.mono hbel.size)⟩
          rw [get_take_succ l k s HS.out]
          intro x hx
          rcases List.mem_append.1 hx with h | h
          · exact hrs x h
          · simp at h; subst h; omega
        case measure => simp [intOf]; omega
    · go_wp2
      go_ret
      refine ⟨_, rfl, .inr ⟨by omega, by omega, by omega, ?_⟩, hbel⟩
      rw [List.take_of_length_le (by omega)] at hrs
      exact hrs
/-- What the measure says of a disk. -/
def okD (ss : List ByteArray) (ps : List Pend) (r : Int) : Prop :=
  r < 0 ∨ (0 ≤ r ∧ ss.length ≤ 1048576 ∧ ps.length ≤ 1048576 ∧ (∀ s ∈ ss, s.size ≤ 1048576) ∧ ∀ p ∈ ps, p.2.size ≤ 1048576)
set_option maxRecDepth 100000 in
set_option maxHeartbeats 800000 in
theorem szDisk_any (vs vp : Value) (ss : List ByteArray) (ps : List Pend) (w : World) (hs : Strs w vs ss) (hp : Pends w vp ps) (hz : ∀ s ∈ ss, s.size ≤ maxLen) (hzp : ∀ s ∈ ps, s.2.size ≤ maxLen) :
    Calls Tryz.prog 21 #[.agg #[vs, vp], .int .i64 1048576] w fun e w' => ∃ r, e = .returned (.int .i64 r) ∧ okD ss ps r ∧ Below w.heap.size w w' := by
  have hbox : Below w.heap.size w (w.alloc (.cells #[vs, vp] 44)) := (Below.refl _ _).alloc (Nat.le_refl _) _
  go_enter Tryz.func21, Tryz.ntmps21
  go_wp2_with (first | (go_at_call 57; refine (szStrs_any _ ss 1048576 _ (hs.below hbox) hz (by omega) (by omega)).mono ?_; rintro e w1 ⟨r, rfl, hr, rfl⟩) | (go_at_call 58; refine (szPends_any _ ps _ _ (hp.below hbox) hzp (by omega) (by unfold okS at hr; omega)).mono ?_; rintro e w1 ⟨r', rfl, hr', hb1⟩))
  · go_ret
    exact ⟨_, rfl, .inl (by omega), hbox⟩
  · go_ret
    exact ⟨_, rfl, .inl (by omega), hbox.trans (hb1.mono hbox.size)⟩
  · go_ret
    rcases hr with hr | ⟨hr0, hr1, hr2, hr3⟩
    · omega
    rcases hr' with hr' | ⟨hp0, hp1, hp2, hp3⟩
    · omega
    exact ⟨_, rfl, .inr ⟨hp0, by omega, by omega, fun s h => by have := hr3 s h; omega, fun s h => by have := hp3 s h; omega⟩, hbox.trans (hb1.mono hbox.size)⟩
end Go.Proofs.YtfiabbfdnmldjaaGreatDoor.S1

/-
  A disk of the laws' own kind turned into one of the program's: new rows, cell by cell.
-/
namespace Go.Proofs.YtfiabbfdnmldjaaGreatDoor.S2
open Go.RowKit
open Go.Proofs.YtfiabbfdnmldjaaGreatDoor.C0 Go.Proofs.YtfiabbfdnmldjaaGreatDoor.S0 Go.Proofs.YtfiabbfdnmldjaaGreatDoor.S1

theorem info_str : (Tryz.prog.info? 9).map (fun i => (i.zero, i.size, i.bytes)) = some (some (.string ⟨#[]⟩), 1, 16) := by kernel_rfl
theorem info_pend : (Tryz.prog.info? 82).map (fun i => (i.zero, i.size, i.bytes)) = some (some (.agg #[.int .i64 0, .string ⟨#[]⟩]), 2, 24) := by kernel_rfl

theorem ostrs_of_row {B b : Nat} {w : World} {l : List ByteArray} {f : Nat → Value} (h : w.rowIs b 9 l.length f) (hf : ∀ i s, l[i]? = some s → f i = .string s) (hB : B ≤ b) (hm : l.length ≤ maxLen) :
    OStrs B w (.slice (some ⟨b, 0, none⟩) l.length l.length) l := by
  obtain ⟨c, hb, hn, hc⟩ := h
  refine ⟨cs_length l, .inr ⟨b, l.length, c, rfl, hB, hb, Nat.le_refl _, hm, by omega, ?_⟩⟩
  apply List.ext_getElem?
  intro i
  rw [List.getElem?_take]
  by_cases hi : i < l.length
  · obtain ⟨s, hs⟩ : ∃ s, l[i]? = some s := ⟨_, List.getElem?_eq_getElem hi⟩
    rw [if_pos (by omega)]
    have := hc i hi
    rw [hf i s hs] at this
    simp [cs, hs] at this ⊢
    exact this
  · rw [if_neg (by omega), List.getElem?_eq_none (by rw [cs_length]; omega)]
theorem opends_of_row {B b : Nat} {w : World} {l : List Pend} {f : Nat → Value} (h : w.rowIs b 82 (l.length * 2) f) (hf : ∀ i s, l[i]? = some s → f (i * 2) = .int .i64 s.1 ∧ f (i * 2 + 1) = .string s.2) (hB : B ≤ b) (hm : l.length ≤ maxLen) :
    OPends B w (.slice (some ⟨b, 0, none⟩) l.length l.length) l := by
  obtain ⟨c, hb, hn, hc⟩ := h
  refine ⟨cp_length l, .inr ⟨b, l.length, c, rfl, hB, hb, Nat.le_refl _, hm, by omega, ?_⟩⟩
  apply List.ext_getElem?
  intro i
  rw [List.getElem?_take]
  by_cases hi : i < l.length * 2
  · rw [if_pos hi]
    obtain ⟨s, hs⟩ : ∃ s, l[i / 2]? = some s := ⟨_, List.getElem?_eq_getElem (by omega)⟩
    have h1 := hf _ s hs
    have h2 := cp_at l _ s hs
    have h3 := hc i hi
    rcases Nat.mod_two_eq_zero_or_one i with h | h
    · have e : i / 2 * 2 = i := by omega
      rw [e] at h1 h2
      rw [h2.1]; rw [h1.1] at h3; simpa using h3
    · have e : i / 2 * 2 + 1 = i := by omega
      rw [e] at h1 h2
      rw [h2.2]; rw [h1.2] at h3; simpa using h3
  · rw [if_neg hi, List.getElem?_eq_none (by rw [cp_length]; omega)]

def RelT (l : List ByteArray) (w0 : World) (i : Value) (wr : World) : Prop :=
  ∃ (k : Nat) (f : Nat → Value), k ≤ l.length ∧ i = .int .i64 k ∧ wr.rowIs w0.heap.size 9 l.length f ∧ (∀ j s, j < k → l[j]? = some s → f j = .string s) ∧ Below w0.heap.size w0 wr
theorem RelT.step {l : List ByteArray} {w0 wr : World} {k : Nat} {f : Nat → Value} {s : ByteArray} (hk : k < l.length) (hs : l[k]? = some s) (hrow : wr.rowIs w0.heap.size 9 l.length f) (hf : ∀ j s, j < k → l[j]? = some s → f j = .string s) (hb : Below w0.heap.size w0 wr) :
    RelT l w0 (.int .i64 ((k : Int) + 1)) (wr.setCell ⟨w0.heap.size, k, none⟩ (.string s)) := by
  refine ⟨k + 1, _, by omega, by simp, hrow.set _ _, fun j t hj ht => ?_, hb.setCell (Nat.le_refl _) _⟩
  show (if j = k then _ else f j) = _
  by_cases e : j = k
  · subst e; rw [if_pos rfl]; rw [hs] at ht; cases ht; rfl
  · rw [if_neg e]; exact hf j t (by omega) ht
set_option maxRecDepth 100000 in
set_option maxHeartbeats 800000 in
theorem toStrs_any (v : Value) (l : List ByteArray) (w : World) (hv : Strs w v l) (hz : l.length ≤ 1048576) :
    Calls Tryz.prog 59 #[v] w fun e w' => ∃ a cap, e = .returned (.slice a l.length cap) ∧ OStrs w.heap.size w' (.slice a l.length cap) l ∧ Below w.heap.size w w' := by
  obtain ⟨a, cap, rfl, hl, hc⟩ := hv
  have hmk := run_make_row' (P := Tryz.prog) 23 9 (.string ⟨#[]⟩) 16 Tryz.underlying23 info_str rfl .i64 .i64 l.length (by omega) (by omega)
  have hrow0 : (w.alloc (.cells (madeCells #[Value.string ⟨#[]⟩] l.length) 9)).rowIs w.heap.size 9 l.length (fun _ => .string ⟨#[]⟩) :=
    ⟨_, Go.Deep.blk_alloc_new _ _, by rw [size_madeCells], fun i hi => by simp [madeCells, hi, Nat.mod_one]⟩
  have H0 : Hid (RelT l w (.int .i64 0) (w.alloc (.cells (madeCells #[Value.string ⟨#[]⟩] l.length) 9))) := ⟨0, _, Nat.zero_le _, rfl, hrow0, fun j s h => by omega, (Below.refl _ _).alloc (Nat.le_refl _) _⟩
  clear hrow0
  go_enter Tryz.func59, Tryz.ntmps59
  go_wp2
  clear hmk
  go_loopw [4] (fun i wr => RelT l w i wr) (fun i _ => l.length - (intOf i).toNat)
  case atStart => exact H0.out
  case round =>
    clear H0
    obtain ⟨k, f, hk, rfl, hrow, hf, hbel⟩ := hrel
    by_cases hlt : k < l.length
    · obtain ⟨b, off, rfl, hbb, hcc⟩ := hc (by omega)
      obtain ⟨s, hs⟩ : ∃ s, l[k]? = some s := ⟨_, List.getElem?_eq_getElem hlt⟩
      have c0 := hcc k s hs
      rw [← hbel.cell (p := ⟨b, off + k, none⟩) hbb] at c0
      have HN : Hid (RelT l w (.int .i64 ((k : Int) + 1)) (wr.setCell ⟨w.heap.size, k, none⟩ (.string s))) := RelT.step hlt hs hrow hf hbel
      obtain ⟨o, ho⟩ : ∃ o, wr.cell? ⟨w.heap.size, k, none⟩ = some o := ⟨_, hrow.cell hlt⟩
      have hfr := hrow.frozen k
      clear hs hcc hrow hf hbel
      go_wp2
      go_roundw
      case rel => exact HN.out
      case measure => simp [intOf]; omega
    · have hkl : k = l.length := by omega
      have HF : Hid (OStrs w.heap.size wr (.slice (some ⟨w.heap.size, 0, none⟩) l.length l.length) l) := ostrs_of_row hrow (fun i s hs => hf i s (by rw [hkl]; exact (List.getElem?_eq_some_iff.1 hs).1) hs) (Nat.le_refl _) (by unfold maxLen; omega)
      have HB : Hid (Below w.heap.size w wr) := hbel
      clear hrow hf hbel hkl
      go_wp2
      go_ret
      exact ⟨_, _, rfl, HF.out, HB.out⟩

set_option maxRecDepth 100000 in
theorem toPend_any (at_ : Int) (s : ByteArray) (w : World) :
    Calls Tryz.prog 90 #[.agg #[.int .i64 at_, .string s]] w fun e w' => e = .returned (.agg #[.int .i64 at_, .string s]) ∧ Below w.heap.size w w' := by
  go_enter Tryz.func90, Tryz.ntmps90
  go_wp2
  refine bodyPost_ret (v := .agg #[.int .i64 at_, .string s]) (by simp [results, Tryz.results90, go_sem]) rfl ⟨rfl, ?_⟩
  exact (((Below.refl _ _).alloc (Nat.le_refl _) _).alloc (by simp) _).alloc (by simp; omega) _

theorem run_make_row2 {P : Program} (t e : TypeId) (z : Value) (bytes : Nat) (ht : P.underlying t = some (.slice e)) (hinfo : (P.info? e).map (fun i => (i.zero, i.size, i.bytes)) = some (some z, 2, bytes))
    (kl kc : IntKind) (n : Nat) (hbytes : bytes * n ≤ 281474976710656) (h63 : n ≤ 9223372036854775807) (w : World) :
    (Instr.makeSlice t (.int kl (n : Int)) (.int kc (n : Int))).run P w = .ok (.slice (some ⟨w.heap.size, 0, none⟩) n n) (w.alloc (.cells (madeCells z.cells (n * 2)) e)) := by
  obtain ⟨i, hi, hzz⟩ := Option.map_eq_some_iff.1 hinfo
  simp only [Prod.mk.injEq] at hzz
  obtain ⟨hz, hs, hb⟩ := hzz
  have hb' : (i.bytes : Int) * (n : Int) ≤ 281474976710656 := by
    rw [hb]
    have h : ((bytes * n : Nat) : Int) ≤ 281474976710656 := by omega
    rwa [Int.natCast_mul] at h
  have hr := run_make (P := P) w t e i z ht hi hz kl kc n n (by omega) (Int.le_refl _) hb' (by omega)
  simp only [Int.toNat_natCast, hs] at hr
  exact hr
def RelU (l : List Pend) (w0 : World) (i : Value) (wr : World) : Prop :=
  ∃ (k : Nat) (f : Nat → Value), k ≤ l.length ∧ i = .int .i64 k ∧ wr.rowIs w0.heap.size 82 (l.length * 2) f ∧ (∀ j s, j < k → l[j]? = some s → f (j * 2) = .int .i64 s.1 ∧ f (j * 2 + 1) = .string s.2) ∧ Below w0.heap.size w0 wr
theorem RelU.step {l : List Pend} {w0 wr w1 : World} {k : Nat} {f : Nat → Value} {s : Pend} (hk : k < l.length) (hs : l[k]? = some s) (hrow : wr.rowIs w0.heap.size 82 (l.length * 2) f) (hf : ∀ j s, j < k → l[j]? = some s → f (j * 2) = .int .i64 s.1 ∧ f (j * 2 + 1) = .string s.2) (hb : Below w0.heap.size w0 wr) (h1 : Below wr.heap.size wr w1) :
    RelU l w0 (.int .i64 ((k : Int) + 1)) ((w1.setCell ⟨w0.heap.size, k * 2, none⟩ (.int .i64 s.1)).setCell ⟨w0.heap.size, k * 2 + 1, none⟩ (.string s.2)) := by
  have hlt := hrow.lt
  have hrow1 : w1.rowIs w0.heap.size 82 (l.length * 2) f := hrow.of_block (h1.block _ hlt)
  refine ⟨k + 1, _, by omega, by simp, (hrow1.set _ _).set _ _, fun j t hj ht => ?_, ((hb.trans (h1.mono hb.size)).setCell (Nat.le_refl _) _).setCell (Nat.le_refl _) _⟩
  show (if j * 2 = k * 2 + 1 then _ else if j * 2 = k * 2 then _ else f (j * 2)) = _ ∧ (if j * 2 + 1 = k * 2 + 1 then _ else if j * 2 + 1 = k * 2 then _ else f (j * 2 + 1)) = _
  by_cases e : j = k
  · subst e
    rw [hs] at ht; cases ht
    rw [if_neg (by omega), if_pos rfl, if_pos rfl]
    exact ⟨rfl, rfl⟩
  · rw [if_neg (by omega), if_neg (by omega), if_neg (by omega), if_neg (by omega)]
    exact hf j t (by omega) ht
set_option maxRecDepth 100000 in
set_option maxHeartbeats 800000 in
theorem toPends_any (v : Value) (l : List Pend) (w : World) (hv : Pends w v l) (hz : l.length ≤ 1048576) :
    Calls Tryz.prog 60 #[v] w fun e w' => ∃ a cap, e = .returned (.slice a l.length cap) ∧ OPends w.heap.size w' (.slice a l.length cap) l ∧ Below w.heap.size w w' := by
  obtain ⟨a, cap, rfl, hl, hc⟩ := hv
  have hmk := run_make_row2 (P := Tryz.prog) 24 82 (.agg #[.int .i64 0, .string ⟨#[]⟩]) 24 Tryz.underlying24 info_pend .i64 .i64 l.length (by omega) (by omega)
  obtain ⟨M, hM⟩ : ∃ M, madeCells (Value.agg #[.int .i64 0, .string ⟨#[]⟩]).cells (l.length * 2) = M := ⟨_, rfl⟩
  have hMs : M.size = l.length * 2 := by rw [← hM, size_madeCells]
  rw [hM] at hmk
  clear hM
  have hrow0 : (w.alloc (.cells M 82)).rowIs w.heap.size 82 (l.length * 2) (fun i => M.getD i (.int .i64 0)) :=
    ⟨_, Go.Deep.blk_alloc_new _ _, hMs, fun i hi => by simp [hMs, hi]⟩
  have H0 : Hid (RelU l w (.int .i64 0) (w.alloc (.cells M 82))) := ⟨0, _, Nat.zero_le _, rfl, hrow0, fun j s h => by omega, (Below.refl _ _).alloc (Nat.le_refl _) _⟩
  clear hrow0 hMs
  go_enter Tryz.func60, Tryz.ntmps60
  go_wp2
  clear hmk
  go_loopw [4] (fun i wr => RelU l w i wr) (fun i _ => l.length - (intOf i).toNat)
  case atStart => exact H0.out
  case round =>
    clear H0
    obtain ⟨k, f, hk, rfl, hrow, hf, hbel⟩ := hrel
    by_cases hlt : k < l.length
    · obtain ⟨b, off, rfl, hbb, hcc⟩ := hc (by omega)
      obtain ⟨s, hs⟩ : ∃ s, l[k]? = some s := ⟨_, List.getElem?_eq_getElem hlt⟩
      obtain ⟨c0, c1⟩ := hcc k s hs
      rw [← hbel.cell (p := ⟨b, off + k * 2, none⟩) hbb] at c0
      rw [← hbel.cell (p := ⟨b, off + k * 2 + 1, none⟩) hbb] at c1
      have HN : Hid (∀ w1, Below wr.heap.size wr w1 → RelU l w (.int .i64 ((k : Int) + 1)) ((w1.setCell ⟨w.heap.size, k * 2, none⟩ (.int .i64 s.1)).setCell ⟨w.heap.size, k * 2 + 1, none⟩ (.string s.2))) := fun w1 h1 => RelU.step hlt hs hrow hf hbel h1
      have HO : Hid (∀ w1, Below wr.heap.size wr w1 → (∃ o, w1.cell? ⟨w.heap.size, k * 2, none⟩ = some o) ∧ (∃ o, w1.cell? ⟨w.heap.size, k * 2 + 1, none⟩ = some o) ∧ w1.frozen? ⟨w.heap.size, k * 2, none⟩ = false ∧ w1.frozen? ⟨w.heap.size, k * 2 + 1, none⟩ = false) := fun w1 h1 => by
        have hr1 := hrow.of_block (h1.block _ hrow.lt)
        exact ⟨⟨_, hr1.cell (by omega)⟩, ⟨_, hr1.cell (by omega)⟩, hr1.frozen _, hr1.frozen _⟩
      clear hs hcc hrow hf hbel
      go_wp2_with (first | (go_at_call 90; refine (toPend_any _ _ _).mono ?_; rintro e w1 ⟨rfl, hb1⟩; obtain ⟨⟨o0, ho0⟩, ⟨o1, ho1⟩, hf0, hf1⟩ := HO.out w1 hb1))
      go_roundw
      case rel => exact HN.out w1 hb1
      case measure => simp [intOf]; omega
    · have hkl : k = l.length := by omega
      have HF : Hid (OPends w.heap.size wr (.slice (some ⟨w.heap.size, 0, none⟩) l.length l.length) l) := opends_of_row hrow (fun i s hs => hf i s (by rw [hkl]; exact (List.getElem?_eq_some_iff.1 hs).1) hs) (Nat.le_refl _) (by unfold maxLen; omega)
      have HB : Hid (Below w.heap.size w wr) := hbel
      clear hrow hf hbel hkl
      go_wp2
      go_ret
      exact ⟨_, _, rfl, HF.out, HB.out⟩

set_option maxRecDepth 100000 in
set_option maxHeartbeats 800000 in
theorem toDisk_any (vs vp : Value) (ss : List ByteArray) (ps : List Pend) (w : World) (hs : Strs w vs ss) (hp : Pends w vp ps) (hz : ss.length ≤ 1048576) (hzp : ps.length ≤ 1048576) :
    Calls Tryz.prog 22 #[.agg #[vs, vp]] w fun e w' => ∃ a c a' c', e = .returned (.agg #[.slice a ss.length c, .slice a' ps.length c']) ∧ ODisk w.heap.size w' (.slice a ss.length c) (.slice a' ps.length c') ss ps ∧ Below w.heap.size w w' := by
  have hal : ∀ o1 o2 o3 : Obj, Below w.heap.size w (((w.alloc o1).alloc o2).alloc o3) := fun o1 o2 o3 => (((Below.refl _ _).alloc (Nat.le_refl _) _).alloc (by simp) _).alloc (by simp; omega) _
  go_enter Tryz.func22, Tryz.ntmps22
  go_wp2_with (first
    | (go_at_call 59; refine (toStrs_any _ ss _ (hs.below (hal _ _ _)) hz).mono ?_; rintro e w1 ⟨a, c, rfl, hus, hb1⟩; obtain ⟨hc1, hf1⟩ := bcell hb1; have hz1 : w.heap.size + 1 + 1 < w1.heap.size := (by have := hb1.size; simp at this; omega); have hz1b : w.heap.size + 1 < w1.heap.size := (by omega); have hz1a : w.heap.size < w1.heap.size := (by omega); have hB1 : Below w.heap.size w w1 := (hal _ _ _).trans (hb1.mono (hal _ _ _).size))
    | (go_at_call 60; refine (toPends_any _ ps _ (hp.below (hB1.setCell (by show w.heap.size ≤ w.heap.size + 1 + 1; omega) _)) hzp).mono ?_; rintro e w2 ⟨a', c', rfl, hup, hb2⟩; obtain ⟨hc2, hf2⟩ := bcell hb2))
  refine bodyPost_ret (v := .agg #[.slice a ss.length c, .slice a' ps.length c']) (by simp [results, Tryz.results22, go_sem, hc2, hc1, hz1b]) rfl ⟨a, c, a', c', rfl, ?_, ?_⟩
  · have e3 : (((w.alloc (Obj.cells #[vs, vp] 44)).alloc (Obj.cells #[Value.slice none 0 0, Value.slice none 0 0] 26)).alloc (Obj.cells #[Value.slice none 0 0, Value.slice none 0 0] 26)).heap.size = w.heap.size + 3 := by simp
    rw [e3] at hus
    have hz2 : w1.heap.size ≤ w2.heap.size := by have := hb2.size; simpa using this
    have h1 := (hus.set (p := ⟨w.heap.size + 1 + 1, 0, none⟩) (by show w.heap.size + 1 + 1 < _; omega) (.slice a ss.length c)).below hb2
    have h2 := hup.mono (B' := w.heap.size + 3) (by simp; omega)
    exact ⟨(((h1.set (by show w.heap.size + 1 + 1 < _; omega) _).set (by show w.heap.size + 1 < _; omega) _).set (by show w.heap.size + 1 < _; omega) _).mono (by omega),
      (((h2.set (by show w.heap.size + 1 + 1 < _; omega) _).set (by show w.heap.size + 1 < _; omega) _).set (by show w.heap.size + 1 < _; omega) _).mono (by omega)⟩
  · have h3 : Below w.heap.size w w2 := (hB1.setCell (by show w.heap.size ≤ w.heap.size + 1 + 1; omega) _).trans (hb2.mono (by simp; omega))
    exact ((h3.setCell (by show w.heap.size ≤ w.heap.size + 1 + 1; omega) _).setCell (by show w.heap.size ≤ w.heap.size + 1; omega) _).setCell (by show w.heap.size ≤ w.heap.size + 1; omega) _
end Go.Proofs.YtfiabbfdnmldjaaGreatDoor.S2

/-
  The laws' own comparing, at disks that read alike: yes.
-/
namespace Go.Proofs.YtfiabbfdnmldjaaGreatDoor.S3
open Go.RowKit
open Go.Proofs.YtfiabbfdnmldjaaGreatDoor.C0 Go.Proofs.YtfiabbfdnmldjaaGreatDoor.S0 Go.Proofs.YtfiabbfdnmldjaaGreatDoor.S1

def RelK (n : Nat) (w : World) (i : Value) (wr : World) : Prop := ∃ k : Nat, k ≤ n ∧ i = .int .i64 k ∧ Below w.heap.size w wr
theorem drewN_below {w wr : World} (h : Below w.heap.size w wr) : ∀ n, Below w.heap.size w (wr.drewN n)
  | 0 => h
  | n + 1 => (drewN_below h n).drew
set_option maxRecDepth 100000 in
set_option maxHeartbeats 800000 in
theorem eqStrs_any (v u : Value) (l : List ByteArray) (w : World) (hv : Strs w v l) (hu : Strs w u l) :
    Calls Tryz.prog 61 #[v, u] w fun e w' => e = .returned (.bool true) ∧ Below w.heap.size w w' := by
  obtain ⟨a, cap, rfl, hl, hc⟩ := hv
  obtain ⟨a2, cap2, rfl, _, hc2⟩ := hu
  unfold maxLen at hl
  have H0 : Hid (RelK l.length w (.int .i64 0) w) := ⟨0, Nat.zero_le _, rfl, Below.refl _ _⟩
  go_enter Tryz.func61, Tryz.ntmps61
  go_wp2
  go_loopw [5] (fun i wr => RelK l.length w i wr) (fun i _ => l.length - (intOf i).toNat)
  case atStart => exact H0.out
  case round =>
    clear H0
    obtain ⟨k, hk, rfl, hbel⟩ := hrel
    by_cases hlt : k < l.length
    · obtain ⟨b, off, rfl, hbb, hcc⟩ := hc (by omega)
      obtain ⟨b2, off2, rfl, hbb2, hcc2⟩ := hc2 (by omega)
      obtain ⟨s, hs⟩ : ∃ s, l[k]? = some s := ⟨_, List.getElem?_eq_getElem hlt⟩
      have c0 := hcc k s hs
      have c1 := hcc2 k s hs
      rw [← hbel.cell (p := ⟨b, off + k, none⟩) hbb] at c0
      rw [← hbel.cell (p := ⟨b2, off2 + k, none⟩) hbb2] at c1
      have hlt' : (k : Int) < (l.length : Int) := by omega
      clear hs hcc hcc2
      have HB : Hid (Below w.heap.size w wr) := hbel
      clear hbel
      go_wp2
      go_quiet (fail)
      go_wp2
      go_roundw
      case rel => exact ⟨k + 1, by omega, by go_num, drewN_below HB.out _⟩
      case measure => simp [intOf]; omega
    · go_wp2
      go_ret
      exact ⟨rfl, hbel⟩

set_option maxRecDepth 100000 in
theorem eqPend_any (at_ : Int) (s : ByteArray) (w : World) :
    Calls Tryz.prog 91 #[.agg #[.int .i64 at_, .string s], .agg #[.int .i64 at_, .string s]] w fun e w' => e = .returned (.bool true) ∧ Below w.heap.size w w' := by
  go_enter Tryz.func91, Tryz.ntmps91
  go_wp2
  go_ret
  exact ⟨rfl, ((Below.refl _ _).alloc (Nat.le_refl _) _).alloc (by simp) _⟩
set_option maxRecDepth 100000 in
set_option maxHeartbeats 1600000 in
theorem eqPends_any (v u : Value) (l : List Pend) (w : World) (hv : Pends w v l) (hu : Pends w u l) :
    Calls Tryz.prog 62 #[v, u] w fun e w' => e = .returned (.bool true) ∧ Below w.heap.size w w' := by
  obtain ⟨a, cap, rfl, hl, hc⟩ := hv
  obtain ⟨a2, cap2, rfl, _, hc2⟩ := hu
  unfold maxLen at hl
  have H0 : Hid (RelK l.length w (.int .i64 0) w) := ⟨0, Nat.zero_le _, rfl, Below.refl _ _⟩
  go_enter Tryz.func62, Tryz.ntmps62
  go_wp2
  go_loopw [5] (fun i wr => RelK l.length w i wr) (fun i _ => l.length - (intOf i).toNat)
  case atStart => exact H0.out
  case round =>
    clear H0
    obtain ⟨k, hk, rfl, hbel⟩ := hrel
    by_cases hlt : k < l.length
    · obtain ⟨b, off, rfl, hbb, hcc⟩ := hc (by omega)
      obtain ⟨b2, off2, rfl, hbb2, hcc2⟩ := hc2 (by omega)
      obtain ⟨s, hs⟩ : ∃ s, l[k]? = some s := ⟨_, List.getElem?_eq_getElem hlt⟩
      obtain ⟨c0, c1⟩ := hcc k s hs
      obtain ⟨c2, c3⟩ := hcc2 k s hs
      rw [← hbel.cell (p := ⟨b, off + k * 2, none⟩) hbb] at c0
      rw [← hbel.cell (p := ⟨b, off + k * 2 + 1, none⟩) hbb] at c1
      rw [← hbel.cell (p := ⟨b2, off2 + k * 2, none⟩) hbb2] at c2
      rw [← hbel.cell (p := ⟨b2, off2 + k * 2 + 1, none⟩) hbb2] at c3
      have hlt' : (k : Int) < (l.length : Int) := by omega
      clear hs hcc hcc2
      have HB : Hid (Below w.heap.size w wr) := hbel
      clear hbel
      go_wp2
      go_region_with (go_at_call 91; refine (eqPend_any _ _ _).mono ?_; rintro e w1 ⟨rfl, hb1⟩)
      all_goals
        go_wp2
        go_roundw
        case rel => exact ⟨k + 1, by omega, by go_num, HB.out.drew.trans (hb1.mono HB.out.size)⟩
        case measure => simp [intOf]; omega
    · go_wp2
      go_ret
      exact ⟨rfl, hbel⟩
set_option maxRecDepth 100000 in
set_option maxHeartbeats 800000 in
theorem eqDisk_any (vs vp us up : Value) (ss : List ByteArray) (ps : List Pend) (w : World) (h1 : Strs w vs ss) (h2 : Pends w vp ps) (h3 : Strs w us ss) (h4 : Pends w up ps) :
    Calls Tryz.prog 24 #[.agg #[vs, vp], .agg #[us, up]] w fun e w' => e = .returned (.bool true) ∧ Below w.heap.size w w' := by
  have hal : ∀ o1 o2 : Obj, Below w.heap.size w ((w.alloc o1).alloc o2) := fun o1 o2 => ((Below.refl _ _).alloc (Nat.le_refl _) _).alloc (by simp) _
  go_enter Tryz.func24, Tryz.ntmps24
  go_wp2_with (first
    | (go_at_call 61; refine (eqStrs_any _ _ ss _ (h1.below (hal _ _)) (h3.below (hal _ _))).mono ?_; rintro e w1 ⟨rfl, hb1⟩; obtain ⟨hc1, hf1⟩ := bcell hb1; have hB1 : Below w.heap.size w w1 := (hal _ _).trans (hb1.mono (hal _ _).size))
    | (go_at_call 62; refine (eqPends_any _ _ ps _ (h2.below hB1) (h4.below hB1)).mono ?_; rintro e w2 ⟨rfl, hb2⟩))
  go_ret
  exact ⟨rfl, hB1.trans (hb2.mono hB1.size)⟩
end Go.Proofs.YtfiabbfdnmldjaaGreatDoor.S3

/-
  The laws' own marks: they are laid into the rows of a disk, and looked for there.
-/
namespace Go.Proofs.YtfiabbfdnmldjaaGreatDoor.S4
open Go.RowKit
open Go.Proofs.YtfiabbfdnmldjaaGreatDoor.C0 Go.Proofs.YtfiabbfdnmldjaaGreatDoor.S0 Go.Proofs.YtfiabbfdnmldjaaGreatDoor.S1 Go.Proofs.YtfiabbfdnmldjaaGreatDoor.Mk

theorem conv_one (w : World) (c : Nat) (hc : c < 256) : (convert 22 9 (.slice (some ⟨w.heap.size, 0, none⟩) 1 1)).run Tryz.prog (w.alloc (.cells #[.int .u8 (c : Int)] 5)) = .ok (.string ⟨#[UInt8.ofNat c]⟩) (w.alloc (.cells #[.int .u8 (c : Int)] 5)) := by
  refine run_convert_bytes_back _ 22 9 5 _ 1 [UInt8.ofNat c] Tryz.underlying22 Tryz.underlying5 Tryz.underlying9 ?_
  intro j hj
  have hj0 : j = 0 := by simpa using hj
  subst hj0
  rw [add0]
  have : ((UInt8.ofNat c).toNat : Int) = (c : Int) := by simp [UInt8.toNat_ofNat']; omega
  rw [show [UInt8.ofNat c][0] = UInt8.ofNat c from rfl, this]
  simp [go_sem]
theorem cat_one (x : UInt8) (acc : List UInt8) : (⟨#[x]⟩ : ByteArray) ++ ⟨acc.toArray⟩ = ⟨(x :: acc).toArray⟩ := by
  apply ByteArray.ext
  rw [ByteArray.data_append]
  simp
def RelD (k0 : Nat) (w : World) (k s : Value) (wr : World) : Prop :=
  ∃ (n f : Nat) (acc : List UInt8), k = .int .i64 n ∧ s = .string ⟨acc.toArray⟩ ∧ n < 10 ^ f ∧ n ≤ k0 ∧ acc.length + f = 10 ∧ digs 10 k0 [] = digs f n acc ∧ Below w.heap.size w wr
set_option maxRecDepth 100000 in
set_option maxHeartbeats 800000 in
theorem markText_any (k : Nat) (w : World) (h1 : 0 < k) (h2 : k < 10000000000) :
    Calls Tryz.prog 92 #[.int .i64 k] w fun e w' => e = .returned (.string (markOf k)) ∧ Below w.heap.size w w' := by
  have H0 : Hid (RelD k w (.int .i64 k) (.string ⟨#[]⟩) w) := ⟨k, 10, [], rfl, rfl, by omega, Nat.le_refl _, rfl, rfl, Below.refl _ _⟩
  have h1' : ¬ (k : Int) ≤ 0 := by omega
  go_enter Tryz.func92, Tryz.ntmps92
  go_wp2
  go_loopw [0, 3] (fun k' s wr => RelD k w k' s wr) (fun k' _ _ => (intOf k').toNat)
  case atStart => exact H0.out
  case round =>
    clear H0
    obtain ⟨n, f, acc, rfl, rfl, hn, hnk, hf, hd, hbel⟩ := hrel
    by_cases hlt : 0 < n
    · have hlt' : (0 : Int) < (n : Int) := by omega
      have hconv := conv_one wr (48 + n % 10) (by omega)
      have e1 : ((48 + n % 10 : Nat) : Int) = 48 + (n : Int) % 10 := by omega
      rw [e1] at hconv
      have HN : Hid (RelD k w (.int .i64 ((n : Int) / 10)) (.string (⟨#[UInt8.ofNat (48 + n % 10)]⟩ ++ ⟨acc.toArray⟩)) (wr.alloc (.cells #[.int .u8 (48 + (n : Int) % 10)] 5))) := by
        rw [cat_one]
        obtain ⟨f', rfl⟩ : ∃ f', f = f' + 1 := by
          cases f with
          | zero => simp at hn; omega
          | succ f => exact ⟨f, rfl⟩
        refine ⟨n / 10, f', _, by simp, rfl, ?_, by omega, by simp; omega, by rw [hd, digs_step _ _ _ hlt], hbel.alloc hbel.size _⟩
        rw [Nat.pow_succ] at hn; omega
      clear hbel hd
      go_wp2
      go_roundw
      case rel => simpa using HN.out
      case measure => simp [intOf]; omega
    · obtain rfl : n = 0 := by omega
      rw [digs_zero] at hd
      have HB : Hid (Below w.heap.size w wr) := hbel
      have HD : Hid (digs 10 k [] = acc) := hd
      clear hd hbel
      go_wp2
      go_ret
      refine ⟨ret_val ?_, HB.out⟩
      show Value.string ((⟨#[109]⟩ : ByteArray) ++ ⟨acc.toArray⟩) = .string (markOf k)
      rw [cat_one, ← HD.out]; rfl

theorem cs_set (l : List ByteArray) (j : Nat) (s : ByteArray) : cs (l.set j s) = (cs l).set j (.string s) := by simp [cs, List.map_set]
theorem cp_set : ∀ (l : List Pend) (i : Nat) (p : Pend), cp (l.set i p) = ((cp l).set (i * 2) (.int .i64 p.1)).set (i * 2 + 1) (.string p.2)
  | [], _, _ => rfl
  | q :: l, 0, p => by simp [cp]
  | q :: l, i + 1, p => by
    have := cp_set l i p
    rw [show (i + 1) * 2 = i * 2 + 2 by omega]
    simp only [cp, List.set_cons_succ, List.flatMap_cons, List.cons_append, List.nil_append] at this ⊢
    rw [this]
/-- The block of a row that is not empty. -/
theorem form_strs {B : Nat} {w : World} {a : Option Addr} {n cap : Nat} {l : List ByteArray} (h : OStrs B w (.slice a n cap) l) (h0 : 0 < l.length) : ∃ g, a = some ⟨g, 0, none⟩ ∧ n = l.length ∧ B ≤ g ∧ g < w.heap.size := by
  rcases h.2 with ⟨_, h1⟩ | ⟨g, cap', cur, h1, hb, hg, _⟩
  · omega
  · simp only [Value.slice.injEq] at h1
    exact ⟨g, h1.1, h1.2.1, hb, (Array.getElem?_eq_some_iff.1 hg).1⟩
theorem form_pends {B : Nat} {w : World} {a : Option Addr} {n cap : Nat} {l : List Pend} (h : OPends B w (.slice a n cap) l) (h0 : 0 < l.length) : ∃ g, a = some ⟨g, 0, none⟩ ∧ n = l.length ∧ B ≤ g ∧ g < w.heap.size := by
  rcases h.2 with ⟨_, h1⟩ | ⟨g, cap', cur, h1, hb, hg, _⟩
  · omega
  · simp only [Value.slice.injEq] at h1
    exact ⟨g, h1.1, h1.2.1, hb, (Array.getElem?_eq_some_iff.1 hg).1⟩
theorem stored_strs {B g n cap : Nat} {w : World} {l : List ByteArray} (h : OStrs B w (.slice (some ⟨g, 0, none⟩) n cap) l) (hn : l.length = n) (j : Nat) (s : ByteArray) :
    OStrs B (w.setCell ⟨g, j, none⟩ (.string s)) (.slice (some ⟨g, 0, none⟩) n cap) (l.set j s) := by
  subst hn
  have := (World.ownsRow.stored h j (.string s)).1
  unfold OStrs
  rw [cs_set, List.length_set]
  exact this
theorem stored_pends {B g n cap : Nat} {w : World} {l : List Pend} (h : OPends B w (.slice (some ⟨g, 0, none⟩) n cap) l) (hn : l.length = n) (j : Nat) (p : Pend) :
    OPends B ((w.setCell ⟨g, j * 2, none⟩ (.int .i64 p.1)).setCell ⟨g, j * 2 + 1, none⟩ (.string p.2)) (.slice (some ⟨g, 0, none⟩) n cap) (l.set j p) := by
  subst hn
  have := (World.ownsRow.stored (World.ownsRow.stored h (j * 2) (.int .i64 p.1)).1 (j * 2 + 1) (.string p.2)).1
  unfold OPends
  rw [cp_set, List.length_set]
  exact this
theorem own_cell_s {B g n cap : Nat} {w : World} {l : List ByteArray} (h : OStrs B w (.slice (some ⟨g, 0, none⟩) n cap) l) (j : Nat) (hj : j < l.length) : (∃ o, w.cell? ⟨g, j, none⟩ = some o) ∧ w.frozen? ⟨g, j, none⟩ = false := by
  obtain ⟨b, hb, hn, _⟩ := form_strs h (by omega)
  subst hn
  refine ⟨?_, World.ownsRow.frozenAt h j⟩
  rw [World.ownsRow.cellAt h j (by omega)]
  exact ⟨_, List.getElem?_eq_getElem (by rw [cs_length]; omega)⟩
theorem own_cell_p {B g n cap : Nat} {w : World} {l : List Pend} (h : OPends B w (.slice (some ⟨g, 0, none⟩) n cap) l) (j : Nat) (hj : j < l.length * 2) : (∃ o, w.cell? ⟨g, j, none⟩ = some o) ∧ w.frozen? ⟨g, j, none⟩ = false := by
  obtain ⟨b, hb, hn, _⟩ := form_pends h (by omega)
  subst hn
  refine ⟨?_, World.ownsRow.frozenAt h j⟩
  rw [World.ownsRow.cellAt h j hj]
  exact ⟨_, List.getElem?_eq_getElem (by rw [cp_length]; omega)⟩

abbrev mine (v : Value) : Nat → Prop := fun g => v.ownBlock = some g
def RelM (B k n : Nat) (v : Value) (w : World) (q i : Value) (wr : World) : Prop :=
  ∃ (j : Nat) (l : List ByteArray), j ≤ n ∧ i = .int .i64 j ∧ q = .int .i64 ((k + j : Nat) : Int) ∧ l.length = n ∧ (∀ m, m < j → l[m]? = some (markOf (k + m))) ∧ OStrs B wr v l ∧ Wrote (mine v) w wr
theorem RelM.step {B k n j cap g : Nat} {w wr w1 : World} {l : List ByteArray} (hj : j < n) (hl : l.length = n) (hm : ∀ m, m < j → l[m]? = some (markOf (k + m))) (ho : OStrs B wr (.slice (some ⟨g, 0, none⟩) n cap) l) (ht : Wrote (mine (.slice (some ⟨g, 0, none⟩) n cap)) w wr) (h1 : Below wr.heap.size wr w1) :
    RelM B k n (.slice (some ⟨g, 0, none⟩) n cap) w (.int .i64 ((k : Int) + (j : Int) + 1)) (.int .i64 ((j : Int) + 1)) (w1.setCell ⟨g, j, none⟩ (.string (markOf (k + j)))) := by
  refine ⟨j + 1, _, by omega, by simp, by simp; omega, by rw [List.length_set]; exact hl, fun m h => ?_, stored_strs (ho.below h1) hl j _, (ht.trans (Wrote.of_below h1)).setCell (p := ⟨g, j, none⟩) (.inr rfl) _⟩
  rw [List.getElem?_set]
  by_cases e : j = m
  · subst e; rw [if_pos rfl, if_pos (by omega)]
  · rw [if_neg e]; exact hm m (by omega)
set_option maxRecDepth 100000 in
set_option maxHeartbeats 800000 in
theorem markStrs_any (B k : Nat) (a : Option Addr) (cap : Nat) (l : List ByteArray) (w : World) (hv : OStrs B w (.slice a l.length cap) l) (h1 : 0 < k) (h2 : k + l.length < 10000000) :
    Calls Tryz.prog 63 #[.slice a l.length cap, .int .i64 k] w fun e w' => e = .returned (.int .i64 ((k + l.length : Nat) : Int)) ∧ OStrs B w' (.slice a l.length cap) (marksS k l.length) ∧ Wrote (mine (.slice a l.length cap)) w w' := by
  have H0 : Hid (RelM B k l.length (.slice a l.length cap) w (.int .i64 k) (.int .i64 0) w) := ⟨0, l, Nat.zero_le _, rfl, by simp, rfl, fun m h => by omega, hv, Wrote.refl _ _⟩
  obtain ⟨n, hn⟩ : ∃ n, l.length = n := ⟨_, rfl⟩
  rw [hn] at H0 h2 ⊢
  clear hv hn
  go_enter Tryz.func63, Tryz.ntmps63
  go_wp2
  go_loopw [1, 5] (fun q i wr => RelM B k n (.slice a n cap) w q i wr) (fun _ i _ => n - (intOf i).toNat)
  case atStart => exact H0.out
  case round =>
    clear H0
    obtain ⟨j, l', hj, rfl, rfl, hl', hm, ho, ht⟩ := hrel
    by_cases hlt : j < n
    · obtain ⟨g, rfl, -, hBg, hgz⟩ := form_strs ho (by omega)
      have hlt' : (j : Int) < (n : Int) := by omega
      have HN : Hid (∀ w1, Below wr.heap.size wr w1 → RelM B k n (.slice (some ⟨g, 0, none⟩) n cap) w (.int .i64 ((k : Int) + (j : Int) + 1)) (.int .i64 ((j : Int) + 1)) (w1.setCell ⟨g, j, none⟩ (.string (markOf (k + j))))) := fun w1 h => RelM.step hlt hl' hm ho ht h
      have HO : Hid (∀ w1, Below wr.heap.size wr w1 → (∃ o, w1.cell? ⟨g, j, none⟩ = some o) ∧ w1.frozen? ⟨g, j, none⟩ = false) := fun w1 h => own_cell_s (ho.below h) j (by omega)
      clear hm ho ht
      go_wp2_with (first
        | (go_at_call 92; refine (markText_any _ _ (by omega) (by omega)).mono ?_; rintro e w1 ⟨rfl, hb1⟩; obtain ⟨⟨o, ho⟩, hfo⟩ := HO.out w1 hb1))
      go_roundw
      case rel => simpa using HN.out w1 hb1
      case measure => simp [intOf]; omega
    · obtain rfl : j = n := by omega
      have HF : Hid (OStrs B wr (.slice a j cap) (marksS k j) ∧ Wrote (mine (.slice a j cap)) w wr) := by
        refine ⟨?_, ht⟩
        rw [show marksS k j = l' from ?_]; exact ho
        apply List.ext_getElem?
        intro i
        by_cases hi : i < j
        · rw [marksS_at _ _ _ hi, hm i hi]
        · rw [List.getElem?_eq_none (by rw [marksS_length]; omega), List.getElem?_eq_none (by omega)]
      clear hm ho ht
      go_wp2
      go_ret
      exact ⟨rfl, HF.out.1, HF.out.2⟩
end Go.Proofs.YtfiabbfdnmldjaaGreatDoor.S4

/-
  The laws' own marks, on: in rows of Pending; looked for; in whole disks.
-/
namespace Go.Proofs.YtfiabbfdnmldjaaGreatDoor.S5
open Go.RowKit
open Go.Proofs.YtfiabbfdnmldjaaGreatDoor.C0 Go.Proofs.YtfiabbfdnmldjaaGreatDoor.S0 Go.Proofs.YtfiabbfdnmldjaaGreatDoor.S1 Go.Proofs.YtfiabbfdnmldjaaGreatDoor.Mk Go.Proofs.YtfiabbfdnmldjaaGreatDoor.S4 Go.Proofs.YtfiabbfdnmldjaaGreatDoor.S3

def RelQ (B k n : Nat) (v : Value) (w : World) (q i : Value) (wr : World) : Prop :=
  ∃ (j : Nat) (l : List Pend), j ≤ n ∧ i = .int .i64 j ∧ q = .int .i64 ((k + j * 2 : Nat) : Int) ∧ l.length = n ∧ (∀ m, m < j → l[m]? = some (((k + m * 2 : Nat) : Int), markOf (k + m * 2 + 1))) ∧ OPends B wr v l ∧ Wrote (mine v) w wr
theorem RelQ.step {B k n j cap g : Nat} {w wr w1 : World} {l : List Pend} (hj : j < n) (hl : l.length = n) (hm : ∀ m, m < j → l[m]? = some (((k + m * 2 : Nat) : Int), markOf (k + m * 2 + 1))) (ho : OPends B wr (.slice (some ⟨g, 0, none⟩) n cap) l) (ht : Wrote (mine (.slice (some ⟨g, 0, none⟩) n cap)) w wr)
    (h1 : Below (wr.setCell ⟨g, j * 2, none⟩ (.int .i64 ((k + j * 2 : Nat) : Int))).heap.size (wr.setCell ⟨g, j * 2, none⟩ (.int .i64 ((k + j * 2 : Nat) : Int))) w1) :
    RelQ B k n (.slice (some ⟨g, 0, none⟩) n cap) w (.int .i64 ((k + (j + 1) * 2 : Nat) : Int)) (.int .i64 ((j + 1 : Nat) : Int)) (w1.setCell ⟨g, j * 2 + 1, none⟩ (.string (markOf (k + j * 2 + 1)))) := by
  have hs := (World.ownsRow.stored (hl ▸ ho) (j * 2) (.int .i64 ((k + j * 2 : Nat) : Int))).1
  have hs1 := own_keep hs (fun g' hg' => h1.block g' (hs.lt g' hg').2)
  have hs2 := (World.ownsRow.stored hs1 (j * 2 + 1) (.string (markOf (k + j * 2 + 1)))).1
  refine ⟨j + 1, l.set j (((k + j * 2 : Nat) : Int), markOf (k + j * 2 + 1)), by omega, rfl, rfl, by rw [List.length_set]; exact hl, fun m h => ?_, ?_, ((ht.setCell (p := ⟨g, j * 2, none⟩) (.inr rfl) _).trans (Wrote.of_below h1)).setCell (p := ⟨g, j * 2 + 1, none⟩) (.inr rfl) _⟩
  · rw [List.getElem?_set]
    by_cases e : j = m
    · subst e; rw [if_pos rfl, if_pos (by omega)]
    · rw [if_neg e]; exact hm m (by omega)
  · unfold OPends
    rw [cp_set, List.length_set, hl]
    rw [hl] at hs2
    exact hs2
set_option maxRecDepth 100000 in
set_option maxHeartbeats 1600000 in
theorem markPends_any (B k : Nat) (a : Option Addr) (cap : Nat) (l : List Pend) (w : World) (hv : OPends B w (.slice a l.length cap) l) (h1 : 0 < k) (h2 : k + l.length * 2 < 10000000) :
    Calls Tryz.prog 64 #[.slice a l.length cap, .int .i64 k] w fun e w' => e = .returned (.int .i64 ((k + l.length * 2 : Nat) : Int)) ∧ OPends B w' (.slice a l.length cap) (marksP k l.length) ∧ Wrote (mine (.slice a l.length cap)) w w' := by
  have H0 : Hid (RelQ B k l.length (.slice a l.length cap) w (.int .i64 k) (.int .i64 0) w) := ⟨0, l, Nat.zero_le _, rfl, by simp, rfl, fun m h => by omega, hv, Wrote.refl _ _⟩
  obtain ⟨n, hn⟩ : ∃ n, l.length = n := ⟨_, rfl⟩
  rw [hn] at H0 h2 ⊢
  clear hv hn
  go_enter Tryz.func64, Tryz.ntmps64
  go_wp2
  go_loopw [1, 5] (fun q i wr => RelQ B k n (.slice a n cap) w q i wr) (fun _ i _ => n - (intOf i).toNat)
  case atStart => exact H0.out
  case round =>
    clear H0
    obtain ⟨j, l', hj, rfl, rfl, hl', hm, ho, ht⟩ := hrel
    by_cases hlt : j < n
    · obtain ⟨g, rfl, -, hBg, hgz⟩ := form_pends ho (by omega)
      have hlt' : (j : Int) < (n : Int) := by omega
      obtain ⟨x, hx⟩ : ∃ x, k + j * 2 = x := ⟨_, rfl⟩
      have HX : Hid (k + j * 2 = x) := hx
      have hxb : x < 10000000 := by omega
      have HN : Hid (∀ w1, Below (wr.setCell ⟨g, j * 2, none⟩ (.int .i64 (x : Int))).heap.size (wr.setCell ⟨g, j * 2, none⟩ (.int .i64 (x : Int))) w1 → RelQ B k n (.slice (some ⟨g, 0, none⟩) n cap) w (.int .i64 ((k + (j + 1) * 2 : Nat) : Int)) (.int .i64 ((j + 1 : Nat) : Int)) (w1.setCell ⟨g, j * 2 + 1, none⟩ (.string (markOf (x + 1))))) := fun w1 h => by
        rw [← hx] at h ⊢; exact RelQ.step hlt hl' hm ho ht h
      obtain ⟨⟨o0, ho0⟩, hf0⟩ := own_cell_p ho (j * 2) (by omega)
      have HO : Hid (∀ w1, Below (wr.setCell ⟨g, j * 2, none⟩ (.int .i64 (x : Int))).heap.size (wr.setCell ⟨g, j * 2, none⟩ (.int .i64 (x : Int))) w1 → (∃ o, w1.cell? ⟨g, j * 2 + 1, none⟩ = some o) ∧ w1.frozen? ⟨g, j * 2 + 1, none⟩ = false) := fun w1 h => by
        have hs := (World.ownsRow.stored (hl' ▸ ho) (j * 2) (.int .i64 (x : Int))).1
        have hs1 := own_keep hs (fun g' hg' => h.block g' (hs.lt g' hg').2)
        refine ⟨?_, World.ownsRow.frozenAt hs1 _⟩
        rw [World.ownsRow.cellAt hs1 _ (by omega)]
        exact ⟨_, List.getElem?_eq_getElem (by rw [List.length_set, cp_length]; omega)⟩
      rw [hx]
      clear hm ho ht hx
      go_wp2_with (first
        | (go_at_call 92; refine (markText_any (x + 1) _ (by omega) (by omega)).mono ?_; rintro e w1 ⟨rfl, hb1⟩; obtain ⟨⟨o, ho⟩, hfo⟩ := HO.out w1 hb1))
      go_roundw
      case rel =>
        have := HN.out w1 hb1
        have e1 : (x : Int) + 1 + 1 = ((k + (j + 1) * 2 : Nat) : Int) := by have := HX.out; omega
        rw [e1]
        simpa using this
      case measure => simp [intOf]; omega
    · obtain rfl : j = n := by omega
      have HF : Hid (OPends B wr (.slice a j cap) (marksP k j) ∧ Wrote (mine (.slice a j cap)) w wr) := by
        refine ⟨?_, ht⟩
        rw [show marksP k j = l' from ?_]; exact ho
        apply List.ext_getElem?
        intro i
        by_cases hi : i < j
        · rw [marksP_at _ _ _ hi, hm i hi]
        · rw [List.getElem?_eq_none (by rw [marksP_length]; omega), List.getElem?_eq_none (by omega)]
      clear hm ho ht
      go_wp2
      go_ret
      exact ⟨rfl, HF.out.1, HF.out.2⟩

def RelH (k n : Nat) (w : World) (q i : Value) (wr : World) : Prop := ∃ j : Nat, j ≤ n ∧ i = .int .i64 j ∧ q = .int .i64 ((k + j : Nat) : Int) ∧ Below w.heap.size w wr
set_option maxRecDepth 100000 in
set_option maxHeartbeats 1600000 in
theorem heldStrs_any (k n : Nat) (v : Value) (w : World) (hv : Strs w v (marksS k n)) (h1 : 0 < k) (h2 : k + n < 10000000) :
    Calls Tryz.prog 93 #[v, .int .i64 k] w fun e w' => e = .returned (.int .i64 ((k + n : Nat) : Int)) ∧ Below w.heap.size w w' := by
  have H0 : Hid (RelH k n w (.int .i64 k) (.int .i64 0) w) := ⟨0, Nat.zero_le _, rfl, by simp, Below.refl _ _⟩
  obtain ⟨a, cap, rfl, hl, hc⟩ := hv
  rw [marksS_length] at hc hl ⊢
  go_enter Tryz.func93, Tryz.ntmps93
  go_wp2
  go_loopw [1, 5] (fun q i wr => RelH k n w q i wr) (fun _ i _ => n - (intOf i).toNat)
  case atStart => exact H0.out
  case round =>
    clear H0
    obtain ⟨j, hj, rfl, rfl, hbel⟩ := hrel
    by_cases hlt : j < n
    · obtain ⟨b, off, rfl, hbb, hcc⟩ := hc (by omega)
      have hlt' : (j : Int) < (n : Int) := by omega
      have c0 := hcc j _ (marksS_at n k j hlt)
      rw [← hbel.cell (p := ⟨b, off + j, none⟩) hbb] at c0
      obtain ⟨x, hx⟩ : ∃ x, k + j = x := ⟨_, rfl⟩
      have HX : Hid (k + j = x) := hx
      have hxb : x < 10000000 := by omega
      have hx0 : 0 < x := by omega
      rw [hx] at c0 ⊢
      have HB : Hid (Below w.heap.size w wr) := hbel
      have HC : Hid (∀ w1, Below wr.heap.size wr w1 → w1.cell? ⟨b, off + j, none⟩ = some (.string (markOf x))) := fun w1 h => by
        rw [h.cell (p := ⟨b, off + j, none⟩) (by have := hbel.size; show b < _; omega)]; exact c0
      clear hcc hx hbel
      go_wp2
      go_region_with (go_at_call 92; refine (markText_any x _ hx0 (by omega)).mono ?_; rintro e w1 ⟨rfl, hb1⟩; have c1 := HC.out w1 ⟨hb1.os, hb1.tape, hb1.output, hb1.size, hb1.block⟩)
      all_goals
        go_wp2
        go_roundw
        case rel => exact ⟨j + 1, by omega, by go_num, by have := HX.out; have e1 : (x : Int) + 1 = ((k + (j + 1) : Nat) : Int) := (by omega); rw [e1], HB.out.drew.trans (hb1.mono HB.out.size)⟩
        case measure => simp [intOf]; omega
    · obtain rfl : j = n := by omega
      have HB : Hid (Below w.heap.size w wr) := hbel
      clear hbel
      go_wp2
      go_ret
      exact ⟨rfl, HB.out⟩
end Go.Proofs.YtfiabbfdnmldjaaGreatDoor.S5

/-
  The laws' own marks in whole disks: laid, and looked for.
-/
namespace Go.Proofs.YtfiabbfdnmldjaaGreatDoor.S6
open Go.RowKit
open Go.Proofs.YtfiabbfdnmldjaaGreatDoor.C0 Go.Proofs.YtfiabbfdnmldjaaGreatDoor.S0 Go.Proofs.YtfiabbfdnmldjaaGreatDoor.S1 Go.Proofs.YtfiabbfdnmldjaaGreatDoor.Mk Go.Proofs.YtfiabbfdnmldjaaGreatDoor.S4 Go.Proofs.YtfiabbfdnmldjaaGreatDoor.S3 Go.Proofs.YtfiabbfdnmldjaaGreatDoor.S5

def RelI (k n : Nat) (w : World) (q i : Value) (wr : World) : Prop := ∃ j : Nat, j ≤ n ∧ i = .int .i64 j ∧ q = .int .i64 ((k + j * 2 : Nat) : Int) ∧ Below w.heap.size w wr
set_option maxRecDepth 100000 in
set_option maxHeartbeats 1600000 in
theorem heldPends_any (k n : Nat) (v : Value) (w : World) (hv : Pends w v (marksP k n)) (h1 : 0 < k) (h2 : k + n * 2 < 10000000) :
    Calls Tryz.prog 94 #[v, .int .i64 k] w fun e w' => e = .returned (.int .i64 ((k + n * 2 : Nat) : Int)) ∧ Below w.heap.size w w' := by
  have H0 : Hid (RelI k n w (.int .i64 k) (.int .i64 0) w) := ⟨0, Nat.zero_le _, rfl, by simp, Below.refl _ _⟩
  obtain ⟨a, cap, rfl, hl, hc⟩ := hv
  rw [marksP_length] at hc hl ⊢
  go_enter Tryz.func94, Tryz.ntmps94
  go_wp2
  go_loopw [1, 5] (fun q i wr => RelI k n w q i wr) (fun _ i _ => n - (intOf i).toNat)
  case atStart => exact H0.out
  case round =>
    clear H0
    obtain ⟨j, hj, rfl, rfl, hbel⟩ := hrel
    by_cases hlt : j < n
    · obtain ⟨b, off, rfl, hbb, hcc⟩ := hc (by omega)
      have hlt' : (j : Int) < (n : Int) := by omega
      obtain ⟨c0, c1⟩ := hcc j _ (marksP_at n k j hlt)
      rw [← hbel.cell (p := ⟨b, off + j * 2, none⟩) hbb] at c0
      rw [← hbel.cell (p := ⟨b, off + j * 2 + 1, none⟩) hbb] at c1
      obtain ⟨x, hx⟩ : ∃ x, k + j * 2 = x := ⟨_, rfl⟩
      have HX : Hid (k + j * 2 = x) := hx
      have hxb : x < 10000000 := by omega
      have hx0 : 0 < x := by omega
      dsimp only at c0 c1
      rw [hx] at c0 c1 ⊢
      have HB : Hid (Below w.heap.size w wr) := hbel
      have HC : Hid (∀ w1, Below wr.heap.size wr w1 → w1.cell? ⟨b, off + j * 2 + 1, none⟩ = some (.string (markOf (x + 1)))) := fun w1 h => by
        rw [h.cell (p := ⟨b, off + j * 2 + 1, none⟩) (by have := hbel.size; show b < _; omega)]; exact c1
      clear hcc hx hbel
      go_wp2
      go_region_with (go_at_call 92; refine (markText_any (x + 1) _ (by omega) (by omega)).mono ?_; rintro e w1 ⟨rfl, hb1⟩; have c2 := HC.out w1 ⟨hb1.os, hb1.tape, hb1.output, hb1.size, hb1.block⟩)
      all_goals
        go_wp2
        go_roundw
        case rel => exact ⟨j + 1, by omega, by go_num, by have := HX.out; have e1 : (x : Int) + 1 + 1 = ((k + (j + 1) * 2 : Nat) : Int) := (by omega); rw [e1], HB.out.drew.trans (hb1.mono HB.out.size)⟩
        case measure => simp [intOf]; omega
    · obtain rfl : j = n := by omega
      have HB : Hid (Below w.heap.size w wr) := hbel
      clear hbel
      go_wp2
      go_ret
      exact ⟨rfl, HB.out⟩

set_option maxRecDepth 100000 in
set_option maxHeartbeats 800000 in
theorem heldDisk_any (k n m : Nat) (vs vp : Value) (w : World) (hs : Strs w vs (marksS k n)) (hp : Pends w vp (marksP (k + n) m)) (h1 : 0 < k) (h2 : k + n + m * 2 < 10000000) :
    Calls Tryz.prog 65 #[.agg #[vs, vp], .int .i64 k] w fun e w' => e = .returned (.int .i64 ((k + n + m * 2 : Nat) : Int)) ∧ Below w.heap.size w w' := by
  have hal : ∀ o : Obj, Below w.heap.size w (w.alloc o) := fun o => (Below.refl _ _).alloc (Nat.le_refl _) _
  go_enter Tryz.func65, Tryz.ntmps65
  go_wp2_with (first
    | (go_at_call 93; refine (heldStrs_any k n _ _ (hs.below (hal _)) h1 (by omega)).mono ?_; rintro e w1 ⟨rfl, hb1⟩; obtain ⟨hc1, hf1⟩ := bcell hb1; have hB1 : Below w.heap.size w w1 := (hal _).trans (hb1.mono (hal _).size); have hd1 : ¬ ((k + n : Nat) : Int) < 0 := (by omega))
    | (go_at_call 94; refine (heldPends_any (k + n) m _ _ (hp.below hB1) (by omega) (by omega)).mono ?_; rintro e w2 ⟨rfl, hb2⟩; have hd2 : ¬ ((k + n + m * 2 : Nat) : Int) < 0 := (by omega)))
  go_ret
  exact ⟨rfl, hB1.trans (hb2.mono hB1.size)⟩

abbrev mines (vs vp : Value) : Nat → Prop := fun g => vs.ownBlock = some g ∨ vp.ownBlock = some g
set_option maxRecDepth 100000 in
set_option maxHeartbeats 800000 in
theorem markDisk_any (B k : Nat) (a a' : Option Addr) (cap cap' : Nat) (ss : List ByteArray) (ps : List Pend) (w : World) (hv : ODisk B w (.slice a ss.length cap) (.slice a' ps.length cap') ss ps) (h1 : 0 < k) (h2 : k + ss.length + ps.length * 2 < 10000000) :
    Calls Tryz.prog 25 #[.agg #[.slice a ss.length cap, .slice a' ps.length cap'], .int .i64 k] w fun e w' => e = .returned (.int .i64 ((k + ss.length + ps.length * 2 : Nat) : Int)) ∧
      ODisk B w' (.slice a ss.length cap) (.slice a' ps.length cap') (marksS k ss.length) (marksP (k + ss.length) ps.length) ∧ Wrote (mines (.slice a ss.length cap) (.slice a' ps.length cap')) w w' := by
  have hal : ∀ o : Obj, Below w.heap.size w (w.alloc o) := fun o => (Below.refl _ _).alloc (Nat.le_refl _) _
  have hap := own_apart hv.1 hv.2
  have hlt1 := hv.1.lt
  have hlt2 := hv.2.lt
  go_enter Tryz.func25, Tryz.ntmps25
  go_wp2_with (first
    | (go_at_call 63; refine (markStrs_any B k _ _ ss _ (hv.1.below (hal _)) h1 (by omega)).mono ?_; rintro e w1 ⟨rfl, ho1, ht1⟩; have hbk : w1.heap[w.heap.size]? = some (.cells #[.slice a ss.length cap, .slice a' ps.length cap'] 26) := ((ht1.block w.heap.size (by simp) (fun h => by have := (hlt1 _ h).2; omega)).trans (Go.Deep.blk_alloc_new _ _)); obtain ⟨q0, q1, -, -⟩ := blk2 hbk; clear hbk)
    | (go_at_call 64; refine (markPends_any B (k + ss.length) _ _ ps _ ((hv.2.below (hal _)).touch ht1 (fun g h h' => hap g h' h)) (by omega) (by omega)).mono ?_; rintro e w2 ⟨rfl, ho2, ht2⟩))
  go_ret
  refine ⟨rfl, ⟨ho1.touch ht2 (fun g h h' => hap g h h'), ho2⟩, ?_⟩
  exact ((Wrote.of_below (hal _)).trans (ht1.mono (fun g h => .inl h))).trans (ht2.mono (fun g h => .inr h))
end Go.Proofs.YtfiabbfdnmldjaaGreatDoor.S6
