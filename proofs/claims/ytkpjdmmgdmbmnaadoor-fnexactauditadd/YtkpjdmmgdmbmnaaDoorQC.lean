/-
  C9 K0 K1 K2 K3 K4 K5 CT K6 CB K7 K8 KD: parts of the proof, one behind the other.
-/
import Derived.Test.YtkpjdmmgdmbmnaaDoorQB
import Derived.Deep.WholeRow
import Derived.Deep.OwnRows
import Derived.Laws.CopyOwn
import Derived.Laws.ResultCell
import Derived.Test.YtkpjdmmgdmbmnaaDoorQA
import Derived.Deep.Draws
import Derived.Deep.QuietTactic
import Derived.BigQuiet
import Derived.BigRegion
import Derived.WalkSmall
import Derived.Lib.BufferWrite
import Derived.StillTail
import Derived.ArgAppend
import Derived.Deep.MidRow
import Derived.Deep.RegionHeld3
import Derived.Deep.AppendLies
/-
  A whole array out of a block and into one, as one step of a walk.
-/
namespace Go.Proofs.YtkpjdmmgdmbmnaaDoor.C9
open Go.RowKit
open Go.Proofs.YtkpjdmmgdmbmnaaDoor.C0
open Go.Deep (blk_alloc_lt blk_alloc_new nblk_alloc)
variable {P : Program}

theorem load_row (w : World) (g : Nat) (t ty : TypeId) (c : Array Value) (fr : Nat × Nat) (n : Nat) (e : TypeId) (hg : w.heap[g]? = some (.cells c ty fr)) (hu : P.underlying t = some (.array n e)) (hi : (P.info? t).map (·.size) = some c.size) :
    (Instr.loadAt t (.pointer (some ⟨g, 0, none⟩))).run P w = .ok (.agg c) w := by
  simp only [Instr.loadAt, Instr.sureAddr, Sem.run_bind, Sem.run_pure, Result.andThen]
  exact run_loadVar_row w g ty t c fr _ hg hu rfl hi
theorem store_row (w : World) (g : Nat) (t ty : TypeId) (old c : Array Value) (hg : w.heap[g]? = some (.cells old ty (0, 0))) (hi : (P.info? t).map (·.size) = some c.size) (ho : old.size = c.size) (h1 : c.all (·.oneCell') = true) :
    (Instr.storeAt t (.pointer (some ⟨g, 0, none⟩)) (.agg c)).run P w = .ok () (w.setRow g c) := by
  simp only [Instr.storeAt, Instr.sureAddr, Sem.run_bind, Sem.run_pure, Result.andThen]
  exact run_storeVar_row w g ty t old c hg hi ho h1
theorem wpList_load_whole {w : World} {ops : Array Oper} {rest : List Oper} {o : Oper} {a : Act} {Q : Exit → Act → World → Prop}
    (hg : o.guard = none) (t : TypeId) (p : Operand) (hop : o.op = Op.load t p) (ad : Addr) (hp : a.eval p = .pointer (some ad)) (v : Value)
    (hrun : (Instr.loadAt t (.pointer (some ad))).run P w = .ok v w) (hK : wpList P ops Q rest (a.put o.dst v) w) : wpList P ops Q (o :: rest) a w := by
  refine wpList_plain hg fun K hK' => ?_
  unfold Oper.wp
  simp [execOp, hop, hp, hrun, Result.andThen]
  exact hK' _ _ hK
theorem wpList_store_whole {w : World} {ops : Array Oper} {rest : List Oper} {o : Oper} {a : Act} {Q : Exit → Act → World → Prop}
    (hg : o.guard = none) (hd : o.dst = none) (t : TypeId) (p q : Operand) (hop : o.op = Op.store t p q) (ad : Addr) (hp : a.eval p = .pointer (some ad)) (v : Value) (hq : a.eval q = v) (w' : World)
    (hrun : (Instr.storeAt t (.pointer (some ad)) v).run P w = .ok () w') (hK : wpList P ops Q rest a w') : wpList P ops Q (o :: rest) a w := by
  refine wpList_plain hg fun K hK' => ?_
  unfold Oper.wp
  simp [execOp, hop, hp, hq, hrun, Result.andThen]
  refine hK' _ _ ?_
  rw [hd]
  exact hK
theorem results_row {fn : Func} {p : Tmp} {ty : TypeId} (h : fn.results = #[.cell p ty]) (tmps : Array Value) (w : World) (g : Nat) (t : TypeId) (c : Array Value) (fr : Nat × Nat) (n : Nat) (e : TypeId) (hp : tmps.getD p undef = .pointer (some ⟨g, 0, none⟩))
    (hg : w.heap[g]? = some (.cells c t fr)) (hu : P.underlying ty = some (.array n e)) (hi : (P.info? ty).map (·.size) = some c.size) :
    (results fn tmps).run P w = .ok (.agg c) w := by
  have hl := run_loadVar_row (P := P) w g t ty c fr _ hg hu rfl hi
  have hp' : tmps[p]?.getD undef = .pointer (some ⟨g, 0, none⟩) := by simpa using hp
  simp only [results, h]
  simp [hp', asAddr, hl]
/-- Two blocks that a call lays first, behind whatever only makes memory. -/
theorem two_laid {w w1 : World} {o1 o2 : Obj} (hb : Below ((w.alloc o1).alloc o2).heap.size ((w.alloc o1).alloc o2) w1) :
    w1.heap[w.heap.size]? = some o1 ∧ w1.heap[w.heap.size + 1]? = some o2 ∧ w.heap.size + 2 ≤ w1.heap.size ∧ Below w.heap.size w w1 := by
  have hs : ((w.alloc o1).alloc o2).heap.size = w.heap.size + 2 := by rw [nblk_alloc, nblk_alloc]
  have h1 : (w.alloc o1).heap.size = w.heap.size + 1 := nblk_alloc _ _
  refine ⟨?_, ?_, ?_, ?_⟩
  · rw [hb.block _ (by omega), blk_alloc_lt _ _ _ (by omega), blk_alloc_new]
  · rw [hb.block _ (by omega), ← h1, blk_alloc_new]
  · have := hb.size; omega
  · exact (((Below.refl _ _).alloc (Nat.le_refl _) _).alloc (by omega) _).trans (hb.mono (by omega))
end Go.Proofs.YtkpjdmmgdmbmnaaDoor.C9

/-
  A number of 32 bits turned right: what the specification's function and the program's answer.
-/
namespace Go.Proofs.YtkpjdmmgdmbmnaaDoor.K0
open Go.RowKit
open Go.Proofs.YtkpjdmmgdmbmnaaDoor.C0

theorem cast_shr (x k : Nat) : (x : Int) / 2 ^ k = ((x / 2 ^ k : Nat) : Int) := by simp
theorem cast_shl (x k : Nat) : (x : Int) * 2 ^ k % 4294967296 = ((x * 2 ^ k % 4294967296 : Nat) : Int) := by simp
theorem turned (x k : Nat) (hx : x < 4294967296) : bits .or .u32 ((x : Int) / 2 ^ k) ((x : Int) * 2 ^ (32 - k) % 4294967296) = ((Ms.rotr x k : Nat) : Int) := by
  rw [cast_shr, cast_shl, u32_or_nat _ _ (Ms.div_lt _ hx) (Nat.mod_lt _ (by omega))]; rfl
theorem turned' (x k : Nat) (hx : x < 4294967296) : bits .or .u32 ((x : Int) * 2 ^ (32 - k) % 4294967296) ((x : Int) / 2 ^ k) = ((Ms.rotr x k : Nat) : Int) := by
  rw [cast_shr, cast_shl, u32_or_nat _ _ (Nat.mod_lt _ (by omega)) (Ms.div_lt _ hx), Nat.or_comm]; rfl

set_option maxRecDepth 100000 in
theorem turn_spec (x k : Nat) (w : World) (hx : x < 4294967296) (h1 : 0 < k) (h2 : k < 32) :
    Calls Tryd.prog 101 #[.int .u32 x, .int .u64 k] w fun e w' => e = .returned (.int .u32 (Ms.rotr x k : Nat)) ∧ w = w' := by
  have ht := turned x k hx
  go_enter Tryd.func101, Tryd.ntmps101
  go_wp2
  go_ret
  exact ⟨rfl, rfl⟩

theorem places (k : Nat) (h1 : 0 < k) (h2 : k < 32) : bits .and .u64 (IntKind.u64.wrap (-(k : Int))) 31 = ((32 - k : Nat) : Int) := by
  have e : IntKind.u64.wrap (-(k : Int)) = ((18446744073709551616 - k : Nat) : Int) := by
    rw [IntKind.wrap_u64]; omega
  rw [e, show (31 : Int) = ((31 : Nat) : Int) from rfl, u64_and_nat _ _ (by omega) (by omega), nat_mask5]
  omega

set_option maxRecDepth 100000 in
theorem rot_lib (x k : Nat) (w : World) (hx : x < 4294967296) (h1 : 0 < k) (h2 : k < 32) :
    Calls Tryd.prog 106 #[.int .u32 x, .int .i64 (-(k : Int))] w fun e w' => e = .returned (.int .u32 (Ms.rotr x k : Nat)) ∧ w = w' := by
  obtain ⟨j, hj⟩ : ∃ j, 32 - k = j := ⟨_, rfl⟩
  have ht := turned' x k hx
  have hp := places k h1 h2
  rw [hj] at ht hp
  obtain rfl : k = 32 - j := by omega
  have Hj : Hid (32 - (32 - j) = j) := hj
  have h3 : 0 < j := by omega
  have h4 : j < 32 := by omega
  clear hj h1 h2
  go_enter Tryd.func106, Tryd.ntmps106
  go_wp2
  go_ret
  exact ⟨rfl, rfl⟩

set_option maxRecDepth 100000 in
theorem turn_impl (x k : Nat) (w : World) (hx : x < 4294967296) (h1 : 0 < k) (h2 : k < 32) :
    Calls Tryd.prog 105 #[.int .u32 x, .int .i64 k] w fun e w' => e = .returned (.int .u32 (Ms.rotr x k : Nat)) ∧ w = w' := by
  go_enter Tryd.func105, Tryd.ntmps105
  go_wp2_with fail
  refine (rot_lib x k _ hx h1 h2).mono ?_
  rintro e w1 ⟨rfl, rfl⟩
  go_wp2
  go_ret
  exact ⟨rfl, rfl⟩
/-- The same in a region that draws its order and only reads. -/
theorem turn_quiet (x : Nat) (z : Int) (w : World) (m : Nat) (hx : x < 4294967296) (h1 : 0 < z) (h2 : z < 32) :
    Calls Tryd.prog 105 #[.int .u32 x, .int .i64 z] (w.drewN m) fun e w' => e = .returned (.int .u32 (Ms.rotr x z.toNat : Nat)) ∧ ∃ q, w' = w.drewN q := by
  obtain ⟨k, rfl⟩ := Int.eq_ofNat_of_zero_le (show 0 ≤ z by omega)
  exact (turn_impl x k _ hx (by omega) (by omega)).mono fun _ _ h => ⟨h.1, m, h.2.symm⟩
theorem turn_quiet_spec (x : Nat) (z : Int) (w : World) (m : Nat) (hx : x < 4294967296) (h1 : 0 < z) (h2 : z < 32) :
    Calls Tryd.prog 101 #[.int .u32 x, .int .u64 z] (w.drewN m) fun e w' => e = .returned (.int .u32 (Ms.rotr x z.toNat : Nat)) ∧ ∃ q, w' = w.drewN q := by
  obtain ⟨k, rfl⟩ := Int.eq_ofNat_of_zero_le (show 0 ≤ z by omega)
  exact (turn_spec x k _ hx (by omega) (by omega)).mono fun _ _ h => ⟨h.1, m, h.2.symm⟩
theorem turn_any (x : Nat) (z : Int) (w : World) (hx : x < 4294967296) (h1 : 0 < z) (h2 : z < 32) :
    Calls Tryd.prog 105 #[.int .u32 x, .int .i64 z] w fun e w' => e = .returned (.int .u32 (Ms.rotr x z.toNat : Nat)) ∧ w = w' := by
  obtain ⟨k, rfl⟩ := Int.eq_ofNat_of_zero_le (show 0 ≤ z by omega)
  exact turn_impl x k _ hx (by omega) (by omega)
theorem turn_any_spec (x : Nat) (z : Int) (w : World) (hx : x < 4294967296) (h1 : 0 < z) (h2 : z < 32) :
    Calls Tryd.prog 101 #[.int .u32 x, .int .u64 z] w fun e w' => e = .returned (.int .u32 (Ms.rotr x z.toNat : Nat)) ∧ w = w' := by
  obtain ⟨k, rfl⟩ := Int.eq_ofNat_of_zero_le (show 0 ≤ z by omega)
  exact turn_spec x k _ hx (by omega) (by omega)
theorem add_wrap (a b : Nat) : IntKind.u32.wrap ((a : Int) + (b : Int)) = ((Ms.add a b : Nat) : Int) := by
  rw [IntKind.wrap_u32']; simp [Ms.add]
theorem add_mod (a b : Nat) : ((a : Int) + (b : Int)) % 4294967296 = ((Ms.add a b : Nat) : Int) := by simp [Ms.add]
theorem xor3 (a b c : Nat) (ha : a < 4294967296) (hb : b < 4294967296) (hc : c < 4294967296) : bits .xor .u32 (bits .xor .u32 (a : Int) (b : Int)) (c : Int) = (((a ^^^ b) ^^^ c : Nat) : Int) := by
  rw [u32_xor_nat a b ha hb, u32_xor_nat _ c (Ms.xor_lt ha hb) hc]
theorem low0_eq (x : Nat) (h : x < 4294967296) : bits .xor .u32 (bits .xor .u32 ((Ms.rotr x 7 : Nat) : Int) ((Ms.rotr x 18 : Nat) : Int)) ((x : Int) / 8) = ((Ms.low0 x : Nat) : Int) := by
  rw [show ((x : Int) / 8) = ((x / 8 : Nat) : Int) by simp, xor3 _ _ _ (Ms.rotr_lt _ h) (Ms.rotr_lt _ h) (Ms.div_lt _ h)]; rfl
theorem low1_eq (x : Nat) (h : x < 4294967296) : bits .xor .u32 (bits .xor .u32 ((Ms.rotr x 17 : Nat) : Int) ((Ms.rotr x 19 : Nat) : Int)) ((x : Int) / 1024) = ((Ms.low1 x : Nat) : Int) := by
  rw [show ((x : Int) / 1024) = ((x / 1024 : Nat) : Int) by simp, xor3 _ _ _ (Ms.rotr_lt _ h) (Ms.rotr_lt _ h) (Ms.div_lt _ h)]; rfl
theorem up0_eq (x : Nat) (h : x < 4294967296) : bits .xor .u32 (bits .xor .u32 ((Ms.rotr x 2 : Nat) : Int) ((Ms.rotr x 13 : Nat) : Int)) ((Ms.rotr x 22 : Nat) : Int) = ((Ms.up0 x : Nat) : Int) := by
  rw [xor3 _ _ _ (Ms.rotr_lt _ h) (Ms.rotr_lt _ h) (Ms.rotr_lt _ h)]; rfl
theorem up1_eq (x : Nat) (h : x < 4294967296) : bits .xor .u32 (bits .xor .u32 ((Ms.rotr x 6 : Nat) : Int) ((Ms.rotr x 11 : Nat) : Int)) ((Ms.rotr x 25 : Nat) : Int) = ((Ms.up1 x : Nat) : Int) := by
  rw [xor3 _ _ _ (Ms.rotr_lt _ h) (Ms.rotr_lt _ h) (Ms.rotr_lt _ h)]; rfl
theorem not_xor (r : Nat) (h : r < 4294967296) : 4294967295 ^^^ r = Ms.inv r := by
  have e : (BitVec.allOnes 32 ^^^ BitVec.ofNat 32 r).toNat = (~~~ (BitVec.ofNat 32 r)).toNat := by rw [BitVec.xor_comm, BitVec.xor_allOnes]
  rw [BitVec.toNat_xor, BitVec.toNat_not, BitVec.toNat_ofNat, BitVec.toNat_allOnes] at e
  rw [Nat.mod_eq_of_lt (by omega)] at e
  unfold Ms.inv
  omega
theorem not_eq (e : Nat) (he : e < 4294967296) : bits .xor .u32 (if IntKind.u32.signed = true then -1 else IntKind.u32.max) (e : Int) = ((Ms.inv e : Nat) : Int) := by
  rw [if_neg (by decide)]
  show bits .xor .u32 ((4294967295 : Nat) : Int) (e : Int) = _
  rw [u32_xor_nat _ _ (by omega) he, not_xor e he]
theorem ch_eq (e f g : Nat) (he : e < 4294967296) (hf : f < 4294967296) (hg : g < 4294967296) :
    bits .xor .u32 (bits .and .u32 (e : Int) (f : Int)) (bits .and .u32 (bits .xor .u32 (if IntKind.u32.signed = true then -1 else IntKind.u32.max) (e : Int)) (g : Int)) = ((Ms.ch e f g : Nat) : Int) := by
  rw [not_eq e he, u32_and_nat e f he hf, u32_and_nat _ g (Ms.inv_lt e) hg, u32_xor_nat _ _ (Ms.and_lt he) (Ms.and_lt (Ms.inv_lt e))]; rfl
theorem maj_eq (a b c : Nat) (ha : a < 4294967296) (hb : b < 4294967296) (hc : c < 4294967296) :
    bits .xor .u32 (bits .xor .u32 (bits .and .u32 (a : Int) (b : Int)) (bits .and .u32 (a : Int) (c : Int))) (bits .and .u32 (b : Int) (c : Int)) = ((Ms.maj a b c : Nat) : Int) := by
  rw [u32_and_nat a b ha hb, u32_and_nat a c ha hc, u32_and_nat b c hb hc, xor3 _ _ _ (Ms.and_lt ha) (Ms.and_lt ha) (Ms.and_lt hb)]; rfl
theorem t1_eq (s : Ms.St) (k w : Nat) : ((s.h : Int) + (Ms.up1 s.e : Nat) + (Ms.ch s.e s.f s.g : Nat) + (k : Int) + (w : Int)) % 4294967296 = ((Ms.t1 s k w : Nat) : Int) := by
  simp only [Ms.t1, Ms.add]; omega
theorem t2_eq (s : Ms.St) : (((Ms.up0 s.a : Nat) : Int) + (Ms.maj s.a s.b s.c : Nat)) % 4294967296 = ((Ms.t2 s : Nat) : Int) := by
  simp only [Ms.t2, Ms.add]; omega
end Go.Proofs.YtkpjdmmgdmbmnaaDoor.K0

/-
  The numbers of a block, as the program reckons them: an array of 64.
-/
namespace Go.Proofs.YtkpjdmmgdmbmnaaDoor.K1
open Go.RowKit
open Go.Proofs.YtkpjdmmgdmbmnaaDoor.C0

abbrev num (n : Nat) : Value := .int .u32 (n : Int)
def wCells (l : List UInt8) : Array Value := ((List.range 64).map fun i => num (Ms.wAt l i)).toArray

theorem or_part (p c : Nat) (hp : p < 16777216) (hc : c < 256) : bits .or .u32 ((p : Int) * 256) (c : Int) = ((p * 256 + c : Nat) : Int) := by
  have e : ((p : Int) * 256) = ((p * 256 : Nat) : Int) := by simp
  rw [e, u32_or_nat _ _ (by omega) (by omega), nat_join 8 _ _ (by omega) (by omega)]

/-- What holds at the head of a round that takes a number: the row's first k are there, the others are 0. -/
def Rel (l : List UInt8) (w0 : World) (i : Value) (w : World) : Prop :=
  ∃ (k : Nat) (f : Nat → Value), k ≤ 16 ∧ i = .int .i64 k ∧ w.rowIs (w0.heap.size + 1) 115 64 f ∧ (∀ j, j < k → f j = num (Ms.word l j)) ∧ (∀ j, k ≤ j → j < 64 → f j = num 0) ∧
    w.rowIs w0.heap.size 115 64 (fun _ => num 0) ∧ Below w0.heap.size w0 w
/-- Inside such a round: the first m bytes of number k. -/
def RelIn (l : List UInt8) (w0 : World) (k : Nat) (i : Value) (w : World) : Prop :=
  ∃ (m : Nat) (f : Nat → Value), m ≤ 4 ∧ i = .int .i64 m ∧ w.rowIs (w0.heap.size + 1) 115 64 f ∧ (∀ j, j < k → f j = num (Ms.word l j)) ∧ (∀ j, k < j → j < 64 → f j = num 0) ∧ f k = num (Ms.part l k m) ∧
    w.rowIs w0.heap.size 115 64 (fun _ => num 0) ∧ Below w0.heap.size w0 w

theorem zeros (w : World) (c : Array Value) (t : TypeId) (n : Nat) (hn : n = w.heap.size) (h : c = Array.replicate 64 (num 0)) : (w.alloc (.cells c t)).rowIs n t 64 (fun _ => num 0) := by
  subst h hn
  have := World.rowIs_alloc w (Array.replicate 64 (num 0)) t (fun _ => num 0) (by intro i hi; simp at hi; simp [hi])
  simpa using this

theorem row_is {l : List UInt8} {w : World} {g : Nat} {t : TypeId} {f : Nat → Value} (h : w.rowIs g t 64 f) (hf : ∀ j, j < 64 → f j = num (Ms.wAt l j)) : w.heap[g]? = some (.cells (wCells l) t (0, 0)) := by
  obtain ⟨c, hc, hn, hcell⟩ := h
  have e : c = wCells l := by
    apply Array.ext_getElem?
    intro i
    by_cases hi : i < 64
    · rw [hcell i hi, hf i hi]; simp [wCells, hi]
    · rw [Array.getElem?_eq_none (by omega), Array.getElem?_eq_none (by simp [wCells]; omega)]
  rw [hc, e]
theorem wCells_one (l : List UInt8) : (wCells l).all (·.oneCell') = true := by
  rw [Array.all_eq_true_iff_forall_mem]
  intro v hv
  simp [wCells] at hv
  obtain ⟨i, _, rfl⟩ := hv
  rfl

/-- One byte more. -/
theorem RelIn.step {l : List UInt8} {w0 w : World} {k m : Nat} {f : Nat → Value} (hm : m < 4) (hrow : w.rowIs (w0.heap.size + 1) 115 64 f) (hlo : ∀ j, j < k → f j = num (Ms.word l j)) (hhi : ∀ j, k < j → j < 64 → f j = num 0)
    (hz : w.rowIs w0.heap.size 115 64 (fun _ => num 0)) (hbel : Below w0.heap.size w0 w) :
    RelIn l w0 k (.int .i64 ((m + 1 : Nat) : Int)) (w.setCell ⟨w0.heap.size + 1, k, none⟩ (num (Ms.part l k m * 256 + Ms.byteAt l (4 * k + m)))) := by
  refine ⟨m + 1, _, by omega, rfl, hrow.set _ _, fun j hj => ?_, fun j hj hj2 => ?_, ?_, hz.setOther (by show w0.heap.size ≠ w0.heap.size + 1; omega) _, hbel.setCell (by show w0.heap.size ≤ w0.heap.size + 1; omega) _⟩
  · show (if j = k then _ else f j) = _
    rw [if_neg (by omega)]; exact hlo j hj
  · show (if j = k then _ else f j) = _
    rw [if_neg (by omega)]; exact hhi j hj hj2
  · show (if k = k then _ else f k) = _
    rw [if_pos rfl]; rfl

/-- The number is whole. -/
theorem Rel.next {l : List UInt8} {w0 w : World} {k : Nat} {f : Nat → Value} (hk : k < 16) (hrow : w.rowIs (w0.heap.size + 1) 115 64 f) (hlo : ∀ j, j < k → f j = num (Ms.word l j)) (hhi : ∀ j, k < j → j < 64 → f j = num 0)
    (hfk : f k = num (Ms.part l k 4)) (hz : w.rowIs w0.heap.size 115 64 (fun _ => num 0)) (hbel : Below w0.heap.size w0 w) : Rel l w0 (.int .i64 ((k : Int) + 1)) w := by
  refine ⟨k + 1, f, by omega, rfl, hrow, fun j hj => ?_, fun j h1 h2 => hhi j (by omega) h2, hz, hbel⟩
  rcases Nat.lt_or_ge j k with h | h
  · exact hlo j h
  · obtain rfl : j = k := by omega
    rw [hfk, Ms.part_four]

theorem back (n d e : Nat) (h : n + e < 64) (hd : d + e = 16) : IntKind.i64.wrap ((n : Int) + 16 - (d : Int)) = ((n + e : Nat) : Int) := by
  rw [IntKind.wrap_i64]; omega

/-- What holds at the head of a round that reckons a number from those before. -/
def Rel2 (l : List UInt8) (w0 : World) (i : Value) (w : World) : Prop :=
  ∃ (n : Nat) (f : Nat → Value), n ≤ 48 ∧ i = .int .i64 n ∧ w.rowIs (w0.heap.size + 1) 115 64 f ∧ (∀ j, j < n + 16 → f j = num (Ms.wAt l j)) ∧
    w.rowIs w0.heap.size 115 64 (fun _ => num 0) ∧ Below w0.heap.size w0 w
theorem Rel2.step {l : List UInt8} {w0 w : World} {n : Nat} {f : Nat → Value} (hn : n < 48) (hrow : w.rowIs (w0.heap.size + 1) 115 64 f) (hlo : ∀ j, j < n + 16 → f j = num (Ms.wAt l j))
    (hz : w.rowIs w0.heap.size 115 64 (fun _ => num 0)) (hbel : Below w0.heap.size w0 w) :
    Rel2 l w0 (.int .i64 ((n + 1 : Nat) : Int)) (w.setCell ⟨w0.heap.size + 1, n + 16, none⟩ (num (Ms.wAt l (n + 16)))) := by
  refine ⟨n + 1, _, by omega, rfl, hrow.set _ _, fun j hj => ?_, hz.setOther (by show w0.heap.size ≠ w0.heap.size + 1; omega) _, hbel.setCell (by show w0.heap.size ≤ w0.heap.size + 1; omega) _⟩
  show (if j = n + 16 then _ else f j) = _
  by_cases h : j = n + 16
  · rw [if_pos h, h]
  · rw [if_neg h]; exact hlo j (by omega)

set_option maxRecDepth 100000 in
set_option maxHeartbeats 800000 in
theorem nums_impl (b off cap : Nat) (l : List UInt8) (w : World) (hb : b < w.heap.size) (hcap : 64 ≤ cap) (hcm : cap ≤ maxLen) 
    (hc : ∀ j, j < 64 → w.cell? ⟨b, off + j, none⟩ = some (.int .u8 (Ms.byteAt l j : Nat))) :
    Calls Tryd.prog 104 #[.slice (some ⟨b, off, none⟩) 64 cap] w fun e w' => e = .returned (.agg (wCells l)) ∧ Below w.heap.size w w' := by
  unfold maxLen at hcm
  go_enter Tryd.func104, Tryd.ntmps104
  go_wp2_with fail
  go_loopw [11] (fun i wr => Rel l w i wr) (fun i _ => 16 - (intOf i).toNat)
  case atStart =>
    refine ⟨0, fun _ => num 0, by omega, rfl, ?_, fun j hj => by omega, fun _ _ _ => rfl, ?_, ?_⟩
    · exact zeros _ _ _ _ (by simp) rfl
    · exact (zeros w _ _ _ rfl rfl).alloc _
    · exact ((Below.refl _ _).alloc (Nat.le_refl _) _).alloc (by simp) _
  case round =>
    obtain ⟨k, f, hk, rfl, hrow, hlo, hhi, hz, hbel⟩ := hrel
    by_cases hlt : k < 16
    · have h4 : (k + 1) * 4 - k * 4 = 4 := by omega
      go_wp2_with fail
      clear h4
      go_loopw [22] (fun i wr => RelIn l w k i wr) (fun i _ => 4 - (intOf i).toNat)
      case atStart => exact ⟨0, f, by omega, rfl, hrow, hlo, fun j h1 h2 => hhi j (by omega) h2, hhi k (Nat.le_refl _) (by omega), hz, hbel⟩
      case round =>
        clear hrow hlo hhi hz hbel
        obtain ⟨m, f, hm, rfl, hrow, hlo, hhi, hfk, hz, hbel⟩ := hrel
        by_cases hl4 : m < 4
        · have hcb : wr.cell? ⟨b, off + k * 4 + m, none⟩ = some (.int .u8 (Ms.byteAt l (4 * k + m) : Nat)) := by
            rw [hbel.cell (by exact hb), show off + k * 4 + m = off + (4 * k + m) by omega]; exact hc _ (by omega)
          have hcw : wr.cell? ⟨w.heap.size + 1, k, none⟩ = some (num (Ms.part l k m)) := by rw [← hfk]; exact hrow.cell (by omega)
          have hfr := hrow.frozen k
          have HN : Hid (RelIn l w k (.int .i64 ((m + 1 : Nat) : Int)) (wr.setCell ⟨w.heap.size + 1, k, none⟩ (num (Ms.part l k m * 256 + Ms.byteAt l (4 * k + m))))) := RelIn.step hl4 hrow hlo hhi hz hbel
          have hp : Ms.part l k m < 16777216 := Nat.lt_of_lt_of_le (Ms.part_lt l k m) (Nat.pow_le_pow_right (n := 256) (by omega) (show m ≤ 3 by omega))
          have hbl := Ms.byteAt_lt l (4 * k + m)
          have hor := or_part _ _ hp hbl
          clear hrow hlo hhi hz hbel hfk
          go_wp2
          go_roundw
          case rel => exact HN.out
          case measure => simp [intOf]; omega
        · obtain rfl : m = 4 := by omega
          go_wp2
          go_roundw
          case rel => exact Rel.next hlt hrow hlo hhi hfk hz hbel
          case measure => simp [intOf]; omega
    · obtain rfl : k = 16 := by omega
      have HR : Hid (Rel2 l w (.int .i64 0) wr) := ⟨0, f, by omega, rfl, hrow, fun j hj => by rw [hlo j (by omega), Ms.wAt_low l j (by omega)], hz, hbel⟩
      clear hrow hlo hhi hz hbel
      go_wp2_with fail
      go_loopw [37] (fun i wr => Rel2 l w i wr) (fun i _ => 48 - (intOf i).toNat)
      case atStart => exact HR.out
      case round =>
        clear HR
        obtain ⟨n, f, hn, rfl, hrow, hlo, hz, hbel⟩ := hrel
        by_cases hl : n < 48
        · have c0 : wr.cell? ⟨w.heap.size + 1, n, none⟩ = some (num (Ms.wAt l n)) := by rw [← hlo n (by omega)]; exact hrow.cell (by omega)
          have c1 : wr.cell? ⟨w.heap.size + 1, n + 1, none⟩ = some (num (Ms.wAt l (n + 1))) := by rw [← hlo (n + 1) (by omega)]; exact hrow.cell (by omega)
          have c9 : wr.cell? ⟨w.heap.size + 1, n + 9, none⟩ = some (num (Ms.wAt l (n + 9))) := by rw [← hlo (n + 9) (by omega)]; exact hrow.cell (by omega)
          have c14 : wr.cell? ⟨w.heap.size + 1, n + 14, none⟩ = some (num (Ms.wAt l (n + 14))) := by rw [← hlo (n + 14) (by omega)]; exact hrow.cell (by omega)
          obtain ⟨o16, c16⟩ : ∃ o, wr.cell? ⟨w.heap.size + 1, n + 16, none⟩ = some o := ⟨_, hrow.cell (by omega)⟩
          have hfr := hrow.frozen (n + 16)
          have HN : Hid (∀ m, Rel2 l w (.int .i64 ((n + 1 : Nat) : Int)) ((wr.drewN m).setCell ⟨w.heap.size + 1, n + 16, none⟩ (num (Ms.wAt l (n + 16))))) :=
            fun m => Rel2.step (w := wr.drewN m) hl hrow hlo hz (below_drewN hbel m)
          have HW : Hid (Ms.wAt l (n + 16) = Ms.add (Ms.add (Ms.add (Ms.wAt l n) (Ms.low0 (Ms.wAt l (n + 1)))) (Ms.wAt l (n + 9))) (Ms.low1 (Ms.wAt l (n + 14)))) := Ms.wAt_high l n
          have b0 := Ms.wAt_lt l n
          have b1 := Ms.wAt_lt l (n + 1)
          have b9 := Ms.wAt_lt l (n + 9)
          have b14 := Ms.wAt_lt l (n + 14)
          generalize Ms.wAt l n = x0 at *
          generalize Ms.wAt l (n + 1) = x1 at *
          generalize Ms.wAt l (n + 9) = x9 at *
          generalize Ms.wAt l (n + 14) = x14 at *
          clear hrow hlo hz hbel
          have q15 : IntKind.i64.wrap ((n : Int) + 16 - 15) = ((n + 1 : Nat) : Int) := back n 15 1 (by omega) rfl
          have q2 : IntKind.i64.wrap ((n : Int) + 16 - 2) = ((n + 14 : Nat) : Int) := back n 2 14 (by omega) rfl
          have q7 : IntKind.i64.wrap ((n : Int) + 16 - 7) = ((n + 9 : Nat) : Int) := back n 7 9 (by omega) rfl
          have q16 : IntKind.i64.wrap ((n : Int) + 16 - 16) = ((n + 0 : Nat) : Int) := back n 16 0 (by omega) rfl
          have i1 : (n : Int) + 1 < 64 := by omega
          have j1 : 0 ≤ (n : Int) + 1 := by omega
          have t1 : ((n : Int) + 1).toNat = n + 1 := by omega
          have i14 : (n : Int) + 14 < 64 := by omega
          have j14 : 0 ≤ (n : Int) + 14 := by omega
          have t14 : ((n : Int) + 14).toNat = n + 14 := by omega
          go_wp2_with fail
          go_quiet (first | (go_at_call 105; exact K0.turn_quiet _ _ _ _ b1 (by decide) (by decide)))
          go_wp2_with fail
          rw [K0.low0_eq x1 b1]
          obtain ⟨w1, hw1⟩ : ∃ x, wr.drewN nq = x := ⟨_, rfl⟩
          have d0 : w1.cell? ⟨w.heap.size + 1, n, none⟩ = some (num x0) := by rw [← hw1]; exact c0
          have d9 : w1.cell? ⟨w.heap.size + 1, n + 9, none⟩ = some (num x9) := by rw [← hw1]; exact c9
          have d14 : w1.cell? ⟨w.heap.size + 1, n + 14, none⟩ = some (num x14) := by rw [← hw1]; exact c14
          have d16 : w1.cell? ⟨w.heap.size + 1, n + 16, none⟩ = some o16 := by rw [← hw1]; exact c16
          have dfr : w1.frozen? ⟨w.heap.size + 1, n + 16, none⟩ = false := by rw [← hw1]; exact hfr
          have HN1 : Hid (∀ m, Rel2 l w (.int .i64 ((n + 1 : Nat) : Int)) ((w1.drewN m).setCell ⟨w.heap.size + 1, n + 16, none⟩ (num (Ms.wAt l (n + 16))))) := by
            intro m; rw [← hw1, World.drewN_drewN]; exact HN.out _
          rw [hw1]
          clear hw1 c0 c1 c9 c14 c16 hfr HN
          go_quiet (first | (go_at_call 105; exact K0.turn_quiet _ _ _ _ b14 (by decide) (by decide)))
          go_wp2_with fail
          rw [K0.low1_eq x14 b14]
          generalize Ms.low0 x1 = s0 at *
          generalize Ms.low1 x14 = s1 at *
          have i0 : (n : Int) < 64 := by omega
          have i9 : (n : Int) + 9 < 64 := by omega
          have j9 : 0 ≤ (n : Int) + 9 := by omega
          have t9 : ((n : Int) + 9).toNat = n + 9 := by omega
          have i16 : (n : Int) + 16 < 64 := by omega
          have j16 : 0 ≤ (n : Int) + 16 := by omega
          have t16 : ((n : Int) + 16).toNat = n + 16 := by omega
          have a1 := K0.add_wrap x0 s0
          have a2 := K0.add_wrap (Ms.add x0 s0) x9
          have a3 := K0.add_wrap (Ms.add (Ms.add x0 s0) x9) s1
          have a1' := K0.add_mod x0 s0
          have a2' := K0.add_mod (Ms.add x0 s0) x9
          have a3' := K0.add_mod (Ms.add (Ms.add x0 s0) x9) s1
          go_region
          go_wp2
          go_roundw
          case rel =>
            have h := HN1.out (nq + 1)
            rw [HW.out] at h
            exact h
          case measure => simp [intOf]; omega
        · obtain rfl : n = 48 := by omega
          have hW : wr.heap[w.heap.size + 1]? = some (.cells (wCells l) 115 (0, 0)) := row_is hrow (fun j hj => hlo j hj)
          obtain ⟨old, hO, hOs, _⟩ := hz
          have hsz : (wCells l).size = 64 := by simp [wCells]
          have hinfo : (Tryd.prog.info? 115).map (·.size) = some (wCells l).size := by rw [hsz]; kernel_rfl
          have hld := C9.load_row (P := Tryd.prog) wr (w.heap.size + 1) 115 _ (wCells l) _ 64 _ hW Tryd.underlying115 hinfo
          have hst := C9.store_row (P := Tryd.prog) wr w.heap.size 115 _ old (wCells l) hO hinfo (by rw [hsz, hOs]) (wCells_one l)
          have HR : Hid ((wr.setRow w.heap.size (wCells l)).heap[w.heap.size]? = some (.cells (wCells l) 115 (0, 0))) := setRow_heap wr _ _ _ _ _ hO
          have HB : Hid (Below w.heap.size w (wr.setRow w.heap.size (wCells l))) := below_setRow hbel (Nat.le_refl _) _
          clear hrow hlo hbel hW hO hOs hsz
          go_wp2_with (first
            | (refine C9.wpList_load_whole rfl 115 _ rfl _ rfl _ hld ?_)
            | (refine C9.wpList_store_whole rfl rfl 115 _ _ rfl _ rfl _ rfl _ hst ?_))
          exact bodyPost_ret (v := .agg (wCells l)) (C9.results_row rfl _ _ w.heap.size _ (wCells l) _ 64 _ rfl HR.out Tryd.underlying115 hinfo) rfl ⟨rfl, HB.out⟩
end Go.Proofs.YtkpjdmmgdmbmnaaDoor.K1

/-
  One block more, as the program takes it: the state is an array of eight.
-/
namespace Go.Proofs.YtkpjdmmgdmbmnaaDoor.K2
open Go.RowKit
open Go.Proofs.YtkpjdmmgdmbmnaaDoor.C0
open Go.Deep (blk_alloc_lt blk_alloc_new nblk_alloc)
open Go.Proofs.YtkpjdmmgdmbmnaaDoor.K1 (num wCells)

/-- The variable that holds the rounds' numbers lies as the program's text lays it. -/
def Laid (w : World) : Prop := ∀ i, i < 64 → w.cell? ⟨0, i, none⟩ = some (num (Ms.key i))
theorem Laid.lt {w : World} (h : Laid w) : 0 < w.heap.size := by
  rcases Nat.lt_or_ge 0 w.heap.size with h' | h'
  · exact h'
  · have := h 0 (by omega)
    simp [World.cell?, Array.getElem?_eq_none h'] at this
theorem Laid.below {w w' : World} (h : Laid w) (hb : Below w.heap.size w w') : Laid w' := by
  intro i hi; rw [hb.cell (p := ⟨0, i, none⟩) h.lt]; exact h i hi

def stCells (s : Ms.St) : Array Value := #[num s.a, num s.b, num s.c, num s.d, num s.e, num s.f, num s.g, num s.h]

theorem cell_at {w : World} {g : Nat} {c : Array Value} {t : TypeId} {fr : Nat × Nat} (hg : w.heap[g]? = some (.cells c t fr)) (j : Nat) : w.cell? ⟨g, j, none⟩ = c[j]? := by simp [World.cell?, hg]
theorem frozen_at {w : World} {g : Nat} {c : Array Value} {t : TypeId} (hg : w.heap[g]? = some (.cells c t (0, 0))) (j : Nat) : w.frozen? ⟨g, j, none⟩ = false := by simp [World.frozen?, hg]
theorem wCells_at (l : List UInt8) (j : Nat) (hj : j < 64) : (wCells l)[j]? = some (num (Ms.wAt l j)) := by simp [wCells, hj]

theorem ix0 (a b c d e f g h : Value) (w : World) : (Instr.index 107 (.agg #[a, b, c, d, e, f, g, h]) (.int .i64 0)).run Tryd.prog w = .ok a w := by kernel_rfl
theorem ix1 (a b c d e f g h : Value) (w : World) : (Instr.index 107 (.agg #[a, b, c, d, e, f, g, h]) (.int .i64 1)).run Tryd.prog w = .ok b w := by kernel_rfl
theorem ix2 (a b c d e f g h : Value) (w : World) : (Instr.index 107 (.agg #[a, b, c, d, e, f, g, h]) (.int .i64 2)).run Tryd.prog w = .ok c w := by kernel_rfl
theorem ix3 (a b c d e f g h : Value) (w : World) : (Instr.index 107 (.agg #[a, b, c, d, e, f, g, h]) (.int .i64 3)).run Tryd.prog w = .ok d w := by kernel_rfl
theorem ix4 (a b c d e f g h : Value) (w : World) : (Instr.index 107 (.agg #[a, b, c, d, e, f, g, h]) (.int .i64 4)).run Tryd.prog w = .ok e w := by kernel_rfl
theorem ix5 (a b c d e f g h : Value) (w : World) : (Instr.index 107 (.agg #[a, b, c, d, e, f, g, h]) (.int .i64 5)).run Tryd.prog w = .ok f w := by kernel_rfl
theorem ix6 (a b c d e f g h : Value) (w : World) : (Instr.index 107 (.agg #[a, b, c, d, e, f, g, h]) (.int .i64 6)).run Tryd.prog w = .ok g w := by kernel_rfl
theorem ix7 (a b c d e f g h : Value) (w : World) : (Instr.index 107 (.agg #[a, b, c, d, e, f, g, h]) (.int .i64 7)).run Tryd.prog w = .ok h w := by kernel_rfl
theorem jx0 (a b c d e f g h : Value) (w : World) : (Instr.index 108 (.agg #[a, b, c, d, e, f, g, h]) (.int .i64 0)).run Tryd.prog w = .ok a w := by kernel_rfl
theorem jx1 (a b c d e f g h : Value) (w : World) : (Instr.index 108 (.agg #[a, b, c, d, e, f, g, h]) (.int .i64 1)).run Tryd.prog w = .ok b w := by kernel_rfl
theorem jx2 (a b c d e f g h : Value) (w : World) : (Instr.index 108 (.agg #[a, b, c, d, e, f, g, h]) (.int .i64 2)).run Tryd.prog w = .ok c w := by kernel_rfl
theorem jx3 (a b c d e f g h : Value) (w : World) : (Instr.index 108 (.agg #[a, b, c, d, e, f, g, h]) (.int .i64 3)).run Tryd.prog w = .ok d w := by kernel_rfl
theorem jx4 (a b c d e f g h : Value) (w : World) : (Instr.index 108 (.agg #[a, b, c, d, e, f, g, h]) (.int .i64 4)).run Tryd.prog w = .ok e w := by kernel_rfl
theorem jx5 (a b c d e f g h : Value) (w : World) : (Instr.index 108 (.agg #[a, b, c, d, e, f, g, h]) (.int .i64 5)).run Tryd.prog w = .ok f w := by kernel_rfl
theorem jx6 (a b c d e f g h : Value) (w : World) : (Instr.index 108 (.agg #[a, b, c, d, e, f, g, h]) (.int .i64 6)).run Tryd.prog w = .ok g w := by kernel_rfl
theorem jx7 (a b c d e f g h : Value) (w : World) : (Instr.index 108 (.agg #[a, b, c, d, e, f, g, h]) (.int .i64 7)).run Tryd.prog w = .ok h w := by kernel_rfl

theorem ixk (t : Ms.St) (k : Nat) (h : k < 8) (w : World) : (Instr.index 107 (.agg #[num t.a, num t.b, num t.c, num t.d, num t.e, num t.f, num t.g, num t.h]) (.int .i64 (k : Int))).run Tryd.prog w = .ok (num (t.list.getD k 0)) w := by
  match k, h with
  | 0, _ => exact ix0 _ _ _ _ _ _ _ _ w
  | 1, _ => exact ix1 _ _ _ _ _ _ _ _ w
  | 2, _ => exact ix2 _ _ _ _ _ _ _ _ w
  | 3, _ => exact ix3 _ _ _ _ _ _ _ _ w
  | 4, _ => exact ix4 _ _ _ _ _ _ _ _ w
  | 5, _ => exact ix5 _ _ _ _ _ _ _ _ w
  | 6, _ => exact ix6 _ _ _ _ _ _ _ _ w
  | 7, _ => exact ix7 _ _ _ _ _ _ _ _ w
theorem jxk (t : Ms.St) (k : Nat) (h : k < 8) (w : World) : (Instr.index 108 (.agg (stCells t)) (.int .i64 (k : Int))).run Tryd.prog w = .ok (num (t.list.getD k 0)) w := by
  match k, h with
  | 0, _ => exact jx0 _ _ _ _ _ _ _ _ w
  | 1, _ => exact jx1 _ _ _ _ _ _ _ _ w
  | 2, _ => exact jx2 _ _ _ _ _ _ _ _ w
  | 3, _ => exact jx3 _ _ _ _ _ _ _ _ w
  | 4, _ => exact jx4 _ _ _ _ _ _ _ _ w
  | 5, _ => exact jx5 _ _ _ _ _ _ _ _ w
  | 6, _ => exact jx6 _ _ _ _ _ _ _ _ w
  | 7, _ => exact jx7 _ _ _ _ _ _ _ _ w
theorem stCells_at (s : Ms.St) (j : Nat) (hj : j < 8) : (stCells s)[j]? = some (num (s.list.getD j 0)) := by
  match j, hj with
  | 0, _ => rfl
  | 1, _ => rfl
  | 2, _ => rfl
  | 3, _ => rfl
  | 4, _ => rfl
  | 5, _ => rfl
  | 6, _ => rfl
  | 7, _ => rfl
theorem plus_at (s t : Ms.St) (j : Nat) (hj : j < 8) : (Ms.plus s t).list.getD j 0 = Ms.add (s.list.getD j 0) (t.list.getD j 0) := by
  match j, hj with
  | 0, _ => rfl
  | 1, _ => rfl
  | 2, _ => rfl
  | 3, _ => rfl
  | 4, _ => rfl
  | 5, _ => rfl
  | 6, _ => rfl
  | 7, _ => rfl
theorem row_st {w : World} {g : Nat} {t : TypeId} {s : Ms.St} {f : Nat → Value} (h : w.rowIs g t 8 f) (hf : ∀ j, j < 8 → f j = num (s.list.getD j 0)) : w.heap[g]? = some (.cells (stCells s) t (0, 0)) := by
  obtain ⟨c, hc, hn, hcell⟩ := h
  have e : c = stCells s := by
    apply Array.ext_getElem?
    intro i
    by_cases hi : i < 8
    · rw [hcell i hi, hf i hi, stCells_at s i hi]
    · rw [Array.getElem?_eq_none (by omega), Array.getElem?_eq_none (by simp [stCells]; omega)]
  rw [hc, e]
theorem stCells_one (s : Ms.St) : (stCells s).all (·.oneCell') = true := by
  rw [Array.all_eq_true_iff_forall_mem]
  intro v hv
  simp [stCells] at hv
  rcases hv with rfl | rfl | rfl | rfl | rfl | rfl | rfl | rfl <;> rfl
theorem info_st (s : Ms.St) : (Tryd.prog.info? 108).map (·.size) = some (stCells s).size := by
  show _ = some 8
  kernel_rfl

/-- What holds at the head of a round of the last loop: k numbers of the state are added. -/
def Rel3 (s t : Ms.St) (w0 : World) (i : Value) (w : World) : Prop :=
  ∃ (k : Nat) (f : Nat → Value), k ≤ 8 ∧ i = .int .i64 k ∧ w.rowIs w0.heap.size 108 8 f ∧ (∀ j, j < k → f j = num ((Ms.plus s t).list.getD j 0)) ∧ (∀ j, k ≤ j → j < 8 → f j = num (s.list.getD j 0)) ∧
    (∃ o, o.size = 8 ∧ w.heap[w0.heap.size + 1]? = some (.cells o 108 (0, 0))) ∧ Below w0.heap.size w0 w
theorem Rel3.step {s t : Ms.St} {w0 w : World} {k : Nat} {f : Nat → Value} (hk : k < 8) (hrow : w.rowIs w0.heap.size 108 8 f) (hlo : ∀ j, j < k → f j = num ((Ms.plus s t).list.getD j 0))
    (hhi : ∀ j, k ≤ j → j < 8 → f j = num (s.list.getD j 0)) (hr : ∃ o, o.size = 8 ∧ w.heap[w0.heap.size + 1]? = some (.cells o 108 (0, 0))) (hbel : Below w0.heap.size w0 w) :
    Rel3 s t w0 (.int .i64 ((k + 1 : Nat) : Int)) (w.setCell ⟨w0.heap.size, k, none⟩ (num (Ms.add (s.list.getD k 0) (t.list.getD k 0)))) := by
  refine ⟨k + 1, _, by omega, rfl, hrow.set _ _, fun j hj => ?_, fun j h1 h2 => ?_, ?_, hbel.setCell (Nat.le_refl _) _⟩
  · show (if j = k then _ else f j) = _
    by_cases h : j = k
    · rw [if_pos h, h, plus_at s t k hk]
    · rw [if_neg h]; exact hlo j (by omega)
  · show (if j = k then _ else f j) = _
    rw [if_neg (by omega)]; exact hhi j (by omega) h2
  · obtain ⟨o, ho, hh⟩ := hr
    exact ⟨o, ho, by rw [Go.Deep.blk_setCell_other _ _ _ _ (by show w0.heap.size + 1 ≠ w0.heap.size; omega)]; exact hh⟩

/-- What holds at the head of a round. -/
def Rel (s : Ms.St) (l : List UInt8) (W : World) (a b c d e f g h i : Value) (w : World) : Prop :=
  ∃ k m : Nat, k ≤ 64 ∧ i = .int .i64 k ∧ a = num (Ms.rnds s l k).a ∧ b = num (Ms.rnds s l k).b ∧ c = num (Ms.rnds s l k).c ∧ d = num (Ms.rnds s l k).d ∧ e = num (Ms.rnds s l k).e ∧ f = num (Ms.rnds s l k).f ∧ g = num (Ms.rnds s l k).g ∧ h = num (Ms.rnds s l k).h ∧ w = W.drewN m

set_option maxRecDepth 100000 in
set_option maxHeartbeats 1600000 in
theorem with_impl (s : Ms.St) (b off cap : Nat) (l : List UInt8) (w : World) (hs : s.ok) (hL : Laid w) (hb : b < w.heap.size) (hcap : 64 ≤ cap) (hcm : cap ≤ maxLen)
    (hc : ∀ j, j < 64 → w.cell? ⟨b, off + j, none⟩ = some (.int .u8 (Ms.byteAt l j : Nat))) :
    Calls Tryd.prog 99 #[.agg (stCells s), .slice (some ⟨b, off, none⟩) 64 cap] w fun e w' => e = .returned (.agg (stCells (Ms.blk s l))) ∧ Below w.heap.size w w' := by
  have hsz : (wCells l).size = 64 := by simp [wCells]
  have hinfo : (Tryd.prog.info? 115).map (·.size) = some (wCells l).size := by rw [hsz]; kernel_rfl
  have Hstate : Hid (stCells s = #[num s.a, num s.b, num s.c, num s.d, num s.e, num s.f, num s.g, num s.h]) := rfl
  rw [Hstate.out]
  go_enter Tryd.func99, Tryd.ntmps99
  go_wp2_with fail
  refine (K1.nums_impl b off cap l _ (by simp; omega) hcap hcm ?_).mono ?_
  · intro j hj
    have := hc j hj
    go_simp
  rintro e w1 ⟨rfl, hb1⟩
  obtain ⟨hA1, hR1, hz1, hbel1⟩ := C9.two_laid hb1
  have HA1 : Hid (w1.heap[w.heap.size]? = some (.cells (stCells s) 108 (0, 0))) := hA1
  have HR1 : Hid (∃ o, o.size = 8 ∧ w1.heap[w.heap.size + 1]? = some (.cells o 108 (0, 0))) := ⟨_, rfl, hR1⟩
  clear hb1 hA1 hR1
  go_wp2_with (refine C9.wpList_store_whole rfl rfl 115 _ _ rfl _ rfl _ rfl _ (run_storeAt_new w1 115 _ (wCells l) hinfo (by rw [hsz]; rfl) (K1.wCells_one l)) ?_)
  obtain ⟨W, hW⟩ : ∃ x, w1.alloc (.cells (wCells l) 115) = x := ⟨_, rfl⟩
  rw [hW]
  have HA : Hid (W.heap[w.heap.size]? = some (.cells (stCells s) 108 (0, 0))) := by rw [← hW, blk_alloc_lt _ _ _ (by omega)]; exact HA1.out
  have HR : Hid (∃ o, o.size = 8 ∧ W.heap[w.heap.size + 1]? = some (.cells o 108 (0, 0))) := by rw [← hW, blk_alloc_lt _ _ _ (by omega)]; exact HR1.out
  have hG : W.heap[w1.heap.size]? = some (.cells (wCells l) 115 (0, 0)) := by rw [← hW, blk_alloc_new]
  have HB : Hid (Below w.heap.size w W) := by rw [← hW]; exact hbel1.alloc (by omega) _
  have HG : Hid (∀ i, i < 64 → W.cell? ⟨w1.heap.size, i, none⟩ = some (num (Ms.wAt l i))) := fun i hi => by rw [cell_at hG, wCells_at l i hi]
  have HL : Hid (∀ i, i < 64 → W.cell? ⟨0, i, none⟩ = some (num (Ms.key i))) := hL.below HB.out
  clear hW HA1 HR1 hG hbel1
  have k0 : W.cell? ⟨w.heap.size, 0, none⟩ = some (num s.a) := cell_at HA.out 0
  have k1 : W.cell? ⟨w.heap.size, 1, none⟩ = some (num s.b) := cell_at HA.out 1
  have k2 : W.cell? ⟨w.heap.size, 2, none⟩ = some (num s.c) := cell_at HA.out 2
  have k3 : W.cell? ⟨w.heap.size, 3, none⟩ = some (num s.d) := cell_at HA.out 3
  have k4 : W.cell? ⟨w.heap.size, 4, none⟩ = some (num s.e) := cell_at HA.out 4
  have k5 : W.cell? ⟨w.heap.size, 5, none⟩ = some (num s.f) := cell_at HA.out 5
  have k6 : W.cell? ⟨w.heap.size, 6, none⟩ = some (num s.g) := cell_at HA.out 6
  have k7 : W.cell? ⟨w.heap.size, 7, none⟩ = some (num s.h) := cell_at HA.out 7
  go_quiet (fail)
  clear k0 k1 k2 k3 k4 k5 k6 k7
  go_wp2_with fail
  go_loopw [6, 7, 8, 9, 10, 11, 12, 13, 39] (fun a b c d e f g h i wr => Rel s l W a b c d e f g h i wr) (fun _ _ _ _ _ _ _ _ i _ => 64 - (intOf i).toNat)
  case atStart => exact ⟨0, nq, by omega, rfl, rfl, rfl, rfl, rfl, rfl, rfl, rfl, rfl, rfl⟩
  case round =>
    obtain ⟨k, m, hk, rfl, rfl, rfl, rfl, rfl, rfl, rfl, rfl, rfl, hw⟩ := hrel
    have ht := Ms.rnds_ok l hs k
    by_cases hlt : k < 64
    · have HS : Hid (Ms.rnds s l (k + 1) = Ms.rnd (Ms.rnds s l k) (Ms.key k) (Ms.wAt l k)) := rfl
      have hck : wr.cell? ⟨0, k, none⟩ = some (num (Ms.key k)) := by rw [hw]; exact HL.out k hlt
      have hcw : wr.cell? ⟨w1.heap.size, k, none⟩ = some (num (Ms.wAt l k)) := by rw [hw]; exact HG.out k hlt
      have Hw : Hid (wr = W.drewN m) := hw
      clear hw
      generalize Ms.rnds s l k = t at *
      generalize Ms.key k = key at *
      generalize Ms.wAt l k = wat at *
      obtain ⟨ta, tb, tc, td, te, tf, tg, th⟩ := t
      obtain ⟨oa, ob, oc, od, oe, of, og, oh⟩ := ht
      simp only at oa ob oc od oe of og oh
      simp only
      go_wp2_with (first | (go_at_call 105; refine (K0.turn_any _ _ _ oe (by decide) (by decide)).mono ?_; rintro e w' ⟨rfl, rfl⟩))
      rw [K0.up1_eq te oe]
      go_quiet (fail)
      go_wp2_with (first | (go_at_call 105; refine (K0.turn_any _ _ _ oa (by decide) (by decide)).mono ?_; rintro e w' ⟨rfl, rfl⟩))
      rw [K0.ch_eq te tf tg oe of og, K0.maj_eq ta tb tc oa ob oc, K0.up0_eq ta oa]
      go_roundw
      case rel =>
        refine ⟨k + 1, m + nq, by omega, by go_num, ?_, ?_, ?_, ?_, ?_, ?_, ?_, ?_, by rw [Hw.out, World.drewN_drewN]⟩
        all_goals rw [HS.out]
        all_goals try rfl
        · rw [K0.t1_eq ⟨ta, tb, tc, td, te, tf, tg, th⟩, K0.t2_eq ⟨ta, tb, tc, td, te, tf, tg, th⟩, K0.add_mod]; rfl
        · rw [K0.t1_eq ⟨ta, tb, tc, td, te, tf, tg, th⟩, K0.add_mod]; rfl
      case measure => simp [intOf]; omega
    · obtain rfl : k = 64 := by omega
      have HBK : Hid (Ms.blk s l = Ms.plus s (Ms.rnds s l 64)) := rfl
      have HC : Hid (wr.heap[w.heap.size]? = some (.cells (stCells s) 108 (0, 0))) := by rw [hw]; exact HA.out
      have HD : Hid (∃ o, o.size = 8 ∧ wr.heap[w.heap.size + 1]? = some (.cells o 108 (0, 0))) := by rw [hw]; exact HR.out
      have HE : Hid (Below w.heap.size w wr) := by rw [hw]; exact below_drewN HB.out m
      clear hw HA HR HB HG HL hc
      generalize Ms.rnds s l 64 = t at *
      have HQ : Hid (Rel3 s t w (.int .i64 0) wr) := ⟨0, fun j => num (s.list.getD j 0), by omega, rfl, ⟨_, HC.out, rfl, stCells_at s⟩, fun j hj => by omega, fun _ _ _ => rfl, HD.out, HE.out⟩
      clear HC HD HE
      go_wp2_with fail
      go_loopw [113] (fun i wr => Rel3 s t w i wr) (fun i _ => 8 - (intOf i).toNat)
      case atStart => exact HQ.out
      case round =>
        clear HQ
        obtain ⟨k, f, hk8, rfl, hrow, hlo, hhi, hr, hbel⟩ := hrel
        by_cases hl8 : k < 8
        · have hx := ixk t k hl8
          have hcell : wr.cell? ⟨w.heap.size, k, none⟩ = some (num (s.list.getD k 0)) := by rw [← hhi k (Nat.le_refl _) hl8]; exact hrow.cell hl8
          have hfr := hrow.frozen k
          have hadd := K0.add_mod (s.list.getD k 0) (t.list.getD k 0)
          have HN : Hid (Rel3 s t w (.int .i64 ((k + 1 : Nat) : Int)) (wr.setCell ⟨w.heap.size, k, none⟩ (num (Ms.add (s.list.getD k 0) (t.list.getD k 0))))) := Rel3.step hl8 hrow hlo hhi hr hbel
          generalize s.list.getD k 0 = sk at *
          generalize t.list.getD k 0 = tk at *
          clear hrow hlo hhi hr hbel
          go_wp2
          go_roundw
          case rel => exact HN.out
          case measure => simp [intOf]; omega
        · obtain rfl : k = 8 := by omega
          have hH : wr.heap[w.heap.size]? = some (.cells (stCells (Ms.plus s t)) 108 (0, 0)) := row_st hrow hlo
          obtain ⟨o, hoz, hO⟩ := hr
          have hi8 := info_st (Ms.plus s t)
          have hld := C9.load_row (P := Tryd.prog) wr w.heap.size 108 _ _ _ 8 _ hH Tryd.underlying108 hi8
          have hst := C9.store_row (P := Tryd.prog) wr (w.heap.size + 1) 108 _ o _ hO hi8 hoz (stCells_one (Ms.plus s t))
          have HX : Hid ((wr.setRow (w.heap.size + 1) (stCells (Ms.plus s t))).heap[w.heap.size + 1]? = some (.cells (stCells (Ms.plus s t)) 108 (0, 0))) := setRow_heap wr _ _ _ _ _ hO
          have HY : Hid (Below w.heap.size w (wr.setRow (w.heap.size + 1) (stCells (Ms.plus s t)))) := below_setRow hbel (Nat.le_succ _) _
          have HRES : Hid (stCells (Ms.blk s l) = stCells (Ms.plus s t)) := by rw [HBK.out]; exact rfl
          generalize stCells (Ms.plus s t) = res at *
          clear hrow hlo hhi hbel hH hO hoz
          go_wp2_with (first
            | (refine C9.wpList_load_whole rfl 108 _ rfl _ rfl _ hld ?_)
            | (refine C9.wpList_store_whole rfl rfl 108 _ _ rfl _ rfl _ rfl _ hst ?_))
          exact bodyPost_ret (v := .agg res) (C9.results_row rfl _ _ (w.heap.size + 1) _ res _ 8 _ rfl HX.out Tryd.underlying108 hi8) rfl ⟨ret_val (by rw [HRES.out]), HY.out⟩
end Go.Proofs.YtkpjdmmgdmbmnaaDoor.K2

/-
  The text filled up to whole blocks, as the program lays it.
-/
namespace Go.Proofs.YtkpjdmmgdmbmnaaDoor.K3
open Go.RowKit
open Go.Proofs.YtkpjdmmgdmbmnaaDoor.C0
open Go.Lib (run_copy_row_string)

abbrev byt (n : Nat) : Value := .int .u8 (n : Int)
abbrev bytesOf (s : ByteArray) : List UInt8 := s.data.toList
/-- What holds at the head of a round that lays a byte of the length. -/
def Rel (l : List UInt8) (w0 : World) (n : Nat) (x i : Value) (w : World) : Prop :=
  ∃ (k : Nat) (f : Nat → Value), k ≤ 8 ∧ i = .int .i64 k ∧ x = .int .u64 ((8 * l.length / 256 ^ k : Nat) : Int) ∧ w.rowIs w0.heap.size 5 n f ∧ (∀ j, j < n - 8 → f j = byt (Ms.byteAt (Ms.pad l) j)) ∧ (∀ j, n - k ≤ j → j < n → f j = byt (Ms.byteAt (Ms.pad l) j)) ∧ Below w0.heap.size w0 w

theorem made_row (w : World) (n : Nat) (t : TypeId) (s : ByteArray) (hs : s.size ≤ n) :
    ((w.alloc (.cells (madeCells #[Value.int .u8 0] n) t)).setRow w.heap.size ((madeCells #[Value.int .u8 0] n).toList.take 0 ++ Lib.byteCells s.data.toList ++ (madeCells #[Value.int .u8 0] n).toList.drop (0 + s.size)).toArray).rowIs w.heap.size t n
      (fun j => byt (Ms.byteAt (bytesOf s) j)) := by
  refine ⟨_, setRow_heap _ _ _ _ _ _ (Go.Deep.blk_alloc_new _ _), ?_, ?_⟩
  · simp [toList_madeCells_one, Lib.byteCells]; omega
  · intro i hi
    rw [toList_madeCells_one]
    simp only [List.take_zero, List.nil_append, Nat.zero_add, List.drop_replicate, List.getElem?_toArray]
    by_cases h : i < s.size
    · have hl : i < (bytesOf s).length := by simpa using h
      rw [List.getElem?_append_left (by simpa [Lib.byteCells] using h), Ms.byteAt_eq _ _ hl]
      simp [Lib.byteCells, h]
    · have hl : ¬ i < (bytesOf s).length := by simpa using h
      have e : Ms.byteAt (bytesOf s) i = 0 := by
        unfold Ms.byteAt
        rw [List.getD_eq_getElem?_getD, List.getElem?_eq_none (by omega)]; rfl
      rw [e, List.getElem?_append_right (by simp [Lib.byteCells]; omega)]
      have h2 : i - (Lib.byteCells s.data.toList).length < n - s.size := by simp [Lib.byteCells]; omega
      rw [List.getElem?_replicate, if_pos h2]; rfl

theorem Rel.start {s : ByteArray} {w0 W : World} {n : Nat} (hn : 64 * Ms.blocks s.size = n) (hrow : W.rowIs w0.heap.size 5 n (fun j => byt (Ms.byteAt (bytesOf s) j))) (hbel : Below w0.heap.size w0 W) :
    Rel (bytesOf s) w0 n (.int .u64 ((s.size : Int) * 8)) (.int .i64 0) (W.setCell ⟨w0.heap.size, s.size, none⟩ (.int .u8 128)) := by
  have hl : (bytesOf s).length = s.size := by simp
  refine ⟨0, _, by omega, rfl, ?_, hrow.set _ _, fun j hj => ?_, fun j h1 h2 => by omega, hbel.setCell (Nat.le_refl _) _⟩
  · rw [hl]; simp; omega
  · show (if j = s.size then _ else byt (Ms.byteAt (bytesOf s) j)) = _
    by_cases h : j = s.size
    · rw [if_pos h, h, ← hl, Ms.pad_mark]; rfl
    · rw [if_neg h]
      rcases Nat.lt_or_ge j s.size with h2 | h2
      · rw [Ms.pad_low _ _ (by omega)]
      · rw [Ms.pad_zero _ _ (by omega) (by rw [hl, hn]; exact hj)]
        have e : Ms.byteAt (bytesOf s) j = 0 := by
          unfold Ms.byteAt
          rw [List.getD_eq_getElem?_getD, List.getElem?_eq_none (by omega)]; rfl
        rw [e]
theorem Rel.step {l : List UInt8} {w0 w : World} {n k : Nat} {f : Nat → Value} (hk : k < 8) (hn : 64 * Ms.blocks l.length = n) (hrow : w.rowIs w0.heap.size 5 n f) (hlo : ∀ j, j < n - 8 → f j = byt (Ms.byteAt (Ms.pad l) j))
    (hhi : ∀ j, n - k ≤ j → j < n → f j = byt (Ms.byteAt (Ms.pad l) j)) (hbel : Below w0.heap.size w0 w) :
    Rel l w0 n (.int .u64 ((8 * l.length / 256 ^ k / 256 : Nat) : Int)) (.int .i64 ((k + 1 : Nat) : Int)) (w.setCell ⟨w0.heap.size, n - 1 - k, none⟩ (byt (8 * l.length / 256 ^ k % 256))) := by
  have hr := Ms.blocks_room l.length
  refine ⟨k + 1, _, by omega, rfl, by rw [Nat.div_div_eq_div_mul, Nat.pow_succ], hrow.set _ _, fun j hj => ?_, fun j h1 h2 => ?_, hbel.setCell (Nat.le_refl _) _⟩
  · show (if j = n - 1 - k then _ else f j) = _
    rw [if_neg (by omega)]; exact hlo j hj
  · show (if j = n - 1 - k then _ else f j) = _
    by_cases h : j = n - 1 - k
    · rw [if_pos h, h, ← hn, Ms.pad_len l k hk]
    · rw [if_neg h]; exact hhi j (by omega) h2

set_option maxRecDepth 100000 in
set_option maxHeartbeats 800000 in
theorem padded_impl (s : ByteArray) (w : World) (hs : s.size ≤ 20000) :
    Calls Tryd.prog 97 #[.string s] w fun e w' => e = .returned (.slice (some ⟨w.heap.size, 0, none⟩) (64 * Ms.blocks s.size) (64 * Ms.blocks s.size)) ∧ Below w.heap.size w w' ∧ (∀ j, j < 64 * Ms.blocks s.size → w'.cell? ⟨w.heap.size, j, none⟩ = some (byt (Ms.byteAt (Ms.pad (bytesOf s)) j))) ∧ w.heap.size < w'.heap.size := by
  obtain ⟨n, hn⟩ : ∃ n, 64 * Ms.blocks s.size = n := ⟨_, rfl⟩
  have hroom := Ms.blocks_room s.size
  rw [hn] at hroom
  have hn2 : (((s.size : Int) + 8) / 64 + 1) * 64 = (n : Int) := by rw [← hn]; unfold Ms.blocks; omega
  have hmk := run_make_row' (P := Tryd.prog) 22 5 (.int .u8 0) 1 Tryd.underlying22 info_u8 rfl .i64 .i64 n (by rw [← hn]; unfold Ms.blocks; omega) (by rw [← hn]; unfold Ms.blocks; omega)
  have hu8 : (Tryd.prog.info? 5).map (·.size) = some 1 := by kernel_rfl
  have hcp := run_copy_row_string (P := Tryd.prog) (w.alloc (.cells (madeCells #[Value.int .u8 0] n) 5)) 22 9 3 5 w.heap.size 0 n n s (madeCells #[Value.int .u8 0] n) 5 Tryd.underlying22 hu8 (Go.Deep.blk_alloc_new _ _) (by omega) (by rw [size_madeCells]; omega)
  have hrow := made_row w n 5 s (by omega)
  obtain ⟨W, hW⟩ : ∃ x, (w.alloc (.cells (madeCells #[Value.int .u8 0] n) 5)).setRow w.heap.size ((madeCells #[Value.int .u8 0] n).toList.take 0 ++ Lib.byteCells s.data.toList ++ (madeCells #[Value.int .u8 0] n).toList.drop (0 + s.size)).toArray = x := ⟨_, rfl⟩
  rw [hW] at hcp hrow
  have hbel : Below w.heap.size w W := by rw [← hW]; exact below_setRow ((Below.refl _ _).alloc (Nat.le_refl _) _) (Nat.le_refl _) _
  have Hn : Hid (64 * Ms.blocks s.size = n) := hn
  rw [hn]
  clear hn hW
  have hcell : W.cell? ⟨w.heap.size, s.size, none⟩ = some (byt 0) := by
    rw [hrow.cell (by omega)]
    have e : Ms.byteAt (bytesOf s) s.size = 0 := by
      unfold Ms.byteAt
      rw [List.getD_eq_getElem?_getD, List.getElem?_eq_none (by simp)]; rfl
    rw [e]
  have hfr := hrow.frozen s.size
  have HR : Hid (W.rowIs w.heap.size 5 n (fun j => byt (Ms.byteAt (bytesOf s) j))) := hrow
  clear hrow
  go_enter Tryd.func97, Tryd.ntmps97
  have hm : Hid (n ≤ 30000) := by have := Hn.out; unfold Ms.blocks at this; unfold Hid; omega
  have HS := Rel.start Hn.out HR.out hbel
  have hl : (bytesOf s).length = s.size := by simp
  have HSh : Hid (Rel (bytesOf s) w n (.int .u64 ((s.size : Int) * 8)) (.int .i64 0) (W.setCell ⟨w.heap.size, s.size, none⟩ (.int .u8 128))) := HS
  clear HS hl
  go_wp2_with fail
  clear hcp hmk hcell hfr hbel HR hn2
  go_loopw [5, 24] (fun x i wr => Rel (bytesOf s) w n x i wr) (fun _ i _ => 8 - (intOf i).toNat)
  case atStart => exact HSh.out
  case round =>
    clear HSh
    obtain ⟨k, f, hk, rfl, rfl, hrow, hlo, hhi, hbel⟩ := hrel
    have hl : (bytesOf s).length = s.size := by simp
    by_cases hlt : k < 8
    · have HN : Hid (Rel (bytesOf s) w n (.int .u64 ((8 * (bytesOf s).length / 256 ^ k / 256 : Nat) : Int)) (.int .i64 ((k + 1 : Nat) : Int)) (wr.setCell ⟨w.heap.size, n - 1 - k, none⟩ (byt (8 * (bytesOf s).length / 256 ^ k % 256)))) :=
        Rel.step hlt (by rw [hl]; exact Hn.out) hrow hlo hhi hbel
      have hx : 8 * (bytesOf s).length / 256 ^ k ≤ 160000 := Nat.le_trans (Nat.div_le_self _ _) (by omega)
      obtain ⟨o, ho⟩ : ∃ o, wr.cell? ⟨w.heap.size, n - 1 - k, none⟩ = some o := ⟨_, hrow.cell (by omega)⟩
      have hfr := hrow.frozen (n - 1 - k)
      generalize 8 * (bytesOf s).length / 256 ^ k = x at *
      obtain ⟨p, hp⟩ : ∃ p, n - 1 - k = p := ⟨_, rfl⟩
      have hpi : (n : Int) - 1 - (k : Int) = (p : Int) := by omega
      have hpn : (p : Int) < (n : Int) := by omega
      rw [hp] at HN ho hfr
      have Hp : Hid (n - 1 - k = p) := hp
      have hnm := hm.out
      clear hrow hlo hhi hbel hl hp
      go_wp2
      go_roundw
      case rel => exact HN.out
      case measure => simp [intOf]; omega
    · obtain rfl : k = 8 := by omega
      have HF : Hid (∀ j, j < n → wr.cell? ⟨w.heap.size, j, none⟩ = some (byt (Ms.byteAt (Ms.pad (bytesOf s)) j))) := fun j hj => by
        rw [hrow.cell hj]
        rcases Nat.lt_or_ge j (n - 8) with h | h
        · rw [hlo j h]
        · rw [hhi j h hj]
      have HZ : Hid (w.heap.size < wr.heap.size) := hrow.lt
      have HB : Hid (Below w.heap.size w wr) := hbel
      clear hrow hlo hhi hl hbel
      go_wp2
      go_ret
      exact ⟨rfl, HB.out, HF.out, HZ.out⟩
end Go.Proofs.YtkpjdmmgdmbmnaaDoor.K3

/-
  The state as the digest's bytes, and the digest of a text, as the program makes them.
-/
namespace Go.Proofs.YtkpjdmmgdmbmnaaDoor.K4
open Go.RowKit
open Go.Proofs.YtkpjdmmgdmbmnaaDoor.C0
open Go.Proofs.YtkpjdmmgdmbmnaaDoor.K1 (num)
open Go.Proofs.YtkpjdmmgdmbmnaaDoor.K2 (stCells Laid)
open Go.Deep (blk_alloc_lt blk_alloc_new nblk_alloc)

theorem cell_four_new (w : World) (x y z u : Value) (t : TypeId) : ∀ j v, [x, y, z, u][j]? = some v → (w.alloc (.cells #[x, y, z, u] t)).cell? ((⟨w.heap.size, 0, none⟩ : Addr).add j) = some v := by
  intro j v hj
  match j, hj with
  | 0, hj => simp at hj; subst hj; simp [Addr.add]
  | 1, hj => simp at hj; subst hj; simp [Addr.add]
  | 2, hj => simp at hj; subst hj; simp [Addr.add]
  | 3, hj => simp at hj; subst hj; simp [Addr.add]

/-- What holds at the head of a round: k numbers of the state are written. -/
def Rel (s : Ms.St) (base : Nat) (w0 : World) (b i : Value) (w : World) : Prop :=
  ∃ k : Nat, k ≤ 8 ∧ i = .int .i64 k ∧ owns base b ((s.list.take k).flatMap Ms.be4) w ∧ Below base w0 w ∧ base ≤ w.heap.size
theorem list_lt {s : Ms.St} (hs : s.ok) (k : Nat) (hk : k < 8) : s.list.getD k 0 < 4294967296 := by
  match k, hk with
  | 0, _ => exact hs.a
  | 1, _ => exact hs.b
  | 2, _ => exact hs.c
  | 3, _ => exact hs.d
  | 4, _ => exact hs.e
  | 5, _ => exact hs.f
  | 6, _ => exact hs.g
  | 7, _ => exact hs.h
theorem list_take (s : Ms.St) (k : Nat) (hk : k < 8) : (s.list.take (k + 1)).flatMap Ms.be4 = (s.list.take k).flatMap Ms.be4 ++ Ms.be4 (s.list.getD k 0) := by
  match k, hk with
  | 0, _ => rfl
  | 1, _ => rfl
  | 2, _ => rfl
  | 3, _ => rfl
  | 4, _ => rfl
  | 5, _ => rfl
  | 6, _ => rfl
  | 7, _ => rfl
theorem list_len (s : Ms.St) (k : Nat) (hk : k ≤ 8) : ((s.list.take k).flatMap Ms.be4).length = 4 * k := by
  match k, hk with
  | 0, _ => rfl
  | 1, _ => rfl
  | 2, _ => rfl
  | 3, _ => rfl
  | 4, _ => rfl
  | 5, _ => rfl
  | 6, _ => rfl
  | 7, _ => rfl
  | 8, _ => rfl

theorem be4_cells (n : Nat) (hn : n < 4294967296) :
    [Value.int .u8 ((n : Int) / 16777216), .int .u8 ((n : Int) / 65536 % 256), .int .u8 ((n : Int) / 256 % 256), .int .u8 ((n : Int) % 256)] = (Mb.cells (Ms.be4 n)).map (Value.int .u8) := by
  simp only [Mb.cells, Ms.be4, List.map_cons, List.map_nil, UInt8.toNat_ofNat', List.cons.injEq, Value.int.injEq, and_true, true_and]
  omega
/-- Four bytes more. -/
theorem owns_four {base : Nat} {v : Value} {l : List UInt8} {w : World} {n m : Nat} (hn : n < 4294967296) (hm : l.length = m)
    (h : w.ownsRow base 5 1 v (m + 4) ((Mb.cells l).map (Value.int .u8) ++ [Value.int .u8 ((n : Int) / 16777216), .int .u8 ((n : Int) / 65536 % 256), .int .u8 ((n : Int) / 256 % 256), .int .u8 ((n : Int) % 256)])) : owns base v (l ++ Ms.be4 n) w := by
  rw [be4_cells n hn] at h
  unfold owns
  rw [List.length_append, hm, show (Ms.be4 n).length = 4 from rfl]
  simpa [Mb.cells] using h

set_option maxRecDepth 100000 in
set_option maxHeartbeats 800000 in
theorem text_impl (s : Ms.St) (w : World) (hs : s.ok) :
    Calls Tryd.prog 100 #[.agg (stCells s)] w fun e w' => e = .returned (.string ⟨(Ms.bytes s).toArray⟩) ∧ Below w.heap.size w w' := by
  obtain ⟨i0, hi, hz0, hz1, hz2⟩ := info_parts info_u8
  have Hstate : Hid (stCells s = #[num s.a, num s.b, num s.c, num s.d, num s.e, num s.f, num s.g, num s.h]) := rfl
  rw [Hstate.out]
  have hi8 := K2.info_st s
  go_enter Tryd.func100, Tryd.ntmps100
  go_wp2_with (first
    | (at_make; refine wpList_make_own _ rfl _ _ 22 rfl (w.heap.size + 1) 5 i0 (.int .u8 0) 1 Tryd.underlying22 hi hz0 hz1 .i64 .i64 32 32 rfl rfl rfl (by rw [hz2]; decide) (by decide) (by simp) ?_))
  intro w1 hown hgrow
  have hH : w1.heap[w.heap.size]? = some (.cells (stCells s) 108 (0, 0)) := by
    rw [hgrow.block w.heap.size (by rw [nblk_alloc]; omega) (by simp), blk_alloc_new]; exact rfl
  have hld := C9.load_row (P := Tryd.prog) w1 w.heap.size 108 _ _ _ 8 _ hH Tryd.underlying108 hi8
  have HQ : Hid (Rel s (w.heap.size + 1) w1 (.slice (some ⟨w.heap.size + 1, 0, none⟩) 0 32) (.int .i64 0) w1) :=
    ⟨0, by omega, rfl, hown, Below.refl _ _, by have := hgrow.size; rw [nblk_alloc] at this; omega⟩
  have HB1 : Hid (Below w.heap.size w w1) := ((Below.refl _ _).alloc (Nat.le_refl _) _).grown hgrow (by rw [nblk_alloc]; omega) (fun k hk => by cases hk)
  clear hown hgrow hH
  go_wp2_with (refine C9.wpList_load_whole rfl 108 _ rfl _ rfl _ hld ?_)
  go_loopw [3, 8] (fun b i wr => Rel s (w.heap.size + 1) w1 b i wr) (fun _ i _ => 8 - (intOf i).toNat)
  case atStart => exact HQ.out
  case round =>
    clear HQ hld
    obtain ⟨k, hk, rfl, hown, hbel, hbs⟩ := hrel
    by_cases hlt : k < 8
    · have hx := K2.jxk s k hlt
      have hlk := list_lt hs k hlt
      have HT : Hid ((s.list.take (k + 1)).flatMap Ms.be4 = (s.list.take k).flatMap Ms.be4 ++ Ms.be4 (s.list.getD k 0)) := list_take s k hlt
      have HLen := list_len s k (by omega)
      generalize s.list.getD k 0 = n at *
      generalize (s.list.take k).flatMap Ms.be4 = pre at *
      go_wp2_with (first
        | (at_builtin; refine wpList_append_own _ rfl _ _ 22 rfl (w.heap.size + 1) 5 i0 (.int .u8 0) 1 1 Tryd.underlying22 hi hz0 hz1 hz2 rfl (by decide) _ _ _ rfl (hown.alloc _) ⟨wr.heap.size, 0, none⟩ 4 4 [_, _, _, _] rfl rfl (cell_four_new _ _ _ _ _ _) ?c2 ?c3 ?c4 ?c5 ?_))
      case c2 => intro u hu; simp at hu; rcases hu with rfl | rfl | rfl | rfl <;> rfl
      case c3 => unfold maxLen; omega
      case c4 => omega
      case c5 => simp; omega
      intro v' w2 hown' hgrow _
      have HO : Hid (owns (w.heap.size + 1) v' (pre ++ Ms.be4 n) w2) := owns_four hlk HLen hown'
      have HW : Hid (Below (w.heap.size + 1) w1 w2) := (hbel.alloc hbs _).grown hgrow (by rw [nblk_alloc]; omega) (fun k hk => (hown.lt k hk).1)
      have HZ : Hid (w.heap.size + 1 ≤ w2.heap.size) := by have := hgrow.size; rw [nblk_alloc] at this; unfold Hid; omega
      clear hown' hgrow hown hbel hbs
      go_wp2
      go_roundw
      case rel => exact ⟨k + 1, by omega, by go_num, by rw [HT.out]; exact HO.out, HW.out, HZ.out⟩
      case measure => simp [intOf]; omega
    · obtain rfl : k = 8 := by omega
      have hconv := conv_own hown
      have HE : Hid ((s.list.take 8).flatMap Ms.be4 = Ms.bytes s) := rfl
      generalize (s.list.take 8).flatMap Ms.be4 = res at *
      have HW : Hid (Below w.heap.size w wr) := HB1.out.trans (hbel.mono (by omega))
      clear hown hbel hbs
      go_wp2
      go_ret
      exact ⟨ret_str HE.out, HW.out⟩
end Go.Proofs.YtkpjdmmgdmbmnaaDoor.K4

/-
  The digest of a text, as the program makes it.
-/
namespace Go.Proofs.YtkpjdmmgdmbmnaaDoor.K5
open Go.RowKit
open Go.Proofs.YtkpjdmmgdmbmnaaDoor.C0
open Go.Proofs.YtkpjdmmgdmbmnaaDoor.K1 (num)
open Go.Proofs.YtkpjdmmgdmbmnaaDoor.K2 (stCells Laid)
open Go.Proofs.YtkpjdmmgdmbmnaaDoor.K3 (byt bytesOf)
open Go.Deep (blk_alloc_lt blk_alloc_new nblk_alloc)

set_option maxRecDepth 100000 in
theorem first_impl (w : World) : Calls Tryd.prog 98 #[] w fun e w' => e = .returned (.agg (stCells Ms.start)) ∧ Below w.heap.size w w' := by
  have hi8 := K2.info_st Ms.start
  go_enter Tryd.func98, Tryd.ntmps98
  go_wp2
  refine bodyPost_ret (v := .agg (stCells Ms.start)) (C9.results_row rfl _ _ w.heap.size 108 (stCells Ms.start) (0, 0) 8 _ rfl ?_ Tryd.underlying108 hi8) rfl ⟨rfl, ?_⟩
  · exact blk_alloc_new _ _
  · exact (Below.refl _ _).alloc (Nat.le_refl _) _

/-- The state is written over, number by number. -/
theorem set8 {w : World} {S : Nat} {s : Ms.St} {t : TypeId} (r : Ms.St) (h : w.heap[S]? = some (.cells (stCells s) t (0, 0))) :
    ((((((((w.setCell ⟨S, 0, none⟩ (num r.a)).setCell ⟨S, 1, none⟩ (num r.b)).setCell ⟨S, 2, none⟩ (num r.c)).setCell ⟨S, 3, none⟩ (num r.d)).setCell ⟨S, 4, none⟩ (num r.e)).setCell ⟨S, 5, none⟩ (num r.f)).setCell ⟨S, 6, none⟩ (num r.g)).setCell ⟨S, 7, none⟩ (num r.h)).heap[S]? = some (.cells (stCells r) t (0, 0)) := by
  have h0 : w.rowIs S t 8 (fun j => num (s.list.getD j 0)) := ⟨_, h, rfl, K2.stCells_at s⟩
  refine K2.row_st ((((((((h0.set 0 _).set 1 _).set 2 _).set 3 _).set 4 _).set 5 _).set 6 _).set 7 _) (fun j hj => ?_)
  match j, hj with
  | 0, _ => rfl
  | 1, _ => rfl
  | 2, _ => rfl
  | 3, _ => rfl
  | 4, _ => rfl
  | 5, _ => rfl
  | 6, _ => rfl
  | 7, _ => rfl
theorem set8_other {w : World} {S k : Nat} (r : Ms.St) (h : k ≠ S) :
    ((((((((w.setCell ⟨S, 0, none⟩ (num r.a)).setCell ⟨S, 1, none⟩ (num r.b)).setCell ⟨S, 2, none⟩ (num r.c)).setCell ⟨S, 3, none⟩ (num r.d)).setCell ⟨S, 4, none⟩ (num r.e)).setCell ⟨S, 5, none⟩ (num r.f)).setCell ⟨S, 6, none⟩ (num r.g)).setCell ⟨S, 7, none⟩ (num r.h)).heap[k]? = w.heap[k]? := by
  rw [heap_setCell_other _ _ _ _ h, heap_setCell_other _ _ _ _ h, heap_setCell_other _ _ _ _ h, heap_setCell_other _ _ _ _ h, heap_setCell_other _ _ _ _ h, heap_setCell_other _ _ _ _ h, heap_setCell_other _ _ _ _ h, heap_setCell_other _ _ _ _ h]
theorem set8_below {B : Nat} {w0 w : World} {S : Nat} (r : Ms.St) (hB : B ≤ S) (h : Below B w0 w) :
    Below B w0 ((((((((w.setCell ⟨S, 0, none⟩ (num r.a)).setCell ⟨S, 1, none⟩ (num r.b)).setCell ⟨S, 2, none⟩ (num r.c)).setCell ⟨S, 3, none⟩ (num r.d)).setCell ⟨S, 4, none⟩ (num r.e)).setCell ⟨S, 5, none⟩ (num r.f)).setCell ⟨S, 6, none⟩ (num r.g)).setCell ⟨S, 7, none⟩ (num r.h)) :=
  ((((((((h.setCell (by exact hB) _).setCell (by exact hB) _).setCell (by exact hB) _).setCell (by exact hB) _).setCell (by exact hB) _).setCell (by exact hB) _).setCell (by exact hB) _).setCell (by exact hB) _)

/-- What holds at the head of a round: k blocks are taken. -/
def Rel (p : List UInt8) (n : Nat) (w0 : World) (S : Nat) (i : Value) (w : World) : Prop :=
  ∃ k : Nat, k ≤ n ∧ i = .int .i64 k ∧ w.heap[S]? = some (.cells (stCells (Ms.states p k)) 108 (0, 0)) ∧ (∀ j, j < 64 * n → w.cell? ⟨w0.heap.size, j, none⟩ = some (byt (Ms.byteAt p j))) ∧ Below w0.heap.size w0 w

theorem Rel.next {p : List UInt8} {n k S : Nat} {w0 wr w3 : World} {st st' : Ms.St} (hlt : k < n) (hS : w0.heap.size < S) (hbs : w0.heap.size < wr.heap.size) (he : Ms.states p (k + 1) = st') (hst : wr.heap[S]? = some (.cells (stCells st) 108 (0, 0)))
    (hc : ∀ j, j < 64 * n → wr.cell? ⟨w0.heap.size, j, none⟩ = some (byt (Ms.byteAt p j))) (hbel : Below w0.heap.size w0 wr) (hb3 : Below wr.heap.size wr w3) :
    Rel p n w0 S (.int .i64 ((k + 1 : Nat) : Int)) ((((((((w3.setCell ⟨S, 0, none⟩ (num st'.a)).setCell ⟨S, 1, none⟩ (num st'.b)).setCell ⟨S, 2, none⟩ (num st'.c)).setCell ⟨S, 3, none⟩ (num st'.d)).setCell ⟨S, 4, none⟩ (num st'.e)).setCell ⟨S, 5, none⟩ (num st'.f)).setCell ⟨S, 6, none⟩ (num st'.g)).setCell ⟨S, 7, none⟩ (num st'.h)) := by
  have hSl : S < wr.heap.size := (Array.getElem?_eq_some_iff.1 hst).1
  refine ⟨k + 1, hlt, rfl, ?_, fun j hj => ?_, ?_⟩
  · rw [he]
    exact set8 st' (by rw [hb3.block S hSl]; exact hst)
  · rw [← hc j hj, ← hb3.cell (p := ⟨w0.heap.size, j, none⟩) hbs]
    exact World.cell?_of_block (set8_other st' (by show w0.heap.size ≠ S; omega))
  · exact set8_below st' (by omega) (hbel.trans (hb3.mono (by omega)))

set_option maxRecDepth 100000 in
set_option maxHeartbeats 1600000 in
theorem digest_impl (s : ByteArray) (w : World) (hs : s.size ≤ 20000) (hL : Laid w) :
    Calls Tryd.prog 86 #[.string s] w fun e w' => e = .returned (.string ⟨(Ms.digest (bytesOf s)).toArray⟩) ∧ Below w.heap.size w w' := by
  obtain ⟨n, hn⟩ : ∃ n, Ms.blocks s.size = n := ⟨_, rfl⟩
  have hnb : n ≤ 400 := by rw [← hn]; unfold Ms.blocks; omega
  have hn0 : 0 < n := by rw [← hn]; unfold Ms.blocks; omega
  have HD : Hid (Ms.digest (bytesOf s) = Ms.bytes (Ms.states (Ms.pad (bytesOf s)) n)) := by
    unfold Hid Ms.digest; rw [show (bytesOf s).length = s.size by simp, hn]
  have hst8 := K2.stCells_one Ms.start
  have hi8 := K2.info_st Ms.start
  go_enter Tryd.func86, Tryd.ntmps86
  go_wp2_with fail
  refine (K3.padded_impl s _ hs).mono ?_
  rintro e w1 ⟨rfl, hb1, hc1, hz1⟩
  rw [hn]
  rw [hn] at hc1
  go_wp2_with fail
  refine (first_impl _).mono ?_
  rintro e w2 ⟨rfl, hb2⟩
  have hd : (64 * (n : Int)) / 64 = (n : Int) := by omega
  go_wp2_with (refine C9.wpList_store_whole rfl rfl 108 _ _ rfl _ rfl _ rfl _ (run_storeAt_new w2 108 _ (stCells Ms.start) hi8 rfl hst8) ?_)
  obtain ⟨W, hW⟩ : ∃ x, w2.alloc (.cells (stCells Ms.start) 108) = x := ⟨_, rfl⟩
  rw [hW]
  have hb12 : Below w.heap.size w w2 := hb1.trans (hb2.mono (by omega))
  have HQ : Hid (Rel (Ms.pad (bytesOf s)) n w w2.heap.size (.int .i64 0) W) := by
    refine ⟨0, by omega, rfl, by rw [← hW, blk_alloc_new]; rfl, fun j hj => ?_, by rw [← hW]; exact hb12.alloc (by have := hb2.size; omega) _⟩
    rw [← hc1 j hj, ← hW]
    exact ((hb2.alloc hb2.size _).cell (p := ⟨w.heap.size, j, none⟩) hz1)
  have hS : w.heap.size < w2.heap.size := by have := hb2.size; omega
  obtain ⟨S, hSe⟩ : ∃ S, w2.heap.size = S := ⟨_, rfl⟩
  rw [hSe]
  rw [hSe] at HQ hS
  clear hW hb12 hb1 hb2 hc1 hz1 hi8 hst8 hSe
  generalize Ms.pad (bytesOf s) = p at *
  go_loopw [12] (fun i wr => Rel p n w S i wr) (fun i _ => n - (intOf i).toNat)
  case atStart => exact HQ.out
  case round =>
    clear HQ
    obtain ⟨k, hk, rfl, hst, hc, hbel⟩ := hrel
    have hok := Ms.states_ok p k
    have hLr := hL.below hbel
    by_cases hlt : k < n
    · have HS : Hid (Ms.states p (k + 1) = Ms.blk (Ms.states p k) ((p.drop (64 * k)).take 64)) := rfl
      have hbs : w.heap.size < wr.heap.size := by
        have h0 := hc 0 (by omega)
        rcases Nat.lt_or_ge w.heap.size wr.heap.size with h | h
        · exact h
        · simp [World.cell?, Array.getElem?_eq_none h] at h0
      have hcall := K2.with_impl (Ms.states p k) w.heap.size (k * 64) (64 * n - k * 64) ((p.drop (64 * k)).take 64) wr.drew hok hLr hbs (by omega) (by unfold maxLen; omega) (fun j hj => by
        show wr.cell? _ = _
        rw [hc (k * 64 + j) (by omega), Ms.byteAt_take _ _ _ hj, Ms.byteAt_drop, show 64 * k + j = k * 64 + j by omega])
      have hcall2 : Calls Tryd.prog 99 #[.agg #[num (Ms.states p k).a, num (Ms.states p k).b, num (Ms.states p k).c, num (Ms.states p k).d, num (Ms.states p k).e, num (Ms.states p k).f, num (Ms.states p k).g, num (Ms.states p k).h], .slice (some ⟨w.heap.size, k * 64, none⟩) 64 (64 * n - k * 64)] wr.drew
          fun e w' => e = .returned (.agg #[num (Ms.states p (k + 1)).a, num (Ms.states p (k + 1)).b, num (Ms.states p (k + 1)).c, num (Ms.states p (k + 1)).d, num (Ms.states p (k + 1)).e, num (Ms.states p (k + 1)).f, num (Ms.states p (k + 1)).g, num (Ms.states p (k + 1)).h]) ∧ Below wr.heap.size wr w' ∧
            (∀ j, j < 8 → w'.cell? ⟨S, j, none⟩ = some (num ((Ms.states p k).list.getD j 0))) ∧ (∀ j, w'.frozen? ⟨S, j, none⟩ = false) := by
        have hSl : S < wr.heap.size := (Array.getElem?_eq_some_iff.1 hst).1
        refine hcall.mono ?_
        rintro e w3 ⟨rfl, hb3⟩
        have hb4 : Below wr.heap.size wr w3 := ⟨hb3.os, hb3.tape, hb3.output, hb3.size, hb3.block⟩
        refine ⟨by rw [HS.out]; rfl, hb4, fun j hj => ?_, fun j => ?_⟩
        · rw [hb4.cell (p := ⟨S, j, none⟩) hSl, K2.cell_at hst, K2.stCells_at _ j hj]
        · rw [hb4.frozen (p := ⟨S, j, none⟩) hSl]; exact K2.frozen_at hst j
      have k0 : wr.cell? ⟨S, 0, none⟩ = some (num (Ms.states p k).a) := K2.cell_at hst 0
      have k1 : wr.cell? ⟨S, 1, none⟩ = some (num (Ms.states p k).b) := K2.cell_at hst 1
      have k2 : wr.cell? ⟨S, 2, none⟩ = some (num (Ms.states p k).c) := K2.cell_at hst 2
      have k3 : wr.cell? ⟨S, 3, none⟩ = some (num (Ms.states p k).d) := K2.cell_at hst 3
      have k4 : wr.cell? ⟨S, 4, none⟩ = some (num (Ms.states p k).e) := K2.cell_at hst 4
      have k5 : wr.cell? ⟨S, 5, none⟩ = some (num (Ms.states p k).f) := K2.cell_at hst 5
      have k6 : wr.cell? ⟨S, 6, none⟩ = some (num (Ms.states p k).g) := K2.cell_at hst 6
      have k7 : wr.cell? ⟨S, 7, none⟩ = some (num (Ms.states p k).h) := K2.cell_at hst 7
      have hst0 : Hid (wr.heap[S]? = some (.cells (stCells (Ms.states p k)) 108 (0, 0))) := hst
      have hc0 : Hid (∀ j, j < 64 * n → wr.cell? ⟨w.heap.size, j, none⟩ = some (byt (Ms.byteAt p j))) := hc
      have hbel0 : Hid (Below w.heap.size w wr) := hbel
      generalize Ms.states p k = st at *
      obtain ⟨st', hst'⟩ : ∃ x, Ms.states p (k + 1) = x := ⟨_, rfl⟩
      have Hst' : Hid (Ms.states p (k + 1) = st') := hst'
      rw [hst'] at hcall2 HS
      clear hst'
      clear hcall hst hc hok hbel hLr
      have q1 : IntKind.i64.wrap ((k : Int) * 64) = ((k * 64 : Nat) : Int) := by rw [IntKind.wrap_i64]; omega
      have q2 : IntKind.i64.wrap ((k : Int) + 1) = ((k + 1 : Nat) : Int) := by rw [IntKind.wrap_i64]; omega
      have q3 : IntKind.i64.wrap (((k : Int) + 1) * 64) = (((k + 1) * 64 : Nat) : Int) := by rw [IntKind.wrap_i64]; omega
      have h4 : (k + 1) * 64 - k * 64 = 64 := by omega
      have h5 : ((k : Int) + 1) * 64 ≤ 64 * (n : Int) := by omega
      go_wp2_with fail
      go_region_with (go_at_call 99; refine hcall2.mono ?_; rintro e w3 ⟨rfl, hb3, hc3, hf3⟩)
      all_goals
        have hSl : S < wr.heap.size := (Array.getElem?_eq_some_iff.1 hst0.out).1
        have HN : Hid (Rel p n w S (.int .i64 ((k + 1 : Nat) : Int)) ((((((((w3.setCell ⟨S, 0, none⟩ (num st'.a)).setCell ⟨S, 1, none⟩ (num st'.b)).setCell ⟨S, 2, none⟩ (num st'.c)).setCell ⟨S, 3, none⟩ (num st'.d)).setCell ⟨S, 4, none⟩ (num st'.e)).setCell ⟨S, 5, none⟩ (num st'.f)).setCell ⟨S, 6, none⟩ (num st'.g)).setCell ⟨S, 7, none⟩ (num st'.h))) :=
          Rel.next hlt hS hbs Hst'.out (hst0.out) hc0.out hbel0.out hb3
        clear hSl hb3 hc3 hf3 hcall2 k0 k1 k2 k3 k4 k5 k6 k7
        go_wp2
        go_roundw
        case rel => exact HN.out
        case measure => simp [intOf]; omega
    · obtain rfl : k = n := by omega
      have hH := hst
      have hi8 := K2.info_st (Ms.states p k)
      have hld := C9.load_row (P := Tryd.prog) wr S 108 _ _ _ 8 _ hH Tryd.underlying108 hi8
      have HB : Hid (Below w.heap.size w wr) := hbel
      generalize Ms.states p k = st at *
      clear hst hc hbel hH hi8 hLr
      go_wp2_with (first
        | (go_at_call 100; refine (K4.text_impl st _ hok).mono ?_; rintro e w3 ⟨rfl, hb3⟩)
        | (refine C9.wpList_load_whole rfl 108 _ rfl _ rfl _ hld ?_))
      go_ret
      exact ⟨ret_str HD.out.symm, HB.out.trans (hb3.mono HB.out.size)⟩
end Go.Proofs.YtkpjdmmgdmbmnaaDoor.K5

/-
  A region that draws its order, whose operations only read but for a forced end: the first by the walk that only reads, the end as it stands.
-/
namespace Go.Proofs.YtkpjdmmgdmbmnaaDoor.CT
variable {P : Program} {ops : Array Oper} {w : World}

theorem still_of_quiet {Q : Act → Prop} : ∀ (l : List Oper) (a : Act), wpQuiet P ops (fun w' => w' = w) Q l a → wpStill P ops w Q l a
  | [], _, h => h
  | o :: l, a, h => by
    simp only [wpQuiet] at h
    simp only [wpStill]
    by_cases hw : Region.wanted o (yielded ops a.tmps) = true
    · rw [if_pos hw] at h ⊢
      obtain ⟨v, h1, h2⟩ := h
      have h3 := h1 w rfl
      have h4 := still_of_quiet l _ h2
      unfold Oper.quietAt at h3
      unfold Oper.still
      generalize (execOp a.eval o).run P w = r at *
      cases r with
      | halt x w' => simp only [Oper.quietUpon] at h3
      | ok n w' =>
        cases n <;> simp only [Oper.quietUpon] at h3 <;> simp only [Oper.stillUpon]
        case value u => obtain ⟨e1, e2⟩ := h3; subst e2; exact ⟨e1, h4⟩
        case skip => obtain ⟨e1, e2⟩ := h3; subst e2; exact ⟨e1, h4⟩
        case enter f args => exact ⟨h3.1, v, h3.2, h4⟩
    · rw [if_neg hw] at h ⊢
      exact still_of_quiet l _ h

theorem region_tail {id : Nat} {Q : Exit → Act → World → Prop} {a : Act} {w : World} {l : List Oper} (n : Nat) (hm : P.follows .mixedOrders = true) (hB : Region.lexTailB .any l.toArray n = true)
    (h : wpQuiet P l.toArray (fun w' => w' = w.drew) (fun a' => wpList P l.toArray Q (l.drop n) a' w.drew) (l.take n) a) : (Code.region id l.toArray true).wp P Q a w :=
  wp_region_still_tail n hm hB (still_of_quiet _ _ h)
end Go.Proofs.YtkpjdmmgdmbmnaaDoor.CT

/-
  The numbers of a block, as the specification reckons them, and its rounds' numbers.
-/
namespace Go.Proofs.YtkpjdmmgdmbmnaaDoor.K6
open Go.RowKit
open Go.Proofs.YtkpjdmmgdmbmnaaDoor.C0
open Go.Proofs.YtkpjdmmgdmbmnaaDoor.K1 (num wCells)
open Go.Deep (blk_alloc_lt blk_alloc_new nblk_alloc)

def keyCells : Array Value := (Ms.keys.map num).toArray
theorem keyCells_at (i : Nat) (hi : i < 64) : keyCells[i]? = some (num (Ms.key i)) := by
  have hl := Ms.keys_length
  simp [keyCells, Ms.key, List.getD, show i < Ms.keys.length by omega]
theorem info_u32 : (Tryd.prog.info? 106).map (fun i => (i.zero, i.size, i.bytes)) = some (some (.int .u32 0), 1, 4) := by kernel_rfl

set_option maxRecDepth 100000 in
theorem keys_spec (w : World) : Calls Tryd.prog 102 #[] w fun e w' => e = .returned (.slice (some ⟨w.heap.size, 0, none⟩) 64 64) ∧ w' = w.alloc (.cells keyCells 106) := by
  go_enter Tryd.func102, Tryd.ntmps102
  go_wp2
  go_ret
  exact ⟨rfl, rfl⟩

/-- What holds at the head of a round that takes a number out of the text. -/
def Rel (l : List UInt8) (w0 : World) (i : Value) (w : World) : Prop :=
  ∃ (k : Nat) (f : Nat → Value), k ≤ 16 ∧ i = .int .i64 k ∧ w.rowIs w0.heap.size 106 64 f ∧ (∀ j, j < k → f j = num (Ms.wAt l j)) ∧ Below w0.heap.size w0 w
def Rel2 (l : List UInt8) (w0 : World) (i : Value) (w : World) : Prop :=
  ∃ (n : Nat) (f : Nat → Value), n ≤ 48 ∧ i = .int .i64 ((n + 16 : Nat) : Int) ∧ w.rowIs w0.heap.size 106 64 f ∧ (∀ j, j < n + 16 → f j = num (Ms.wAt l j)) ∧ Below w0.heap.size w0 w
theorem row_set {l : List UInt8} {w0 w : World} {m : Nat} {f : Nat → Value} (hrow : w.rowIs w0.heap.size 106 64 f) (hlo : ∀ j, j < m → f j = num (Ms.wAt l j)) (hbel : Below w0.heap.size w0 w) :
    ∃ g, (w.setCell ⟨w0.heap.size, m, none⟩ (num (Ms.wAt l m))).rowIs w0.heap.size 106 64 g ∧ (∀ j, j < m + 1 → g j = num (Ms.wAt l j)) ∧ Below w0.heap.size w0 (w.setCell ⟨w0.heap.size, m, none⟩ (num (Ms.wAt l m))) := by
  refine ⟨_, hrow.set _ _, fun j hj => ?_, hbel.setCell (Nat.le_refl _) _⟩
  show (if j = m then _ else f j) = _
  by_cases h : j = m
  · rw [if_pos h, h]
  · rw [if_neg h]; exact hlo j (by omega)

theorem turn_still (x : Nat) (z : Int) (w : World) (hx : x < 4294967296) (h1 : 0 < z) (h2 : z < 32) :
    Calls Tryd.prog 101 #[.int .u32 x, .int .u64 z] w fun e w' => e = .returned (.int .u32 (Ms.rotr x z.toNat : Nat)) ∧ w' = w :=
  (K0.turn_any_spec x z w hx h1 h2).mono fun _ _ h => ⟨h.1, h.2.symm⟩
def i64s (l : List Nat) : List Value := l.map fun n : Nat => Value.int .i64 (n : Int)
theorem info_i64 : (Tryd.prog.info? 2).map (fun i => (i.zero, i.size, i.bytes)) = some (some (.int .i64 0), 1, 8) := by kernel_rfl
/-- What holds at the head of a round of the last loop: k numbers of the new state are there. -/
def Rel4 (p : Ms.St) (base : Nat) (W : World) (out i : Value) (w : World) : Prop :=
  ∃ k : Nat, k ≤ 8 ∧ i = .int .i64 k ∧ w.ownsRow base 2 1 out k (i64s (p.list.take k)) ∧ Below base W w ∧ base ≤ w.heap.size
theorem take_more (p : Ms.St) (k : Nat) (hk : k < 8) : i64s (p.list.take (k + 1)) = i64s (p.list.take k) ++ [Value.int .i64 ((p.list.getD k 0 : Nat) : Int)] := by
  match k, hk with
  | 0, _ => rfl
  | 1, _ => rfl
  | 2, _ => rfl
  | 3, _ => rfl
  | 4, _ => rfl
  | 5, _ => rfl
  | 6, _ => rfl
  | 7, _ => rfl
theorem list_lt {s : Ms.St} (hs : s.ok) (k : Nat) (hk : k < 8) : s.list.getD k 0 < 4294967296 := by
  match k, hk with
  | 0, _ => exact hs.a
  | 1, _ => exact hs.b
  | 2, _ => exact hs.c
  | 3, _ => exact hs.d
  | 4, _ => exact hs.e
  | 5, _ => exact hs.f
  | 6, _ => exact hs.g
  | 7, _ => exact hs.h
end Go.Proofs.YtkpjdmmgdmbmnaaDoor.K6

/-
  A row of bytes of the call's own, also one that was made of a text (its mark lies behind its end): append onto it, text of it.
-/
namespace Go.Proofs.YtkpjdmmgdmbmnaaDoor.CB
open Go.RowKit
open Go.Proofs.YtkpjdmmgdmbmnaaDoor.C0
open Go.Deep (blk_alloc_lt blk_alloc_new nblk_alloc)

def has (base : Nat) (v : Value) (l : List UInt8) (w : World) : Prop :=
  ∃ b cap, v = .slice (some ⟨b, 0, none⟩) l.length cap ∧ base ≤ b ∧ b < w.heap.size ∧ l.length ≤ cap ∧ (∀ j (hj : j < l.length), w.cell? ⟨b, j, none⟩ = some (.int .u8 (l[j].toNat : Int))) ∧
    (∀ j, j < cap → (w.cell? ⟨b, j, none⟩).isSome = true ∧ w.frozen? ⟨b, j, none⟩ = false)

theorem has.below {base : Nat} {v : Value} {l : List UInt8} {w w' : World} (h : has base v l w) (hb : Below w.heap.size w w') : has base v l w' := by
  obtain ⟨b, cap, h1, h2, h3, h4, h5, h6⟩ := h
  refine ⟨b, cap, h1, h2, Nat.lt_of_lt_of_le h3 hb.size, h4, fun j hj => ?_, fun j hj => ?_⟩
  · rw [hb.cell (p := ⟨b, j, none⟩) h3]; exact h5 j hj
  · rw [hb.cell (p := ⟨b, j, none⟩) h3, hb.frozen (p := ⟨b, j, none⟩) h3]; exact h6 j hj

theorem has.alloc {base : Nat} {v : Value} {l : List UInt8} {w : World} (h : has base v l w) (o : Obj) : has base v l (w.alloc o) := h.below ((Below.refl _ _).alloc (Nat.le_refl _) _)

theorem has.form {base : Nat} {v : Value} {l : List UInt8} {w : World} (h : has base v l w) : ∃ b cap, v = .slice (some ⟨b, 0, none⟩) l.length cap := by
  obtain ⟨b, cap, h1, _⟩ := h
  exact ⟨b, cap, h1⟩
theorem has.drew {base : Nat} {v : Value} {l : List UInt8} {w : World} (h : has base v l w) : has base v l w.drew := h
theorem has_of_owns {base n : Nat} {v : Value} {l : List UInt8} {w : World} (hn : l.length = n) (h0 : 0 < n) (h : w.ownsRow base 5 1 v n ((Mb.cells l).map (Value.int .u8))) : has base v l w := by
  subst hn
  rcases h.2 with ⟨_, h1⟩ | ⟨g, cap, cur, h1, h2, h3, h4, h5, h6, h7⟩
  · omega
  · have hl : g < w.heap.size := (Array.getElem?_eq_some_iff.1 h3).1
    refine ⟨g, cap, h1, h2, hl, h4, fun j hj => ?_, fun j hj => ?_⟩
    · have hc := World.ownsRow.cells h (by rw [h1]; rfl) j _ (cell_of l j hj)
      have ha : (⟨g, 0, none⟩ : Addr).add j = ⟨g, j, none⟩ := by unfold Addr.add; split <;> simp_all
      rw [ha] at hc
      exact hc
    · have hjs : j < cur.size := by omega
      constructor
      · simp [World.cell?, h3, hjs]
      · simp [World.frozen?, h3]

/-- string(b). -/
theorem conv_has {base : Nat} {v : Value} {l : List UInt8} {w : World} (h : has base v l w) : (convert 22 9 v).run Tryd.prog w = .ok (.string ⟨l.toArray⟩) w := by
  obtain ⟨b, cap, rfl, h2, h3, h4, h5, h6⟩ := h
  refine run_convert_bytes_back w 22 9 5 _ cap l Tryd.underlying22 Tryd.underlying5 Tryd.underlying9 ?_
  intro j hj
  have ha : (⟨b, 0, none⟩ : Addr).add j = ⟨b, j, none⟩ := by unfold Addr.add; split <;> simp_all
  rw [ha]; exact h5 j hj

theorem below_cells {B b : Nat} {a : World} (hb : B ≤ b) : ∀ (vs : List Value) (o : Nat) (w : World), Below B a w → Below B a (w.setCells b o vs)
  | [], _, _, h => h
  | v :: vs, o, w, h => below_cells hb vs (o + 1) _ (h.setCell (by exact hb) v)
theorem size_cells (b : Nat) : ∀ (vs : List Value) (o : Nat) (w : World), (w.setCells b o vs).heap.size = w.heap.size
  | [], _, _ => rfl
  | v :: vs, o, w => by
    show ((w.setCell ⟨b, o, none⟩ v).setCells b (o + 1) vs).heap.size = _
    rw [size_cells b vs (o + 1) _]; simp

/-- append(b, news..). -/
theorem wpList_append_has {w : World} {ops : Array Oper} {rest : List Oper} {o : Oper} {a : Act} {Q : Exit → Act → World → Prop}
    (hg : o.guard = none) (s x : Operand) (hop : o.op = Op.call { callee := Callee.builtin Builtin.append, args := #[s, x], argTypes := #[22, 22] })
    (base : Nat) (w0 : World) (v : Value) (l : List UInt8) (hs : a.eval s = v) (hh : has base v l w) (hbel : Below base w0 w) (hbase : base ≤ w.heap.size)
    (ad : Addr) (m c : Nat) (news : List UInt8) (hx : a.eval x = .slice (some ad) m c) (hn : news.length = m) (hc : ∀ j u, ((Mb.cells news).map (Value.int .u8))[j]? = some u → w.cell? (ad.add j) = some u) (hm : 0 < m) (hle : l.length + m ≤ 100000)
    (hK : ∀ v' w', has base v' (l ++ news) w' → Below base w0 w' → base ≤ w'.heap.size → wpList Tryd.prog ops Q rest (a.put o.dst v') w') : wpList Tryd.prog ops Q (o :: rest) a w := by
  obtain ⟨i0, hi, hz0, hz1, hz2⟩ := info_parts info_u8
  obtain ⟨b, cap, rfl, h2, h3, h4, h5, h6⟩ := hh
  subst hn
  have hnl : ((Mb.cells news).map (Value.int .u8)).length = news.length := by simp [Mb.cells]
  have hll : ((Mb.cells l).map (Value.int .u8)).length = l.length := by simp [Mb.cells]
  have hold : ∀ j u, ((Mb.cells l).map (Value.int .u8))[j]? = some u → w.cell? ⟨b, 0 + j, none⟩ = some u := by
    intro j u hj
    have hjl : j < l.length := by have := (List.getElem?_eq_some_iff.1 hj).1; omega
    rw [cell_of l j hjl] at hj
    rw [Nat.zero_add, h5 j hjl, ← hj]
  refine wpList_append_arg w hg s x 22 hop 5 i0 (.int .u8 0) 1 1 Tryd.underlying22 hi hz0 hz1 hz2 rfl (by decide) b 0 l.length cap _ hs (by rw [hll, Nat.mul_one]) hold ad news.length c _ hx (by rw [hnl, Nat.mul_one]) hc (fun u hu => ?_) (fun hr j hj => ?_) (by unfold maxLen; omega) (by omega) (fun hr => ?_) (fun _ v' w' hw1 hw2 => ?_)
  · simp [Mb.cells] at hu; obtain ⟨x, _, rfl⟩ := hu; rfl
  · rw [hnl] at hj
    rw [show 0 + l.length * 1 + j = l.length + j by omega]
    exact h6 _ (by omega)
  · have hthere : ∀ j, j < ((Mb.cells news).map (Value.int .u8)).length → (w.cell? ⟨b, 0 + l.length * 1 + j, none⟩).isSome = true := fun j hj => by
      rw [show 0 + l.length * 1 + j = l.length + j by omega]; exact (h6 _ (by omega)).1
    refine hK _ _ ⟨b, cap, by rw [List.length_append], h2, by rw [size_cells]; exact h3, by rw [List.length_append]; exact hr, fun j hj => ?_, fun j hj => ?_⟩ (below_cells h2 _ _ _ hbel) (by rw [size_cells]; exact hbase)
    · rcases Nat.lt_or_ge j l.length with h | h
      · rw [World.cell?_setCells_out b _ _ _ _ (fun _ _ => .inl (by show j < 0 + l.length * 1; omega)), h5 j h, List.getElem_append_left h]
      · obtain ⟨q, rfl⟩ : ∃ q, j = l.length + q := ⟨j - l.length, by omega⟩
        have hq : q < news.length := by rw [List.length_append] at hj; omega
        have := World.cell?_setCells_in b _ (0 + l.length * 1) w hthere q (by rw [hnl]; exact hq)
        rw [show 0 + l.length * 1 + q = l.length + q by omega] at this
        rw [this, List.getElem_append_right (by omega)]
        simp [Mb.cells]
    · rw [World.frozen?_setCells]
      exact ⟨World.isSome_setCells b _ _ _ _ (h6 j hj).1, (h6 j hj).2⟩
  · refine hK _ _ (has_of_owns (n := l.length + news.length) (by rw [List.length_append]) (by omega) ?_) (hbel.grown hw2 hbase (fun k hk => by cases hk)) (Nat.le_trans hbase hw2.size)
    have e : (Mb.cells (l ++ news)).map (Value.int .u8) = (Mb.cells l).map (Value.int .u8) ++ (Mb.cells news).map (Value.int .u8) := by simp [Mb.cells]
    rw [e]
    refine ⟨hw1.1, ?_⟩
    rcases hw1.2 with h0 | ⟨g, cap', cur, q1, q2, q3⟩
    · exact .inl h0
    · exact .inr ⟨g, cap', cur, q1, Nat.le_trans hbase q2, q3⟩

/-- []byte(s). -/
theorem has_bytes (w : World) (s : ByteArray) (cap : Nat) (hcap : s.size ≤ cap) :
    has w.heap.size (.slice (some ⟨w.heap.size, 0, none⟩) s.size cap) s.data.toList (w.alloc (.cells (bytesRow s cap) 5 ((bytesRow s cap).size, (bytesRow s cap).size + 1))) := by
  have hsz : (bytesRow s cap).size = cap := by simp [bytesRow]; omega
  refine ⟨w.heap.size, cap, by simp, Nat.le_refl _, by rw [nblk_alloc]; omega, by simpa using hcap, fun j hj => ?_, fun j hj => ⟨?_, ?_⟩⟩
  · rw [World.cell?_alloc_mark, bytesRow_at _ _ _ (by simpa using hj)]
    simp
  · rw [World.cell?_alloc_mark]
    simp [hsz, hj]
  · rw [World.frozen?_alloc_mark, hsz]
    simp; omega
end Go.Proofs.YtkpjdmmgdmbmnaaDoor.CB

/-
  One block more, as the specification takes it.
-/
namespace Go.Proofs.YtkpjdmmgdmbmnaaDoor.K7
open Go.RowKit
open Go.Proofs.YtkpjdmmgdmbmnaaDoor.C0
open Go.Proofs.YtkpjdmmgdmbmnaaDoor.K1 (num wCells)
open Go.Proofs.YtkpjdmmgdmbmnaaDoor.K3 (byt bytesOf)
open Go.Proofs.YtkpjdmmgdmbmnaaDoor.K6 (Rel Rel2)
open Go.Deep (blk_alloc_lt blk_alloc_new nblk_alloc)

theorem index_byte (b : ByteArray) (j : Nat) (z : Int) (hj : j < b.size) (hz : z = (j : Int)) (w : World) :
    (Instr.index 9 (.string b) (.int .i64 z)).run Tryd.prog w = .ok (byt (Ms.byteAt (bytesOf b) j)) w := by
  subst hz
  rw [run_index_string w 9 b .i64 j Tryd.underlying9, Ms.byteAt_eq _ _ (by simpa using hj), dif_pos ⟨by omega, by omega⟩]
  rfl

theorem or_word (l : List UInt8) (k : Nat) : bits .or .u32 (bits .or .u32 (bits .or .u32 (((Ms.byteAt l (4 * k) : Nat) : Int) * 16777216) (((Ms.byteAt l (4 * k + 1) : Nat) : Int) * 65536)) (((Ms.byteAt l (4 * k + 2) : Nat) : Int) * 256)) ((Ms.byteAt l (4 * k + 3) : Nat) : Int) = ((Ms.word l k : Nat) : Int) := by
  have h0 := Ms.byteAt_lt l (4 * k)
  have h1 := Ms.byteAt_lt l (4 * k + 1)
  have h2 := Ms.byteAt_lt l (4 * k + 2)
  have h3 := Ms.byteAt_lt l (4 * k + 3)
  unfold Ms.word
  generalize Ms.byteAt l (4 * k) = a at *
  generalize Ms.byteAt l (4 * k + 1) = b at *
  generalize Ms.byteAt l (4 * k + 2) = c at *
  generalize Ms.byteAt l (4 * k + 3) = d at *
  rw [show ((a : Int) * 16777216) = ((a * 16777216 : Nat) : Int) by simp, show ((b : Int) * 65536) = ((b * 65536 : Nat) : Int) by simp, show ((c : Int) * 256) = ((c * 256 : Nat) : Int) by simp]
  rw [u32_or_nat _ _ (by omega) (by omega), nat_join 24 (a * 16777216) (b * 65536) (by omega) (by omega)]
  rw [u32_or_nat _ _ (by omega) (by omega), nat_join 16 _ (c * 256) (by omega) (by omega)]
  rw [u32_or_nat _ _ (by omega) (by omega), nat_join 8 _ d (by omega) (by omega)]

theorem own_base {w : World} {B B' e size n : Nat} {v : Value} {xs : List Value} (h : w.ownsRow B' e size v n xs) (hB : B ≤ B') : w.ownsRow B e size v n xs := by
  refine ⟨h.1, ?_⟩
  rcases h.2 with h0 | ⟨g, cap, cur, h1, h2, h3⟩
  · exact .inl h0
  · exact .inr ⟨g, cap, cur, h1, Nat.le_trans hB h2, h3⟩

set_option maxRecDepth 100000 in
set_option maxHeartbeats 1600000 in
theorem block_spec (s : Ms.St) (g cap : Nat) (b : ByteArray) (w : World) (hs : s.ok) (hb : b.size = 64) (hg : g < w.heap.size)
    (hc : ∀ j, j < 8 → w.cell? ⟨g, j, none⟩ = some (.int .i64 (s.list.getD j 0 : Nat))) :
    Calls Tryd.prog 88 #[.slice (some ⟨g, 0, none⟩) 8 cap, .string b] w fun e w' =>
      ∃ v, e = .returned v ∧ w'.ownsRow w.heap.size 2 1 v 8 (K6.i64s (Ms.blk s (bytesOf b)).list) ∧ Below w.heap.size w w' := by
  have hmk := run_make_row' (P := Tryd.prog) 112 106 (.int .u32 0) 4 Tryd.underlying112 K6.info_u32 rfl .i64 .i64 64 (by omega) (by omega)
  have hmk0 : ∀ w, (Instr.makeSlice 112 (.int .i64 64) (.int .i64 64)).run Tryd.prog w = .ok (.slice (some ⟨w.heap.size, 0, none⟩) 64 64) (w.alloc (.cells (madeCells #[.int .u32 0] 64) 106)) := hmk
  clear hmk
  have hrow0 := World.rowIs_made w (.int .u32 0) 64 106
  have HQ : Hid (Rel (bytesOf b) w (.int .i64 0) (w.alloc (.cells (madeCells #[.int .u32 0] 64) 106))) := ⟨0, _, by omega, rfl, hrow0, fun j hj => by omega, (Below.refl _ _).alloc (Nat.le_refl _) _⟩
  clear hrow0
  go_enter Tryd.func88, Tryd.ntmps88
  go_wp2_with fail
  go_loopw [6] (fun i wr => Rel (bytesOf b) w i wr) (fun i _ => 16 - (intOf i).toNat)
  case atStart => exact HQ.out
  case round =>
    clear HQ hmk0
    obtain ⟨k, f, hk, rfl, hrow, hlo, hbel⟩ := hrel
    by_cases hlt : k < 16
    · have q0 : IntKind.i64.wrap (4 * (k : Int)) = ((4 * k : Nat) : Int) := by rw [IntKind.wrap_i64]; omega
      have q1 : IntKind.i64.wrap (4 * (k : Int) + 1) = ((4 * k + 1 : Nat) : Int) := by rw [IntKind.wrap_i64]; omega
      have q2 : IntKind.i64.wrap (4 * (k : Int) + 2) = ((4 * k + 2 : Nat) : Int) := by rw [IntKind.wrap_i64]; omega
      have q3 : IntKind.i64.wrap (4 * (k : Int) + 3) = ((4 * k + 3 : Nat) : Int) := by rw [IntKind.wrap_i64]; omega
      have x0 := index_byte b (4 * k) (4 * (k : Int)) (by omega) (by omega)
      have x1 := index_byte b (4 * k + 1) (4 * (k : Int) + 1) (by omega) (by omega)
      have x2 := index_byte b (4 * k + 2) (4 * (k : Int) + 2) (by omega) (by omega)
      have x3 := index_byte b (4 * k + 3) (4 * (k : Int) + 3) (by omega) (by omega)
      have hw := or_word (bytesOf b) k
      have e0 := Ms.byteAt_lt (bytesOf b) (4 * k)
      have e1 := Ms.byteAt_lt (bytesOf b) (4 * k + 1)
      have e2 := Ms.byteAt_lt (bytesOf b) (4 * k + 2)
      have e3 := Ms.byteAt_lt (bytesOf b) (4 * k + 3)
      obtain ⟨o, ho⟩ : ∃ o, wr.cell? ⟨w.heap.size, k, none⟩ = some o := ⟨_, hrow.cell (by omega)⟩
      have hfr := hrow.frozen k
      have hk64 : (k : Int) < 64 := by omega
      go_wp2_with fail
      refine CT.region_tail 32 (by kernel_rfl) (by kernel_rfl) ?_
      simp only [List.take_succ_cons, List.take_zero, List.drop_succ_cons, List.drop_zero]
      repeat (first | go_big_quiet_skip | (go_big_quiet_want; go_big_quiet_op; go_big_quiet_on))
      refine wpQuiet_nil ?_
      have HN : Hid (Rel (bytesOf b) w (.int .i64 ((k + 1 : Nat) : Int)) ((wr.drew).setCell ⟨w.heap.size, k, none⟩ (num (Ms.word (bytesOf b) k)))) := by
        obtain ⟨f', h1, h2, h3⟩ := K6.row_set (w := wr.drew) hrow hlo (below_drewN hbel 1)
        rw [Ms.wAt_low _ k hlt] at h1 h3
        exact ⟨k + 1, f', hlt, rfl, h1, h2, h3⟩
      clear hrow hlo hbel x0 x1 x2 x3
      go_wp2
      go_roundw
      case rel => exact HN.out
      case measure => simp [intOf]; omega
    · obtain rfl : k = 16 := by omega
      have HR : Hid (Rel2 (bytesOf b) w (.int .i64 16) wr) := ⟨0, f, by omega, rfl, hrow, hlo, hbel⟩
      clear hrow hlo hbel
      go_wp2_with fail
      go_loopw [7] (fun i wr => Rel2 (bytesOf b) w i wr) (fun i _ => 64 - (intOf i).toNat)
      case atStart => exact HR.out
      case round =>
        clear HR
        obtain ⟨n, f, hn, rfl, hrow, hlo, hbel⟩ := hrel
        by_cases hl : n < 48
        · have c0 : wr.cell? ⟨w.heap.size, n, none⟩ = some (num (Ms.wAt (bytesOf b) n)) := by rw [← hlo n (by omega)]; exact hrow.cell (by omega)
          have c1 : wr.cell? ⟨w.heap.size, n + 1, none⟩ = some (num (Ms.wAt (bytesOf b) (n + 1))) := by rw [← hlo (n + 1) (by omega)]; exact hrow.cell (by omega)
          have c9 : wr.cell? ⟨w.heap.size, n + 9, none⟩ = some (num (Ms.wAt (bytesOf b) (n + 9))) := by rw [← hlo (n + 9) (by omega)]; exact hrow.cell (by omega)
          have c14 : wr.cell? ⟨w.heap.size, n + 14, none⟩ = some (num (Ms.wAt (bytesOf b) (n + 14))) := by rw [← hlo (n + 14) (by omega)]; exact hrow.cell (by omega)
          obtain ⟨o16, c16⟩ : ∃ o, wr.cell? ⟨w.heap.size, n + 16, none⟩ = some o := ⟨_, hrow.cell (by omega)⟩
          have hfr := hrow.frozen (n + 16)
          have HN : Hid (Rel2 (bytesOf b) w (.int .i64 ((n + 1 + 16 : Nat) : Int)) ((wr.drew).setCell ⟨w.heap.size, n + 16, none⟩ (num (Ms.wAt (bytesOf b) (n + 16))))) := by
            obtain ⟨f', h1, h2, h3⟩ := K6.row_set (w := wr.drew) hrow hlo (below_drewN hbel 1)
            exact ⟨n + 1, f', by omega, rfl, h1, fun j hj => h2 j (by omega), h3⟩
          have HW : Hid (Ms.wAt (bytesOf b) (n + 16) = Ms.add (Ms.add (Ms.add (Ms.wAt (bytesOf b) n) (Ms.low0 (Ms.wAt (bytesOf b) (n + 1)))) (Ms.wAt (bytesOf b) (n + 9))) (Ms.low1 (Ms.wAt (bytesOf b) (n + 14)))) := Ms.wAt_high _ n
          have b0 := Ms.wAt_lt (bytesOf b) n
          have b1 := Ms.wAt_lt (bytesOf b) (n + 1)
          have b9 := Ms.wAt_lt (bytesOf b) (n + 9)
          have b14 := Ms.wAt_lt (bytesOf b) (n + 14)
          generalize Ms.wAt (bytesOf b) n = x0 at *
          generalize Ms.wAt (bytesOf b) (n + 1) = x1 at *
          generalize Ms.wAt (bytesOf b) (n + 9) = x9 at *
          generalize Ms.wAt (bytesOf b) (n + 14) = x14 at *
          clear hrow hlo hbel
          have q7 : IntKind.i64.wrap ((n : Int) + 16 - 7) = ((n + 9 : Nat) : Int) := K1.back n 7 9 (by omega) rfl
          have q16 : IntKind.i64.wrap ((n : Int) + 16 - 16) = ((n + 0 : Nat) : Int) := K1.back n 16 0 (by omega) rfl
          have i0 : (n : Int) < 64 := by omega
          have i9 : (n : Int) + 9 < 64 := by omega
          have j9 : 0 ≤ (n : Int) + 9 := by omega
          have t9 : ((n : Int) + 9).toNat = n + 9 := by omega
          have i16 : (n : Int) + 16 < 64 := by omega
          have j16 : 0 ≤ (n : Int) + 16 := by omega
          have t16 : ((n : Int) + 16).toNat = n + 16 := by omega
          have l0 := K0.low0_eq x1 b1
          have l1 := K0.low1_eq x14 b14
          generalize Ms.low0 x1 = s0 at *
          generalize Ms.low1 x14 = s1 at *
          have a1 := K0.add_wrap x0 s0
          have a2 := K0.add_wrap (Ms.add x0 s0) x9
          have a3 := K0.add_wrap (Ms.add (Ms.add x0 s0) x9) s1
          go_wp2_with fail
          refine CT.region_tail 32 (by kernel_rfl) (by kernel_rfl) ?_
          simp only [List.take_succ_cons, List.take_zero, List.drop_succ_cons, List.drop_zero]
          repeat (first | go_big_quiet_skip | (go_big_quiet_want; go_big_quiet_op; first | go_big_quiet_on | (apply Exists.intro; refine ⟨?_, ?_⟩; · first | exact K6.turn_still _ _ _ b1 (by decide) (by decide) | exact K6.turn_still _ _ _ b14 (by decide) (by decide)
                                                                                                              go_big_quiet_on)))
          refine wpQuiet_nil ?_
          rw [HW.out] at HN
          clear c0 c1 c9 c14 l0 l1
          go_wp2
          go_roundw
          case rel => exact HN.out
          case measure => simp [intOf]; omega
        · obtain rfl : n = 48 := by omega
          have hok := hs
          have HG : Hid (wr.heap[w.heap.size]? = some (.cells (wCells (bytesOf b)) 106 (0, 0))) := K1.row_is hrow hlo
          have HB : Hid (Below w.heap.size w wr) := hbel
          have HC : Hid (∀ j, j < 8 → wr.cell? ⟨g, j, none⟩ = some (.int .i64 (s.list.getD j 0 : Nat))) := fun j hj => by rw [hbel.cell (p := ⟨g, j, none⟩) hg]; exact hc j hj
          have hz : w.heap.size < wr.heap.size := hrow.lt
          clear hrow hlo hbel hc
          have k0 : wr.cell? ⟨g, 0, none⟩ = some (.int .i64 (s.a : Nat)) := HC.out 0 (by omega)
          have k1 : wr.cell? ⟨g, 1, none⟩ = some (.int .i64 (s.b : Nat)) := HC.out 1 (by omega)
          have k2 : wr.cell? ⟨g, 2, none⟩ = some (.int .i64 (s.c : Nat)) := HC.out 2 (by omega)
          have k3 : wr.cell? ⟨g, 3, none⟩ = some (.int .i64 (s.d : Nat)) := HC.out 3 (by omega)
          have k4 : wr.cell? ⟨g, 4, none⟩ = some (.int .i64 (s.e : Nat)) := HC.out 4 (by omega)
          have k5 : wr.cell? ⟨g, 5, none⟩ = some (.int .i64 (s.f : Nat)) := HC.out 5 (by omega)
          have k6 : wr.cell? ⟨g, 6, none⟩ = some (.int .i64 (s.g : Nat)) := HC.out 6 (by omega)
          have k7 : wr.cell? ⟨g, 7, none⟩ = some (.int .i64 (s.h : Nat)) := HC.out 7 (by omega)
          obtain ⟨oa, ob, oc, od, oe, of, og, oh⟩ := hok
          go_wp2_with fail
          go_quiet (fail)
          go_wp2_with fail
          obtain ⟨w3, hw3⟩ : ∃ x, wr.drewN nq = x := ⟨_, rfl⟩
          rw [hw3]
          have k4' : w3.cell? ⟨g, 4, none⟩ = some (.int .i64 (s.e : Nat)) := by rw [← hw3]; exact k4
          have k5' : w3.cell? ⟨g, 5, none⟩ = some (.int .i64 (s.f : Nat)) := by rw [← hw3]; exact k5
          have k6' : w3.cell? ⟨g, 6, none⟩ = some (.int .i64 (s.g : Nat)) := by rw [← hw3]; exact k6
          have k7' : w3.cell? ⟨g, 7, none⟩ = some (.int .i64 (s.h : Nat)) := by rw [← hw3]; exact k7
          have Hw3 : Hid (wr.drewN nq = w3) := hw3
          clear hw3 k0 k1 k2 k3 k4 k5 k6 k7
          go_quiet (fail)
          clear k4' k5' k6' k7'
          go_wp2_with fail
          refine (K6.keys_spec _).mono ?_
          rintro e w4 ⟨rfl, hw4⟩
          have hz3 : (w3.drewN nq).heap.size = wr.heap.size := by rw [← Hw3.out]; rfl
          have h4a : w4.heap[wr.heap.size]? = some (.cells K6.keyCells 106 (0, 0)) := by rw [hw4, ← hz3]; exact blk_alloc_new _ _
          have h4b : w4.heap[w.heap.size]? = some (.cells (wCells (bytesOf b)) 106 (0, 0)) := by
            rw [hw4, blk_alloc_lt _ _ _ (by rw [hz3]; exact hz), ← Hw3.out]; exact HG.out
          have h4c : Below wr.heap.size wr w4 := by
            rw [hw4, ← Hw3.out]; exact (below_drewN (below_drewN (Below.refl _ _) _) _).alloc (Nat.le_refl _) _
          have h4d : wr.heap.size < w4.heap.size := by rw [hw4, nblk_alloc, hz3]; exact Nat.lt_succ_self _
          rw [hz3]
          have HK : Hid (∀ i, i < 64 → w4.cell? ⟨wr.heap.size, i, none⟩ = some (num (Ms.key i))) := fun i hi => by rw [K2.cell_at h4a, K6.keyCells_at i hi]
          have HG4 : Hid (∀ i, i < 64 → w4.cell? ⟨w.heap.size, i, none⟩ = some (num (Ms.wAt (bytesOf b) i))) := fun i hi => by rw [K2.cell_at h4b, K2.wCells_at _ i hi]
          have HB4 : Hid (Below w.heap.size w w4) := HB.out.trans (h4c.mono (by omega))
          have HC4 : Hid (∀ j, j < 8 → w4.cell? ⟨g, j, none⟩ = some (.int .i64 (s.list.getD j 0 : Nat))) := fun j hj => by rw [h4c.cell (p := ⟨g, j, none⟩) (by show g < wr.heap.size; omega)]; exact HC.out j hj
          have HZ4 : Hid (w.heap.size ≤ w4.heap.size) := by unfold Hid; omega
          clear hw4 Hw3 h4a h4b h4c h4d hz3 HG HB HC
          generalize wr.heap.size = kb at *
          go_wp2_with fail
          go_loopw [10, 11, 12, 13, 14, 15, 16, 17, 19] (fun a b1 c d e f g h i wr => K2.Rel s (bytesOf b) w4 a b1 c d e f g h i wr) (fun _ _ _ _ _ _ _ _ i _ => 64 - (intOf i).toNat)
          case atStart => exact ⟨0, 0, by omega, rfl, rfl, rfl, rfl, rfl, rfl, rfl, rfl, rfl, rfl⟩
          case round =>
            obtain ⟨k, m, hk, rfl, rfl, rfl, rfl, rfl, rfl, rfl, rfl, rfl, hw⟩ := hrel
            have ht := Ms.rnds_ok (bytesOf b) hs k
            by_cases hlt : k < 64
            · have HS : Hid (Ms.rnds s (bytesOf b) (k + 1) = Ms.rnd (Ms.rnds s (bytesOf b) k) (Ms.key k) (Ms.wAt (bytesOf b) k)) := rfl
              have hck : wr.cell? ⟨kb, k, none⟩ = some (num (Ms.key k)) := by rw [hw]; exact HK.out k hlt
              have hcw : wr.cell? ⟨w.heap.size, k, none⟩ = some (num (Ms.wAt (bytesOf b) k)) := by rw [hw]; exact HG4.out k hlt
              have Hw : Hid (wr = w4.drewN m) := hw
              clear hw
              generalize Ms.rnds s (bytesOf b) k = t at *
              generalize Ms.key k = key at *
              generalize Ms.wAt (bytesOf b) k = wat at *
              obtain ⟨ta, tb, tc, td, te, tf, tg, th⟩ := t
              obtain ⟨oa, ob, oc, od, oe, of, og, oh⟩ := ht
              simp only at oa ob oc od oe of og oh
              simp only
              have hki : (k : Int) < 64 := by omega
              go_wp2_with fail
              go_quiet (first | (go_at_call 101; exact K0.turn_quiet_spec _ _ _ _ oe (by decide) (by decide)))
              go_wp2_with (first | (go_at_call 101; refine (K0.turn_any_spec _ _ _ oa (by decide) (by decide)).mono ?_; rintro e w' ⟨rfl, rfl⟩))
              rw [K0.up1_eq te oe, K0.ch_eq te tf tg oe of og, K0.maj_eq ta tb tc oa ob oc, K0.up0_eq ta oa]
              go_roundw
              case rel =>
                refine ⟨k + 1, m + nq, by omega, by go_num, ?_, ?_, ?_, ?_, ?_, ?_, ?_, ?_, by rw [Hw.out, World.drewN_drewN]⟩
                all_goals rw [HS.out]
                all_goals try rfl
                · rw [K0.t1_eq ⟨ta, tb, tc, td, te, tf, tg, th⟩, K0.t2_eq ⟨ta, tb, tc, td, te, tf, tg, th⟩, K0.add_mod]; rfl
                · rw [K0.t1_eq ⟨ta, tb, tc, td, te, tf, tg, th⟩, K0.add_mod]; rfl
              case measure => simp [intOf]; omega
            · obtain rfl : k = 64 := by omega
              have HBK : Hid (Ms.blk s (bytesOf b) = Ms.plus s (Ms.rnds s (bytesOf b) 64)) := rfl
              have HB5 : Hid (Below w.heap.size w wr) := by rw [hw]; exact below_drewN HB4.out m
              have HC5 : Hid (∀ j, j < 8 → wr.cell? ⟨g, j, none⟩ = some (.int .i64 (s.list.getD j 0 : Nat))) := by rw [hw]; exact HC4.out
              have hz5 : w.heap.size ≤ wr.heap.size := by rw [hw]; exact HZ4.out
              clear hw HK HG4 HB4 HC4 HZ4
              generalize Ms.rnds s (bytesOf b) 64 = t at *
              go_wp2_with fail
              obtain ⟨i0, hi, hz0, hz1, hz2⟩ := info_parts K6.info_i64
              obtain ⟨W, hW⟩ : ∃ x, (wr.alloc (.cells #[num t.a, num t.b, num t.c, num t.d, num t.e, num t.f, num t.g, num t.h] 106)).alloc (.cells #[] 2) = x := ⟨_, rfl⟩
              have HV : Hid (W.heap[wr.heap.size]? = some (.cells (K2.stCells t) 106 (0, 0))) := by
                rw [← hW, blk_alloc_lt _ _ _ (by rw [nblk_alloc]; exact Nat.lt_succ_self _), blk_alloc_new]; exact rfl
              have HBW : Hid (Below wr.heap.size wr W) := by rw [← hW]; exact ((Below.refl _ _).alloc (Nat.le_refl _) _).alloc (by rw [nblk_alloc]; omega) _
              have HQ : Hid (K6.Rel4 (Ms.plus s t) (wr.heap.size + 1) W (.slice (some ⟨wr.heap.size + 1, 0, none⟩) 0 0) (.int .i64 0) W) := by
                refine ⟨0, by omega, rfl, ?_, Below.refl _ _, by rw [← hW, nblk_alloc, nblk_alloc]; omega⟩
                rw [← hW]
                have := World.ownsRow_lit (base := wr.heap.size + 1) (size := 1) (wr.alloc (.cells #[num t.a, num t.b, num t.c, num t.d, num t.e, num t.f, num t.g, num t.h] 106)) (#[] : Array Value) 0 (by rw [nblk_alloc]; exact Nat.le_refl _) (by decide) rfl (e := 2)
                rw [nblk_alloc] at this
                exact this
              have HBV : Hid (Below w.heap.size w W) := HB5.out.trans (HBW.out.mono hz5)
              have HCW : Hid (∀ j, j < 8 → W.cell? ⟨g, j, none⟩ = some (.int .i64 (s.list.getD j 0 : Nat))) := fun j hj => by rw [HBW.out.cell (p := ⟨g, j, none⟩) (by show g < wr.heap.size; omega)]; exact HC5.out j hj
              have HVW : Hid (∀ j, j < 8 → W.cell? ⟨wr.heap.size, j, none⟩ = some (num (t.list.getD j 0))) := fun j hj => by rw [K2.cell_at HV.out, K2.stCells_at t j hj]
              rw [hW]
              clear hW HV HB5 HC5 HBW
              have hgV : g < wr.heap.size := by omega
              obtain ⟨V, hVe⟩ : ∃ V, wr.heap.size = V := ⟨_, rfl⟩
              rw [hVe] at HQ HVW hgV hz5
              rw [hVe, show ((64 : Nat) : Int) = (64 : Int) from rfl]
              clear hVe
              go_loopw [23, 24] (fun o i wr => K6.Rel4 (Ms.plus s t) (V + 1) W o i wr) (fun _ i _ => 8 - (intOf i).toNat)
              case atStart => exact HQ.out
              case round =>
                clear HQ
                obtain ⟨k, hk8, rfl, hown, hbel, hbs⟩ := hrel
                by_cases hl8 : k < 8
                · have hcs : wr.cell? ⟨g, k, none⟩ = some (.int .i64 (s.list.getD k 0 : Nat)) := by rw [hbel.cell (p := ⟨g, k, none⟩) (by show g < V + 1; omega)]; exact HCW.out k hl8
                  have hct : wr.cell? ⟨V, k, none⟩ = some (num (t.list.getD k 0)) := by rw [hbel.cell (p := ⟨V, k, none⟩) (by show V < V + 1; omega)]; exact HVW.out k hl8
                  have HT : Hid (K6.i64s ((Ms.plus s t).list.take (k + 1)) = K6.i64s ((Ms.plus s t).list.take k) ++ [Value.int .i64 ((Ms.add (s.list.getD k 0) (t.list.getD k 0) : Nat) : Int)]) := by
                    unfold Hid; rw [K6.take_more _ k hl8, K2.plus_at s t k hl8]
                  have hsk := K6.list_lt hs k hl8
                  have htk := K6.list_lt ht k hl8
                  generalize s.list.getD k 0 = sk at *
                  generalize t.list.getD k 0 = tk at *
                  generalize K6.i64s ((Ms.plus s t).list.take k) = pre at *
                  have hal := Ms.add_lt sk tk
                  have a1 := K0.add_wrap sk tk
                  have a2 : IntKind.i64.wrap ((Ms.add sk tk : Nat) : Int) = ((Ms.add sk tk : Nat) : Int) := by rw [IntKind.wrap_i64]; omega
                  have a3 : IntKind.u32.wrap ((sk : Nat) : Int) = ((sk : Nat) : Int) := by rw [IntKind.wrap_u32']; omega
                  generalize Ms.add sk tk = sum at *
                  have ag : u23.ownBlock ≠ some g := fun e => by have := (hown.lt _ e).1; omega
                  have aV : u23.ownBlock ≠ some V := fun e => by have := (hown.lt _ e).1; omega
                  have lg := World.block_lt_of_cell? wr _ hcs
                  have lv := World.block_lt_of_cell? wr _ hct
                  have hi0' : (0 : Int) ≤ (k : Int) := Int.natCast_nonneg _
                  have hi1 : (k : Int) < 8 := by omega
                  go_wp2_with fail
                  go_region_held3 (fun w' => w'.cell? ⟨g, k, none⟩ = some (.int .i64 (sk : Int)) ∧ w'.cell? ⟨V, k, none⟩ = some (.int .u32 (tk : Int)))
                    (first
                      | go_keep
                      | (go_split_ands
                         refine ⟨?_, ?_⟩
                         · (rw [hgrow.cell_far _ (by simp; omega) (Ne.symm ag)]; assumption)
                         · (rw [hgrow.cell_far _ (by simp; omega) (Ne.symm aV)]; assumption)))
                    ((refine step_append_lies _ (by rfl) _ _ _ (by rfl) (V + 1) 2 i0 _ 1 8 Tryd.underlying27 hi hz0 hz1 hz2 rfl (by omega) u23 k pre (by rfl) ((hown.alloc _).drew)
                        ⟨wr.heap.size, 0, none⟩ 1 1 [.int .i64 (sum : Int)] (by rfl) (by rfl) (World.news_of_block (cs := #[.int .i64 (sum : Int)]) (t := 2) (fr := (0, 0)) (heap_alloc_new wr _)) (by simp [Value.oneCell'])
                        (by omega) (by unfold maxLen; omega) (by omega) (by simp; omega) (wr.heap.size + 1) (by simp) ?_; intro gg cap1 w1 hown1 hgrow hat hlt))
                  have HW : Hid (Below (V + 1) W w1) := ((hbel.alloc hbs _).drew).grown hgrow (by show V + 1 ≤ (wr.alloc _).heap.size; rw [nblk_alloc]; omega) (fun k hk => (hown.lt k hk).1)
                  have HZ : Hid (V + 1 ≤ w1.heap.size) := by
                    have h1 : (wr.alloc (.cells #[.int .i64 (sum : Int)] 2)).heap.size ≤ w1.heap.size := hgrow.size
                    rw [nblk_alloc] at h1
                    unfold Hid; omega
                  have HO : Hid (w1.ownsRow (V + 1) 2 1 (.slice (some ⟨gg, 0, none⟩) (k + 1) cap1) (k + 1) (pre ++ [Value.int .i64 (sum : Int)])) := hown1
                  clear hown1 hgrow hat hlt hown hbel hcs hct ag aV a1 a2 a3
                  go_wp2
                  go_roundw
                  case rel => exact ⟨k + 1, by omega, by go_num, by rw [HT.out]; exact HO.out, HW.out, HZ.out⟩
                  case measure => simp [intOf]; omega
                · obtain rfl : k = 8 := by omega
                  have HO : Hid (wr.ownsRow w.heap.size 2 1 u23 8 (K6.i64s (Ms.blk s (bytesOf b)).list)) := by
                    rw [HBK.out]
                    exact own_base hown (by omega)
                  have HF : Hid (Below w.heap.size w wr) := HBV.out.trans (hbel.mono (by omega))
                  clear hown hbel
                  go_wp2
                  go_ret
                  exact ⟨_, rfl, HO.out, HF.out⟩
end Go.Proofs.YtkpjdmmgdmbmnaaDoor.K7

/-
  The digest of a text, as the specification makes it.
-/
namespace Go.Proofs.YtkpjdmmgdmbmnaaDoor.K8
open Go.RowKit
open Go.Proofs.YtkpjdmmgdmbmnaaDoor.C0
open Go.Proofs.YtkpjdmmgdmbmnaaDoor.CB
open Go.Proofs.YtkpjdmmgdmbmnaaDoor.K1 (num)
open Go.Proofs.YtkpjdmmgdmbmnaaDoor.K3 (byt bytesOf)
open Go.Proofs.YtkpjdmmgdmbmnaaDoor.K6 (i64s)
open Go.Deep (blk_alloc_lt blk_alloc_new nblk_alloc)

def startCells : Array Value := (i64s Ms.start.list).toArray
set_option maxRecDepth 100000 in
theorem start_spec (w : World) : Calls Tryd.prog 87 #[] w fun e w' => e = .returned (.slice (some ⟨w.heap.size, 0, none⟩) 8 8) ∧ w' = w.alloc (.cells startCells 2) := by
  go_enter Tryd.func87, Tryd.ntmps87
  go_wp2
  go_ret
  exact ⟨rfl, rfl⟩

def lenV : Value → Nat
  | .slice _ n _ => n
  | _ => 0
/-- The bytes ahead of the length, z zeros of them. -/
def head (l : List UInt8) (z : Nat) : List UInt8 := l ++ 128 :: List.replicate z 0
theorem head_length (l : List UInt8) (z : Nat) : (head l z).length = l.length + 1 + z := by simp [head]; omega
theorem head_snoc (l : List UInt8) (z : Nat) : head l z ++ [0] = head l (z + 1) := by simp [head, List.replicate_succ']
def room (n : Nat) : Nat := 64 * Ms.blocks n - 9 - n
theorem room_test (n z : Nat) (hz : z ≤ room n) : ((n + 1 + z) % 64 = 56) ↔ z = room n := by
  unfold room Ms.blocks at *; omega
theorem head_pad (l : List UInt8) : Ms.pad l = head l (room l.length) ++ Ms.be8 (8 * l.length) := by simp [Ms.pad, head, room]

def Rel1 (l : List UInt8) (base : Nat) (w0 : World) (v : Value) (w : World) : Prop :=
  ∃ z, z ≤ room l.length ∧ has base v (head l z) w ∧ Below base w0 w ∧ base ≤ w.heap.size
def Rel2 (l : List UInt8) (base : Nat) (w0 : World) (v k : Value) (w : World) : Prop :=
  ∃ i : Nat, i ≤ 8 ∧ k = .int .i64 (56 - 8 * (i : Int)) ∧ has base v (head l (room l.length) ++ (Ms.be8 (8 * l.length)).take i) w ∧ Below base w0 w ∧ base ≤ w.heap.size

theorem one_cell (w : World) (c : UInt8) (x : Value) (hx : x = .int .u8 (c.toNat : Int)) (t : TypeId) : ∀ j u, ((Mb.cells [c]).map (Value.int .u8))[j]? = some u → (w.alloc (.cells #[x] t)).cell? ((⟨w.heap.size, 0, none⟩ : Addr).add j) = some u := by
  subst hx; exact cell_one_new w _ t

theorem one_cell_drew (w : World) (c : UInt8) (x : Value) (hx : x = .int .u8 (c.toNat : Int)) (t : TypeId) (g : Nat) (hg : g = w.heap.size) : ∀ j u, ((Mb.cells [c]).map (Value.int .u8))[j]? = some u → (w.alloc (.cells #[x] t)).drew.cell? ((⟨g, 0, none⟩ : Addr).add j) = some u := by
  subst hg; exact one_cell w c x hx t
theorem be8_next (n i : Nat) (hi : i < 8) : (Ms.be8 n).take (i + 1) = (Ms.be8 n).take i ++ [UInt8.ofNat (n / 2 ^ (56 - 8 * i))] := by
  match i, hi with
  | 0, _ => simp [Ms.be8]
  | 1, _ => simp [Ms.be8]
  | 2, _ => simp [Ms.be8]
  | 3, _ => simp [Ms.be8]
  | 4, _ => simp [Ms.be8]
  | 5, _ => simp [Ms.be8]
  | 6, _ => simp [Ms.be8]
  | 7, _ => simp [Ms.be8]
theorem head_zero (l : List UInt8) : l ++ [128] = head l 0 := rfl

/-- Where a state of the specification's lies. -/
def stAt (s : Ms.St) (v : Value) (w : World) : Prop := ∃ g cap, v = .slice (some ⟨g, 0, none⟩) 8 cap ∧ g < w.heap.size ∧ ∀ j, j < 8 → w.cell? ⟨g, j, none⟩ = some (.int .i64 (s.list.getD j 0 : Nat))
theorem stAt.below {s : Ms.St} {v : Value} {w w' : World} (h : stAt s v w) (hb : Below w.heap.size w w') : stAt s v w' := by
  obtain ⟨g, cap, h1, h2, h3⟩ := h
  exact ⟨g, cap, h1, Nat.lt_of_lt_of_le h2 hb.size, fun j hj => by rw [hb.cell (p := ⟨g, j, none⟩) h2]; exact h3 j hj⟩
theorem i64s_at (s : Ms.St) (j : Nat) (hj : j < 8) : (i64s s.list)[j]? = some (.int .i64 (s.list.getD j 0 : Nat)) := by
  match j, hj with
  | 0, _ => rfl
  | 1, _ => rfl
  | 2, _ => rfl
  | 3, _ => rfl
  | 4, _ => rfl
  | 5, _ => rfl
  | 6, _ => rfl
  | 7, _ => rfl
theorem stAt_of_owns {s : Ms.St} {v : Value} {w : World} {base : Nat} (h : w.ownsRow base 2 1 v 8 (i64s s.list)) : stAt s v w := by
  rcases h.2 with ⟨_, h1⟩ | ⟨g, cap, cur, h1, h2, h3, h4, h5, h6, h7⟩
  · omega
  · refine ⟨g, cap, h1, (Array.getElem?_eq_some_iff.1 h3).1, fun j hj => ?_⟩
    have hc := World.ownsRow.cells h (by rw [h1]; rfl) j _ (i64s_at s j hj)
    have ha : (⟨g, 0, none⟩ : Addr).add j = ⟨g, j, none⟩ := by unfold Addr.add; split <;> simp_all
    rw [ha] at hc
    exact hc
theorem stAt_start (w : World) : stAt Ms.start (.slice (some ⟨w.heap.size, 0, none⟩) 8 8) (w.alloc (.cells startCells 2)) := by
  refine ⟨w.heap.size, 8, rfl, by rw [nblk_alloc]; omega, fun j hj => ?_⟩
  rw [K2.cell_at (blk_alloc_new _ _)]
  show (i64s Ms.start.list).toArray[j]? = _
  rw [List.getElem?_toArray, i64s_at _ j hj]

/-- What holds at the head of a round that takes a block. -/
def Rel3 (p : List UInt8) (n : Nat) (base : Nat) (w0 : World) (vb : Value) (st i : Value) (w : World) : Prop :=
  ∃ k : Nat, k ≤ n ∧ i = .int .i64 ((64 * k : Nat) : Int) ∧ stAt (Ms.states p k) st w ∧ has base vb p w ∧ Below base w0 w ∧ base ≤ w.heap.size
set_option maxRecDepth 100000 in
theorem conv_mid {base b cap : Nat} {p : List UInt8} {w : World} (h : has base (.slice (some ⟨b, 0, none⟩) p.length cap) p w) (k : Nat) (hk : 64 * k + 64 ≤ p.length) (c : Nat) :
    (convert 22 9 (.slice (some ⟨b, 64 * k, none⟩) 64 c)).run Tryd.prog w = .ok (.string ⟨((p.drop (64 * k)).take 64).toArray⟩) w := by
  obtain ⟨b', cap', h1, _, _, _, h5, _⟩ := h
  injection h1 with e1 e2 e3
  injection e1 with e1
  injection e1 with e1
  subst e1
  have hl : ((p.drop (64 * k)).take 64).length = 64 := by simp; omega
  have := run_convert_bytes_back (P := Tryd.prog) w 22 9 5 ⟨b, 64 * k, none⟩ c ((p.drop (64 * k)).take 64) Tryd.underlying22 Tryd.underlying5 Tryd.underlying9 (fun j hj => by
    have ha : (⟨b, 64 * k, none⟩ : Addr).add j = ⟨b, 64 * k + j, none⟩ := by unfold Addr.add; split <;> simp_all
    rw [ha, h5 (64 * k + j) (by omega)]
    simp)
  rw [hl] at this
  exact this

set_option maxRecDepth 100000 in
set_option maxHeartbeats 1600000 in
theorem all_spec (s : ByteArray) (w : World) (hs : s.size ≤ 20000) :
    Calls Tryd.prog 53 #[.string s] w fun e w' => e = .returned (.string ⟨(Ms.digest (bytesOf s)).toArray⟩) ∧ Below w.heap.size w w' := by
  have hbs := fun wx : World => run_bytes_of_string (P := Tryd.prog) wx 9 22 5 s Tryd.underlying9 Tryd.underlying22 Tryd.underlying5
  have hcapge := grownCap_ge w s.size 0 5
  go_enter Tryd.func53, Tryd.ntmps53
  go_wp2_with (at_builtin; go_loud (refine wpList_append_has rfl _ _ rfl w.heap.size w _ (bytesOf s) rfl (((has_bytes w s _ hcapge).alloc _).drew) ((((Below.refl _ _).alloc (Nat.le_refl _) _).alloc (by rw [nblk_alloc]; omega) _).drew) (by show w.heap.size ≤ ((w.alloc _).alloc _).heap.size; rw [nblk_alloc, nblk_alloc]; omega) ⟨w.heap.size + 1, 0, none⟩ 1 1 [128] rfl rfl (one_cell_drew _ 128 _ rfl _ _ (by rw [nblk_alloc])) (by decide) (by simp; omega) ?_))
  intro v1 w1 hh1 hb1 hz1
  rw [head_zero] at hh1
  have HQ : Hid (Rel1 (bytesOf s) w.heap.size w v1 w1) := ⟨0, Nat.zero_le _, hh1, hb1, hz1⟩
  have hl : (bytesOf s).length = s.size := by simp
  have Hl : Hid ((bytesOf s).length = s.size) := hl
  clear hh1 hb1 hz1 hbs hcapge hl
  have hrm : Hid (room s.size ≤ 100) := by unfold Hid room Ms.blocks; omega
  go_wp2_with fail
  go_loopw [3] (fun v wr => Rel1 (bytesOf s) w.heap.size w v wr) (fun v _ => s.size + 200 - lenV v)
  case atStart => exact HQ.out
  case round =>
    clear HQ
    obtain ⟨z, hz, hh, hbel, hbs⟩ := hrel
    obtain ⟨b, cap, rfl⟩ := hh.form
    rw [Hl.out] at hz
    have hlen := head_length (bytesOf s) z
    rw [Hl.out] at hlen
    have hrm' := hrm.out
    have htest := room_test s.size z hz
    by_cases hzr : z = room s.size
    · have h56 : (((head (bytesOf s) z).length : Int) % 64 != 56) = false := by
        have := htest.2 hzr
        simp; omega
      have HR : Hid (Rel2 (bytesOf s) w.heap.size w (.slice (some ⟨b, 0, none⟩) (head (bytesOf s) z).length cap) (.int .i64 56) wr) := by
        refine ⟨0, by omega, rfl, ?_, hbel, hbs⟩
        rw [Hl.out, ← hzr, List.take_zero, List.append_nil]; exact hh
      obtain ⟨n, hn⟩ : ∃ n, (head (bytesOf s) z).length = n := ⟨_, rfl⟩
      rw [hn] at h56 HR hlen
      rw [hn]
      have hn2 : n ≤ 21000 := by omega
      clear hh hbel htest hn hzr hz hlen
      go_wp2_with fail
      clear h56
      have Hroom : Hid ((head (bytesOf s) (room (bytesOf s).length)).length ≤ 21000) := by unfold Hid; rw [head_length, Hl.out]; omega
      obtain ⟨x, hx⟩ : ∃ x : Nat, 8 * s.size = x := ⟨_, rfl⟩
      have hxi : 8 * (s.size : Int) = (x : Int) := by omega
      have hx2 : x ≤ 160000 := by omega
      rw [hxi]
      have Hx : Hid (8 * s.size = x) := hx
      clear hx hxi
      go_loopw [3, 5] (fun v k wr => Rel2 (bytesOf s) w.heap.size w v k wr) (fun _ k _ => (intOf k + 8).toNat)
      case atStart => exact HR.out
      case round =>
        clear HR
        obtain ⟨i, hi, rfl, hh, hbel, hbs⟩ := hrel
        by_cases hlt : i < 8
        · have HB := be8_next (8 * (bytesOf s).length) i hlt
          have hbl : ((head (bytesOf s) (room (bytesOf s).length)) ++ (Ms.be8 (8 * (bytesOf s).length)).take i).length + 1 ≤ 100000 := by
            have h1 := Hroom.out
            rw [List.length_append, List.length_take]; omega
          obtain ⟨e, he⟩ : ∃ e : Nat, 56 - 8 * i = e := ⟨_, rfl⟩
          have hei : (56 : Int) - 8 * (i : Int) = (e : Int) := by omega
          rw [Hl.out] at HB
          rw [he] at HB
          rw [Hx.out] at HB
          have HB1 : Hid ((Ms.be8 (8 * (bytesOf s).length)).take (i + 1) = (Ms.be8 (8 * (bytesOf s).length)).take i ++ [UInt8.ofNat (x / 2 ^ e)]) := by
            unfold Hid; rw [Hl.out, Hx.out]; exact HB
          clear HB
          have hbyte : Value.int .u8 ((x : Int) / 2 ^ e % 256) = .int .u8 ((UInt8.ofNat (x / 2 ^ e)).toNat : Int) := by
            have : ((x : Int) / 2 ^ e) = ((x / 2 ^ e : Nat) : Int) := by simp
            rw [this, UInt8.toNat_ofNat']; simp
          have Hbyte : Hid (Value.int .u8 ((x : Int) / 2 ^ e % 256) = .int .u8 ((UInt8.ofNat (x / 2 ^ e)).toNat : Int)) := hbyte
          clear hbyte
          have he2 : e ≤ 56 := by omega
          rw [hei]
          have He : Hid (56 - 8 * i = e) := he
          have Hei : Hid ((56 : Int) - 8 * (i : Int) = (e : Int)) := hei
          clear he hei
          obtain ⟨L, hL⟩ : ∃ L, (head (bytesOf s) (room (bytesOf s).length)) ++ (Ms.be8 (8 * (bytesOf s).length)).take i = L := ⟨_, rfl⟩
          rw [hL] at hh hbl
          have HL : Hid (head (bytesOf s) (room (bytesOf s).length) ++ (Ms.be8 (8 * (bytesOf s).length)).take (i + 1) = L ++ [UInt8.ofNat (x / 2 ^ e)]) := by
            unfold Hid; rw [HB1.out, ← List.append_assoc, hL]
          clear hL HB1
          go_wp2_with (at_builtin; go_loud (refine wpList_append_has rfl _ _ rfl w.heap.size w _ L rfl (hh.alloc _) (hbel.alloc hbs _) (by rw [nblk_alloc]; omega) ⟨wr.heap.size, 0, none⟩ 1 1 [UInt8.ofNat (x / 2 ^ e)] rfl rfl (one_cell _ _ _ Hbyte.out _) (by decide) hbl ?_))
          intro v2 w2 hh2 hb2 hz2
          rw [← HL.out] at hh2
          have HN : Hid (Rel2 (bytesOf s) w.heap.size w v2 (.int .i64 ((e : Int) - 8)) w2) := by
            refine ⟨i + 1, by omega, ?_, hh2, hb2, hz2⟩
            have := Hei.out
            congr 1; omega
          clear hh2 hb2 hz2 hh hbel
          go_wp2
          go_roundw
          case rel => exact HN.out
          case measure =>
            have := Hei.out
            simp [intOf]; omega
        · obtain rfl : i = 8 := by omega
          have HP : Hid (has w.heap.size u3 (Ms.pad (bytesOf s)) wr) := by
            rw [show (Ms.be8 (8 * (bytesOf s).length)).take 8 = Ms.be8 (8 * (bytesOf s).length) from rfl, ← head_pad] at hh
            exact hh
          have HB : Hid (Below w.heap.size w wr) := hbel
          clear hh hbel Hx Hroom
          go_wp2_with fail
          refine (start_spec _).mono ?_
          rintro e w3 ⟨rfl, hw3⟩
          obtain ⟨N, hN⟩ : ∃ N, Ms.blocks s.size = N := ⟨_, rfl⟩
          have hNb : N ≤ 400 := by rw [← hN]; unfold Ms.blocks; omega
          have HD : Hid (Ms.digest (bytesOf s) = Ms.bytes (Ms.states (Ms.pad (bytesOf s)) N)) := by
            unfold Hid Ms.digest; rw [Hl.out, hN]
          have HPL : Hid ((Ms.pad (bytesOf s)).length = 64 * N) := by unfold Hid; rw [Ms.pad_length, Hl.out, hN]
          have HQ : Hid (Rel3 (Ms.pad (bytesOf s)) N w.heap.size w u3 (.slice (some ⟨wr.heap.size, 0, none⟩) 8 8) (.int .i64 0) w3) := by
            rw [hw3]
            exact ⟨0, Nat.zero_le _, rfl, stAt_start wr, HP.out.alloc _, HB.out.alloc hbs _, by rw [nblk_alloc]; omega⟩
          obtain ⟨pb, pcap, rfl⟩ := HP.out.form
          rw [HPL.out]
          rw [HPL.out] at HQ
          clear HP HB hw3 hN
          generalize Ms.pad (bytesOf s) = p at *
          go_wp2_with fail
          go_loopw [6, 7] (fun st i wr => Rel3 p N w.heap.size w (.slice (some ⟨pb, 0, none⟩) (64 * N) pcap) st i wr) (fun _ i _ => 64 * N - (intOf i).toNat)
          case atStart => exact HQ.out
          case round =>
            clear HQ
            obtain ⟨k, hk, rfl, hst, hh, hbel, hbs⟩ := hrel
            have hok := Ms.states_ok p k
            obtain ⟨g, gcap, rfl, hg, hgc⟩ := hst
            by_cases hlt : k < N
            · have HS : Hid (Ms.states p (k + 1) = Ms.blk (Ms.states p k) ((p.drop (64 * k)).take 64)) := rfl
              have hconv := fun c => conv_mid (by rw [HPL.out]; exact hh) k (by have := HPL.out; omega) c
              have hbl : (⟨((p.drop (64 * k)).take 64).toArray⟩ : ByteArray).size = 64 := by
                have := HPL.out
                simp [ByteArray.size]; omega
              have hcall := K7.block_spec (Ms.states p k) g gcap ⟨((p.drop (64 * k)).take 64).toArray⟩ wr hok hbl hg hgc
              have hcap2 : Hid (64 * N ≤ pcap) := by
                obtain ⟨b', cap', h1, _, _, h4, _⟩ := hh
                injection h1 with e1 e2 e3
                rw [← e3] at h4
                have := HPL.out
                unfold Hid; omega
              have hcap3 := hcap2.out
              have Hh : Hid (has w.heap.size (.slice (some ⟨pb, 0, none⟩) (64 * N) pcap) p wr) := hh
              have Hbel : Hid (Below w.heap.size w wr) := hbel
              clear hh hbel hgc hok
              generalize (p.drop (64 * k)).take 64 = blk at *
              generalize Ms.states p k = st at *
              have h64 : 64 * k + 64 - 64 * k = 64 := by omega
              go_wp2_with fail
              refine hcall.mono ?_
              rintro e w4 ⟨v4, rfl, hown, hb4⟩
              have HN : Hid (Rel3 p N w.heap.size w (.slice (some ⟨pb, 0, none⟩) (64 * N) pcap) v4 (.int .i64 ((64 * (k + 1) : Nat) : Int)) w4) := by
                refine ⟨k + 1, hlt, rfl, ?_, Hh.out.below hb4, Hbel.out.trans (hb4.mono hbs), Nat.le_trans hbs hb4.size⟩
                rw [HS.out]
                exact stAt_of_owns hown
              clear hown hb4 hcall hconv
              go_wp2
              go_roundw
              case rel => exact HN.out
              case measure => simp [intOf]; omega
            · obtain rfl : k = N := by omega
              obtain ⟨i0, hi0, hz0, hz1, hz2⟩ := info_parts info_u8
              have Hbel : Hid (Below w.heap.size w wr) := hbel
              have HQ : Hid (K4.Rel (Ms.states p k) wr.heap.size wr (.slice (some ⟨wr.heap.size, 0, none⟩) 0 0) (.int .i64 0) (wr.alloc (.cells #[] 5))) :=
                ⟨0, by omega, rfl, owns_lit0 _ _ (Nat.le_refl _), (Below.refl _ _).alloc (Nat.le_refl _) _, by rw [nblk_alloc]; omega⟩
              clear hh hbel
              generalize Ms.states p k = st at *
              have Hgc : Hid (∀ j, j < 8 → wr.cell? ⟨g, j, none⟩ = some (.int .i64 (st.list.getD j 0 : Nat))) := hgc
              have hgs := hg
              clear hgc
              go_wp2_with fail
              obtain ⟨W0, hW0⟩ : ∃ x : World, x = wr := ⟨_, rfl⟩
              subst hW0
              rw [show ((64 * k : Nat) : Int) = 64 * (k : Int) by simp]
              go_loopw [8, 9] (fun b i wr => K4.Rel st W0.heap.size W0 b i wr) (fun _ i _ => 8 - (intOf i).toNat)
              case atStart => exact HQ.out
              case round =>
                clear HQ
                obtain ⟨k8, hk8, rfl, hown, hbel, hbs8⟩ := hrel
                by_cases hlt8 : k8 < 8
                · have hcell : wr.cell? ⟨g, k8, none⟩ = some (.int .i64 (st.list.getD k8 0 : Nat)) := by rw [hbel.cell (p := ⟨g, k8, none⟩) hgs]; exact Hgc.out k8 hlt8
                  have hlk := K4.list_lt hok k8 hlt8
                  have HT : Hid ((st.list.take (k8 + 1)).flatMap Ms.be4 = (st.list.take k8).flatMap Ms.be4 ++ Ms.be4 (st.list.getD k8 0)) := K4.list_take st k8 hlt8
                  have HLen := K4.list_len st k8 (by omega)
                  generalize st.list.getD k8 0 = num at *
                  generalize (st.list.take k8).flatMap Ms.be4 = pre at *
                  have hk8i : (k8 : Int) < 8 := by omega
                  go_wp2_with (first
                    | (at_builtin; refine wpList_append_own _ rfl _ _ 22 rfl W0.heap.size 5 i0 (.int .u8 0) 1 1 Tryd.underlying22 hi0 hz0 hz1 hz2 rfl (by decide) _ _ _ rfl (hown.alloc _) ⟨wr.heap.size, 0, none⟩ 4 4 [_, _, _, _] rfl rfl (K4.cell_four_new _ _ _ _ _ _) ?c2 ?c3 ?c4 ?c5 ?_))
                  case c2 => intro u hu; simp at hu; rcases hu with rfl | rfl | rfl | rfl <;> rfl
                  case c3 => unfold maxLen; omega
                  case c4 => omega
                  case c5 => simp; omega
                  intro v' w2 hown' hgrow _
                  have HO : Hid (owns W0.heap.size v' (pre ++ Ms.be4 num) w2) := K4.owns_four hlk HLen hown'
                  have HW : Hid (Below W0.heap.size W0 w2) := (hbel.alloc hbs8 _).grown hgrow (by rw [nblk_alloc]; omega) (fun k hk => (hown.lt k hk).1)
                  have HZ : Hid (W0.heap.size ≤ w2.heap.size) := by have := hgrow.size; rw [nblk_alloc] at this; unfold Hid; omega
                  clear hown' hgrow hown hbel hbs8 hcell
                  go_wp2
                  go_roundw
                  case rel => exact ⟨k8 + 1, by omega, by go_num, by rw [HT.out]; exact HO.out, HW.out, HZ.out⟩
                  case measure => simp [intOf]; omega
                · obtain rfl : k8 = 8 := by omega
                  have hconv := conv_own hown
                  have HE : Hid ((st.list.take 8).flatMap Ms.be4 = Ms.bytes st) := rfl
                  generalize (st.list.take 8).flatMap Ms.be4 = res at *
                  have HW : Hid (Below w.heap.size w wr) := Hbel.out.trans (hbel.mono hbs)
                  clear hown hbel hbs8
                  go_wp2
                  go_ret
                  exact ⟨ret_str (by rw [HD.out]; exact HE.out), HW.out⟩
    · have h56 : (((head (bytesOf s) z).length : Int) % 64 != 56) = true := by
        have := mt htest.1 hzr
        simp; omega
      have hle : (head (bytesOf s) z).length + 1 ≤ 100000 := by omega
      have Hz : Hid (z + 1 ≤ room s.size) := by unfold Hid; omega
      clear htest hzr hz
      go_wp2_with (at_builtin; go_loud (refine wpList_append_has rfl _ _ rfl w.heap.size w _ (head (bytesOf s) z) rfl (hh.alloc _) (hbel.alloc hbs _) (by rw [nblk_alloc]; omega) ⟨wr.heap.size, 0, none⟩ 1 1 [0] rfl rfl (one_cell _ 0 _ rfl _) (by decide) hle ?_))
      intro v2 w2 hh2 hb2 hz2
      rw [head_snoc] at hh2
      have HN : Hid (Rel1 (bytesOf s) w.heap.size w v2 w2) := ⟨z + 1, by rw [Hl.out]; exact Hz.out, hh2, hb2, hz2⟩
      have hlv : lenV v2 = s.size + 1 + (z + 1) := by
        obtain ⟨b2, cap2, rfl⟩ := hh2.form
        show (head (bytesOf s) (z + 1)).length = _
        rw [head_length, Hl.out]
      have Hlv : Hid (lenV v2 = s.size + 1 + (z + 1)) := hlv
      have Hlen : Hid ((head (bytesOf s) z).length = s.size + 1 + z) := hlen
      clear hh2 hb2 hz2 hlv hh hbel hlen
      go_wp2
      go_roundw
      case rel => exact HN.out
      case measure =>
        show s.size + 200 - lenV v2 < s.size + 200 - (head (bytesOf s) z).length
        have h1 := Hz.out
        have h2 := hrm.out
        rw [Hlv.out, Hlen.out]; omega
end Go.Proofs.YtkpjdmmgdmbmnaaDoor.K8

/-
  Digest, in the program.
-/
namespace Go.Proofs.YtkpjdmmgdmbmnaaDoor.KD
open Go.RowKit
open Go.Proofs.YtkpjdmmgdmbmnaaDoor.C0
open Go.Proofs.YtkpjdmmgdmbmnaaDoor.K2 (Laid)
open Go.Proofs.YtkpjdmmgdmbmnaaDoor.K3 (bytesOf)

/-- What Digest answers. -/
def digestB (s : ByteArray) : List UInt8 := if 8000 < s.size then [] else Ms.digest (bytesOf s)

set_option maxRecDepth 100000 in
theorem digest_impl (s : ByteArray) (w : World) (hs : s.size ≤ maxLen) (hL : Laid w) :
    Calls Tryd.prog 52 #[.string s] w fun e w' => e = .returned (.string ⟨(digestB s).toArray⟩) ∧ Below w.heap.size w w' := by
  unfold maxLen at hs
  by_cases h : 8000 < s.size
  · rw [show digestB s = [] by simp [digestB, h]]
    go_enter Tryd.func52, Tryd.ntmps52
    go_wp2
    go_ret
    exact ⟨rfl, Below.refl _ _⟩
  · rw [show digestB s = Ms.digest (bytesOf s) by simp [digestB, h]]
    go_enter Tryd.func52, Tryd.ntmps52
    go_wp2_with fail
    refine (K5.digest_impl s _ (by omega) hL).mono ?_
    rintro e w1 ⟨rfl, hb1⟩
    go_wp2
    go_ret
    exact ⟨rfl, hb1⟩

end Go.Proofs.YtkpjdmmgdmbmnaaDoor.KD
