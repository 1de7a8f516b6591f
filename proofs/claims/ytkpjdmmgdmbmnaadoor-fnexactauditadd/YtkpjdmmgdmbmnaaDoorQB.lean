/-
  C0 C1 C2 C3 C4: parts of the proof, one behind the other.
-/
import Derived.Test.YtkpjdmmgdmbmnaaDoorChecked
import Derived.Test.YtkpjdmmgdmbmnaaDoorQA
import Derived.WalkKit
import Derived.WalkSpells
import Derived.WalkLawsBesides
import Derived.Laws.IdiomStrings
import Derived.Laws.BytesArg
import Derived.Lib.BufferWrite
import Derived.Deep.OwnRows
import Derived.Laws.CopyOwn
/-
  Small facts that the walks of this seat share: rows of bytes that the call itself makes, and the text that is made of such a row.
-/
namespace Go.Proofs.YtkpjdmmgdmbmnaaDoor.C0
open Go.RowKit
theorem ret_int {k : IntKind} {a b : Int} (h : a = b) : Ending.returned (.int k a) = .returned (.int k b) := by rw [h]
theorem ret_str {a b : List UInt8} (h : a = b) : Ending.returned (.string ⟨a.toArray⟩) = .returned (.string ⟨b.toArray⟩) := by rw [h]
theorem info_u8 : (Tryd.prog.info? 5).map (fun i => (i.zero, i.size, i.bytes)) = some (some (.int .u8 0), 1, 1) := by kernel_rfl

/-- A row of bytes of the call's own. -/
def owns (base : Nat) (v : Value) (l : List UInt8) (w : World) : Prop := w.ownsRow base 5 1 v l.length ((Mb.cells l).map (Value.int .u8))

theorem owns_nil (base : Nat) (w : World) : owns base (.slice none 0 0) [] w := World.ownsRow_nil _ _ _ _
theorem owns_lit0 (base : Nat) (w : World) (hb : base ≤ w.heap.size) : owns base (.slice (some ⟨w.heap.size, 0, none⟩) 0 0) [] (w.alloc (.cells #[] 5)) :=
  World.ownsRow_lit w #[] 0 hb (by decide) rfl

theorem cell_of (l : List UInt8) (j : Nat) (hj : j < l.length) : ((Mb.cells l).map (Value.int .u8))[j]? = some (.int .u8 (l[j].toNat : Int)) := by
  simp [Mb.cells, hj]

/-- string(b), b a row of the call's own. -/
theorem conv_own {base : Nat} {v : Value} {l : List UInt8} {w : World} (h : owns base v l w) :
    (convert 22 9 v).run Tryd.prog w = .ok (.string ⟨l.toArray⟩) w := by
  rcases h.2 with ⟨rfl, h0⟩ | ⟨g, cap, cur, rfl, hb, hg, hnc, hcm, hcs, htake⟩
  · rw [run_convert_bytes_nil (w := w) 22 5 Tryd.underlying22 Tryd.underlying5 0 0 9 Tryd.underlying9]
    rw [List.length_eq_zero_iff.1 h0]; rfl
  · refine run_convert_bytes_back w 22 9 5 _ cap l Tryd.underlying22 Tryd.underlying5 Tryd.underlying9 ?_
    intro j hj
    exact World.ownsRow.cells h rfl j _ (cell_of l j hj)

/-- append(b, c): one byte more. -/
theorem owns_snoc {base : Nat} {v : Value} {l : List UInt8} {w : World} (c : UInt8)
    (h : w.ownsRow base 5 1 v (l.length + 1) ((Mb.cells l).map (Value.int .u8) ++ [.int .u8 (c.toNat : Int)])) : owns base v (l ++ [c]) w := by
  unfold owns; simpa [Mb.cells] using h
/-- Behind a call that only makes memory: all old cells, all old marks read as before. -/
theorem bcell {W w1 : World} (hb : Below W.heap.size W w1) : (∀ b o, b < W.heap.size → w1.cell? ⟨b, o, none⟩ = W.cell? ⟨b, o, none⟩) ∧ (∀ b o, b < W.heap.size → w1.frozen? ⟨b, o, none⟩ = W.frozen? ⟨b, o, none⟩) :=
  ⟨fun b o h => hb.cell (p := ⟨b, o, none⟩) h, fun b o h => hb.frozen (p := ⟨b, o, none⟩) h⟩
/-- A result of three cells that lies in the call's first block: it reads on behind whatever only makes memory. -/
theorem kept3 {w w2 : World} {a b c : Value} {T : TypeId} (hb : Below (w.heap.size + 1) (w.alloc (.cells #[a, b, c] T)) w2) :
    w2.cell? ⟨w.heap.size, 0, none⟩ = some a ∧ w2.cell? ⟨w.heap.size, 1, none⟩ = some b ∧ w2.cell? ⟨w.heap.size, 2, none⟩ = some c ∧ (∀ o, w2.frozen? ⟨w.heap.size, o, none⟩ = false) ∧ w.heap.size < w2.heap.size := by
  refine ⟨?_, ?_, ?_, fun o => ?_, ?_⟩
  · rw [hb.cell (p := ⟨w.heap.size, 0, none⟩) (Nat.lt_succ_self _)]; simp [go_sem]
  · rw [hb.cell (p := ⟨w.heap.size, 1, none⟩) (Nat.lt_succ_self _)]; simp [go_sem]
  · rw [hb.cell (p := ⟨w.heap.size, 2, none⟩) (Nat.lt_succ_self _)]; simp [go_sem]
  · rw [hb.frozen (p := ⟨w.heap.size, o, none⟩) (Nat.lt_succ_self _)]; simp [go_sem]
  · have := hb.size; simp at this; omega
theorem ret_val {a b : Value} (h : a = b) : Ending.returned a = .returned b := by rw [h]
end Go.Proofs.YtkpjdmmgdmbmnaaDoor.C0

/-
  What the functions that write a number in bytes answer, in the specification and in the program: the bytes of seven bits, lowest first.
-/
namespace Go.Proofs.YtkpjdmmgdmbmnaaDoor.C1
open Go.RowKit
open Go.Proofs.YtkpjdmmgdmbmnaaDoor.C0

theorem fold_spec (n : Int) (w : World) (h1 : -9223372036854775808 ≤ n) (h2 : n ≤ 9223372036854775807) :
    Calls Tryd.prog 96 #[.int .i64 n] w fun e w' => e = .returned (.int .u64 (Mb.foldU n : Nat)) ∧ w = w' := by
  by_cases h : n < 0
  all_goals
    go_enter Tryd.func96, Tryd.ntmps96
    go_wp2
    go_ret
  · exact ⟨ret_int (Mb.foldU_neg n h).symm, rfl⟩
  · exact ⟨ret_int (Mb.foldU_pos n (by omega)).symm, rfl⟩
theorem fold_impl (n : Int) (w : World) (h1 : -9223372036854775808 ≤ n) (h2 : n ≤ 9223372036854775807) :
    Calls Tryd.prog 83 #[.int .i64 n] w fun e w' => e = .returned (.int .u64 (Mb.foldU n : Nat)) ∧ w = w' := by
  by_cases h : n < 0
  all_goals
    go_enter Tryd.func83, Tryd.ntmps83
    go_wp2
    go_ret
  · exact ⟨ret_int (Mb.foldU_neg n h).symm, rfl⟩
  · exact ⟨ret_int (Mb.foldU_pos n (by omega)).symm, rfl⟩
/-- What holds at the head of a round: the bytes made so far, and what is left of the number. -/
def Rel (u : Nat) (base : Nat) (w0 : World) (x : Value) (b : Value) (w : World) : Prop :=
  ∃ (f : Nat) (pre : List UInt8) (v : Nat), pre.length + f = 9 ∧ v < 2 * 128 ^ f ∧ Mb.leb 9 u = pre ++ Mb.leb f v ∧ x = .int .u64 (v : Nat) ∧ owns base b pre w ∧ Below base w0 w ∧ base ≤ w.heap.size

theorem byte_more (v : Nat) : (v : Int) % 128 + 128 = ((UInt8.ofNat (v % 128 + 128)).toNat : Int) := by
  simp [UInt8.toNat_ofNat']; omega
theorem byte_last (v : Nat) (h : v < 128) : (v : Int) = ((UInt8.ofNat v).toNat : Int) := by
  simp [UInt8.toNat_ofNat']; omega

/-- One round more. -/
theorem Rel.step {u base : Nat} {w0 w w1 : World} {b b' : Value} {f v : Nat} {pre : List UInt8} (hf : pre.length + f = 9) (hv : v < 2 * 128 ^ f)
    (hl : Mb.leb 9 u = pre ++ Mb.leb f v) (h128 : 128 ≤ v) (c : UInt8) (hc : c = UInt8.ofNat (v % 128 + 128)) (o : Obj) (hown : owns base b pre w) (hbel : Below base w0 w) (hbs : base ≤ w.heap.size)
    (h1 : w1.ownsRow base 5 1 b' (pre.length + 1) ((Mb.cells pre).map (Value.int .u8) ++ [.int .u8 (c.toNat : Int)])) (hg : (w.alloc o).grownBy w1 b.ownBlock) :
    Rel u base w0 (.int .u64 ((v / 128 : Nat) : Int)) b' w1 := by
  obtain ⟨g, rfl⟩ : ∃ g, f = g + 1 := by
    cases f with
    | zero => exact absurd (Mb.pow_zero_lt v hv) (by omega)
    | succ g => exact ⟨g, rfl⟩
  subst hc
  refine ⟨g, pre ++ [UInt8.ofNat (v % 128 + 128)], v / 128, by simp; omega, Mb.pow_step g v hv, by rw [hl, Mb.leb_great g v h128]; simp, rfl, owns_snoc _ h1, ?_, ?_⟩
  · exact (hbel.alloc hbs o).grown hg (by simp; omega) (fun k hk => (hown.lt k hk).1)
  · have := hg.size; simp at this; omega

theorem last_text {u f v : Nat} {pre : List UInt8} (hl : Mb.leb 9 u = pre ++ Mb.leb f v) (h : v < 128) : Mb.leb 9 u = pre ++ [UInt8.ofNat v] := by
  rw [hl, Mb.leb_small f v h]

set_option maxHeartbeats 800000 in
set_option maxRecDepth 100000 in
theorem put_spec (n : Int) (w : World) (h1 : -9223372036854775808 ≤ n) (h2 : n ≤ 9223372036854775807) :
    Calls Tryd.prog 84 #[.int .i64 n] w fun e w' => e = .returned (.string ⟨(Mb.putNum n).toArray⟩) ∧ Below w.heap.size w w' := by
  have hlt := Mb.foldU_lt n h1 h2
  obtain ⟨i0, hi, hz0, hz1, hz2⟩ := info_parts info_u8
  go_enter Tryd.func84, Tryd.ntmps84
  go_wp2_with fail
  refine (fold_spec n _ h1 h2).mono ?_
  rintro e w' ⟨rfl, rfl⟩
  go_wp2_with fail
  go_loopw [3, 4] (fun x b wr => Rel (Mb.foldU n) w.heap.size w x b wr) (fun x _ _ => (intOf x).toNat)
  case atStart => exact ⟨9, [], Mb.foldU n, rfl, hlt, rfl, rfl, owns_lit0 _ _ (Nat.le_refl _), (Below.refl _ _).alloc (Nat.le_refl _) _, by simp⟩
  case round =>
    obtain ⟨f, pre, v, hf, hv, hl, rfl, hown, hbel, hbs⟩ := hrel
    have hvb := Mb.bound_lt f v (by omega) hv
    have HL : Hid (Mb.leb 9 (Mb.foldU n) = pre ++ Mb.leb f v) := hl
    clear hl
    by_cases h128 : 128 ≤ v
    · go_wp2_with (first
        | (at_builtin; refine wpList_append_own _ rfl _ _ 22 rfl w.heap.size 5 i0 (.int .u8 0) 1 1 Tryd.underlying22 hi hz0 hz1 hz2 rfl (by decide) _ _ _ rfl (hown.alloc _) ⟨wr.heap.size, 0, none⟩ 1 1 [_] rfl rfl (cell_one_new _ _ _) ?c2 ?c3 ?c4 ?c5 ?_))
      case c2 => intro u hu; simp at hu; subst hu; rfl
      case c3 => unfold maxLen; omega
      case c4 => omega
      case c5 => simp; omega
      intro v' w1 hown' hgrow _
      go_wp2
      go_roundw
      case rel =>
        refine Rel.step hf hv HL.out h128 _ rfl _ hown hbel hbs ?_ hgrow
        rw [← byte_more]; exact hown'
      case measure => simp [intOf]; omega
    · have hfin : Hid (Mb.leb 9 (Mb.foldU n) = pre ++ [UInt8.ofNat v]) := last_text HL.out (by omega)
      go_wp2_with (first
        | (at_builtin; refine wpList_append_own _ rfl _ _ 22 rfl w.heap.size 5 i0 (.int .u8 0) 1 1 Tryd.underlying22 hi hz0 hz1 hz2 rfl (by decide) _ _ _ rfl (hown.alloc _) ⟨wr.heap.size, 0, none⟩ 1 1 [_] rfl rfl (cell_one_new _ _ _) ?c2 ?c3 ?c4 ?c5 ?_))
      case c2 => intro u hu; simp at hu; subst hu; rfl
      case c3 => unfold maxLen; omega
      case c4 => omega
      case c5 => simp; omega
      intro v' w1 hown' hgrow _
      have ho2 : owns w.heap.size v' (pre ++ [UInt8.ofNat v]) w1 := owns_snoc _ (by rw [← byte_last v (by omega)]; exact hown')
      have hconv := conv_own ho2
      have hb1 : Below w.heap.size w w1 := (hbel.alloc hbs _).grown hgrow (by simp; omega) (fun k hk => (hown.lt k hk).1)
      clear hown' hgrow ho2
      go_wp2
      go_ret
      exact ⟨ret_str hfin.out.symm, hb1⟩
set_option maxHeartbeats 800000 in
set_option maxRecDepth 100000 in
theorem put_impl (n : Int) (w : World) (h1 : -9223372036854775808 ≤ n) (h2 : n ≤ 9223372036854775807) :
    Calls Tryd.prog 48 #[.int .i64 n] w fun e w' => e = .returned (.string ⟨(Mb.putNum n).toArray⟩) ∧ Below w.heap.size w w' := by
  have hlt := Mb.foldU_lt n h1 h2
  obtain ⟨i0, hi, hz0, hz1, hz2⟩ := info_parts info_u8
  go_enter Tryd.func48, Tryd.ntmps48
  go_wp2_with fail
  refine (fold_impl n _ h1 h2).mono ?_
  rintro e w' ⟨rfl, rfl⟩
  go_wp2_with fail
  go_loopw [3, 4] (fun b x wr => Rel (Mb.foldU n) w.heap.size w x b wr) (fun _ x _ => (intOf x).toNat)
  case atStart => exact ⟨9, [], Mb.foldU n, rfl, hlt, rfl, rfl, owns_nil _ _, Below.refl _ _, Nat.le_refl _⟩
  case round =>
    obtain ⟨f, pre, v, hf, hv, hl, rfl, hown, hbel, hbs⟩ := hrel
    have hvb := Mb.bound_lt f v (by omega) hv
    have HL : Hid (Mb.leb 9 (Mb.foldU n) = pre ++ Mb.leb f v) := hl
    clear hl
    by_cases h128 : 128 ≤ v
    · go_wp2_with (first
        | (at_builtin; refine wpList_append_own _ rfl _ _ 22 rfl w.heap.size 5 i0 (.int .u8 0) 1 1 Tryd.underlying22 hi hz0 hz1 hz2 rfl (by decide) _ _ _ rfl (hown.alloc _) ⟨wr.heap.size, 0, none⟩ 1 1 [_] rfl rfl (cell_one_new _ _ _) ?c2 ?c3 ?c4 ?c5 ?_))
      case c2 => intro u hu; simp at hu; subst hu; rfl
      case c3 => unfold maxLen; omega
      case c4 => omega
      case c5 => simp; omega
      intro v' w1 hown' hgrow _
      go_wp2
      go_roundw
      case rel =>
        refine Rel.step hf hv HL.out h128 _ rfl _ hown hbel hbs ?_ hgrow
        rw [← byte_more]; exact hown'
      case measure => simp [intOf]; omega
    · have hfin : Hid (Mb.leb 9 (Mb.foldU n) = pre ++ [UInt8.ofNat v]) := last_text HL.out (by omega)
      go_wp2_with (first
        | (at_builtin; refine wpList_append_own _ rfl _ _ 22 rfl w.heap.size 5 i0 (.int .u8 0) 1 1 Tryd.underlying22 hi hz0 hz1 hz2 rfl (by decide) _ _ _ rfl (hown.alloc _) ⟨wr.heap.size, 0, none⟩ 1 1 [_] rfl rfl (cell_one_new _ _ _) ?c2 ?c3 ?c4 ?c5 ?_))
      case c2 => intro u hu; simp at hu; subst hu; rfl
      case c3 => unfold maxLen; omega
      case c4 => omega
      case c5 => simp; omega
      intro v' w1 hown' hgrow _
      have ho2 : owns w.heap.size v' (pre ++ [UInt8.ofNat v]) w1 := owns_snoc _ (by rw [← byte_last v (by omega)]; exact hown')
      have hconv := conv_own ho2
      have hb1 : Below w.heap.size w w1 := (hbel.alloc hbs _).grown hgrow (by simp; omega) (fun k hk => (hown.lt k hk).1)
      clear hown' hgrow ho2
      go_wp2
      go_ret
      exact ⟨ret_str hfin.out.symm, hb1⟩
end Go.Proofs.YtkpjdmmgdmbmnaaDoor.C1

/-
  What the program's function that joins texts answers: the texts one behind the other.
-/
namespace Go.Proofs.YtkpjdmmgdmbmnaaDoor.C2
open Go.RowKit
open Go.Proofs.YtkpjdmmgdmbmnaaDoor.C0
open Go.Lib (run_copy_row_string run_copy_empty_string)

/-- The texts one behind the other. -/
def cat : List ByteArray → List UInt8
  | [] => []
  | s :: r => s.data.toList ++ cat r
def total : List ByteArray → Nat
  | [] => 0
  | s :: r => s.size + total r
theorem cat_length : ∀ ss : List ByteArray, (cat ss).length = total ss
  | [] => rfl
  | s :: r => by simp only [cat, total, List.length_append, cat_length r]; rfl
theorem total_take_le : ∀ (ss : List ByteArray) (k : Nat), total (ss.take k) ≤ total ss
  | [], k => by simp [total]
  | s :: r, 0 => by simp [total]
  | s :: r, k + 1 => by have := total_take_le r k; simp only [List.take_succ_cons, total]; omega
theorem total_take_succ : ∀ (ss : List ByteArray) (k : Nat) (h : k < ss.length), total (ss.take (k + 1)) = total (ss.take k) + ss[k].size
  | s :: r, 0, h => by simp [total]
  | s :: r, k + 1, h => by
    have := total_take_succ r k (by simpa using h)
    simp only [List.take_succ_cons, total, List.getElem_cons_succ]; omega
theorem cat_take_succ : ∀ (ss : List ByteArray) (k : Nat) (h : k < ss.length), cat (ss.take (k + 1)) = cat (ss.take k) ++ ss[k].data.toList
  | s :: r, 0, h => by simp [cat]
  | s :: r, k + 1, h => by
    have := cat_take_succ r k (by simpa using h)
    simp only [List.take_succ_cons, cat, List.getElem_cons_succ, this, List.append_assoc]

/-- What holds at the head of a round that copies: the first texts lie in the row. -/
def Rel (ss : List ByteArray) (g : Nat) (w0 : World) (at_ i : Value) (w : World) : Prop :=
  ∃ (k : Nat) (cur : List Value), k ≤ ss.length ∧ i = .int .i64 k ∧ at_ = .int .i64 (total (ss.take k) : Nat) ∧ w.heap[g]? = some (.cells cur.toArray 5 (0, 0)) ∧ cur.length = total ss ∧
    cur.take (total (ss.take k)) = Lib.byteCells (cat (ss.take k)) ∧ Below g w0 w

theorem Rel.step {ss : List ByteArray} {g k : Nat} {w0 w : World} {cur : List Value} (hlt : k < ss.length) (hg : w.heap[g]? = some (.cells cur.toArray 5 (0, 0))) (hcl : cur.length = total ss)
    (hct : cur.take (total (ss.take k)) = Lib.byteCells (cat (ss.take k))) (hbel : Below g w0 w) :
    Rel ss g w0 (.int .i64 ((total (ss.take k) : Nat) + (ss[k].size : Nat))) (.int .i64 ((k + 1 : Nat) : Int)) (w.setRow g (cur.toArray.toList.take (total (ss.take k)) ++ Lib.byteCells ss[k].data.toList ++ cur.toArray.toList.drop (total (ss.take k) + ss[k].size)).toArray) ∧
    (ss[k].size = 0 → Rel ss g w0 (.int .i64 (total (ss.take k) : Nat)) (.int .i64 ((k + 1 : Nat) : Int)) w) := by
  have ht := total_take_succ ss k hlt
  have hle := total_take_le ss (k + 1)
  have hbl : (Lib.byteCells ss[k].data.toList).length = ss[k].size := by rw [Lib.byteCells_length]; rfl
  constructor
  · refine ⟨k + 1, _, hlt, rfl, by rw [ht]; simp, setRow_heap w g _ _ _ _ hg, ?_, ?_, below_setRow hbel (Nat.le_refl _) _⟩
    · simp [hbl]; omega
    · rw [ht, cat_take_succ ss k hlt, Lib.byteCells_append, ← hct]
      exact List.take_left' (by simp only [List.length_append, List.length_take, hbl]; omega)
  · intro h0
    have e : total (ss.take (k + 1)) = total (ss.take k) := by omega
    refine ⟨k + 1, cur, hlt, rfl, by rw [e], hg, hcl, ?_, hbel⟩
    have e2 : ss[k].data.toList = [] := by
      apply List.eq_nil_of_length_eq_zero; exact h0
    rw [e, cat_take_succ ss k hlt, e2, List.append_nil, hct]

set_option maxHeartbeats 800000 in
set_option maxRecDepth 100000 in
theorem joined_any (b off n cap : Nat) (ss : List ByteArray) (w : World) (hn : n = ss.length) (hb : b < w.heap.size) (hnm : n ≤ 1000) (ht : total ss ≤ 1000000)
    (hc : ∀ j, j < n → w.cell? ⟨b, off + j, none⟩ = some (.string (ss.getD j ByteArray.empty))) :
    Calls Tryd.prog 50 #[.slice (some ⟨b, off, none⟩) n cap] w fun e w' => e = .returned (.string ⟨(cat ss).toArray⟩) ∧ Below w.heap.size w w' := by
  subst hn
  go_enter Tryd.func50, Tryd.ntmps50
  go_wp2_with fail
  go_loop [3, 12] (fun s i => ∃ k : Nat, k ≤ ss.length ∧ i = .int .i64 k ∧ s = .int .i64 (total (ss.take k) : Nat)) (fun _ i => ss.length - (intOf i).toNat)
  case atStart => exact ⟨0, Nat.zero_le _, rfl, rfl⟩
  case round =>
    obtain ⟨k, hk, rfl, rfl⟩ := hrel
    have htk := total_take_le ss k
    by_cases hlt : k < ss.length
    · have hkl := hlt
      have hcell : w.cell? ⟨b, off + k, none⟩ = some (.string ss[k]) := by rw [hc k hlt]; simp [List.getD, hkl]
      have HT : Hid (total (ss.take (k + 1)) = total (ss.take k) + ss[k].size) := total_take_succ ss k hkl
      have hsz := total_take_le ss (k + 1)
      rw [HT.out] at hsz
      go_wp2
      go_round
      case rel => exact ⟨k + 1, by omega, by go_num, by rw [HT.out]; go_num⟩
      case measure => simp [intOf]; omega
    · obtain rfl : k = ss.length := by omega
      have htt : ss.take ss.length = ss := List.take_length
      have hmk := run_make_row' (P := Tryd.prog) 22 5 (.int .u8 0) 1 Tryd.underlying22 info_u8 rfl .i64 .i64 (total ss) (by omega) (by omega)
      go_wp2
      go_loopw [7, 25] (fun a i wr => Rel ss w.heap.size w a i wr) (fun _ i _ => ss.length - (intOf i).toNat)
      case atStart =>
        refine ⟨0, List.replicate (total ss) (.int .u8 0), Nat.zero_le _, rfl, rfl, ?_, by simp, by simp [total, cat, Lib.byteCells], (Below.refl _ _).alloc (Nat.le_refl _) _⟩
        have : madeCells #[.int .u8 0] (total ss) = (List.replicate (total ss) (.int .u8 0)).toArray := by
          rw [← toList_madeCells_one]
        rw [heap_alloc_new, this]
      case round =>
        obtain ⟨k, cur, hk, rfl, rfl, hg, hcl, hct, hbel⟩ := hrel
        have htk := total_take_le ss k
        by_cases hlt : k < ss.length
        · have hcell : wr.cell? ⟨b, off + k, none⟩ = some (.string ss[k]) := by rw [hbel.cell (by exact hb), hc k (by omega)]; simp [List.getD, hlt]
          have HT : Hid (total (ss.take (k + 1)) = total (ss.take k) + ss[k].size) := total_take_succ ss k hlt
          have hsz := total_take_le ss (k + 1)
          rw [HT.out] at hsz
          have hu8 : (Tryd.prog.info? 5).map (·.size) = some 1 := by kernel_rfl
          have hcp := run_copy_row_string (P := Tryd.prog) wr 22 9 3 5 w.heap.size (total (ss.take k)) (total ss - total (ss.take k)) (total ss - total (ss.take k)) ss[k] cur.toArray 5 Tryd.underlying22 hu8 hg (by omega) (by simp; omega)
          have hnew := Rel.step (w0 := w) hlt hg hcl hct hbel
          by_cases he : total ss = total (ss.take k)
          · have h0 : ss[k].size = 0 := by omega
            have hc0 := run_copy_empty_string (P := Tryd.prog) wr 22 9 3 5 (some ⟨w.heap.size, 0, none⟩) 0 0 ss[k] Tryd.underlying22 (by rw [hu8]; rfl) h0
            have HN : Hid (Rel ss w.heap.size w (.int .i64 (total (ss.take k) : Nat)) (.int .i64 ((k + 1 : Nat) : Int)) wr) := hnew.2 h0
            clear hnew hcp hg hcl hct HT h0
            go_wp2
            go_roundw
            case rel => exact HN.out
            case measure => simp [intOf]; omega
          · have HN : Hid (Rel ss w.heap.size w (.int .i64 ((total (ss.take k) : Nat) + (ss[k].size : Nat))) (.int .i64 ((k + 1 : Nat) : Int)) (wr.setRow w.heap.size (cur.toArray.toList.take (total (ss.take k)) ++ Lib.byteCells ss[k].data.toList ++ cur.toArray.toList.drop (total (ss.take k) + ss[k].size)).toArray)) := hnew.1
            clear hnew hg hcl hct HT
            go_wp2
            go_roundw
            case rel => simpa using HN.out
            case measure => simp [intOf]; omega
        · have hkk : k = ss.length := by omega
          subst hkk
          rw [htt] at hct
          have hown : owns w.heap.size (.slice (some ⟨w.heap.size, 0, none⟩) (total ss) (total ss)) (cat ss) wr := by
            unfold owns
            rw [cat_length]
            refine ⟨by simp [Mb.cells, cat_length], .inr ⟨_, total ss, cur.toArray, rfl, Nat.le_refl _, hg, Nat.le_refl _, by unfold maxLen; omega, by simp [hcl], ?_⟩⟩
            rw [Nat.mul_one, List.toList_toArray, hct]
            simp [Lib.byteCells, Mb.cells]
          have hconv := conv_own hown
          clear hct hg hown hcl
          go_wp2
          go_ret
          exact ⟨rfl, hbel⟩
end Go.Proofs.YtkpjdmmgdmbmnaaDoor.C2

/-
  What PutText answers, in the specification and in the program: nothing of a text that is too long; else its length as a number, and it.
-/
namespace Go.Proofs.YtkpjdmmgdmbmnaaDoor.C3
open Go.RowKit
open Go.Proofs.YtkpjdmmgdmbmnaaDoor.C0

def putText (s : ByteArray) : List UInt8 := if 8000 < s.size then [] else Mb.putNum s.size ++ s.data.toList

theorem join_text (a : List UInt8) (s : ByteArray) : (⟨a.toArray⟩ : ByteArray) ++ s = ⟨(a ++ s.data.toList).toArray⟩ := by
  apply ByteArray.ext
  simp [ByteArray.data_append]
theorem size_mk (l : List UInt8) : (⟨l.toArray⟩ : ByteArray).size = l.length := by simp [ByteArray.size]
theorem putNum_len (n : Int) : (Mb.putNum n).length ≤ 10 := (Mb.leb_len 9 _).2

set_option maxRecDepth 100000 in
theorem put_spec (s : ByteArray) (w : World) (hs : s.size ≤ maxLen) :
    Calls Tryd.prog 85 #[.string s] w fun e w' => e = .returned (.string ⟨(putText s).toArray⟩) ∧ Below w.heap.size w w' := by
  unfold maxLen at hs
  by_cases h : 8000 < s.size
  · have hp : putText s = [] := by simp [putText, h]
    rw [hp]
    go_enter Tryd.func85, Tryd.ntmps85
    go_wp2
    go_ret
    exact ⟨rfl, Below.refl _ _⟩
  · have HP : Hid (putText s = Mb.putNum s.size ++ s.data.toList) := by simp [Hid, putText, h]
    go_enter Tryd.func85, Tryd.ntmps85
    go_wp2_with fail
    refine (C1.put_spec (s.size : Int) _ (by omega) (by omega)).mono ?_
    rintro e w1 ⟨rfl, hb1⟩
    have hl := putNum_len s.size
    have hcc : (⟨(Mb.putNum s.size).toArray⟩ : ByteArray).size + s.size ≤ 9223372036854775807 := by rw [size_mk]; omega
    go_wp2
    go_ret
    exact ⟨by rw [HP.out, ← join_text]; rfl, hb1⟩
set_option maxRecDepth 100000 in
theorem put_impl (s : ByteArray) (w : World) (hs : s.size ≤ maxLen) :
    Calls Tryd.prog 49 #[.string s] w fun e w' => e = .returned (.string ⟨(putText s).toArray⟩) ∧ Below w.heap.size w w' := by
  unfold maxLen at hs
  by_cases h : 8000 < s.size
  · have hp : putText s = [] := by simp [putText, h]
    rw [hp]
    go_enter Tryd.func49, Tryd.ntmps49
    go_wp2
    go_ret
    exact ⟨rfl, Below.refl _ _⟩
  · have HP : Hid (putText s = Mb.putNum s.size ++ s.data.toList) := by simp [Hid, putText, h]
    have hl := putNum_len s.size
    go_enter Tryd.func49, Tryd.ntmps49
    go_wp2_with fail
    refine (C1.put_impl (s.size : Int) _ (by omega) (by omega)).mono ?_
    rintro e w1 ⟨rfl, hb1⟩
    go_wp2_with fail
    refine (C2.joined_any w1.heap.size 0 2 2 [⟨(Mb.putNum s.size).toArray⟩, s] _ rfl (by simp) (by omega) ?_ ?_).mono ?_
    · show (⟨(Mb.putNum s.size).toArray⟩ : ByteArray).size + (s.size + 0) ≤ 1000000
      rw [size_mk]; omega
    · intro j hj
      match j, hj with
      | 0, _ => go_simp
      | 1, _ => go_simp
    rintro e w2 ⟨rfl, hb2⟩
    go_wp2
    go_ret
    refine ⟨?_, ((hb1.alloc hb1.size _).trans (hb2.mono ?_))⟩
    · rw [HP.out]; simp [C2.cat]
    · have := hb1.size; simp; omega
end Go.Proofs.YtkpjdmmgdmbmnaaDoor.C3

/-
  What NameRight answers, in the specification and in the program: whether the text is a name.
-/
namespace Go.Proofs.YtkpjdmmgdmbmnaaDoor.C4
open Go.RowKit
open Go.Proofs.YtkpjdmmgdmbmnaaDoor.C0

/-- The byte c may stand at place k of a name. -/
def Ok (c : Int) (k : Nat) : Prop := (97 ≤ c ∧ c ≤ 122) ∨ (k ≠ 0 ∧ ((48 ≤ c ∧ c ≤ 57) ∨ c = 95))
def okB (c : Int) (k : Nat) : Bool := (decide (97 ≤ c) && decide (c ≤ 122)) || (k != 0 && ((decide (48 ≤ c) && decide (c ≤ 57)) || c == 95))
theorem okB_iff (c : Int) (k : Nat) : okB c k = true ↔ Ok c k := by simp [okB, Ok]
def byteAt (s : ByteArray) (j : Nat) : Int := if h : j < s.size then (s[j].toNat : Int) else 0
/-- The text is a name. -/
def Name (s : ByteArray) : Prop := 1 ≤ s.size ∧ s.size ≤ 20 ∧ ∀ (j : Nat) (_ : j < s.size), Ok (s[j].toNat : Int) j
def nameB (s : ByteArray) : Bool := decide (1 ≤ s.size) && decide (s.size ≤ 20) && (List.range s.size).all fun j => okB (byteAt s j) j
theorem nameB_iff (s : ByteArray) : nameB s = true ↔ Name s := by
  simp only [nameB, Name, Bool.and_eq_true, decide_eq_true_eq, List.all_eq_true, List.mem_range, okB_iff, and_assoc]
  refine and_congr Iff.rfl (and_congr Iff.rfl ⟨fun h j hj => ?_, fun h j hj => ?_⟩)
  · have := h j hj; simpa [byteAt, hj] using this
  · simpa [byteAt, hj] using h j hj
theorem nameB_true {s : ByteArray} (h : Name s) : nameB s = true := (nameB_iff s).2 h
theorem nameB_false {s : ByteArray} (h : ¬ Name s) : nameB s = false := by
  rw [← Bool.not_eq_true, nameB_iff]; exact h
theorem ret_bool {a b : Bool} (h : a = b) : Ending.returned (.bool a) = .returned (.bool b) := by rw [h]
/-- The first k bytes may stand where they stand. -/
def Upto (s : ByteArray) (k : Nat) : Prop := ∀ (j : Nat) (_ : j < s.size), j < k → Ok (s[j].toNat : Int) j
theorem Upto.succ {s : ByteArray} {k : Nat} (h : Upto s k) (hk : k < s.size) (ho : Ok (s[k].toNat : Int) k) : Upto s (k + 1) := by
  intro j hj hlt
  by_cases e : j = k
  · subst e; exact ho
  · exact h j hj (by omega)
theorem not_name {s : ByteArray} {k : Nat} (hk : k < s.size) (ho : ¬ Ok (s[k].toNat : Int) k) : nameB s = false := nameB_false fun h => ho (h.2.2 k hk)

/-- Every byte at every place goes one of these ways. -/
theorem ways (c : Int) (k : Nat) : (97 ≤ c ∧ c ≤ 122) ∨ (c < 97 ∧ k = 0) ∨ (122 < c ∧ decide (c ≤ 122) = false ∧ k = 0) ∨ (((k : Int) == 0) = false ∧ 48 ≤ c ∧ c ≤ 57) ∨
    (((k : Int) == 0) = false ∧ 95 ≤ c ∧ c ≤ 95 ∧ (c != 95) = false) ∨ (((k : Int) == 0) = false ∧ c < 48 ∧ (c != 95) = true) ∨
    (((k : Int) == 0) = false ∧ 57 < c ∧ decide (c ≤ 57) = false ∧ c < 97 ∧ (c != 95) = true) ∨ (((k : Int) == 0) = false ∧ 122 < c ∧ decide (c ≤ 122) = false ∧ decide (c ≤ 57) = false ∧ (c != 95) = true) := by
  simp only [beq_eq_false_iff_ne, bne_iff_ne, ne_eq, bne_eq_false_iff_eq, decide_eq_false_iff_not]
  omega

set_option maxRecDepth 100000 in
set_option maxHeartbeats 1600000 in
theorem name_spec (s : ByteArray) (w : World) (hs : s.size ≤ maxLen) :
    Calls Tryd.prog 59 #[.string s] w fun e w' => e = .returned (.bool (nameB s)) ∧ w = w' := by
  unfold maxLen at hs
  by_cases h1 : s.size < 1
  · have HN : Hid (nameB s = false) := nameB_false (fun h => by have := h.1; omega)
    go_enter Tryd.func59, Tryd.ntmps59
    go_wp2
    go_ret
    exact ⟨ret_bool HN.out.symm, rfl⟩
  by_cases h2 : 20 < s.size
  · have HN : Hid (nameB s = false) := nameB_false (fun h => by have := h.2.1; omega)
    go_enter Tryd.func59, Tryd.ntmps59
    go_wp2
    go_ret
    exact ⟨ret_bool HN.out.symm, rfl⟩
  have d1 : decide ((s.size : Int) < 1) = false := by simp; omega
  have d2 : decide ((20 : Int) < (s.size : Int)) = false := by simp; omega
  go_enter Tryd.func59, Tryd.ntmps59
  go_wp2
  go_loop [3] (fun i => ∃ k : Nat, k ≤ s.size ∧ i = .int .i64 k ∧ Upto s k) (fun i => s.size - (intOf i).toNat)
  case atStart => exact ⟨0, Nat.zero_le _, rfl, fun _ _ h => absurd h (Nat.not_lt_zero _)⟩
  case round =>
    obtain ⟨k, hk, rfl, HA⟩ := hrel
    by_cases hlt : k < s.size
    · rcases ways (s[k].toNat : Int) k with ⟨g1, g2⟩ | ⟨g1, rfl⟩ | ⟨g1, g4, rfl⟩ | ⟨g0, g1, g2⟩ | ⟨g0, g1, g2, g3⟩ | ⟨g0, g1, g2⟩ | ⟨g0, g1, g4, g2, g3⟩ | ⟨g0, g1, g4, g5, g2⟩
      all_goals go_wp2
      all_goals first
        | (go_round
           case rel => exact ⟨k + 1, by omega, by go_num, HA.succ hlt (by unfold Ok; simp at *; omega)⟩
           case measure => simp [intOf]; omega)
        | (go_ret
           exact ⟨ret_bool (not_name hlt (by unfold Ok; simp at *; omega)).symm, rfl⟩)
    · go_wp2
      go_ret
      have HN : nameB s = true := nameB_true ⟨by omega, by omega, fun j hj => HA j hj (by omega)⟩
      exact ⟨ret_bool HN.symm, rfl⟩
def letterB (c : Int) : Bool := decide (97 ≤ c) && decide (c ≤ 122)
def digitB (c : Int) : Bool := decide (48 ≤ c) && decide (c ≤ 57)
theorem letter_any (c : Int) (w : World) : Calls Tryd.prog 89 #[.int .u8 c] w fun e w' => e = .returned (.bool (letterB c)) ∧ w = w' := by
  unfold letterB
  by_cases h1 : 97 ≤ c
  · by_cases h2 : c ≤ 122
    all_goals
      go_enter Tryd.func89, Tryd.ntmps89
      go_wp2
      go_ret
      exact ⟨ret_bool (by simp [h1]; omega), rfl⟩
  · go_enter Tryd.func89, Tryd.ntmps89
    go_wp2
    go_ret
    exact ⟨ret_bool (by simp; omega), rfl⟩
theorem digit_any (c : Int) (w : World) : Calls Tryd.prog 90 #[.int .u8 c] w fun e w' => e = .returned (.bool (digitB c)) ∧ w = w' := by
  unfold digitB
  by_cases h1 : 48 ≤ c
  · by_cases h2 : c ≤ 57
    all_goals
      go_enter Tryd.func90, Tryd.ntmps90
      go_wp2
      go_ret
      exact ⟨ret_bool (by simp [h1]; omega), rfl⟩
  · go_enter Tryd.func90, Tryd.ntmps90
    go_wp2
    go_ret
    exact ⟨ret_bool (by simp; omega), rfl⟩
theorem ways2 (c : Int) : (letterB c = true) ∨ (letterB c = false ∧ digitB c = true) ∨ (letterB c = false ∧ digitB c = false ∧ (c != 95) = false) ∨ (letterB c = false ∧ digitB c = false ∧ (c != 95) = true) := by
  cases letterB c <;> cases digitB c <;> cases c != 95 <;> simp

set_option maxRecDepth 100000 in
set_option maxHeartbeats 1600000 in
theorem name_impl (s : ByteArray) (w : World) (hs : s.size ≤ maxLen) :
    Calls Tryd.prog 55 #[.string s] w fun e w' => e = .returned (.bool (nameB s)) ∧ w = w' := by
  unfold maxLen at hs
  by_cases h1 : s.size < 1
  · have HN : Hid (nameB s = false) := nameB_false (fun h => by have := h.1; omega)
    go_enter Tryd.func55, Tryd.ntmps55
    go_wp2
    go_ret
    exact ⟨ret_bool HN.out.symm, rfl⟩
  by_cases h2 : 20 < s.size
  · have HN : Hid (nameB s = false) := nameB_false (fun h => by have := h.2.1; omega)
    go_enter Tryd.func55, Tryd.ntmps55
    go_wp2
    go_ret
    exact ⟨ret_bool HN.out.symm, rfl⟩
  have d1 : decide ((s.size : Int) < 1) = false := by simp; omega
  have d2 : decide ((20 : Int) < (s.size : Int)) = false := by simp; omega
  have h0 : 0 < s.size := by omega
  by_cases hl : letterB (s[0].toNat : Int) = true
  · go_enter Tryd.func55, Tryd.ntmps55
    go_wp2_with (first | (go_at_call 89; refine (letter_any _ _).mono ?_; rintro e w' ⟨rfl, rfl⟩))
    go_loop [3] (fun i => ∃ k : Nat, 1 ≤ k ∧ k ≤ s.size ∧ i = .int .i64 k ∧ Upto s k) (fun i => s.size - (intOf i).toNat)
    case atStart =>
      exact ⟨1, Nat.le_refl _, by omega, rfl, Upto.succ (k := 0) (fun _ _ h => absurd h (Nat.not_lt_zero _)) h0 (by unfold Ok; simp [letterB] at hl; omega)⟩
    case round =>
      obtain ⟨k, hk1, hk, rfl, HA⟩ := hrel
      by_cases hlt : k < s.size
      · rcases ways2 (s[k].toNat : Int) with g1 | ⟨g1, g2⟩ | ⟨g1, g2, g3⟩ | ⟨g1, g2, g3⟩
        all_goals
          go_wp2_with (first | (go_at_call 89; refine (letter_any _ _).mono ?_; rintro e w' ⟨rfl, rfl⟩) | (go_at_call 90; refine (digit_any _ _).mono ?_; rintro e w' ⟨rfl, rfl⟩))
        all_goals first
          | (go_round
             case rel => exact ⟨k + 1, by omega, by omega, by go_num, HA.succ hlt (by unfold Ok; simp [letterB, digitB] at *; omega)⟩
             case measure => simp [intOf]; omega)
          | (go_ret
             exact ⟨ret_bool (not_name hlt (by unfold Ok; simp [letterB, digitB] at *; omega)).symm, rfl⟩)
      · go_wp2
        go_ret
        have HN : nameB s = true := nameB_true ⟨by omega, by omega, fun j hj => HA j hj (by omega)⟩
        exact ⟨ret_bool HN.symm, rfl⟩
  · have hl' : letterB (s[0].toNat : Int) = false := by simpa using hl
    have HN : Hid (nameB s = false) := not_name h0 (by unfold Ok; simp [letterB] at hl'; omega)
    go_enter Tryd.func55, Tryd.ntmps55
    go_wp2_with (first | (go_at_call 89; refine (letter_any _ _).mono ?_; rintro e w' ⟨rfl, rfl⟩))
    go_ret
    exact ⟨ret_bool HN.out.symm, rfl⟩
end Go.Proofs.YtkpjdmmgdmbmnaaDoor.C4
