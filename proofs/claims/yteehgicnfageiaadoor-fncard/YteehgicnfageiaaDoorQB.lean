/-
  C0 C1 C2 C3 C5 C6 C7 C8: parts of the proof, one behind the other.
-/
import Derived.Test.YteehgicnfageiaaDoorChecked
import Derived.Test.YteehgicnfageiaaDoorQA
import Derived.WalkKit
import Derived.WalkSpells
import Derived.WalkLawsBesides
import Derived.Laws.IdiomStrings
import Derived.Laws.BytesArg
import Derived.Lib.BufferWrite
import Derived.Deep.OwnRows
import Derived.Laws.CopyOwn
import Derived.Laws.BitsAllLaws
import Derived.Handy
import Derived.Deep.RegionWith
import Derived.Deep.QuietTactic
import Derived.BigQuiet
import Derived.Lib.IndexBytes
/-
  Small facts that the walks of this seat share: rows of bytes that the call itself makes, and the text that is made of such a row.
-/
namespace Go.Proofs.YteehgicnfageiaaDoor.C0
open Go.RowKit
theorem ret_int {k : IntKind} {a b : Int} (h : a = b) : Ending.returned (.int k a) = .returned (.int k b) := by rw [h]
theorem ret_str {a b : List UInt8} (h : a = b) : Ending.returned (.string ⟨a.toArray⟩) = .returned (.string ⟨b.toArray⟩) := by rw [h]
theorem info_u8 : (Tryd.prog.info? 5).map (fun i => (i.zero, i.size, i.bytes)) = some (some (.int .u8 0), 1, 1) := by kernel_rfl

/-- A row of bytes of the call's own. -/
def owns (base : Nat) (v : Value) (l : List UInt8) (w : World) : Prop := w.ownsRow base 5 1 v l.length ((Mb.cells l).map (Value.int .u8))

theorem owns_nil (base : Nat) (w : World) : owns base (.slice none 0 0) [] w := World.ownsRow_nil _ _ _ _
theorem owns_lit0 (base : Nat) (w : World) (hb : base ≤ w.heap.size) : owns base (.slice (some ⟨w.heap.size, 0, none⟩) 0 0) [] (w.alloc (.cells #[] 5)) :=
  World.ownsRow_lit w #[] 0 hb (by decide) rfl

theorem cell_of (l : List UInt8) (j : Nat) (hj : j < l.length) : ((Mb.cells l).map (Value.int .u8))[j]? = some (.int .u8 (l[j].toNat : Int)) := by
  simp [Mb.cells, hj]

/-- string(b), b a row of the call's own. -/
theorem conv_own {base : Nat} {v : Value} {l : List UInt8} {w : World} (h : owns base v l w) :
    (convert 22 9 v).run Tryd.prog w = .ok (.string ⟨l.toArray⟩) w := by
  rcases h.2 with ⟨rfl, h0⟩ | ⟨g, cap, cur, rfl, hb, hg, hnc, hcm, hcs, htake⟩
  · rw [run_convert_bytes_nil (w := w) 22 5 Tryd.underlying22 Tryd.underlying5 0 0 9 Tryd.underlying9]
    rw [List.length_eq_zero_iff.1 h0]; rfl
  · refine run_convert_bytes_back w 22 9 5 _ cap l Tryd.underlying22 Tryd.underlying5 Tryd.underlying9 ?_
    intro j hj
    exact World.ownsRow.cells h rfl j _ (cell_of l j hj)

/-- append(b, c): one byte more. -/
theorem owns_snoc {base : Nat} {v : Value} {l : List UInt8} {w : World} (c : UInt8)
    (h : w.ownsRow base 5 1 v (l.length + 1) ((Mb.cells l).map (Value.int .u8) ++ [.int .u8 (c.toNat : Int)])) : owns base v (l ++ [c]) w := by
  unfold owns; simpa [Mb.cells] using h
/-- Behind a call that only makes memory: all old cells, all old marks read as before. -/
theorem bcell {W w1 : World} (hb : Below W.heap.size W w1) : (∀ b o, b < W.heap.size → w1.cell? ⟨b, o, none⟩ = W.cell? ⟨b, o, none⟩) ∧ (∀ b o, b < W.heap.size → w1.frozen? ⟨b, o, none⟩ = W.frozen? ⟨b, o, none⟩) :=
  ⟨fun b o h => hb.cell (p := ⟨b, o, none⟩) h, fun b o h => hb.frozen (p := ⟨b, o, none⟩) h⟩
/-- A result of three cells that lies in the call's first block: it reads on behind whatever only makes memory. -/
theorem kept3 {w w2 : World} {a b c : Value} {T : TypeId} (hb : Below (w.heap.size + 1) (w.alloc (.cells #[a, b, c] T)) w2) :
    w2.cell? ⟨w.heap.size, 0, none⟩ = some a ∧ w2.cell? ⟨w.heap.size, 1, none⟩ = some b ∧ w2.cell? ⟨w.heap.size, 2, none⟩ = some c ∧ (∀ o, w2.frozen? ⟨w.heap.size, o, none⟩ = false) ∧ w.heap.size < w2.heap.size := by
  refine ⟨?_, ?_, ?_, fun o => ?_, ?_⟩
  · rw [hb.cell (p := ⟨w.heap.size, 0, none⟩) (Nat.lt_succ_self _)]; simp [go_sem]
  · rw [hb.cell (p := ⟨w.heap.size, 1, none⟩) (Nat.lt_succ_self _)]; simp [go_sem]
  · rw [hb.cell (p := ⟨w.heap.size, 2, none⟩) (Nat.lt_succ_self _)]; simp [go_sem]
  · rw [hb.frozen (p := ⟨w.heap.size, o, none⟩) (Nat.lt_succ_self _)]; simp [go_sem]
  · have := hb.size; simp at this; omega
theorem ret_val {a b : Value} (h : a = b) : Ending.returned a = .returned b := by rw [h]
end Go.Proofs.YteehgicnfageiaaDoor.C0

/-
  What the functions that write a number in bytes answer, in the specification and in the program: the bytes of seven bits, lowest first.
-/
namespace Go.Proofs.YteehgicnfageiaaDoor.C1
open Go.RowKit
open Go.Proofs.YteehgicnfageiaaDoor.C0

theorem fold_spec (n : Int) (w : World) (h1 : -9223372036854775808 ≤ n) (h2 : n ≤ 9223372036854775807) :
    Calls Tryd.prog 91 #[.int .i64 n] w fun e w' => e = .returned (.int .u64 (Mb.foldU n : Nat)) ∧ w = w' := by
  by_cases h : n < 0
  all_goals
    go_enter Tryd.func91, Tryd.ntmps91
    go_wp2
    go_ret
  · exact ⟨ret_int (Mb.foldU_neg n h).symm, rfl⟩
  · exact ⟨ret_int (Mb.foldU_pos n (by omega)).symm, rfl⟩
theorem fold_impl (n : Int) (w : World) (h1 : -9223372036854775808 ≤ n) (h2 : n ≤ 9223372036854775807) :
    Calls Tryd.prog 86 #[.int .i64 n] w fun e w' => e = .returned (.int .u64 (Mb.foldU n : Nat)) ∧ w = w' := by
  by_cases h : n < 0
  all_goals
    go_enter Tryd.func86, Tryd.ntmps86
    go_wp2
    go_ret
  · exact ⟨ret_int (Mb.foldU_neg n h).symm, rfl⟩
  · exact ⟨ret_int (Mb.foldU_pos n (by omega)).symm, rfl⟩
/-- What holds at the head of a round: the bytes made so far, and what is left of the number. -/
def Rel (u : Nat) (base : Nat) (w0 : World) (x : Value) (b : Value) (w : World) : Prop :=
  ∃ (f : Nat) (pre : List UInt8) (v : Nat), pre.length + f = 9 ∧ v < 2 * 128 ^ f ∧ Mb.leb 9 u = pre ++ Mb.leb f v ∧ x = .int .u64 (v : Nat) ∧ owns base b pre w ∧ Below base w0 w ∧ base ≤ w.heap.size

theorem byte_more (v : Nat) : (v : Int) % 128 + 128 = ((UInt8.ofNat (v % 128 + 128)).toNat : Int) := by
  simp [UInt8.toNat_ofNat']; omega
theorem byte_last (v : Nat) (h : v < 128) : (v : Int) = ((UInt8.ofNat v).toNat : Int) := by
  simp [UInt8.toNat_ofNat']; omega

/-- One round more. -/
theorem Rel.step {u base : Nat} {w0 w w1 : World} {b b' : Value} {f v : Nat} {pre : List UInt8} (hf : pre.length + f = 9) (hv : v < 2 * 128 ^ f)
    (hl : Mb.leb 9 u = pre ++ Mb.leb f v) (h128 : 128 ≤ v) (c : UInt8) (hc : c = UInt8.ofNat (v % 128 + 128)) (o : Obj) (hown : owns base b pre w) (hbel : Below base w0 w) (hbs : base ≤ w.heap.size)
    (h1 : w1.ownsRow base 5 1 b' (pre.length + 1) ((Mb.cells pre).map (Value.int .u8) ++ [.int .u8 (c.toNat : Int)])) (hg : (w.alloc o).grownBy w1 b.ownBlock) :
    Rel u base w0 (.int .u64 ((v / 128 : Nat) : Int)) b' w1 := by
  obtain ⟨g, rfl⟩ : ∃ g, f = g + 1 := by
    cases f with
    | zero => exact absurd (Mb.pow_zero_lt v hv) (by omega)
    | succ g => exact ⟨g, rfl⟩
  subst hc
  refine ⟨g, pre ++ [UInt8.ofNat (v % 128 + 128)], v / 128, by simp; omega, Mb.pow_step g v hv, by rw [hl, Mb.leb_great g v h128]; simp, rfl, owns_snoc _ h1, ?_, ?_⟩
  · exact (hbel.alloc hbs o).grown hg (by simp; omega) (fun k hk => (hown.lt k hk).1)
  · have := hg.size; simp at this; omega

theorem last_text {u f v : Nat} {pre : List UInt8} (hl : Mb.leb 9 u = pre ++ Mb.leb f v) (h : v < 128) : Mb.leb 9 u = pre ++ [UInt8.ofNat v] := by
  rw [hl, Mb.leb_small f v h]

set_option maxHeartbeats 800000 in
set_option maxRecDepth 100000 in
theorem put_spec (n : Int) (w : World) (h1 : -9223372036854775808 ≤ n) (h2 : n ≤ 9223372036854775807) :
    Calls Tryd.prog 66 #[.int .i64 n] w fun e w' => e = .returned (.string ⟨(Mb.putNum n).toArray⟩) ∧ Below w.heap.size w w' := by
  have hlt := Mb.foldU_lt n h1 h2
  obtain ⟨i0, hi, hz0, hz1, hz2⟩ := info_parts info_u8
  go_enter Tryd.func66, Tryd.ntmps66
  go_wp2_with fail
  refine (fold_spec n _ h1 h2).mono ?_
  rintro e w' ⟨rfl, rfl⟩
  go_wp2_with fail
  go_loopw [3, 4] (fun x b wr => Rel (Mb.foldU n) w.heap.size w x b wr) (fun x _ _ => (intOf x).toNat)
  case atStart => exact ⟨9, [], Mb.foldU n, rfl, hlt, rfl, rfl, owns_lit0 _ _ (Nat.le_refl _), (Below.refl _ _).alloc (Nat.le_refl _) _, by simp⟩
  case round =>
    obtain ⟨f, pre, v, hf, hv, hl, rfl, hown, hbel, hbs⟩ := hrel
    have hvb := Mb.bound_lt f v (by omega) hv
    have HL : Hid (Mb.leb 9 (Mb.foldU n) = pre ++ Mb.leb f v) := hl
    clear hl
    by_cases h128 : 128 ≤ v
    · go_wp2_with (first
        | (at_builtin; refine wpList_append_own _ rfl _ _ 22 rfl w.heap.size 5 i0 (.int .u8 0) 1 1 Tryd.underlying22 hi hz0 hz1 hz2 rfl (by decide) _ _ _ rfl (hown.alloc _) ⟨wr.heap.size, 0, none⟩ 1 1 [_] rfl rfl (cell_one_new _ _ _) ?c2 ?c3 ?c4 ?c5 ?_))
      case c2 => intro u hu; simp at hu; subst hu; rfl
      case c3 => unfold maxLen; omega
      case c4 => omega
      case c5 => simp; omega
      intro v' w1 hown' hgrow _
      go_wp2
      go_roundw
      case rel =>
        refine Rel.step hf hv HL.out h128 _ rfl _ hown hbel hbs ?_ hgrow
        rw [← byte_more]; exact hown'
      case measure => simp [intOf]; omega
    · have hfin : Hid (Mb.leb 9 (Mb.foldU n) = pre ++ [UInt8.ofNat v]) := last_text HL.out (by omega)
      go_wp2_with (first
        | (at_builtin; refine wpList_append_own _ rfl _ _ 22 rfl w.heap.size 5 i0 (.int .u8 0) 1 1 Tryd.underlying22 hi hz0 hz1 hz2 rfl (by decide) _ _ _ rfl (hown.alloc _) ⟨wr.heap.size, 0, none⟩ 1 1 [_] rfl rfl (cell_one_new _ _ _) ?c2 ?c3 ?c4 ?c5 ?_))
      case c2 => intro u hu; simp at hu; subst hu; rfl
      case c3 => unfold maxLen; omega
      case c4 => omega
      case c5 => simp; omega
      intro v' w1 hown' hgrow _
      have ho2 : owns w.heap.size v' (pre ++ [UInt8.ofNat v]) w1 := owns_snoc _ (by rw [← byte_last v (by omega)]; exact hown')
      have hconv := conv_own ho2
      have hb1 : Below w.heap.size w w1 := (hbel.alloc hbs _).grown hgrow (by simp; omega) (fun k hk => (hown.lt k hk).1)
      clear hown' hgrow ho2
      go_wp2
      go_ret
      exact ⟨ret_str hfin.out.symm, hb1⟩
set_option maxHeartbeats 800000 in
set_option maxRecDepth 100000 in
theorem put_impl (n : Int) (w : World) (h1 : -9223372036854775808 ≤ n) (h2 : n ≤ 9223372036854775807) :
    Calls Tryd.prog 52 #[.int .i64 n] w fun e w' => e = .returned (.string ⟨(Mb.putNum n).toArray⟩) ∧ Below w.heap.size w w' := by
  have hlt := Mb.foldU_lt n h1 h2
  obtain ⟨i0, hi, hz0, hz1, hz2⟩ := info_parts info_u8
  go_enter Tryd.func52, Tryd.ntmps52
  go_wp2_with fail
  refine (fold_impl n _ h1 h2).mono ?_
  rintro e w' ⟨rfl, rfl⟩
  go_wp2_with fail
  go_loopw [3, 4] (fun b x wr => Rel (Mb.foldU n) w.heap.size w x b wr) (fun _ x _ => (intOf x).toNat)
  case atStart => exact ⟨9, [], Mb.foldU n, rfl, hlt, rfl, rfl, owns_nil _ _, Below.refl _ _, Nat.le_refl _⟩
  case round =>
    obtain ⟨f, pre, v, hf, hv, hl, rfl, hown, hbel, hbs⟩ := hrel
    have hvb := Mb.bound_lt f v (by omega) hv
    have HL : Hid (Mb.leb 9 (Mb.foldU n) = pre ++ Mb.leb f v) := hl
    clear hl
    by_cases h128 : 128 ≤ v
    · go_wp2_with (first
        | (at_builtin; refine wpList_append_own _ rfl _ _ 22 rfl w.heap.size 5 i0 (.int .u8 0) 1 1 Tryd.underlying22 hi hz0 hz1 hz2 rfl (by decide) _ _ _ rfl (hown.alloc _) ⟨wr.heap.size, 0, none⟩ 1 1 [_] rfl rfl (cell_one_new _ _ _) ?c2 ?c3 ?c4 ?c5 ?_))
      case c2 => intro u hu; simp at hu; subst hu; rfl
      case c3 => unfold maxLen; omega
      case c4 => omega
      case c5 => simp; omega
      intro v' w1 hown' hgrow _
      go_wp2
      go_roundw
      case rel =>
        refine Rel.step hf hv HL.out h128 _ rfl _ hown hbel hbs ?_ hgrow
        rw [← byte_more]; exact hown'
      case measure => simp [intOf]; omega
    · have hfin : Hid (Mb.leb 9 (Mb.foldU n) = pre ++ [UInt8.ofNat v]) := last_text HL.out (by omega)
      go_wp2_with (first
        | (at_builtin; refine wpList_append_own _ rfl _ _ 22 rfl w.heap.size 5 i0 (.int .u8 0) 1 1 Tryd.underlying22 hi hz0 hz1 hz2 rfl (by decide) _ _ _ rfl (hown.alloc _) ⟨wr.heap.size, 0, none⟩ 1 1 [_] rfl rfl (cell_one_new _ _ _) ?c2 ?c3 ?c4 ?c5 ?_))
      case c2 => intro u hu; simp at hu; subst hu; rfl
      case c3 => unfold maxLen; omega
      case c4 => omega
      case c5 => simp; omega
      intro v' w1 hown' hgrow _
      have ho2 : owns w.heap.size v' (pre ++ [UInt8.ofNat v]) w1 := owns_snoc _ (by rw [← byte_last v (by omega)]; exact hown')
      have hconv := conv_own ho2
      have hb1 : Below w.heap.size w w1 := (hbel.alloc hbs _).grown hgrow (by simp; omega) (fun k hk => (hown.lt k hk).1)
      clear hown' hgrow ho2
      go_wp2
      go_ret
      exact ⟨ret_str hfin.out.symm, hb1⟩
end Go.Proofs.YteehgicnfageiaaDoor.C1

/-
  What the program's function that joins texts answers: the texts one behind the other.
-/
namespace Go.Proofs.YteehgicnfageiaaDoor.C2
open Go.RowKit
open Go.Proofs.YteehgicnfageiaaDoor.C0
open Go.Lib (run_copy_row_string run_copy_empty_string)

/-- The texts one behind the other. -/
def cat : List ByteArray → List UInt8
  | [] => []
  | s :: r => s.data.toList ++ cat r
def total : List ByteArray → Nat
  | [] => 0
  | s :: r => s.size + total r
theorem cat_length : ∀ ss : List ByteArray, (cat ss).length = total ss
  | [] => rfl
  | s :: r => by simp only [cat, total, List.length_append, cat_length r]; rfl
theorem total_take_le : ∀ (ss : List ByteArray) (k : Nat), total (ss.take k) ≤ total ss
  | [], k => by simp [total]
  | s :: r, 0 => by simp [total]
  | s :: r, k + 1 => by have := total_take_le r k; simp only [List.take_succ_cons, total]; omega
theorem total_take_succ : ∀ (ss : List ByteArray) (k : Nat) (h : k < ss.length), total (ss.take (k + 1)) = total (ss.take k) + ss[k].size
  | s :: r, 0, h => by simp [total]
  | s :: r, k + 1, h => by
    have := total_take_succ r k (by simpa using h)
    simp only [List.take_succ_cons, total, List.getElem_cons_succ]; omega
theorem cat_take_succ : ∀ (ss : List ByteArray) (k : Nat) (h : k < ss.length), cat (ss.take (k + 1)) = cat (ss.take k) ++ ss[k].data.toList
  | s :: r, 0, h => by simp [cat]
  | s :: r, k + 1, h => by
    have := cat_take_succ r k (by simpa using h)
    simp only [List.take_succ_cons, cat, List.getElem_cons_succ, this, List.append_assoc]

/-- What holds at the head of a round that copies: the first texts lie in the row. -/
def Rel (ss : List ByteArray) (g : Nat) (w0 : World) (at_ i : Value) (w : World) : Prop :=
  ∃ (k : Nat) (cur : List Value), k ≤ ss.length ∧ i = .int .i64 k ∧ at_ = .int .i64 (total (ss.take k) : Nat) ∧ w.heap[g]? = some (.cells cur.toArray 5 (0, 0)) ∧ cur.length = total ss ∧
    cur.take (total (ss.take k)) = Lib.byteCells (cat (ss.take k)) ∧ Below g w0 w

theorem Rel.step {ss : List ByteArray} {g k : Nat} {w0 w : World} {cur : List Value} (hlt : k < ss.length) (hg : w.heap[g]? = some (.cells cur.toArray 5 (0, 0))) (hcl : cur.length = total ss)
    (hct : cur.take (total (ss.take k)) = Lib.byteCells (cat (ss.take k))) (hbel : Below g w0 w) :
    Rel ss g w0 (.int .i64 ((total (ss.take k) : Nat) + (ss[k].size : Nat))) (.int .i64 ((k + 1 : Nat) : Int)) (w.setRow g (cur.toArray.toList.take (total (ss.take k)) ++ Lib.byteCells ss[k].data.toList ++ cur.toArray.toList.drop (total (ss.take k) + ss[k].size)).toArray) ∧
    (ss[k].size = 0 → Rel ss g w0 (.int .i64 (total (ss.take k) : Nat)) (.int .i64 ((k + 1 : Nat) : Int)) w) := by
  have ht := total_take_succ ss k hlt
  have hle := total_take_le ss (k + 1)
  have hbl : (Lib.byteCells ss[k].data.toList).length = ss[k].size := by rw [Lib.byteCells_length]; rfl
  constructor
  · refine ⟨k + 1, _, hlt, rfl, by rw [ht]; simp, setRow_heap w g _ _ _ _ hg, ?_, ?_, below_setRow hbel (Nat.le_refl _) _⟩
    · simp [hbl]; omega
    · rw [ht, cat_take_succ ss k hlt, Lib.byteCells_append, ← hct]
      exact List.take_left' (by simp only [List.length_append, List.length_take, hbl]; omega)
  · intro h0
    have e : total (ss.take (k + 1)) = total (ss.take k) := by omega
    refine ⟨k + 1, cur, hlt, rfl, by rw [e], hg, hcl, ?_, hbel⟩
    have e2 : ss[k].data.toList = [] := by
      apply List.eq_nil_of_length_eq_zero; exact h0
    rw [e, cat_take_succ ss k hlt, e2, List.append_nil, hct]

set_option maxHeartbeats 800000 in
set_option maxRecDepth 100000 in
theorem joined_any (b off n cap : Nat) (ss : List ByteArray) (w : World) (hn : n = ss.length) (hb : b < w.heap.size) (hnm : n ≤ 1000) (ht : total ss ≤ 1000000)
    (hc : ∀ j, j < n → w.cell? ⟨b, off + j, none⟩ = some (.string (ss.getD j ByteArray.empty))) :
    Calls Tryd.prog 48 #[.slice (some ⟨b, off, none⟩) n cap] w fun e w' => e = .returned (.string ⟨(cat ss).toArray⟩) ∧ Below w.heap.size w w' := by
  subst hn
  go_enter Tryd.func48, Tryd.ntmps48
  go_wp2_with fail
  go_loop [3, 12] (fun s i => ∃ k : Nat, k ≤ ss.length ∧ i = .int .i64 k ∧ s = .int .i64 (total (ss.take k) : Nat)) (fun _ i => ss.length - (intOf i).toNat)
  case atStart => exact ⟨0, Nat.zero_le _, rfl, rfl⟩
  case round =>
    obtain ⟨k, hk, rfl, rfl⟩ := hrel
    have htk := total_take_le ss k
    by_cases hlt : k < ss.length
    · have hkl := hlt
      have hcell : w.cell? ⟨b, off + k, none⟩ = some (.string ss[k]) := by rw [hc k hlt]; simp [List.getD, hkl]
      have HT : Hid (total (ss.take (k + 1)) = total (ss.take k) + ss[k].size) := total_take_succ ss k hkl
      have hsz := total_take_le ss (k + 1)
      rw [HT.out] at hsz
      go_wp2
      go_round
      case rel => exact ⟨k + 1, by omega, by go_num, by rw [HT.out]; go_num⟩
      case measure => simp [intOf]; omega
    · obtain rfl : k = ss.length := by omega
      have htt : ss.take ss.length = ss := List.take_length
      have hmk := run_make_row' (P := Tryd.prog) 22 5 (.int .u8 0) 1 Tryd.underlying22 info_u8 rfl .i64 .i64 (total ss) (by omega) (by omega)
      go_wp2
      go_loopw [7, 25] (fun a i wr => Rel ss w.heap.size w a i wr) (fun _ i _ => ss.length - (intOf i).toNat)
      case atStart =>
        refine ⟨0, List.replicate (total ss) (.int .u8 0), Nat.zero_le _, rfl, rfl, ?_, by simp, by simp [total, cat, Lib.byteCells], (Below.refl _ _).alloc (Nat.le_refl _) _⟩
        have : madeCells #[.int .u8 0] (total ss) = (List.replicate (total ss) (.int .u8 0)).toArray := by
          rw [← toList_madeCells_one]
        rw [heap_alloc_new, this]
      case round =>
        obtain ⟨k, cur, hk, rfl, rfl, hg, hcl, hct, hbel⟩ := hrel
        have htk := total_take_le ss k
        by_cases hlt : k < ss.length
        · have hcell : wr.cell? ⟨b, off + k, none⟩ = some (.string ss[k]) := by rw [hbel.cell (by exact hb), hc k (by omega)]; simp [List.getD, hlt]
          have HT : Hid (total (ss.take (k + 1)) = total (ss.take k) + ss[k].size) := total_take_succ ss k hlt
          have hsz := total_take_le ss (k + 1)
          rw [HT.out] at hsz
          have hu8 : (Tryd.prog.info? 5).map (·.size) = some 1 := by kernel_rfl
          have hcp := run_copy_row_string (P := Tryd.prog) wr 22 9 3 5 w.heap.size (total (ss.take k)) (total ss - total (ss.take k)) (total ss - total (ss.take k)) ss[k] cur.toArray 5 Tryd.underlying22 hu8 hg (by omega) (by simp; omega)
          have hnew := Rel.step (w0 := w) hlt hg hcl hct hbel
          by_cases he : total ss = total (ss.take k)
          · have h0 : ss[k].size = 0 := by omega
            have hc0 := run_copy_empty_string (P := Tryd.prog) wr 22 9 3 5 (some ⟨w.heap.size, 0, none⟩) 0 0 ss[k] Tryd.underlying22 (by rw [hu8]; rfl) h0
            have HN : Hid (Rel ss w.heap.size w (.int .i64 (total (ss.take k) : Nat)) (.int .i64 ((k + 1 : Nat) : Int)) wr) := hnew.2 h0
            clear hnew hcp hg hcl hct HT h0
            go_wp2
            go_roundw
            case rel => exact HN.out
            case measure => simp [intOf]; omega
          · have HN : Hid (Rel ss w.heap.size w (.int .i64 ((total (ss.take k) : Nat) + (ss[k].size : Nat))) (.int .i64 ((k + 1 : Nat) : Int)) (wr.setRow w.heap.size (cur.toArray.toList.take (total (ss.take k)) ++ Lib.byteCells ss[k].data.toList ++ cur.toArray.toList.drop (total (ss.take k) + ss[k].size)).toArray)) := hnew.1
            clear hnew hg hcl hct HT
            go_wp2
            go_roundw
            case rel => simpa using HN.out
            case measure => simp [intOf]; omega
        · have hkk : k = ss.length := by omega
          subst hkk
          rw [htt] at hct
          have hown : owns w.heap.size (.slice (some ⟨w.heap.size, 0, none⟩) (total ss) (total ss)) (cat ss) wr := by
            unfold owns
            rw [cat_length]
            refine ⟨by simp [Mb.cells, cat_length], .inr ⟨_, total ss, cur.toArray, rfl, Nat.le_refl _, hg, Nat.le_refl _, by unfold maxLen; omega, by simp [hcl], ?_⟩⟩
            rw [Nat.mul_one, List.toList_toArray, hct]
            simp [Lib.byteCells, Mb.cells]
          have hconv := conv_own hown
          clear hct hg hown hcl
          go_wp2
          go_ret
          exact ⟨rfl, hbel⟩
end Go.Proofs.YteehgicnfageiaaDoor.C2

/-
  What PutText answers, in the specification and in the program: nothing of a text that is too long; else its length as a number, and it.
-/
namespace Go.Proofs.YteehgicnfageiaaDoor.C3
open Go.RowKit
open Go.Proofs.YteehgicnfageiaaDoor.C0

def putText (s : ByteArray) : List UInt8 := if 8000 < s.size then [] else Mb.putNum s.size ++ s.data.toList

theorem join_text (a : List UInt8) (s : ByteArray) : (⟨a.toArray⟩ : ByteArray) ++ s = ⟨(a ++ s.data.toList).toArray⟩ := by
  apply ByteArray.ext
  simp [ByteArray.data_append]
theorem size_mk (l : List UInt8) : (⟨l.toArray⟩ : ByteArray).size = l.length := by simp [ByteArray.size]
theorem putNum_len (n : Int) : (Mb.putNum n).length ≤ 10 := (Mb.leb_len 9 _).2

set_option maxRecDepth 100000 in
theorem put_spec (s : ByteArray) (w : World) (hs : s.size ≤ maxLen) :
    Calls Tryd.prog 67 #[.string s] w fun e w' => e = .returned (.string ⟨(putText s).toArray⟩) ∧ Below w.heap.size w w' := by
  unfold maxLen at hs
  by_cases h : 8000 < s.size
  · have hp : putText s = [] := by simp [putText, h]
    rw [hp]
    go_enter Tryd.func67, Tryd.ntmps67
    go_wp2
    go_ret
    exact ⟨rfl, Below.refl _ _⟩
  · have HP : Hid (putText s = Mb.putNum s.size ++ s.data.toList) := by simp [Hid, putText, h]
    go_enter Tryd.func67, Tryd.ntmps67
    go_wp2_with fail
    refine (C1.put_spec (s.size : Int) _ (by omega) (by omega)).mono ?_
    rintro e w1 ⟨rfl, hb1⟩
    have hl := putNum_len s.size
    have hcc : (⟨(Mb.putNum s.size).toArray⟩ : ByteArray).size + s.size ≤ 9223372036854775807 := by rw [size_mk]; omega
    go_wp2
    go_ret
    exact ⟨by rw [HP.out, ← join_text]; rfl, hb1⟩
set_option maxRecDepth 100000 in
theorem put_impl (s : ByteArray) (w : World) (hs : s.size ≤ maxLen) :
    Calls Tryd.prog 53 #[.string s] w fun e w' => e = .returned (.string ⟨(putText s).toArray⟩) ∧ Below w.heap.size w w' := by
  unfold maxLen at hs
  by_cases h : 8000 < s.size
  · have hp : putText s = [] := by simp [putText, h]
    rw [hp]
    go_enter Tryd.func53, Tryd.ntmps53
    go_wp2
    go_ret
    exact ⟨rfl, Below.refl _ _⟩
  · have HP : Hid (putText s = Mb.putNum s.size ++ s.data.toList) := by simp [Hid, putText, h]
    have hl := putNum_len s.size
    go_enter Tryd.func53, Tryd.ntmps53
    go_wp2_with fail
    refine (C1.put_impl (s.size : Int) _ (by omega) (by omega)).mono ?_
    rintro e w1 ⟨rfl, hb1⟩
    go_wp2_with fail
    refine (C2.joined_any w1.heap.size 0 2 2 [⟨(Mb.putNum s.size).toArray⟩, s] _ rfl (by simp) (by omega) ?_ ?_).mono ?_
    · show (⟨(Mb.putNum s.size).toArray⟩ : ByteArray).size + (s.size + 0) ≤ 1000000
      rw [size_mk]; omega
    · intro j hj
      match j, hj with
      | 0, _ => go_simp
      | 1, _ => go_simp
    rintro e w2 ⟨rfl, hb2⟩
    go_wp2
    go_ret
    refine ⟨?_, ((hb1.alloc hb1.size _).trans (hb2.mono ?_))⟩
    · rw [HP.out]; simp [C2.cat]
    · have := hb1.size; simp; omega
end Go.Proofs.YteehgicnfageiaaDoor.C3

/-
  What the CRC's functions answer, in the specification and in the program.
-/
namespace Go.Proofs.YteehgicnfageiaaDoor.C5
open Go.RowKit
open Go.Proofs.YteehgicnfageiaaDoor.C0

theorem and_odd (r : Nat) (h : r < 4294967296) (h1 : r % 2 = 1) : bits .and .u32 (r : Int) 1 = 1 := by
  have := u32_and_nat r 1 h (by omega)
  rw [nat_mask1, h1] at this
  exact this
theorem and_even (r : Nat) (h : r < 4294967296) (h1 : ¬ r % 2 = 1) : bits .and .u32 (r : Int) 1 = 0 := by
  have := u32_and_nat r 1 h (by omega)
  rw [nat_mask1, show r % 2 = 0 by omega] at this
  exact this
theorem xor_ones (r : Nat) (h : r < 4294967296) : bits .xor .u32 (r : Int) 4294967295 = ((r ^^^ 4294967295 : Nat) : Int) := u32_xor_nat r 4294967295 h (by omega)
theorem max_xor (r : Nat) (h : r < 4294967296) : bits .xor .u32 IntKind.u32.max (r : Int) = ((r ^^^ 4294967295 : Nat) : Int) := by
  rw [Nat.xor_comm]; exact u32_xor_nat 4294967295 r (by omega) h
theorem xor_poly (r : Nat) (h : r < 4294967296) : bits .xor .u32 ((r : Int) / 2) 3988292384 = (((r / 2) ^^^ 3988292384 : Nat) : Int) := by
  have := u32_xor_nat (r / 2) 3988292384 (by omega) (by omega)
  exact this

set_option maxRecDepth 100000 in
set_option maxHeartbeats 800000 in
theorem step_impl (r : Nat) (c : UInt8) (w : World) (hr : r < 4294967296) :
    Calls Tryd.prog 124 #[.int .u32 r, .int .u8 c.toNat] w fun e w' => e = .returned (.int .u32 (Mc.crcByte r c : Nat)) ∧ w = w' := by
  have hc := c.toNat_lt
  have hx := u32_xor_nat r c.toNat hr (by omega)
  have hxl := Mc.xor_lt hr (Mc.byte_lt c)
  have HB : Hid (Mc.crcByte r c = Mc.iter 8 (r ^^^ c.toNat)) := rfl
  generalize r ^^^ c.toNat = x at *
  go_enter Tryd.func124, Tryd.ntmps124
  go_wp2
  go_loop [0, 10] (fun v i => ∃ k : Nat, k ≤ 8 ∧ i = .int .i64 k ∧ v = .int .u32 (Mc.iter k x : Nat)) (fun _ i => 8 - (intOf i).toNat)
  case atStart => exact ⟨0, Nat.zero_le _, rfl, rfl⟩
  case round =>
    obtain ⟨k, hk, rfl, rfl⟩ := hrel
    have hy := Mc.iter_lt k hxl
    have HS : Hid (Mc.iter (k + 1) x = Mc.bit1 (Mc.iter k x)) := rfl
    by_cases hlt : k < 8
    · have Hk : Hid (k < 8) := hlt
      by_cases ho : Mc.iter k x % 2 = 1
      · have e1 := and_odd _ hy ho
        have e2 := xor_poly _ hy
        have e3 : Hid (Mc.bit1 (Mc.iter k x) = (Mc.iter k x / 2) ^^^ 3988292384) := Mc.bit1_odd ho
        clear ho
        go_wp2
        go_round
        case rel => exact ⟨k + 1, by omega, by go_num, by rw [HS.out, e3.out]⟩
        case measure => simp [intOf]; omega
      · have e1 := and_even _ hy ho
        have e3 : Hid (Mc.bit1 (Mc.iter k x) = Mc.iter k x / 2) := Mc.bit1_even ho
        clear ho
        go_wp2
        go_round
        case rel => exact ⟨k + 1, by omega, by go_num, by rw [HS.out, e3.out]; go_num⟩
        case measure => simp [intOf]; omega
    · obtain rfl : k = 8 := by omega
      go_wp2
      go_ret
      exact ⟨by rw [HB.out]; rfl, rfl⟩

theorem take_snoc (s : ByteArray) (k : Nat) (h : k < s.size) : s.data.toList.take (k + 1) = s.data.toList.take k ++ [s[k]] := by
  rw [List.take_succ_eq_append_getElem (by simpa using h)]; rfl
theorem reg_succ (r : Nat) (s : ByteArray) (k : Nat) (h : k < s.size) : Mc.crcReg r (s.data.toList.take (k + 1)) = Mc.iter 8 (Mc.crcReg r (s.data.toList.take k) ^^^ s[k].toNat) := by
  rw [take_snoc s k h, Mc.crcReg_snoc]; rfl

set_option maxRecDepth 100000 in
set_option maxHeartbeats 800000 in
theorem crc_spec (crc : Nat) (s : ByteArray) (w : World) (hcrc : crc < 4294967296) (hs : s.size ≤ 8000) :
    Calls Tryd.prog 88 #[.int .i64 crc, .string s] w fun e w' => e = .returned (.int .i64 (Mc.crcMore crc s.data.toList : Nat)) ∧ w = w' := by
  have hx := xor_ones crc hcrc
  have hxl : crc ^^^ 4294967295 < 4294967296 := Mc.xor_lt hcrc (by omega)
  have HB : Hid (Mc.crcMore crc s.data.toList = Mc.crcReg (crc ^^^ 4294967295) s.data.toList ^^^ 4294967295) := rfl
  generalize crc ^^^ 4294967295 = x at *
  go_enter Tryd.func88, Tryd.ntmps88
  go_wp2
  go_loop [5, 6] (fun v i => ∃ k : Nat, k ≤ s.size ∧ i = .int .i64 k ∧ v = .int .u32 (Mc.crcReg x (s.data.toList.take k) : Nat)) (fun _ i => s.size - (intOf i).toNat)
  case atStart => exact ⟨0, Nat.zero_le _, rfl, by simp [Mc.crcReg]⟩
  case round =>
    obtain ⟨k, hk, rfl, rfl⟩ := hrel
    have hy := Mc.crcReg_lt (s.data.toList.take k) hxl
    by_cases hlt : k < s.size
    · have hx2 := u32_xor_nat _ s[k].toNat hy (Mc.byte_lt s[k])
      have hyl := Mc.xor_lt hy (Mc.byte_lt s[k])
      have HS : Hid (Mc.crcReg x (s.data.toList.take (k + 1)) = Mc.iter 8 (Mc.crcReg x (s.data.toList.take k) ^^^ s[k].toNat)) := reg_succ x s k hlt
      have hb := s[k].toNat_lt
      generalize Mc.crcReg x (s.data.toList.take k) ^^^ s[k].toNat = y at *
      go_wp2
      go_loop [5, 7] (fun v i => ∃ j : Nat, j ≤ 8 ∧ i = .int .i64 j ∧ v = .int .u32 (Mc.iter j y : Nat)) (fun _ i => 8 - (intOf i).toNat)
      case atStart => exact ⟨0, Nat.zero_le _, rfl, rfl⟩
      case round =>
        obtain ⟨j, hj, rfl, rfl⟩ := hrel
        have hz := Mc.iter_lt j hyl
        have HT : Hid (Mc.iter (j + 1) y = Mc.bit1 (Mc.iter j y)) := rfl
        by_cases hl8 : j < 8
        · by_cases ho : Mc.iter j y % 2 = 1
          · have e1 := and_odd _ hz ho
            have e2 := xor_poly _ hz
            have e3 : Hid (Mc.bit1 (Mc.iter j y) = (Mc.iter j y / 2) ^^^ 3988292384) := Mc.bit1_odd ho
            clear ho
            go_wp2
            go_round
            case rel => exact ⟨j + 1, by omega, by go_num, by rw [HT.out, e3.out]⟩
            case measure => simp [intOf]; omega
          · have e1 := and_even _ hz ho
            have e3 : Hid (Mc.bit1 (Mc.iter j y) = Mc.iter j y / 2) := Mc.bit1_even ho
            clear ho
            go_wp2
            go_round
            case rel => exact ⟨j + 1, by omega, by go_num, by rw [HT.out, e3.out]; go_num⟩
            case measure => simp [intOf]; omega
        · obtain rfl : j = 8 := by omega
          go_wp2
          go_round
          case rel => exact ⟨k + 1, by omega, by go_num, by rw [HS.out]⟩
          case measure => simp [intOf]; omega
    · obtain rfl : k = s.size := by omega
      have ht : s.data.toList.take s.size = s.data.toList := List.take_of_length_le (by simp)
      rw [ht] at hy ⊢
      have hx2 := xor_ones _ hy
      have hyl := Mc.xor_lt hy (show 4294967295 < 4294967296 by omega)
      go_wp2
      go_ret
      exact ⟨by rw [HB.out]; rfl, rfl⟩

/-- What CrcMore answers. -/
def more (crc : Int) (s : ByteArray) : Nat := if 8000 < s.size ∨ crc < 0 ∨ 4294967295 < crc then 0 else Mc.crcMore crc.toNat s.data.toList
theorem more_no {crc : Int} {s : ByteArray} (h : 8000 < s.size ∨ crc < 0 ∨ 4294967295 < crc) : more crc s = 0 := by simp [more, h]
theorem more_yes {crc : Int} {s : ByteArray} (h1 : ¬ 8000 < s.size) (h2 : ¬ crc < 0) (h3 : ¬ 4294967295 < crc) : more crc s = Mc.crcMore crc.toNat s.data.toList := by
  unfold more; rw [if_neg (by omega)]


set_option maxRecDepth 100000 in
set_option maxHeartbeats 800000 in
theorem more_impl (crc : Int) (s : ByteArray) (w : World) (l0 : -9223372036854775808 ≤ crc) (u0 : crc ≤ 9223372036854775807) (hs : s.size ≤ maxLen) :
    Calls Tryd.prog 101 #[.int .i64 crc, .string s] w fun e w' => e = .returned (.int .i64 (more crc s : Nat)) ∧ w = w' := by
  unfold maxLen at hs
  by_cases h1 : 8000 < s.size
  · rw [more_no (.inl h1)]
    have d1 : decide ((8000 : Int) < (s.size : Int)) = true := by simp; omega
    go_enter Tryd.func101, Tryd.ntmps101
    go_wp2
    go_ret
    exact ⟨rfl, rfl⟩
  have d1 : decide ((8000 : Int) < (s.size : Int)) = false := by simp; omega
  by_cases h2 : crc < 0
  · rw [more_no (.inr (.inl h2))]
    go_enter Tryd.func101, Tryd.ntmps101
    go_wp2
    go_ret
    exact ⟨rfl, rfl⟩
  have d2 : decide (crc < 0) = false := by simp; omega
  by_cases h3 : 4294967295 < crc
  · rw [more_no (.inr (.inr h3))]
    go_enter Tryd.func101, Tryd.ntmps101
    go_wp2
    go_ret
    exact ⟨rfl, rfl⟩
  have d3 : decide ((4294967295 : Int) < crc) = false := by simp; omega
  rw [more_yes h1 h2 h3]
  obtain ⟨n, rfl⟩ := Int.eq_ofNat_of_zero_le (show 0 ≤ crc by omega)
  have hn : n < 4294967296 := by omega
  have hx := max_xor n hn
  have hxl : n ^^^ 4294967295 < 4294967296 := Mc.xor_lt hn (by omega)
  have HB : Hid (Mc.crcMore n s.data.toList = Mc.crcReg (n ^^^ 4294967295) s.data.toList ^^^ 4294967295) := rfl
  simp only [Int.toNat_natCast]
  generalize n ^^^ 4294967295 = x at *
  go_enter Tryd.func101, Tryd.ntmps101
  go_wp2
  go_loop [5, 6] (fun v i => ∃ k : Nat, k ≤ s.size ∧ i = .int .i64 k ∧ v = .int .u32 (Mc.crcReg x (s.data.toList.take k) : Nat)) (fun _ i => s.size - (intOf i).toNat)
  case atStart => exact ⟨0, Nat.zero_le _, rfl, by simp [Mc.crcReg]⟩
  case round =>
    obtain ⟨k, hk, rfl, rfl⟩ := hrel
    have hy := Mc.crcReg_lt (s.data.toList.take k) hxl
    by_cases hlt : k < s.size
    · have HS : Hid (Mc.crcReg x (s.data.toList.take (k + 1)) = Mc.crcByte (Mc.crcReg x (s.data.toList.take k)) s[k]) := reg_succ x s k hlt
      go_wp2_with (first | (go_at_call 124; refine (step_impl _ _ _ hy).mono ?_; rintro e w' ⟨rfl, rfl⟩))
      go_round
      case rel => exact ⟨k + 1, by omega, by go_num, by rw [HS.out]⟩
      case measure => simp [intOf]; omega
    · obtain rfl : k = s.size := by omega
      have ht : s.data.toList.take s.size = s.data.toList := List.take_of_length_le (by simp)
      rw [ht] at hy ⊢
      have hx2 := max_xor _ hy
      have hyl := Mc.xor_lt hy (show 4294967295 < 4294967296 by omega)
      go_wp2
      go_ret
      exact ⟨by rw [HB.out]; rfl, rfl⟩

/-- What Crc answers. -/
def crc (s : ByteArray) : Nat := if 8000 < s.size then 0 else Mc.crcMore 0 s.data.toList
theorem crc_more (s : ByteArray) : crc s = more 0 s := by
  unfold crc more
  by_cases h : 8000 < s.size <;> simp [h]


set_option maxRecDepth 100000 in
theorem only_impl (s : ByteArray) (w : World) (hs : s.size ≤ maxLen) :
    Calls Tryd.prog 85 #[.string s] w fun e w' => e = .returned (.int .i64 (crc s : Nat)) ∧ w = w' := by
  rw [crc_more]
  go_enter Tryd.func85, Tryd.ntmps85
  go_wp2_with fail
  refine (more_impl 0 s _ (by omega) (by omega) hs).mono ?_
  rintro e w1 ⟨rfl, rfl⟩
  go_wp2
  go_ret
  exact ⟨rfl, rfl⟩

end Go.Proofs.YteehgicnfageiaaDoor.C5

/-
  What Seal and Unseal answer, in the specification and in the program.
-/
namespace Go.Proofs.YteehgicnfageiaaDoor.C6
open Go.RowKit
open Go.Proofs.YteehgicnfageiaaDoor.C0

/-- The four bytes of a number, the lowest first. -/
def four (n : Nat) : List UInt8 := [UInt8.ofNat n, UInt8.ofNat (n / 256), UInt8.ofNat (n / 65536), UInt8.ofNat (n / 16777216)]
def sealed (l : List UInt8) : List UInt8 := l ++ four (Mc.crcMore 0 l)
/-- What Seal answers. -/
def sealOf (s : ByteArray) : List UInt8 := if 7996 < s.size then [] else sealed s.data.toList

theorem owns_lit (base : Nat) (w : World) (l : List UInt8) (cs : Array Value) (n : Nat) (hb : base ≤ w.heap.size) (hn : l.length = n) (hm : n ≤ maxLen) (hc : cs.toList = (Mb.cells l).map (Value.int .u8)) :
    owns base (.slice (some ⟨w.heap.size, 0, none⟩) n n) l (w.alloc (.cells cs 5)) := by
  subst hn
  unfold owns
  rw [← hc]
  refine World.ownsRow_lit w cs l.length hb hm ?_
  have := congrArg List.length hc
  simpa [Mb.cells] using this

theorem four_cells (n : Nat) (hn : n < 4294967296) :
    [Value.int .u8 ((n : Int) % 256), .int .u8 ((n : Int) / 256 % 256), .int .u8 ((n : Int) / 65536 % 256), .int .u8 ((n : Int) / 16777216)] = (Mb.cells (four n)).map (Value.int .u8) := by
  simp only [Mb.cells, four, List.map_cons, List.map_nil, UInt8.toNat_ofNat', List.cons.injEq, Value.int.injEq, and_true, true_and]
  omega
theorem four_cells' (n : Nat) (hn : n < 4294967296) :
    [Value.int .u8 ((n : Int) % 256), .int .u8 ((n : Int) / 256 % 256), .int .u8 ((n : Int) / 256 / 256 % 256), .int .u8 ((n : Int) / 256 / 256 / 256)] = (Mb.cells (four n)).map (Value.int .u8) := by
  rw [← four_cells n hn]
  simp only [List.cons.injEq, Value.int.injEq, and_true, true_and]
  omega

set_option maxRecDepth 100000 in
theorem four_spec (n : Nat) (w : World) (hn : n < 4294967296) :
    Calls Tryd.prog 87 #[.int .i64 n] w fun e w' => e = .returned (.string ⟨(four n).toArray⟩) ∧ Below w.heap.size w w' := by
  have hconv := conv_own (owns_lit w.heap.size w (four n) #[Value.int .u8 ((n : Int) % 256), .int .u8 ((n : Int) / 256 % 256), .int .u8 ((n : Int) / 65536 % 256), .int .u8 ((n : Int) / 16777216)] 4 (Nat.le_refl _) rfl (by decide) (four_cells n hn))
  go_enter Tryd.func87, Tryd.ntmps87
  go_wp2
  go_ret
  exact ⟨rfl, (Below.refl _ _).alloc (Nat.le_refl _) _⟩

theorem size_mk (l : List UInt8) : (⟨l.toArray⟩ : ByteArray).size = l.length := by simp [ByteArray.size]
theorem join_text (s : ByteArray) (a : List UInt8) : s ++ (⟨a.toArray⟩ : ByteArray) = ⟨(s.data.toList ++ a).toArray⟩ := by
  apply ByteArray.ext
  simp [ByteArray.data_append]
theorem seal_no {s : ByteArray} (h : 7996 < s.size) : sealOf s = [] := by simp [sealOf, h]
theorem seal_yes {s : ByteArray} (h : ¬ 7996 < s.size) : sealOf s = s.data.toList ++ four (Mc.crcMore 0 s.data.toList) := by simp [sealOf, sealed, h]

set_option maxRecDepth 100000 in
theorem seal_spec (s : ByteArray) (w : World) (hs : s.size ≤ maxLen) :
    Calls Tryd.prog 56 #[.string s] w fun e w' => e = .returned (.string ⟨(sealOf s).toArray⟩) ∧ Below w.heap.size w w' := by
  unfold maxLen at hs
  by_cases h : 7996 < s.size
  · rw [seal_no h]
    go_enter Tryd.func56, Tryd.ntmps56
    go_wp2
    go_ret
    exact ⟨rfl, Below.refl _ _⟩
  · have HS : Hid (sealOf s = s.data.toList ++ four (Mc.crcMore 0 s.data.toList)) := seal_yes h
    have hlt := Mc.crcMore_lt 0 s.data.toList (by omega)
    have hcc : s.size + (⟨(four (Mc.crcMore 0 s.data.toList)).toArray⟩ : ByteArray).size ≤ 9223372036854775807 := by rw [size_mk (four _)]; simp [four]; omega
    go_enter Tryd.func56, Tryd.ntmps56
    go_wp2_with fail
    refine (C5.crc_spec 0 s _ (by omega) (by omega)).mono ?_
    rintro e w1 ⟨rfl, rfl⟩
    go_wp2_with fail
    refine (four_spec _ _ hlt).mono ?_
    rintro e w1 ⟨rfl, hb1⟩
    go_wp2
    go_ret
    exact ⟨by rw [HS.out, ← join_text]; rfl, hb1⟩

theorem made4 (w : World) : (Instr.makeSlice 22 (.int .i64 4) (.int .i64 4)).run Tryd.prog w = .ok (.slice (some ⟨w.heap.size, 0, none⟩) 4 4) (w.alloc (.cells #[.int .u8 0, .int .u8 0, .int .u8 0, .int .u8 0] 5)) := by kernel_rfl

set_option maxRecDepth 100000 in
set_option maxHeartbeats 800000 in
theorem seal_impl (s : ByteArray) (w : World) (hs : s.size ≤ maxLen) :
    Calls Tryd.prog 51 #[.string s] w fun e w' => e = .returned (.string ⟨(sealOf s).toArray⟩) ∧ Below w.heap.size w w' := by
  have hs' := hs
  unfold maxLen at hs
  by_cases h : 7996 < s.size
  · rw [seal_no h]
    go_enter Tryd.func51, Tryd.ntmps51
    go_wp2
    go_ret
    exact ⟨rfl, Below.refl _ _⟩
  · have HS : Hid (sealOf s = s.data.toList ++ four (Mc.crcMore 0 s.data.toList)) := seal_yes h
    have hcr : Hid (C5.crc s = Mc.crcMore 0 s.data.toList) := by unfold Hid C5.crc; rw [if_neg (by omega)]
    have hlt := Mc.crcMore_lt 0 s.data.toList (by omega)
    have hmk := made4
    go_enter Tryd.func51, Tryd.ntmps51
    go_wp2_with fail
    refine (C5.only_impl s _ hs').mono ?_
    rintro e w1 ⟨rfl, rfl⟩
    rw [hcr.out]
    clear hcr
    generalize Mc.crcMore 0 s.data.toList = n at *
    have hconv := conv_own (owns_lit w.heap.size w (four n) #[Value.int .u8 ((n : Int) % 256), .int .u8 ((n : Int) / 256 % 256), .int .u8 ((n : Int) / 256 / 256 % 256), .int .u8 ((n : Int) / 256 / 256 / 256)] 4 (Nat.le_refl _) rfl (by decide) (four_cells' n hlt))
    go_wp2_with fail
    refine wp_loop_rounds 5 ?_
    iterate 5 (rw [rounds_succ]; go_wp2_with fail)
    refine (C2.joined_any (w.heap.size + 1) 0 2 2 [s, ⟨(four n).toArray⟩] _ rfl (by simp) (by omega) ?_ ?_).mono ?_
    · show s.size + ((⟨(four n).toArray⟩ : ByteArray).size + 0) ≤ 1000000
      rw [size_mk (four n)]; simp [four]; omega
    · intro j hj
      match j, hj with
      | 0, _ => go_simp
      | 1, _ => go_simp
    rintro e w2 ⟨rfl, hb2⟩
    go_wp2
    go_ret
    refine ⟨?_, (((Below.refl _ _).alloc (Nat.le_refl _) _).alloc (by simp) _).trans (hb2.mono (by simp; omega))⟩
    rw [HS.out]; simp [C2.cat]
end Go.Proofs.YteehgicnfageiaaDoor.C6

/-
  What Unseal answers, in the specification and in the program.
-/
namespace Go.Proofs.YteehgicnfageiaaDoor.C7
open Go.RowKit
open Go.Proofs.YteehgicnfageiaaDoor.C0

def body (s : ByteArray) : ByteArray := s.extract 0 (s.size - 4)
def out (t : ByteArray) (code : Int) : Value := .agg #[.string t, .int .i64 0, .int .i64 code]
/-- The last four bytes are those of the CRC of the others. -/
def okB (s : ByteArray) : Bool := C6.four (Mc.crcMore 0 (s.data.toList.take (s.size - 4))) == s.data.toList.drop (s.size - 4)
/-- What Unseal answers: the text, the place, the code. -/
def opened (s : ByteArray) : Value :=
  if 8000 < s.size then out ⟨#[]⟩ 2 else if s.size < 4 then out ⟨#[]⟩ 4 else if okB s = true then out (body s) 0 else out ⟨#[]⟩ 5
theorem okB_spec (s : ByteArray) : (C6.four (Mc.crcMore 0 (List.take (s.size - 4) s.data.toList)) == (s.extract (s.size - 4) s.size).toList) = okB s := by
  unfold okB
  rw [ByteArray.toList_eq, Lib.extract_to_end]

set_option maxRecDepth 100000 in
set_option maxHeartbeats 400000 in
theorem spec_any (s : ByteArray) (w : World) (hs : s.size ≤ maxLen) :
    Calls Tryd.prog 55 #[.string s] w fun e w' => e = .returned (opened s) ∧ Below w.heap.size w w' := by
  have hs' := hs
  unfold maxLen at hs
  by_cases h1 : 8000 < s.size
  · have HU : opened s = out ⟨#[]⟩ 2 := by simp [opened, h1]
    rw [HU]
    go_enter Tryd.func55, Tryd.ntmps55
    go_wp2
    exact bodyPost_ret (v := out ⟨#[]⟩ 2) (by simp [results, Tryd.results55, go_sem, out]) rfl ⟨rfl, (Below.refl _ _).alloc (Nat.le_refl _) _⟩
  by_cases h2 : s.size < 4
  · have HU : opened s = out ⟨#[]⟩ 4 := by simp [opened, h1, h2]
    rw [HU]
    go_enter Tryd.func55, Tryd.ntmps55
    go_wp2
    exact bodyPost_ret (v := out ⟨#[]⟩ 4) (by simp [results, Tryd.results55, go_sem, out]) rfl ⟨rfl, (Below.refl _ _).alloc (Nat.le_refl _) _⟩
  have HU : Hid (opened s = if okB s then out (body s) 0 else out ⟨#[]⟩ 5) := by simp [Hid, opened, h1, h2]
  have h4 : (4 : Int) ≤ (s.size : Int) := by omega
  have hwr : IntKind.i64.wrap ((s.size : Int) - 4) = (s.size : Int) - 4 := by rw [IntKind.wrap_i64]; omega
  have hsl : ∀ wx, (Instr.slice 9 (.string s) (some (.int .i64 ((s.size : Int) - 4))) none none).run Tryd.prog wx = .ok (.string (s.extract (s.size - 4) s.size)) wx := by
    intro wx
    rw [run_slice_string_from_if wx 9 s .i64 _ Tryd.underlying9, if_pos ⟨by omega, by omega⟩, show ((s.size : Int) - 4).toNat = s.size - 4 by omega]
  have hbs : (s.extract 0 (s.size - 4)).size ≤ 8000 := by simp; omega
  have hlt := Mc.crcMore_lt 0 (s.extract 0 (s.size - 4)).data.toList (by omega)
  go_enter Tryd.func55, Tryd.ntmps55
  go_wp2
  clear hs hs'
  go_region_with (first
    | (go_at_call 88; refine (C5.crc_spec 0 _ _ (by omega) hbs).mono ?_; rintro e w1 ⟨rfl, rfl⟩)
    | (go_at_call 87; refine (C6.four_spec _ _ ?_).mono ?_; exact Mc.crcMore_lt 0 _ (by omega); rintro e w1 ⟨rfl, hb1⟩))
  have hz : w.heap.size < w1.heap.size := by have := hb1.size; simp at this; omega
  obtain ⟨hc, hf⟩ := bcell hb1
  have hbel : Below w.heap.size w w1 := (((Below.refl _ _).alloc (Nat.le_refl _) _).drew).trans (hb1.mono (by simp))
  rw [okB_spec s]
  cases hok : okB s with
  | true =>
    have HU2 : Hid (opened s = out (s.extract 0 (s.size - 4)) 0) := by rw [hok] at HU; exact HU.out
    clear HU hok hb1
    go_wp2
    exact bodyPost_ret (v := out (s.extract 0 (s.size - 4)) 0) (by simp [results, Tryd.results55, go_sem, out, hc]) rfl ⟨by rw [HU2.out], ((hbel.setCell (by simp) _).setCell (by simp) _).setCell (by simp) _⟩
  | false =>
    have HU2 : Hid (opened s = out ⟨#[]⟩ 5) := by rw [hok] at HU; exact HU.out
    clear HU hok hb1
    go_wp2
    exact bodyPost_ret (v := out ⟨#[]⟩ 5) (by simp [results, Tryd.results55, go_sem, out, hc]) rfl ⟨by rw [HU2.out], ((hbel.setCell (by simp) _).setCell (by simp) _).setCell (by simp) _⟩

theorem body_data (s : ByteArray) : (s.extract 0 (s.size - 4)).data.toList = s.data.toList.take (s.size - 4) := by
  rw [Lib.extract_data]; simp
theorem okB_impl (s : ByteArray) (h4 : 4 ≤ s.size) (h8 : s.size ≤ 8000) : (C6.sealOf (s.extract 0 (s.size - 4)) == s.toList) = okB s := by
  have hz : (s.extract 0 (s.size - 4)).size = s.size - 4 := by simp
  rw [C6.seal_yes (by omega), body_data, ByteArray.toList_eq]
  unfold okB
  have e : s.data.toList = s.data.toList.take (s.size - 4) ++ s.data.toList.drop (s.size - 4) := (List.take_append_drop _ _).symm
  rw [Bool.eq_iff_iff, beq_iff_eq, beq_iff_eq]
  constructor
  · intro h
    conv at h => rhs; rw [e]
    exact List.append_cancel_left h
  · intro h
    rw [h, ← e]
theorem cat_one (b : ByteArray) : (⟨(C2.cat [b]).toArray⟩ : ByteArray) = b := by simp [C2.cat]

set_option maxRecDepth 100000 in
set_option maxHeartbeats 400000 in
theorem impl_any (s : ByteArray) (w : World) (hs : s.size ≤ maxLen) :
    Calls Tryd.prog 57 #[.string s] w fun e w' => e = .returned (opened s) ∧ Below w.heap.size w w' := by
  have hs' := hs
  unfold maxLen at hs
  by_cases h1 : 8000 < s.size
  · have HU : opened s = out ⟨#[]⟩ 2 := by simp [opened, h1]
    rw [HU]
    go_enter Tryd.func57, Tryd.ntmps57
    go_wp2
    exact bodyPost_ret (v := out ⟨#[]⟩ 2) (by simp [results, Tryd.results57, go_sem, out]) rfl ⟨rfl, (Below.refl _ _).alloc (Nat.le_refl _) _⟩
  by_cases h2 : s.size < 4
  · have HU : opened s = out ⟨#[]⟩ 4 := by simp [opened, h1, h2]
    rw [HU]
    go_enter Tryd.func57, Tryd.ntmps57
    go_wp2
    exact bodyPost_ret (v := out ⟨#[]⟩ 4) (by simp [results, Tryd.results57, go_sem, out]) rfl ⟨rfl, (Below.refl _ _).alloc (Nat.le_refl _) _⟩
  have HU : Hid (opened s = if okB s then out (body s) 0 else out ⟨#[]⟩ 5) := by simp [Hid, opened, h1, h2]
  have HK : Hid ((C6.sealOf (s.extract 0 (s.size - 4)) == s.toList) = okB s) := okB_impl s (by omega) (by omega)
  have hbs : (s.extract 0 (s.size - 4)).size ≤ maxLen := by unfold maxLen; simp; omega
  have hbs2 : (s.extract 0 (s.size - 4)).size ≤ 8000 := by simp; omega
  go_enter Tryd.func57, Tryd.ntmps57
  go_wp2_with fail
  refine (C6.seal_impl _ _ hbs).mono ?_
  rintro e w1 ⟨rfl, hb1⟩
  have hbo : Below (w.heap.size + 1) _ w1 := hb1.mono (by simp)
  obtain ⟨q0, q1, q2, qf, hz⟩ := kept3 hbo
  have hbel : Below w.heap.size w w1 := ((Below.refl _ _).alloc (Nat.le_refl _) _).trans (hb1.mono (by simp))
  cases hok : okB s with
  | true =>
    have HU2 : Hid (opened s = out (s.extract 0 (s.size - 4)) 0) := by rw [hok] at HU; exact HU.out
    have hk := HK.out
    rw [hok] at hk
    clear HU hok hb1 HK
    go_wp2_with fail
    refine (C2.joined_any w1.heap.size 0 1 1 [s.extract 0 (s.size - 4)] _ rfl (by simp) (by omega) ?_ ?_).mono ?_
    · show (s.extract 0 (s.size - 4)).size + 0 ≤ 1000000
      omega
    · intro j hj
      match j, hj with
      | 0, _ => go_simp
    rintro e w2 ⟨rfl, hb2⟩
    rw [cat_one]
    have hb3 : Below w.heap.size w w2 := (hbel.alloc (by omega) _).trans (hb2.mono (by simp; omega))
    obtain ⟨r0, r1, r2, rf, hz2⟩ := kept3 ((hbo.alloc (by omega) _).trans (hb2.mono (by simp; omega)))
    clear hb2 q0 q1 q2 qf hz hbo
    go_wp2
    exact bodyPost_ret (v := out (s.extract 0 (s.size - 4)) 0) (by simp [results, Tryd.results57, go_sem, out, r0, r1, r2]) rfl ⟨by rw [HU2.out], ((hb3.setCell (by simp) _).setCell (by simp) _).setCell (by simp) _⟩
  | false =>
    have HU2 : Hid (opened s = out ⟨#[]⟩ 5) := by rw [hok] at HU; exact HU.out
    have hk := HK.out
    rw [hok] at hk
    clear HU hok hb1 HK hbo
    go_wp2
    exact bodyPost_ret (v := out ⟨#[]⟩ 5) (by simp [results, Tryd.results57, go_sem, out, q0, q1, q2]) rfl ⟨by rw [HU2.out], ((hbel.setCell (by simp) _).setCell (by simp) _).setCell (by simp) _⟩
end Go.Proofs.YteehgicnfageiaaDoor.C7

/-
  A sealed text is opened again; with one byte turned it is refused.
-/
namespace Go.Proofs.YteehgicnfageiaaDoor.C8
open Go.RowKit
open Go.Proofs.YteehgicnfageiaaDoor.C7

theorem mk_size (l : List UInt8) : (⟨l.toArray⟩ : ByteArray).size = l.length := by simp [ByteArray.size]
theorem four_len (n : Nat) : (C6.four n).length = 4 := rfl
theorem four_inj {a b : Nat} (ha : a < 4294967296) (hb : b < 4294967296) (h : C6.four a = C6.four b) : a = b := by
  simp only [C6.four, List.cons.injEq, and_true] at h
  obtain ⟨h0, h1, h2, h3⟩ := h
  have e : ∀ x y : Nat, UInt8.ofNat x = UInt8.ofNat y → x % 256 = y % 256 := by
    intro x y hxy
    have := congrArg UInt8.toNat hxy
    simpa [UInt8.toNat_ofNat'] using this
  have := e _ _ h0
  have := e _ _ h1
  have := e _ _ h2
  have := e _ _ h3
  omega
theorem seal_list {t : ByteArray} (h : t.size ≤ 7996) : C6.sealOf t = t.data.toList ++ C6.four (Mc.crcMore 0 t.data.toList) := C6.seal_yes (by omega)
theorem seal_len {t : ByteArray} (h : t.size ≤ 7996) : (C6.sealOf t).length = t.size + 4 := by
  rw [seal_list h, List.length_append, four_len]; rfl
theorem data_len (t : ByteArray) : t.data.toList.length = t.size := rfl

theorem opened_seal {t : ByteArray} (h : t.size ≤ 7996) : opened ⟨(C6.sealOf t).toArray⟩ = out t 0 := by
  have hs : (⟨(C6.sealOf t).toArray⟩ : ByteArray).size = t.size + 4 := by rw [mk_size, seal_len h]
  unfold opened
  rw [if_neg (by omega), if_neg (by omega)]
  have hk : okB ⟨(C6.sealOf t).toArray⟩ = true := by
    unfold okB
    rw [hs, Nat.add_sub_cancel]
    simp only [seal_list h]
    rw [List.take_left' (data_len t), List.drop_left' (data_len t)]
    exact beq_self_eq_true _
  rw [if_pos hk]
  unfold body
  rw [hs, Nat.add_sub_cancel]
  congr 1
  apply ByteArray.ext
  apply Array.ext'
  rw [Lib.extract_data]
  simp only [seal_list h, List.drop_zero, Nat.sub_zero]
  exact List.take_left' (data_len t)

theorem opened_turned {t : ByteArray} (h : t.size ≤ 7996) (i : Nat) (hi : i < (C6.sealOf t).length) (c : UInt8) (hc : c ≠ (C6.sealOf t)[i]) :
    opened ⟨((C6.sealOf t).set i c).toArray⟩ = out ⟨#[]⟩ 5 := by
  have hl := seal_len h
  have hs : (⟨((C6.sealOf t).set i c).toArray⟩ : ByteArray).size = t.size + 4 := by rw [mk_size, List.length_set, hl]
  unfold opened
  rw [if_neg (by omega), if_neg (by omega)]
  have hk : okB ⟨((C6.sealOf t).set i c).toArray⟩ = false := by
    unfold okB
    rw [hs, Nat.add_sub_cancel, List.toList_toArray, beq_eq_false_iff_ne]
    have e := seal_list h
    intro heq
    by_cases hit : i < t.size
    · have hd : ((C6.sealOf t).set i c).drop t.size = C6.four (Mc.crcMore 0 t.data.toList) := by
        rw [List.drop_set_of_lt hit, e, List.drop_left' (data_len t)]
      have ht : ((C6.sealOf t).set i c).take t.size = t.data.toList.set i c := by
        rw [e, List.set_append_left _ _ hit, List.take_left' (by rw [List.length_set]; rfl)]
      rw [hd, ht] at heq
      have hlt : ∀ l : List UInt8, Mc.crcMore 0 l < 4294967296 := fun l => Mc.crcMore_lt 0 l (by omega)
      refine Mc.crcMore_set t.data.toList i c hit ?_ (four_inj (hlt _) (hlt _) heq)
      have : (C6.sealOf t)[i] = t.data.toList[i] := by simp only [e]; exact List.getElem_append_left hit
      rw [← this]; exact hc
    · have ht : ((C6.sealOf t).set i c).take t.size = t.data.toList := by
        rw [List.take_set_of_le (by omega), e, List.take_left' (data_len t)]
      have hd : ((C6.sealOf t).set i c).drop t.size = (C6.four (Mc.crcMore 0 t.data.toList)).set (i - t.size) c := by
        rw [e, List.set_append_right _ _ (by rw [data_len]; omega), List.drop_left' (data_len t), data_len]
      rw [hd, ht] at heq
      have hj : i - t.size < (C6.four (Mc.crcMore 0 t.data.toList)).length := by rw [four_len]; omega
      have h1 : (C6.four (Mc.crcMore 0 t.data.toList))[i - t.size] = c := by
        have := congrArg (fun l => l[i - t.size]?) heq
        simp only [List.getElem?_set_self hj, List.getElem?_eq_getElem hj] at this
        exact Option.some.inj this
      apply hc
      rw [← h1]
      simp only [e]
      rw [List.getElem_append_right (by rw [data_len]; omega)]
      rfl
  rw [hk]; rfl
end Go.Proofs.YteehgicnfageiaaDoor.C8
