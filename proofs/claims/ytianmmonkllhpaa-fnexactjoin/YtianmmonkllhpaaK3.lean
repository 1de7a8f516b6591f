/-
  The text filled up to whole blocks, as the program lays it.
-/
import Derived.Test.YtianmmonkllhpaaC9
import Derived.Test.YtianmmonkllhpaaM7
import Derived.Lib.BufferWrite
namespace Go.Proofs.Ytianmmonkllhpaa.K3
open Go.RowKit
open Go.Proofs.Ytianmmonkllhpaa.C0
open Go.Lib (run_copy_row_string)

abbrev byt (n : Nat) : Value := .int .u8 (n : Int)
abbrev bytesOf (s : ByteArray) : List UInt8 := s.data.toList
/-- What holds at the head of a round that lays a byte of the length. -/
def Rel (l : List UInt8) (w0 : World) (n : Nat) (x i : Value) (w : World) : Prop :=
  ∃ (k : Nat) (f : Nat → Value), k ≤ 8 ∧ i = .int .i64 k ∧ x = .int .u64 ((8 * l.length / 256 ^ k : Nat) : Int) ∧ w.rowIs w0.heap.size 5 n f ∧ (∀ j, j < n - 8 → f j = byt (Ms.byteAt (Ms.pad l) j)) ∧ (∀ j, n - k ≤ j → j < n → f j = byt (Ms.byteAt (Ms.pad l) j)) ∧ Below w0.heap.size w0 w

theorem made_row (w : World) (n : Nat) (t : TypeId) (s : ByteArray) (hs : s.size ≤ n) :
    ((w.alloc (.cells (madeCells #[Value.int .u8 0] n) t)).setRow w.heap.size ((madeCells #[Value.int .u8 0] n).toList.take 0 ++ Lib.byteCells s.data.toList ++ (madeCells #[Value.int .u8 0] n).toList.drop (0 + s.size)).toArray).rowIs w.heap.size t n
      (fun j => byt (Ms.byteAt (bytesOf s) j)) := by
  refine ⟨_, setRow_heap _ _ _ _ _ _ (Go.Deep.blk_alloc_new _ _), ?_, ?_⟩
  · simp [toList_madeCells_one, Lib.byteCells]; omega
  · intro i hi
    rw [toList_madeCells_one]
    simp only [List.take_zero, List.nil_append, Nat.zero_add, List.drop_replicate, List.getElem?_toArray]
    by_cases h : i < s.size
    · have hl : i < (bytesOf s).length := by simpa using h
      rw [List.getElem?_append_left (by simpa [Lib.byteCells] using h), Ms.byteAt_eq _ _ hl]
      simp [Lib.byteCells, h]
    · have hl : ¬ i < (bytesOf s).length := by simpa using h
      have e : Ms.byteAt (bytesOf s) i = 0 := by
        unfold Ms.byteAt
        rw [List.getD_eq_getElem?_getD, List.getElem?_eq_none (by omega)]; rfl
      rw [e, List.getElem?_append_right (by simp [Lib.byteCells]; omega)]
      have h2 : i - (Lib.byteCells s.data.toList).length < n - s.size := by simp [Lib.byteCells]; omega
      rw [List.getElem?_replicate, if_pos h2]; rfl

theorem Rel.start {s : ByteArray} {w0 W : World} {n : Nat} (hn : 64 * Ms.blocks s.size = n) (hrow : W.rowIs w0.heap.size 5 n (fun j => byt (Ms.byteAt (bytesOf s) j))) (hbel : Below w0.heap.size w0 W) :
    Rel (bytesOf s) w0 n (.int .u64 ((s.size : Int) * 8)) (.int .i64 0) (W.setCell ⟨w0.heap.size, s.size, none⟩ (.int .u8 128)) := by
  have hl : (bytesOf s).length = s.size := by simp
  refine ⟨0, _, by omega, rfl, ?_, hrow.set _ _, fun j hj => ?_, fun j h1 h2 => by omega, hbel.setCell (Nat.le_refl _) _⟩
  · rw [hl]; simp; omega
  · show (if j = s.size then _ else byt (Ms.byteAt (bytesOf s) j)) = _
    by_cases h : j = s.size
    · rw [if_pos h, h, ← hl, Ms.pad_mark]; rfl
    · rw [if_neg h]
      rcases Nat.lt_or_ge j s.size with h2 | h2
      · rw [Ms.pad_low _ _ (by omega)]
      · rw [Ms.pad_zero _ _ (by omega) (by rw [hl, hn]; exact hj)]
        have e : Ms.byteAt (bytesOf s) j = 0 := by
          unfold Ms.byteAt
          rw [List.getD_eq_getElem?_getD, List.getElem?_eq_none (by omega)]; rfl
        rw [e]
theorem Rel.step {l : List UInt8} {w0 w : World} {n k : Nat} {f : Nat → Value} (hk : k < 8) (hn : 64 * Ms.blocks l.length = n) (hrow : w.rowIs w0.heap.size 5 n f) (hlo : ∀ j, j < n - 8 → f j = byt (Ms.byteAt (Ms.pad l) j))
    (hhi : ∀ j, n - k ≤ j → j < n → f j = byt (Ms.byteAt (Ms.pad l) j)) (hbel : Below w0.heap.size w0 w) :
    Rel l w0 n (.int .u64 ((8 * l.length / 256 ^ k / 256 : Nat) : Int)) (.int .i64 ((k + 1 : Nat) : Int)) (w.setCell ⟨w0.heap.size, n - 1 - k, none⟩ (byt (8 * l.length / 256 ^ k % 256))) := by
  have hr := Ms.blocks_room l.length
  refine ⟨k + 1, _, by omega, rfl, by rw [Nat.div_div_eq_div_mul, Nat.pow_succ], hrow.set _ _, fun j hj => ?_, fun j h1 h2 => ?_, hbel.setCell (Nat.le_refl _) _⟩
  · show (if j = n - 1 - k then _ else f j) = _
    rw [if_neg (by omega)]; exact hlo j hj
  · show (if j = n - 1 - k then _ else f j) = _
    by_cases h : j = n - 1 - k
    · rw [if_pos h, h, ← hn, Ms.pad_len l k hk]
    · rw [if_neg h]; exact hhi j (by omega) h2

end Go.Proofs.Ytianmmonkllhpaa.K3
