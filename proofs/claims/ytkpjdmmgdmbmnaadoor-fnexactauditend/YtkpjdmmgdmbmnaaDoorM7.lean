/-
  The bytes of a text that is filled up to whole blocks, place by place. No program is named here.
-/
import Derived.Test.YtkpjdmmgdmbmnaaDoorM6
namespace Go.Proofs.YtkpjdmmgdmbmnaaDoor.Ms

theorem byteAt_eq (l : List UInt8) (j : Nat) (h : j < l.length) : byteAt l j = l[j].toNat := by simp [byteAt, List.getD, h]
theorem byteAt_left (l r : List UInt8) (j : Nat) (h : j < l.length) : byteAt (l ++ r) j = byteAt l j := by
  simp [byteAt, List.getD, List.getElem?_append_left h]
theorem byteAt_right (l r : List UInt8) (j : Nat) : byteAt (l ++ r) (l.length + j) = byteAt r j := by
  simp [byteAt, List.getD, List.getElem?_append_right]
theorem byteAt_zeros (n j : Nat) : byteAt (List.replicate n 0) j = 0 := by
  by_cases h : j < n
  · simp [byteAt, List.getD, h]
  · simp [byteAt, List.getD, h]
theorem byteAt_be8 (n i : Nat) (h : i < 8) : byteAt (be8 n) (7 - i) = n / 256 ^ i % 256 := by
  match i, h with
  | 0, _ => simp [byteAt, be8]
  | 1, _ => simp [byteAt, be8]
  | 2, _ => simp [byteAt, be8]
  | 3, _ => simp [byteAt, be8]
  | 4, _ => simp [byteAt, be8]
  | 5, _ => simp [byteAt, be8]
  | 6, _ => simp [byteAt, be8]
  | 7, _ => simp [byteAt, be8]
theorem pad_low (l : List UInt8) (j : Nat) (h : j < l.length) : byteAt (pad l) j = byteAt l j := byteAt_left _ _ _ h
theorem pad_mark (l : List UInt8) : byteAt (pad l) l.length = 128 := by
  have := byteAt_right l (128 :: (List.replicate (64 * blocks l.length - 9 - l.length) 0 ++ be8 (8 * l.length))) 0
  rw [Nat.add_zero] at this
  exact this
theorem byteAt_cons (x : UInt8) (l : List UInt8) (j : Nat) : byteAt (x :: l) (j + 1) = byteAt l j := by simp [byteAt]
theorem pad_zero (l : List UInt8) (j : Nat) (h1 : l.length < j) (h2 : j < 64 * blocks l.length - 8) : byteAt (pad l) j = 0 := by
  obtain ⟨m, rfl⟩ : ∃ m, j = l.length + (m + 1) := ⟨j - l.length - 1, by omega⟩
  unfold pad
  rw [byteAt_right, byteAt_cons, byteAt_left _ _ _ (by simp; omega), byteAt_zeros]
theorem pad_len (l : List UInt8) (i : Nat) (h : i < 8) : byteAt (pad l) (64 * blocks l.length - 1 - i) = 8 * l.length / 256 ^ i % 256 := by
  have hr := blocks_room l.length
  obtain ⟨m, hm⟩ : ∃ m, 64 * blocks l.length - 9 - l.length = m := ⟨_, rfl⟩
  rw [show 64 * blocks l.length - 1 - i = l.length + ((m + (7 - i)) + 1) by omega]
  unfold pad
  rw [hm, byteAt_right, byteAt_cons]
  have := byteAt_right (List.replicate m 0) (be8 (8 * l.length)) (7 - i)
  rw [List.length_replicate] at this
  rw [this, byteAt_be8 _ i h]
/-- A list of bytes by its places. -/
theorem byteAt_drop (l : List UInt8) (k j : Nat) : byteAt (l.drop k) j = byteAt l (k + j) := by simp [byteAt, List.getD]
theorem byteAt_take (l : List UInt8) (k j : Nat) (h : j < k) : byteAt (l.take k) j = byteAt l j := by simp [byteAt, List.getD, h]
end Go.Proofs.YtkpjdmmgdmbmnaaDoor.Ms
