/-
  The laws' marks, as texts of numbers.
-/

namespace Go.Proofs.YtianmmonkllhpaaDoor.Mk
def digs : Nat → Nat → List UInt8 → List UInt8
  | 0, _, acc => acc
  | f + 1, k, acc => if k = 0 then acc else digs f (k / 10) (UInt8.ofNat (48 + k % 10) :: acc)
/-- The mark of the number k. -/
def markOf (k : Nat) : ByteArray := ⟨((109 : UInt8) :: digs 10 k []).toArray⟩
theorem digs_step (f k : Nat) (acc : List UInt8) (hk : 0 < k) : digs (f + 1) k acc = digs f (k / 10) (UInt8.ofNat (48 + k % 10) :: acc) := by
  simp [digs]; omega
theorem digs_zero (f : Nat) (acc : List UInt8) : digs f 0 acc = acc := by cases f <;> simp [digs]
/-- Marks from k on, n of them. -/
def marksS (k : Nat) : Nat → List ByteArray
  | 0 => []
  | n + 1 => markOf k :: marksS (k + 1) n
def marksP (k : Nat) : Nat → List (Int × ByteArray)
  | 0 => []
  | n + 1 => ((k : Int), markOf (k + 1)) :: marksP (k + 2) n
theorem marksS_length : ∀ (n k : Nat), (marksS k n).length = n
  | 0, _ => rfl
  | n + 1, k => by simp [marksS, marksS_length n]
theorem marksP_length : ∀ (n k : Nat), (marksP k n).length = n
  | 0, _ => rfl
  | n + 1, k => by simp [marksP, marksP_length n]
theorem marksS_at : ∀ (n k i : Nat), i < n → (marksS k n)[i]? = some (markOf (k + i))
  | 0, _, _, h => by omega
  | n + 1, k, 0, _ => by simp [marksS]
  | n + 1, k, i + 1, h => by
    simp only [marksS, List.getElem?_cons_succ]
    rw [marksS_at n (k + 1) i (by omega), show k + 1 + i = k + (i + 1) by omega]
theorem marksP_at : ∀ (n k i : Nat), i < n → (marksP k n)[i]? = some (((k + i * 2 : Nat) : Int), markOf (k + i * 2 + 1))
  | 0, _, _, h => by omega
  | n + 1, k, 0, _ => by simp [marksP]
  | n + 1, k, i + 1, h => by
    simp only [marksP, List.getElem?_cons_succ]
    rw [marksP_at n (k + 2) i (by omega), show k + 2 + i * 2 = k + (i + 1) * 2 by omega]
end Go.Proofs.YtianmmonkllhpaaDoor.Mk
