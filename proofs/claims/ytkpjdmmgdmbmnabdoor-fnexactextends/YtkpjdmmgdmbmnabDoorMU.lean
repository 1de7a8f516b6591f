/-
  A product of two elements is one of both the other way round; sums as they are reckoned.
-/
import Derived.Test.YtkpjdmmgdmbmnabDoorMT
namespace Go.Proofs.YtkpjdmmgdmbmnabDoor.Gu
open Go.Proofs.YtkpjdmmgdmbmnabDoor.Gf (swap4 zero_of_bits)
theorem comm_bit : ∀ a, a < 256 → ∀ t, t < 8 → Gf.mul a (2 ^ t) = Gf.mul (2 ^ t) a := by decide +kernel
theorem mul_comm (a b : Nat) (ha : a < 256) (hb : b < 256) : Gf.mul a b = Gf.mul b a := by
  have key : Gf.mul a b ^^^ Gf.mul b a = 0 := by
    refine zero_of_bits (fun b => Gf.mul a b ^^^ Gf.mul b a) ?_ (fun c d hc hd => ?_) (fun t ht => ?_) b hb
    · show Gf.mul a 0 ^^^ Gf.mul 0 a = 0
      rw [Gf.mul_zero_right, Gf.mul_zero_left]; rfl
    · show Gf.mul a (c ^^^ d) ^^^ Gf.mul (c ^^^ d) a = _
      rw [Gf.mul_right, Gf.mul_left a hc hd, swap4]
    · show Gf.mul a (2 ^ t) ^^^ Gf.mul (2 ^ t) a = 0
      rw [comm_bit a ha t ht, Nat.xor_self]
  have h3 : (Gf.mul a b ^^^ Gf.mul b a) ^^^ Gf.mul b a = Gf.mul b a := by rw [key, Nat.zero_xor]
  rw [Nat.xor_assoc, Nat.xor_self, Nat.xor_zero] at h3
  exact h3
/-- A sum of so many. -/
def sm (f : Nat → Nat) : Nat → Nat
  | 0 => 0
  | k + 1 => sm f k ^^^ f k
theorem sm_lt {f : Nat → Nat} : ∀ k, (∀ i, i < k → f i < 256) → sm f k < 256
  | 0, _ => by simp [sm]
  | k + 1, h => Gf.xor_lt (sm_lt k (fun i hi => h i (by omega))) (h k (by omega))
theorem sm_congr {f g : Nat → Nat} : ∀ k, (∀ i, i < k → f i = g i) → sm f k = sm g k
  | 0, _ => rfl
  | k + 1, h => by unfold sm; rw [sm_congr k (fun i hi => h i (by omega)), h k (by omega)]
theorem jUp_sm (ws d : Nat → Nat) : ∀ k, Gf.jUp ws d k = sm (fun i => Gf.mul (ws i) (d i)) k
  | 0 => rfl
  | k + 1 => by unfold sm Gf.jUp; rw [jUp_sm ws d k]
theorem inv_zero : Gf.inv 0 = 0 := by decide +kernel
/-- A share's byte as it is reckoned: the secret's, and then each mask's. -/
theorem shB_sm (s : Nat) (ms : Nat → Nat) (x : Nat) : ∀ m, Gf.shB s ms x m = sm (fun i => if i = 0 then s else Gf.mul (ms (i - 1)) (Gf.pX x i)) (m + 1)
  | 0 => by simp [sm, Gf.shB]
  | m + 1 => by
    show Gf.shB s ms x m ^^^ Gf.mul (ms m) (Gf.pX x (m + 1)) = sm _ (m + 1) ^^^ _
    rw [shB_sm s ms x m]
    show _ = _ ^^^ (if m + 1 = 0 then s else Gf.mul (ms (m + 1 - 1)) (Gf.pX x (m + 1)))
    rw [if_neg (by omega), show m + 1 - 1 = m by omega]
end Go.Proofs.YtkpjdmmgdmbmnabDoor.Gu
