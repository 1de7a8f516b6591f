/-
  A product of two elements that is made whole first, and lowered then; on numbers.
-/
import Derived.Test.YtkpjdmmgdmbmnabDoorMS
namespace Go.Proofs.YtkpjdmmgdmbmnabDoor.Gt
open Go.Proofs.YtkpjdmmgdmbmnabDoor.Gf (swap4 xor_half xor_odd zero_of_bits)
/-- So many rounds of a product without carrying. -/
def cl : Nat → Nat → Nat → Nat → Nat
  | 0, _, _, n => n
  | k + 1, a, b, n => cl k (2 * a) (b / 2) (if b % 2 = 1 then n ^^^ a else n)
theorem cl_zero : ∀ k a n, cl k a 0 n = n
  | 0, _, _ => rfl
  | k + 1, a, n => by unfold cl; rw [if_neg (by decide)]; exact cl_zero k _ n
theorem cl_right : ∀ k a b c n m, cl k a (b ^^^ c) (n ^^^ m) = cl k a b n ^^^ cl k a c m
  | 0, _, _, _, _, _ => rfl
  | k + 1, a, b, c, n, m => by
    unfold cl
    rw [xor_half]
    have e : (if (b ^^^ c) % 2 = 1 then n ^^^ m ^^^ a else n ^^^ m) = (if b % 2 = 1 then n ^^^ a else n) ^^^ (if c % 2 = 1 then m ^^^ a else m) := by
      by_cases hb : b % 2 = 1 <;> by_cases hc : c % 2 = 1
      · rw [if_neg (by rw [xor_odd]; simp [hb, hc]), if_pos hb, if_pos hc, swap4, Nat.xor_self, Nat.xor_zero]
      · rw [if_pos (by rw [xor_odd]; simp [hb, hc]), if_pos hb, if_neg hc, Nat.xor_assoc, Nat.xor_assoc, Nat.xor_comm m a]
      · rw [if_pos (by rw [xor_odd]; simp [hb, hc]), if_neg hb, if_pos hc, Nat.xor_assoc]
      · rw [if_neg (by rw [xor_odd]; simp [hb, hc]), if_neg hb, if_neg hc]
    rw [e]
    exact cl_right k (2 * a) (b / 2) (c / 2) _ _
theorem cl_lt : ∀ k a b n t, a < 2 ^ t → n < 2 ^ (t + k) → cl k a b n < 2 ^ (t + k)
  | 0, _, _, _, _, _, hn => hn
  | k + 1, a, b, n, t, ha, hn => by
    unfold cl
    have h := cl_lt k (2 * a) (b / 2) (if b % 2 = 1 then n ^^^ a else n) (t + 1) (by rw [Nat.pow_succ]; omega) (by
      split
      · exact Nat.xor_lt_two_pow (by rw [show t + 1 + k = t + (k + 1) by omega]; exact hn) (Nat.lt_of_lt_of_le ha (Nat.pow_le_pow_right (by decide) (by omega)))
      · rw [show t + 1 + k = t + (k + 1) by omega]; exact hn)
    rw [show t + 1 + k = t + (k + 1) by omega] at h
    exact h
/-- One place taken away from above. -/
def st (i n : Nat) : Nat := if n / 2 ^ i % 2 = 1 then n ^^^ (285 * 2 ^ (i - 8)) else n
def lo (n : Nat) : Nat := st 8 (st 9 (st 10 (st 11 (st 12 (st 13 (st 14 (st 15 n)))))))
theorem bit_xor (i a b : Nat) : ((a ^^^ b) / 2 ^ i % 2 = 1) ↔ ¬ (a / 2 ^ i % 2 = 1 ↔ b / 2 ^ i % 2 = 1) := by
  rw [Nat.xor_div_two_pow]; exact xor_odd _ _
theorem st_xor (i a b : Nat) : st i (a ^^^ b) = st i a ^^^ st i b := by
  unfold st
  generalize 285 * 2 ^ (i - 8) = c
  by_cases ha : a / 2 ^ i % 2 = 1 <;> by_cases hb : b / 2 ^ i % 2 = 1
  · rw [if_neg (by rw [bit_xor]; simp [ha, hb]), if_pos ha, if_pos hb, swap4, Nat.xor_self, Nat.xor_zero]
  · rw [if_pos (by rw [bit_xor]; simp [ha, hb]), if_pos ha, if_neg hb, Nat.xor_assoc, Nat.xor_assoc, Nat.xor_comm b c]
  · rw [if_pos (by rw [bit_xor]; simp [ha, hb]), if_neg ha, if_pos hb, Nat.xor_assoc]
  · rw [if_neg (by rw [bit_xor]; simp [ha, hb]), if_neg ha, if_neg hb]
theorem lo_xor (a b : Nat) : lo (a ^^^ b) = lo a ^^^ lo b := by unfold lo; simp only [st_xor]
theorem lo_cl_bit : ∀ a, a < 256 → ∀ t, t < 8 → lo (cl 8 a (2 ^ t) 0) = Gf.mul a (2 ^ t) := by decide +kernel
/-- A product made whole and lowered is the product. -/
theorem lo_cl (a b : Nat) (ha : a < 256) (hb : b < 256) : lo (cl 8 a b 0) = Gf.mul a b := by
  have key : lo (cl 8 a b 0) ^^^ Gf.mul a b = 0 := by
    refine zero_of_bits (fun b => lo (cl 8 a b 0) ^^^ Gf.mul a b) ?_ (fun c d _ _ => ?_) (fun t ht => ?_) b hb
    · show lo (cl 8 a 0 0) ^^^ Gf.mul a 0 = 0
      rw [cl_zero, Gf.mul_zero_right]; decide
    · show lo (cl 8 a (c ^^^ d) 0) ^^^ Gf.mul a (c ^^^ d) = _
      have h := cl_right 8 a c d 0 0
      rw [Nat.xor_self] at h
      rw [h, lo_xor, Gf.mul_right, swap4]
    · show lo (cl 8 a (2 ^ t) 0) ^^^ Gf.mul a (2 ^ t) = 0
      rw [lo_cl_bit a ha t ht, Nat.xor_self]
  have h3 : (lo (cl 8 a b 0) ^^^ Gf.mul a b) ^^^ Gf.mul a b = Gf.mul a b := by rw [key, Nat.zero_xor]
  rw [Nat.xor_assoc, Nat.xor_self, Nat.xor_zero] at h3
  exact h3
/-- So many places from the eighth on, from above. -/
def lu : Nat → Nat → Nat
  | 0, n => n
  | k + 1, n => lu k (st (k + 8) n)
theorem lu_lo (n : Nat) : lu 8 n = lo n := rfl
theorem lu_small : ∀ k n, n < 256 → lu k n = n
  | 0, _, _ => rfl
  | k + 1, n, h => by
    unfold lu
    have : st (k + 8) n = n := by
      unfold st
      have : n / 2 ^ (k + 8) = 0 := Nat.div_eq_of_lt (Nat.lt_of_lt_of_le h (Nat.pow_le_pow_right (n := 2) (i := 8) (by decide) (by omega)))
      rw [this, if_neg (by decide)]
    rw [this]
    exact lu_small k n h
theorem lu_skip : ∀ d k n, n < 2 ^ (k + 8) → lu (k + d) n = lu k n
  | 0, _, _, _ => rfl
  | d + 1, k, n, h => by
    show lu (k + d) (st (k + d + 8) n) = lu k n
    have : st (k + d + 8) n = n := by
      unfold st
      have : n / 2 ^ (k + d + 8) = 0 := Nat.div_eq_of_lt (Nat.lt_of_lt_of_le h (Nat.pow_le_pow_right (n := 2) (by decide) (by omega)))
      rw [this, if_neg (by decide)]
    rw [this]
    exact lu_skip d k n h
/-- The highest place of a number goes. -/
theorem top_gone {k n : Nat} (h1 : 2 ^ (k + 8) ≤ n) (h2 : n < 2 ^ (k + 9)) : n ^^^ (285 * 2 ^ k) < 2 ^ (k + 8) ∧ st (k + 8) n = n ^^^ (285 * 2 ^ k) := by
  have e : n / 2 ^ (k + 8) = 1 := by
    have a1 : 1 ≤ n / 2 ^ (k + 8) := (Nat.le_div_iff_mul_le (Nat.two_pow_pos _)).2 (by omega)
    have a2 : n / 2 ^ (k + 8) < 2 := (Nat.div_lt_iff_lt_mul (Nat.two_pow_pos _)).2 (by rw [show k + 9 = (k + 8) + 1 by omega, Nat.pow_succ] at h2; omega)
    omega
  refine ⟨?_, by unfold st; rw [e, if_pos (by decide), show k + 8 - 8 = k by omega]⟩
  have h3 : (n ^^^ (285 * 2 ^ k)) / 2 ^ (k + 8) = 0 := by
    rw [Nat.xor_div_two_pow, e]
    have : 285 * 2 ^ k / 2 ^ (k + 8) = 1 := by
      rw [show k + 8 = 8 + k by omega, Nat.pow_add, Nat.mul_div_mul_right _ _ (Nat.two_pow_pos _)]
    rw [this]; rfl
  have h4 := Nat.div_eq_zero_iff_lt (Nat.two_pow_pos (k + 8)) |>.1 h3
  exact h4
/-- One round of lowering. -/
theorem lu_step {k n : Nat} (hk : k < 8) (h1 : 2 ^ (k + 8) ≤ n) (h2 : n < 2 ^ (k + 9)) : lu 8 n = lu 8 (n ^^^ (285 * 2 ^ k)) := by
  have t := top_gone h1 h2
  have e1 := lu_skip (8 - (k + 1)) (k + 1) n (by rw [show k + 1 + 8 = k + 9 by omega]; exact h2)
  rw [show k + 1 + (8 - (k + 1)) = 8 by omega] at e1
  have e2 := lu_skip (8 - k) k (n ^^^ (285 * 2 ^ k)) t.1
  rw [show k + (8 - k) = 8 by omega] at e2
  rw [e1, e2]
  show lu k (st (k + 8) n) = _
  rw [t.2]
/-- An element to the power of 254, by squares. -/
def sq : Nat → Nat → Nat → Nat → Nat
  | 0, _, _, o => o
  | k + 1, a, n, o => sq k (Gf.mul a a) (n / 2) (if n % 2 = 1 then Gf.mul o a else o)
theorem sq_zero : ∀ k a o, sq k a 0 o = o
  | 0, _, _ => rfl
  | k + 1, a, o => by unfold sq; rw [if_neg (by decide)]; exact sq_zero k _ o
theorem sq_inv : ∀ a, a < 256 → sq 8 a 254 1 = Gf.inv a := by decide +kernel
end Go.Proofs.YtkpjdmmgdmbmnabDoor.Gt
