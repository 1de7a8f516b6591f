/-
  Plain facts on how a number is got back from bytes of seven bits. No program is named here.
-/

namespace Go.Proofs.Ytgmejbnolfmcdab.Mg
def unfoldI (u : Nat) : Int := if u % 2 = 1 then -((u / 2 : Nat) : Int) - 1 else ((u / 2 : Nat) : Int)
def byteN (s : ByteArray) (j : Nat) : Nat := if h : j < s.size then s[j].toNat else 0
/-- From byte i of the number that begins at place a on: what it comes to (folded), the place behind it, the code. -/
def getFrom (s : ByteArray) (a : Nat) : Nat → Nat → Nat → Nat × Nat × Nat
  | 0, _, _ => (0, 0, 3)
  | f + 1, i, u =>
    if a + i < s.size then
      if i = 9 ∧ 1 < byteN s (a + i) then (0, 0, 3)
      else if byteN s (a + i) < 128 then
        if byteN s (a + i) = 0 ∧ 0 < i then (0, 0, 3) else (u + byteN s (a + i) * 2 ^ (7 * i), a + i + 1, 0)
      else getFrom s a f (i + 1) (u + byteN s (a + i) % 128 * 2 ^ (7 * i))
    else (0, 0, 4)
theorem byteN_eq {s : ByteArray} {j : Nat} (h : j < s.size) : byteN s j = s[j].toNat := by simp [byteN, h]
theorem byteN_lt (s : ByteArray) (j : Nat) : byteN s j < 256 := by
  unfold byteN; split
  · exact s[j].toNat_lt
  · omega
theorem pow_le (i : Nat) (h : i ≤ 9) : 2 ^ (7 * i) ≤ 9223372036854775808 := by
  have : 2 ^ (7 * i) ≤ 2 ^ 63 := Nat.pow_le_pow_right (by omega) (by omega)
  simpa using this
theorem pow_le8 (i : Nat) (h : i ≤ 8) : 2 ^ (7 * i) ≤ 72057594037927936 := by
  have : 2 ^ (7 * i) ≤ 2 ^ 56 := Nat.pow_le_pow_right (by omega) (by omega)
  simpa using this
theorem pow_succ7 (i : Nat) : 2 ^ (7 * (i + 1)) = 128 * 2 ^ (7 * i) := by
  rw [show 7 * (i + 1) = 7 * i + 7 by omega, Nat.pow_add]; omega
/-- One byte more of a number that goes on. -/
theorem step_lt {i u c : Nat} (hu : u < 2 ^ (7 * i)) : u + c % 128 * 2 ^ (7 * i) < 2 ^ (7 * (i + 1)) := by
  rw [pow_succ7]
  have h : c % 128 ≤ 127 := by omega
  have := Nat.mul_le_mul_right (2 ^ (7 * i)) h
  omega
theorem term_lt {i c : Nat} (hi : i ≤ 9) (h9 : ¬ (i = 9 ∧ 1 < c)) : c % 128 * 2 ^ (7 * i) < 18446744073709551616 := by
  by_cases h : i ≤ 8
  · have hp := pow_le8 i h
    have h' : c % 128 ≤ 127 := by omega
    have := Nat.mul_le_mul h' hp
    omega
  · have e : i = 9 := by omega
    subst e
    have hc : c % 128 ≤ 1 := by omega
    have := Nat.mul_le_mul_right (2 ^ (7 * 9)) hc
    omega
theorem sum_lt {i u c : Nat} (hi : i ≤ 9) (h9 : ¬ (i = 9 ∧ 1 < c)) (hu : u < 2 ^ (7 * i)) : u + c % 128 * 2 ^ (7 * i) < 18446744073709551616 := by
  by_cases h : i ≤ 8
  · have := step_lt (c := c) hu
    have hp : 2 ^ (7 * (i + 1)) ≤ 9223372036854775808 := pow_le (i + 1) (by omega)
    omega
  · have e : i = 9 := by omega
    subst e
    have hc : c % 128 ≤ 1 := by omega
    have := Nat.mul_le_mul_right (2 ^ (7 * 9)) hc
    omega
theorem or_add {i u c : Nat} (hu : u < 2 ^ (7 * i)) : u ||| c % 128 * 2 ^ (7 * i) = u + c % 128 * 2 ^ (7 * i) := by
  have e : (c % 128 * 2 ^ (7 * i)) = (c % 128) <<< (7 * i) := by rw [Nat.shiftLeft_eq]
  rw [Nat.or_comm, e, Nat.add_comm, ← Nat.shiftLeft_add_eq_or_of_lt hu]
theorem half_lt {u : Nat} (h : u < 18446744073709551616) : u / 2 < 9223372036854775808 := by omega
theorem unfold_odd {u : Nat} (h : u % 2 = 1) : unfoldI u = -((u / 2 : Nat) : Int) - 1 := by simp [unfoldI, h]
theorem unfold_even {u : Nat} (h : ¬ u % 2 = 1) : unfoldI u = ((u / 2 : Nat) : Int) := by simp [unfoldI, h]
section ways
variable {s : ByteArray} {a f i u : Nat}
theorem from_short (h : ¬ a + i < s.size) : getFrom s a (f + 1) i u = (0, 0, 4) := by simp [getFrom, h]
theorem from_wide (h : a + i < s.size) (h9 : i = 9 ∧ 1 < byteN s (a + i)) : getFrom s a (f + 1) i u = (0, 0, 3) := by
  simp only [getFrom]; rw [if_pos h, if_pos h9]
theorem from_zero (h : a + i < s.size) (h9 : ¬ (i = 9 ∧ 1 < byteN s (a + i))) (h0 : byteN s (a + i) = 0 ∧ 0 < i) : getFrom s a (f + 1) i u = (0, 0, 3) := by
  simp only [getFrom]; rw [if_pos h, if_neg h9, if_pos (by omega), if_pos h0]
theorem from_last (h : a + i < s.size) (h9 : ¬ (i = 9 ∧ 1 < byteN s (a + i))) (hl : byteN s (a + i) < 128) (h0 : ¬ (byteN s (a + i) = 0 ∧ 0 < i)) : getFrom s a (f + 1) i u = (u + byteN s (a + i) % 128 * 2 ^ (7 * i), a + i + 1, 0) := by
  simp only [getFrom]; rw [if_pos h, if_neg h9, if_pos hl, if_neg h0, Nat.mod_eq_of_lt hl]
theorem from_more (h : a + i < s.size) (h9 : ¬ (i = 9 ∧ 1 < byteN s (a + i))) (hl : ¬ byteN s (a + i) < 128) : getFrom s a (f + 1) i u = getFrom s a f (i + 1) (u + byteN s (a + i) % 128 * 2 ^ (7 * i)) := by
  conv => lhs; unfold getFrom
  rw [if_pos h, if_neg h9, if_neg hl]
theorem from_lt (h : a + i < s.size) (h9 : ¬ (i = 9 ∧ 1 < byteN s (a + i))) (hl : byteN s (a + i) < 128) :
    getFrom s a (f + 1) i u = if byteN s (a + i) = 0 ∧ 0 < i then (0, 0, 3) else (u + byteN s (a + i) % 128 * 2 ^ (7 * i), a + i + 1, 0) := by
  by_cases h0 : byteN s (a + i) = 0 ∧ 0 < i
  · rw [from_zero h h9 h0, if_pos h0]
  · rw [from_last h h9 hl h0, if_neg h0]
end ways
end Go.Proofs.Ytgmejbnolfmcdab.Mg
