/-
  Powers modulo a number, and the numbers of a signature.
-/

namespace Go.Proofs.YtkpjdmmgdmbmnaaDoor.Sg
theorem start (a n m : Nat) : (1 % m) * (a % m) ^ n % m = a ^ n % m := by
  rw [Nat.mul_mod, Nat.mod_mod, Nat.pow_mod, Nat.mod_mod, ← Nat.pow_mod, ← Nat.mul_mod, Nat.one_mul]
theorem square (a m h : Nat) : (a * a % m) ^ h % m = a ^ (2 * h) % m := by
  rw [← Nat.pow_mod, Nat.pow_mul, Nat.pow_two]
/-- A round of the loop at an odd number. -/
theorem odd (o a n m : Nat) (h : n % 2 = 1) : (o * a % m) * (a * a % m) ^ (n / 2) % m = o * a ^ n % m := by
  rw [Nat.mul_mod, Nat.mod_mod, square, ← Nat.mul_mod, Nat.mul_assoc, ← Nat.pow_succ']
  congr 3; omega
/-- A round of the loop at an even number. -/
theorem even (o a n m : Nat) (h : n % 2 = 0) : o * (a * a % m) ^ (n / 2) % m = o * a ^ n % m := by
  rw [Nat.mul_mod, square, ← Nat.mul_mod]
  congr 3; omega
theorem stop (o a m : Nat) (h : o < m) : o * a ^ 0 % m = o := by
  rw [Nat.pow_zero, Nat.mul_one, Nat.mod_eq_of_lt h]
/-- One more to the power is once more the product. -/
theorem more (a n m : Nat) : a ^ (n + 1) % m = (a ^ n % m) * (a % m) % m := by
  rw [Nat.pow_succ, Nat.mul_mod]
theorem over (g p q : Nat) (h : g ^ q % p = 1) (t : Nat) : g ^ (q * t) % p = 1 % p := by
  rw [Nat.pow_mul, Nat.pow_mod, h, Nat.one_pow]
/-- The two powers of a right signature make the power that it was bound by. -/
theorem meet (g p q k e x : Nat) (h : g ^ q % p = 1) (he : e < q) :
    (g ^ ((k + e * x) % q) % p) * ((g ^ x % p) ^ (q - e) % p) % p = g ^ k % p := by
  rw [← Nat.pow_mod, ← Nat.mul_mod, ← Nat.pow_mul, ← Nat.pow_add]
  have e1 : (k + e * x) % q + x * (q - e) + q * ((k + e * x) / q) = k + q * x := by
    have hd := Nat.mod_add_div (k + e * x) q
    have hm : x * (q - e) + e * x = q * x := by
      rw [Nat.mul_comm e x, ← Nat.mul_add, Nat.sub_add_cancel (Nat.le_of_lt he), Nat.mul_comm]
    omega
  have e2 : g ^ ((k + e * x) % q + x * (q - e) + q * ((k + e * x) / q)) % p = g ^ (k + q * x) % p := by rw [e1]
  rw [Nat.pow_add, Nat.mul_mod, over g p q h, ← Nat.mul_mod, Nat.mul_one, Nat.pow_add g k, Nat.mul_mod (g ^ k), over g p q h, ← Nat.mul_mod, Nat.mul_one] at e2
  exact e2
/-- What a public is: GroupQ as a power makes 1 of it. -/
theorem public_one (g p q x : Nat) (h : g ^ q % p = 1) (hp : 1 < p) : (g ^ x % p) ^ q % p = 1 := by
  rw [← Nat.pow_mod, ← Nat.pow_mul, Nat.mul_comm, over g p q h, Nat.mod_eq_of_lt hp]
theorem public_pos (g p q x : Nat) (h : g ^ q % p = 1) (hp : 1 < p) (hq : 0 < q) : 0 < g ^ x % p := by
  rcases Nat.eq_zero_or_pos (g ^ x % p) with h0 | h0
  · have := public_one g p q x h hp
    rw [h0, Nat.zero_pow hq, Nat.zero_mod] at this
    omega
  · exact h0
/-- The group of the document. -/
theorem group : 4 ^ 5003 % 10007 = 1 := by decide +kernel
end Go.Proofs.YtkpjdmmgdmbmnaaDoor.Sg
