/-
  Signing, on numbers and lists of bytes: powers, the number of a text, a public, a signature, and what is verified.
-/
import Derived.Test.YtkpjdmmgdmbmnaaDoorM1
import Derived.Test.YtkpjdmmgdmbmnaaDoorM6
import Derived.Test.YtkpjdmmgdmbmnaaDoorME
namespace Go.Proofs.YtkpjdmmgdmbmnaaDoor.Sg
/-- A power, modulo a number. -/
def pw (a n m : Nat) : Nat := a ^ n % m
theorem pw_lt (a n m : Nat) (h : 1 ≤ m) : pw a n m < m := Nat.mod_lt _ h
/-- The number of the first six bytes, the highest first. -/
def six (d : List UInt8) (k : Nat) : Nat := (d.take k).foldl (fun n b => 256 * n + b.toNat) 0
theorem six_zero (d : List UInt8) : six d 0 = 0 := rfl
theorem six_succ (d : List UInt8) (k : Nat) (h : k < d.length) : six d (k + 1) = 256 * six d k + (d[k]'h).toNat := by
  unfold six
  rw [List.take_succ_eq_append_getElem h, List.foldl_append]; rfl
theorem six_lt (d : List UInt8) : ∀ k, k ≤ d.length → six d k < 256 ^ k
  | 0, _ => by simp [six]
  | k + 1, h => by
    have ih := six_lt d k (by omega)
    rw [six_succ d k (by omega), Nat.pow_succ]
    have := (d[k]'(by omega)).toNat_lt
    omega
/-- The number of a text, modulo a number. -/
def hash (t : List UInt8) (m : Nat) : Nat := six (Ms.digest t) 6 % m
theorem hash_lt (t : List UInt8) (m : Nat) (h : 1 ≤ m) : hash t m < m := Nat.mod_lt _ h
/-- What a signature is bound by. -/
def bound (r y : Nat) (t : List UInt8) : Nat := hash (Mb.putNum r ++ Mb.putNum y ++ t) 5003
theorem bound_lt (r y : Nat) (t : List UInt8) : bound r y t < 5003 := hash_lt _ _ (by omega)
def pub (x : Nat) : Nat := pw 4 x 10007
theorem pub_lt (x : Nat) : pub x < 10007 := pw_lt _ _ _ (by omega)
def kOf (x : Nat) (t : List UInt8) : Nat := hash (Mb.putNum x ++ t) 5002 + 1
theorem kOf_le (x : Nat) (t : List UInt8) : kOf x t ≤ 5002 := by
  have := hash_lt (Mb.putNum x ++ t) 5002 (by omega)
  unfold kOf; omega
def sigE (x : Nat) (t : List UInt8) : Nat := bound (pw 4 (kOf x t) 10007) (pub x) t
theorem sigE_lt (x : Nat) (t : List UInt8) : sigE x t < 5003 := bound_lt _ _ _
def sigS (x : Nat) (t : List UInt8) : Nat := (kOf x t + sigE x t * x) % 5003
theorem sigS_lt (x : Nat) (t : List UInt8) : sigS x t < 5003 := Nat.mod_lt _ (by omega)
/-- The power that the two numbers of a signature make. -/
def back (y e s : Nat) : Nat := pw 4 s 10007 * pw y (5003 - e) 10007 % 10007
theorem back_lt (y e s : Nat) : back y e s < 10007 := Nat.mod_lt _ (by omega)
/-- The same, of any group. -/
theorem pw_meet (g p q k e x : Nat) (h : pw g q p = 1) (he : e < q) : pw g ((k + e * x) % q) p * pw (pw g x p) (q - e) p % p = pw g k p := meet g p q k e x h he
theorem pw_one (g p q x : Nat) (h : pw g q p = 1) (hp : 1 < p) : pw (pw g x p) q p = 1 := public_one g p q x h hp
theorem pw_pos (g p q x : Nat) (h : pw g q p = 1) (hp : 1 < p) (hq : 0 < q) : 0 < pw g x p := public_pos g p q x h hp hq
theorem pw_group : pw 4 5003 10007 = 1 := by decide +kernel
theorem back_sig (x : Nat) (t : List UInt8) : back (pub x) (sigE x t) (sigS x t) = pw 4 (kOf x t) 10007 := by
  have he := sigE_lt x t
  unfold back sigS pub
  generalize sigE x t = e at *
  exact pw_meet 4 10007 5003 (kOf x t) e x pw_group he
theorem bound_sig (x : Nat) (t : List UInt8) : bound (back (pub x) (sigE x t) (sigS x t)) (pub x) t = sigE x t := by
  rw [back_sig]; rfl
theorem pub_one (x : Nat) : pw (pub x) 5003 10007 = 1 := by unfold pub; exact pw_one 4 10007 5003 x pw_group (by omega)
theorem pub_pos (x : Nat) : 1 ≤ pub x := by unfold pub; exact pw_pos 4 10007 5003 x pw_group (by omega) (by omega)
theorem pw_more (a n m : Nat) : pw a (n + 1) m = pw a n m * (a % m) % m := more a n m

/-- What the functions of the chapter answer, at whatever argument. -/
def powR (a n m : Int) : Nat := if 0 ≤ a ∧ a ≤ 1000000 ∧ 0 ≤ n ∧ n ≤ 1000000000 ∧ 1 ≤ m ∧ m ≤ 1000000 then pw a.toNat n.toNat m.toNat else 0
def hashR (t : List UInt8) (m : Int) : Nat := if t.length ≤ 8000 ∧ 1 ≤ m ∧ m ≤ 1000000 then hash t m.toNat else 0
def pubR (x : Int) : Nat := if 1 ≤ x ∧ x ≤ 5002 then pub x.toNat else 0
def signR (x : Int) (t : List UInt8) : Nat × Nat := if t.length ≤ 8000 ∧ 1 ≤ x ∧ x ≤ 5002 then (sigE x.toNat t, sigS x.toNat t) else (0, 0)
def rightR (e s : Int) : Bool := decide (0 ≤ e ∧ e ≤ 5002 ∧ 0 ≤ s ∧ s ≤ 5002)
def verR (y : Int) (t : List UInt8) (e s : Int) : Bool :=
  decide (t.length ≤ 8000 ∧ 1 ≤ y ∧ y ≤ 10006 ∧ pw y.toNat 5003 10007 = 1 ∧ (0 ≤ e ∧ e ≤ 5002 ∧ 0 ≤ s ∧ s ≤ 5002) ∧ bound (back y.toNat e.toNat s.toNat) y.toNat t = e.toNat)
theorem signR_yes {x : Int} {t : List UInt8} (ht : t.length ≤ 8000) (h1 : 1 ≤ x) (h2 : x ≤ 5002) : signR x t = (sigE x.toNat t, sigS x.toNat t) := by
  unfold signR; rw [if_pos ⟨ht, h1, h2⟩]
theorem verR_yes {y e s : Nat} {t : List UInt8} (ht : t.length ≤ 8000) (y1 : 1 ≤ y) (y2 : y ≤ 10006) (hp : pw y 5003 10007 = 1) (he : e ≤ 5002) (hs : s ≤ 5002) (hb : bound (back y e s) y t = e) :
    verR y t e s = true := by
  unfold verR
  exact decide_eq_true ⟨ht, by omega, by omega, hp, ⟨by omega, by omega, by omega, by omega⟩, hb⟩
/-- What is signed by a secret is verified by its public. -/
theorem verR_sign {x : Int} {t : List UInt8} (ht : t.length ≤ 8000) (h1 : 1 ≤ x) (h2 : x ≤ 5002) : verR (pubR x) t (signR x t).1 (signR x t).2 = true := by
  have hp : pubR x = pub x.toNat := by unfold pubR; rw [if_pos ⟨h1, h2⟩]
  rw [signR_yes ht h1 h2, hp]
  exact verR_yes ht (pub_pos _) (Nat.le_of_lt_succ (pub_lt _)) (pub_one _) (Nat.le_of_lt_succ (sigE_lt _ _)) (Nat.le_of_lt_succ (sigS_lt _ _)) (bound_sig _ _)
theorem rightR_sign (x : Int) (t : List UInt8) : rightR (signR x t).1 (signR x t).2 = true := by
  unfold rightR
  rw [decide_eq_true_iff]
  unfold signR
  split
  · have a3 := sigE_lt x.toNat t
    have a4 := sigS_lt x.toNat t
    exact ⟨by omega, by omega, by omega, by omega⟩
  · exact ⟨by omega, by omega, by omega, by omega⟩
/-- Powers go over sums. -/
theorem powR_more {a n m : Int} (a0 : 0 ≤ a) (a1 : a ≤ 1000000) (n0 : 0 ≤ n) (n1 : n ≤ 9999) (m0 : 1 ≤ m) (m1 : m ≤ 1000000) :
    (powR a (n + 1) m : Int) = (powR a n m : Int) * (a % m) % m := by
  unfold powR
  rw [if_pos ⟨a0, a1, by omega, by omega, m0, m1⟩, if_pos ⟨a0, a1, n0, by omega, m0, m1⟩]
  obtain ⟨a', rfl⟩ := Int.eq_ofNat_of_zero_le a0
  obtain ⟨n', rfl⟩ := Int.eq_ofNat_of_zero_le n0
  obtain ⟨m', rfl⟩ := Int.eq_ofNat_of_zero_le (show 0 ≤ m by omega)
  have : ((n' : Int) + 1).toNat = n' + 1 := by omega
  rw [this]
  simp only [Int.toNat_natCast]
  rw [pw_more, Int.natCast_emod, Int.natCast_mul, Int.natCast_emod]
end Go.Proofs.YtkpjdmmgdmbmnaaDoor.Sg
