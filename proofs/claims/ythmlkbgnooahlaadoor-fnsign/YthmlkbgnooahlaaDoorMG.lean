/-
  What the program signs and verifies, on numbers: as the specification, where the numbers and the text have room together.
-/
import Derived.Test.YthmlkbgnooahlaaDoorMF
namespace Go.Proofs.YthmlkbgnooahlaaDoor.Sg
def kI (x : Nat) (t : List UInt8) : Nat := hashR (Mb.putNum x ++ t) 5002 + 1
def boundI (r y : Nat) (t : List UInt8) : Nat := hashR (Mb.putNum r ++ Mb.putNum y ++ t) 5003
def eI (x : Nat) (t : List UInt8) : Nat := boundI (pw 4 (kI x t) 10007) (pub x) t
def sI (x : Nat) (t : List UInt8) : Nat := (kI x t + eI x t * x) % 5003
theorem hashR_lt (t : List UInt8) (m : Nat) (h : 1 ≤ m) : hashR t m < m := by
  unfold hashR; split
  · exact hash_lt _ _ h
  · omega
theorem kI_le (x : Nat) (t : List UInt8) : kI x t ≤ 5002 := by
  have := hashR_lt (Mb.putNum x ++ t) 5002 (by omega)
  unfold kI; exact this
theorem boundI_lt (r y : Nat) (t : List UInt8) : boundI r y t < 5003 := hashR_lt _ 5003 (by omega)
theorem hashR_room {t : List UInt8} {m : Nat} (h : t.length ≤ 8000) (h1 : 1 ≤ m) (hm : m ≤ 1000000) : hashR t m = hash t m := by
  unfold hashR; rw [if_pos ⟨h, by omega, by omega⟩]; rfl
theorem kI_room (x : Nat) (t : List UInt8) (h : t.length ≤ 7980) : kI x t = kOf x t := by
  unfold kI kOf
  have h1 : (Mb.putNum x).length ≤ 10 := (Mb.leb_len 9 _).2
  have h2 : hashR (Mb.putNum x ++ t) (5002 : Nat) = hash (Mb.putNum x ++ t) 5002 := hashR_room (by rw [List.length_append]; omega) (by omega) (by omega)
  exact congrArg (· + 1) h2
theorem boundI_room (r y : Nat) (t : List UInt8) (h : t.length ≤ 7980) : boundI r y t = bound r y t := by
  unfold boundI bound
  have h1 : (Mb.putNum r).length ≤ 10 := (Mb.leb_len 9 _).2
  have h2 : (Mb.putNum y).length ≤ 10 := (Mb.leb_len 9 _).2
  exact hashR_room (m := 5003) (by rw [List.length_append, List.length_append]; omega) (by omega) (by omega)
theorem eI_room (x : Nat) (t : List UInt8) (h : t.length ≤ 7980) : eI x t = sigE x t := by unfold eI sigE; rw [kI_room x t h, boundI_room _ _ t h]
theorem sI_room (x : Nat) (t : List UInt8) (h : t.length ≤ 7980) : sI x t = sigS x t := by unfold sI sigS; rw [kI_room x t h, eI_room x t h]
/-- What the program's functions answer, at whatever argument. -/
def signRI (x : Int) (t : List UInt8) : Nat × Nat := if t.length ≤ 8000 ∧ 1 ≤ x ∧ x ≤ 5002 then (eI x.toNat t, sI x.toNat t) else (0, 0)
def verRI (y : Int) (t : List UInt8) (e s : Int) : Bool :=
  decide (t.length ≤ 8000 ∧ 1 ≤ y ∧ y ≤ 10006 ∧ pw y.toNat 5003 10007 = 1 ∧ (0 ≤ e ∧ e ≤ 5002 ∧ 0 ≤ s ∧ s ≤ 5002) ∧ boundI (back y.toNat e.toNat s.toNat) y.toNat t = e.toNat)
theorem signRI_room (x : Int) (t : List UInt8) (h : t.length ≤ 7980) : signRI x t = signR x t := by
  unfold signRI signR; rw [eI_room _ t h, sI_room _ t h]
theorem verRI_room (y : Int) (t : List UInt8) (e s : Int) (h : t.length ≤ 7980) : verRI y t e s = verR y t e s := by
  unfold verRI verR; rw [boundI_room _ _ t h]
end Go.Proofs.YthmlkbgnooahlaaDoor.Sg
