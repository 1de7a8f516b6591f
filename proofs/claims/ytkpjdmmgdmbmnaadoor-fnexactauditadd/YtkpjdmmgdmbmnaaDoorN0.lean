/-
  Is a text a pin, is a card right: in the specification.
-/
import Derived.Test.YtkpjdmmgdmbmnaaDoorJ1
import Derived.Deep.RegionWith
import Derived.Deep.QuietTactic
import Derived.BigQuiet
namespace Go.Proofs.YtkpjdmmgdmbmnaaDoor.N0
open Go.RowKit
open Go.Proofs.YtkpjdmmgdmbmnaaDoor.C0 Go.Proofs.YtkpjdmmgdmbmnaaDoor.HB
open Go.Proofs.YtkpjdmmgdmbmnaaDoor.J1 (shareR yes2 no2)

/-- A byte of a text, as a number. -/
def byN (s : ByteArray) (i : Nat) : Nat := (s.data.getD i 0).toNat
theorem byN_lt (s : ByteArray) (i : Nat) : byN s i < 256 := UInt8.toNat_lt _
theorem byN_get (s : ByteArray) (i : Nat) (h : i < s.size) : (s[i]'h).toNat = byN s i := by
  unfold byN
  have h' : i < s.data.size := h
  rw [Array.getD_eq_getD_getElem?, Array.getElem?_eq_getElem h']; rfl
/-- Are the first bytes digits? -/
def digUp (s : ByteArray) : Nat → Bool
  | 0 => true
  | k + 1 => digUp s k && (decide (48 ≤ byN s k) && decide (byN s k ≤ 57))
theorem digUp_no {s : ByteArray} {k : Nat} (h : ¬ (48 ≤ byN s k ∧ byN s k ≤ 57)) : ∀ m, k < m → digUp s m = false
  | 0, hm => by omega
  | m + 1, hm => by
    unfold digUp
    by_cases e : k = m
    · subst e
      rcases Nat.lt_or_ge (byN s k) 48 with h1 | h1
      · rw [decide_eq_false (show ¬ 48 ≤ byN s k by omega)]; simp
      · rw [decide_eq_false (show ¬ byN s k ≤ 57 by omega)]; simp
    · rw [digUp_no h m (by omega)]; rfl
/-- Is it a pin? -/
def pinB (s : ByteArray) : Bool := decide (4 ≤ s.size) && (decide (s.size ≤ 8) && digUp s s.size)
theorem pinB_no {s : ByteArray} {k : Nat} (h : ¬ (48 ≤ byN s k ∧ byN s k ≤ 57)) (hk : k < s.size) : pinB s = false := by
  unfold pinB; rw [digUp_no h s.size hk]; simp
/-- A card. -/
structure Cd where
  id : Int
  ep : Int
  pin : ByteArray
  tr : Int
  ix : Int
  dt : ByteArray
def cdV (c : Cd) : Value := .agg #[.int .i64 c.id, .int .i64 c.ep, .string c.pin, .int .i64 c.tr, .int .i64 c.ix, .string c.dt]
/-- Is it a right one? -/
def cardB (c : Cd) : Bool := decide (1 ≤ c.id ∧ c.id ≤ 6) && (decide (0 ≤ c.ep ∧ c.ep ≤ 1000000) && (decide (c.pin.size = 32) && (decide (0 ≤ c.tr ∧ c.tr ≤ 3) && shareR c.ix c.dt)))
end Go.Proofs.YtkpjdmmgdmbmnaaDoor.N0
