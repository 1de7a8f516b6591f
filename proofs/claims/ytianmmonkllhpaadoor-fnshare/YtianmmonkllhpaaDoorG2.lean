/-
  PowMod and PublicOf, in the specification.
-/
import Derived.Test.YtianmmonkllhpaaDoorG0
namespace Go.Proofs.YtianmmonkllhpaaDoor.G2
open Go.RowKit
open Go.Proofs.YtianmmonkllhpaaDoor.C0

theorem yes2 {lo n hi : Int} (h : lo ≤ n ∧ n ≤ hi) : decide (lo ≤ n ∧ n ≤ hi) = true := decide_eq_true h
theorem no2 {lo n hi : Int} (h : ¬ (lo ≤ n ∧ n ≤ hi)) : decide (lo ≤ n ∧ n ≤ hi) = false := decide_eq_false h
theorem powR_no {a n m : Int} (h : ¬ (0 ≤ a ∧ a ≤ 1000000 ∧ 0 ≤ n ∧ n ≤ 1000000000 ∧ 1 ≤ m ∧ m ≤ 1000000)) : Sg.powR a n m = 0 := by unfold Sg.powR; rw [if_neg h]
theorem powR_yes {a n m : Nat} (ha : a ≤ 1000000) (hn : n ≤ 1000000000) (h1 : 1 ≤ m) (hm : m ≤ 1000000) : Sg.powR a n m = Sg.pw a n m := by
  unfold Sg.powR; rw [if_pos ⟨by omega, by omega, by omega, by omega, by omega, by omega⟩]; rfl
theorem hashR_no {t : List UInt8} {m : Int} (h : ¬ (t.length ≤ 8000 ∧ 1 ≤ m ∧ m ≤ 1000000)) : Sg.hashR t m = 0 := by unfold Sg.hashR; rw [if_neg h]
theorem hashR_yes {t : List UInt8} {m : Nat} (ht : t.length ≤ 8000) (h1 : 1 ≤ m) (hm : m ≤ 1000000) : Sg.hashR t m = Sg.hash t m := by
  unfold Sg.hashR; rw [if_pos ⟨ht, by omega, by omega⟩]; rfl
theorem pubR_no {x : Int} (h : ¬ (1 ≤ x ∧ x ≤ 5002)) : Sg.pubR x = 0 := by unfold Sg.pubR; rw [if_neg h]
theorem pubR_yes {x : Nat} (h1 : 1 ≤ x) (h2 : x ≤ 5002) : Sg.pubR x = Sg.pub x := by unfold Sg.pubR; rw [if_pos ⟨by omega, by omega⟩]; rfl



end Go.Proofs.YtianmmonkllhpaaDoor.G2
