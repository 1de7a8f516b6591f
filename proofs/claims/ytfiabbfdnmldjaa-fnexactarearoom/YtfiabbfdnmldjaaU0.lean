/-
  How many bytes a side has room for, as the specification and as the program have it.
-/
import Derived.Test.YtfiabbfdnmldjaaO1
import Derived.Test.YtfiabbfdnmldjaaT1
namespace Go.Proofs.Ytfiabbfdnmldjaa.U0
open Go.RowKit
open Go.Proofs.Ytfiabbfdnmldjaa.C0 Go.Proofs.Ytfiabbfdnmldjaa.S0 Go.Proofs.Ytfiabbfdnmldjaa.S1 Go.Proofs.Ytfiabbfdnmldjaa.S3 Go.Proofs.Ytfiabbfdnmldjaa.O1 Go.Proofs.Ytfiabbfdnmldjaa.T0 Go.Proofs.Ytfiabbfdnmldjaa.T1
open Go.Proofs.Ytfiabbfdnmldjaa.Dk (rightB right_iff)
/-- How many sectors a side has. -/
def halfN (n : Nat) : Nat := (n - 1) / 2
def roomN (ss : List ByteArray) (ps : List Pend) : Nat := if rightB ss ps = true then halfN ss.length * 64 else 0
theorem half_div (n : Nat) (h : 1 ≤ n) : ((n : Int) - 1) / 2 = (halfN n : Int) := by unfold halfN; omega
theorem half_le (n : Nat) (h : n ≤ 64) : halfN n ≤ 31 := by unfold halfN; omega
set_option maxRecDepth 100000 in
theorem half_spec (a : Option Addr) (n cap : Nat) (vp : Value) (w : World) (h1 : 1 ≤ n) (h2 : n ≤ 64) : Calls Try.prog 12 #[.agg #[.slice a n cap, vp]] w fun e w' => e = .returned (.int .i64 (halfN n)) ∧ Below w.heap.size w w' := by
  have HT : Hid _ := half_div n h1
  go_enter Try.func12, Try.ntmps12
  go_wp2
  go_ret
  exact ⟨ret_int HT.out, albel _ _⟩
set_option maxRecDepth 100000 in
theorem half_impl (a : Option Addr) (n cap : Nat) (vp : Value) (w : World) (h1 : 1 ≤ n) (h2 : n ≤ 64) : Calls Try.prog 16 #[.agg #[.slice a n cap, vp]] w fun e w' => e = .returned (.int .i64 (halfN n)) ∧ Below w.heap.size w w' := by
  have HT : Hid _ := half_div n h1
  go_enter Try.func16, Try.ntmps16
  go_wp2
  go_ret
  exact ⟨ret_int HT.out, albel _ _⟩
theorem room_yes {ss : List ByteArray} {ps : List Pend} (h : rightB ss ps = true) : roomN ss ps = halfN ss.length * 64 := by unfold roomN; rw [if_pos h]
theorem room_no {ss : List ByteArray} {ps : List Pend} (h : rightB ss ps = false) : roomN ss ps = 0 := by unfold roomN; rw [if_neg (by rw [h]; simp)]
set_option maxRecDepth 100000 in
theorem room_spec (vs vp : Value) (ss : List ByteArray) (ps : List Pend) (w : World) (hs : Strs w vs ss) (hp : Pends w vp ps) (hz : ∀ s ∈ ss, s.size ≤ maxLen) (hzp : ∀ p ∈ ps, p.2.size ≤ maxLen) :
    Calls Try.prog 5 #[.agg #[vs, vp]] w fun e w' => e = .returned (.int .i64 (roomN ss ps)) ∧ Below w.heap.size w w' := by
  have b0 := albel w (.cells #[vs, vp] 30)
  have k0 := heap_alloc_new w (.cells #[vs, vp] 30)
  obtain ⟨sa, sc, rfl⟩ : ∃ a c, vs = .slice a ss.length c := hs.len
  go_enter Try.func5, Try.ntmps5
  go_wp2_with fail
  refine (right_spec _ _ ss ps _ (hs.below b0) (hp.below b0) hz hzp).mono ?_
  rintro e w1 ⟨rfl, hb1⟩
  have B1 := bel2 b0 hb1
  obtain ⟨q0, q1, -, -⟩ := blk2 (carry k0 hb1)
  clear k0 hb1 b0
  cases hR : rightB ss ps
  · go_wp2
    go_ret
    exact ⟨ret_int (by rw [room_no hR]; rfl), B1⟩
  · obtain ⟨n1, n2, -, -, -⟩ := (right_iff ss ps).1 hR
    have hh := half_le _ n2
    have HR : Hid (rightB ss ps = true) := hR
    clear hR
    go_wp2_with fail
    refine (half_spec _ _ _ _ _ n1 n2).mono ?_
    rintro e w2 ⟨rfl, hb2⟩
    go_wp2
    go_ret
    exact ⟨ret_int (by rw [room_yes HR.out]; omega), bel2 B1 hb2⟩
set_option maxRecDepth 100000 in
theorem room_impl (vs vp : Value) (ss : List ByteArray) (ps : List Pend) (w : World) (hs : Strs w vs ss) (hp : Pends w vp ps) (hz : ∀ s ∈ ss, s.size ≤ maxLen) (hzp : ∀ p ∈ ps, p.2.size ≤ maxLen) :
    Calls Try.prog 7 #[.agg #[vs, vp]] w fun e w' => e = .returned (.int .i64 (roomN ss ps)) ∧ Below w.heap.size w w' := by
  have b0 := albel w (.cells #[vs, vp] 30)
  have k0 := heap_alloc_new w (.cells #[vs, vp] 30)
  obtain ⟨sa, sc, rfl⟩ : ∃ a c, vs = .slice a ss.length c := hs.len
  go_enter Try.func7, Try.ntmps7
  go_wp2_with fail
  refine (right_impl _ _ ss ps _ (hs.below b0) (hp.below b0) hz hzp).mono ?_
  rintro e w1 ⟨rfl, hb1⟩
  have B1 := bel2 b0 hb1
  obtain ⟨q0, q1, -, -⟩ := blk2 (carry k0 hb1)
  clear k0 hb1 b0
  cases hR : rightB ss ps
  · go_wp2
    go_ret
    exact ⟨ret_int (by rw [room_no hR]; rfl), B1⟩
  · obtain ⟨n1, n2, -, -, -⟩ := (right_iff ss ps).1 hR
    have hh := half_le _ n2
    have HR : Hid (rightB ss ps = true) := hR
    clear hR
    go_wp2_with fail
    refine (half_impl _ _ _ _ _ n1 n2).mono ?_
    rintro e w2 ⟨rfl, hb2⟩
    go_wp2
    go_ret
    exact ⟨ret_int (by rw [room_yes HR.out]; omega), bel2 B1 hb2⟩
end Go.Proofs.Ytfiabbfdnmldjaa.U0
