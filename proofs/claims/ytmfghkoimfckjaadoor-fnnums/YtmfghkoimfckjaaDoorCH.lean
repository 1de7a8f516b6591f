/-
  What GetNum answers, in the specification and in the program.
-/
import Derived.Test.YtmfghkoimfckjaaDoorCN
namespace Go.Proofs.YtmfghkoimfckjaaDoor.CH
open Go.RowKit
open Go.Proofs.YtmfghkoimfckjaaDoor.C0

def numOut (n at_ code : Int) : Value := .agg #[.int .i64 n, .int .i64 at_, .int .i64 code]
def outV (R : Nat × Nat × Nat) : Value := if R.2.2 = 0 then numOut (Mg.unfoldI R.1) R.2.1 0 else numOut 0 0 R.2.2
/-- What GetNum answers. -/
def numOf (s : ByteArray) (a : Int) : Value := if 8000 < s.size then numOut 0 0 2 else if a < 0 then numOut 0 0 1 else outV (Mg.getFrom s a.toNat 10 0 0)
theorem numOf_big {s : ByteArray} {a : Int} (h : 8000 < s.size) : numOf s a = numOut 0 0 2 := by simp [numOf, h]
theorem numOf_neg {s : ByteArray} {a : Int} (h : ¬ 8000 < s.size) (ha : a < 0) : numOf s a = numOut 0 0 1 := by simp [numOf, h, ha]
theorem numOf_nat {s : ByteArray} {a : Nat} (h : ¬ 8000 < s.size) : numOf s (a : Int) = outV (Mg.getFrom s a 10 0 0) := by
  unfold numOf; rw [if_neg h, if_neg (by omega), Int.toNat_natCast]

set_option maxRecDepth 100000 in
theorem get_impl (s : ByteArray) (a : Int) (w : World) (hL : CF.Laid w) (hs : s.size ≤ maxLen) (l1 : -9223372036854775808 ≤ a) (u1 : a ≤ 9223372036854775807) :
    Calls Tryd.prog 7 #[.string s, .int .i64 a] w fun e w' => e = .returned (numOf s a) ∧ Below w.heap.size w w' := by
  unfold maxLen at hs
  by_cases h1 : 8000 < s.size
  · rw [numOf_big h1]
    go_enter Tryd.func7, Tryd.ntmps7
    go_wp2
    exact bodyPost_ret (v := numOut 0 0 2) (by simp [results, Tryd.results7, go_sem, numOut]) rfl ⟨rfl, (Below.refl _ _).alloc (Nat.le_refl _) _⟩
  have hg1 := hL.alloc (.cells #[.int .i64 0, .int .i64 0, .int .i64 0] 26)
  by_cases h2 : a < 0
  · rw [numOf_neg h1 h2]
    go_enter Tryd.func7, Tryd.ntmps7
    go_wp2_with fail
    refine (CN.read_neg s a _ h2).mono ?_
    rintro e w1 ⟨rfl, rfl⟩
    rw [show CN.outN (0, 0, 1) = .tuple #[.int .i64 0, .int .i64 0, CF.fault 1] from rfl]
    go_wp2_with fail
    refine (CF.code_fault 1 _ hg1).mono ?_
    rintro e w1 ⟨rfl, hb1⟩
    obtain ⟨q0, q1, q2, qf, hz⟩ := kept3 (hb1.mono (by simp))
    have hbel : Below w.heap.size w w1 := ((Below.refl _ _).alloc (Nat.le_refl _) _).trans (hb1.mono (by simp))
    clear hb1
    go_wp2
    exact bodyPost_ret (v := numOut 0 0 1) (by simp [results, Tryd.results7, go_sem, numOut, q0, q1, q2]) rfl ⟨rfl, by go_grown⟩
  obtain ⟨n, rfl⟩ := Int.eq_ofNat_of_zero_le (show 0 ≤ a by omega)
  rw [numOf_nat h1]
  generalize hR : Mg.getFrom s n 10 0 0 = R
  have HR : Hid (Mg.getFrom s n 10 0 0 = R) := hR
  clear hR
  by_cases h0 : R.2.2 = 0
  · have HO : Hid (outV R = numOut (Mg.unfoldI R.1) R.2.1 0) := by simp [Hid, outV, h0]
    have HN : Hid (CN.outN R = .tuple #[.int .i64 (Mg.unfoldI R.1), .int .i64 R.2.1, .nilIface]) := by simp [Hid, CN.outN, h0]
    clear h0
    go_enter Tryd.func7, Tryd.ntmps7
    go_wp2_with fail
    refine (CN.read_any s n _ (by omega) (by omega)).mono ?_
    rintro e w1 ⟨rfl, rfl⟩
    rw [HR.out, HN.out]
    generalize Mg.unfoldI R.1 = x at *
    generalize R.2.1 = y at *
    go_wp2_with fail
    refine (CF.code_nil _).mono ?_
    rintro e w1 ⟨rfl, hb1⟩
    obtain ⟨q0, q1, q2, qf, hz⟩ := kept3 (hb1.mono (by simp))
    have hbel : Below w.heap.size w w1 := ((Below.refl _ _).alloc (Nat.le_refl _) _).trans (hb1.mono (by simp))
    clear hb1
    go_wp2
    exact bodyPost_ret (v := numOut x y 0) (by simp [results, Tryd.results7, go_sem, numOut, q0, q1, q2]) rfl ⟨by rw [HO.out], by go_grown⟩
  · have HO : Hid (outV R = numOut 0 0 R.2.2) := by simp [Hid, outV, h0]
    have HN : Hid (CN.outN R = .tuple #[.int .i64 0, .int .i64 0, CF.fault R.2.2]) := by simp [Hid, CN.outN, h0]
    clear h0
    go_enter Tryd.func7, Tryd.ntmps7
    go_wp2_with fail
    refine (CN.read_any s n _ (by omega) (by omega)).mono ?_
    rintro e w1 ⟨rfl, rfl⟩
    rw [HR.out, HN.out]
    generalize R.2.2 = y at *
    go_wp2_with fail
    refine (CF.code_fault y _ hg1).mono ?_
    rintro e w1 ⟨rfl, hb1⟩
    obtain ⟨q0, q1, q2, qf, hz⟩ := kept3 (hb1.mono (by simp))
    have hbel : Below w.heap.size w w1 := ((Below.refl _ _).alloc (Nat.le_refl _) _).trans (hb1.mono (by simp))
    clear hb1
    go_wp2
    exact bodyPost_ret (v := numOut 0 0 y) (by simp [results, Tryd.results7, go_sem, numOut, q0, q1, q2]) rfl ⟨by rw [HO.out], by go_grown⟩
end Go.Proofs.YtmfghkoimfckjaaDoor.CH
