/-
  SignBy in the specification, and facts for VerifyBy.
-/
import Derived.Test.YthmlkbgnooahlaaDoorG5
namespace Go.Proofs.YthmlkbgnooahlaaDoor.G4
open Go.RowKit
open Go.Proofs.YthmlkbgnooahlaaDoor.C0
open Go.Proofs.YthmlkbgnooahlaaDoor.K3 (bytesOf)
open Go.Proofs.YthmlkbgnooahlaaDoor.G1 (of_length)
open Go.Proofs.YthmlkbgnooahlaaDoor.G2 (yes2 no2)
open Go.Proofs.YthmlkbgnooahlaaDoor.G3 (sig kept2)

/-- A signature that is answered. -/
def signV (x : Int) (t : ByteArray) : Value := sig ((Sg.signR x (bytesOf t)).1 : Nat) ((Sg.signR x (bytesOf t)).2 : Nat)
theorem signV_no {x : Int} {t : ByteArray} (h : ¬ (t.size ≤ 8000 ∧ 1 ≤ x ∧ x ≤ 5002)) : signV x t = sig 0 0 := by
  unfold signV Sg.signR; rw [if_neg (by rw [of_length]; exact h)]; rfl
theorem signV_yes {x : Nat} {t : ByteArray} (ht : t.size ≤ 8000) (h1 : 1 ≤ x) (h2 : x ≤ 5002) : signV x t = sig (Sg.sigE x (bytesOf t) : Nat) (Sg.sigS x (bytesOf t) : Nat) := by
  unfold signV; rw [Sg.signR_yes (by rw [of_length]; exact ht) (by omega) (by omega)]; rfl

set_option maxRecDepth 100000 in
set_option maxHeartbeats 800000 in
theorem sign_spec (x : Int) (t : ByteArray) (w : World) (ht : t.size ≤ maxLen) :
    Calls Tryd.prog 17 #[.int .i64 x, .string t] w fun v w' => v = .returned (signV x t) ∧ Below w.heap.size w w' := by
  unfold maxLen at ht
  by_cases hs : 8000 < t.size
  · rw [signV_no (by omega)]
    have d1 : decide ((8000 : Int) < (t.size : Int)) = true := by simp; omega
    go_enter Tryd.func17, Tryd.ntmps17
    go_wp2
    exact bodyPost_ret (v := sig 0 0) (by simp [results, Tryd.results17, go_sem, sig]) rfl ⟨rfl, (Below.refl _ _).alloc (Nat.le_refl _) _⟩
  have d1 : decide ((8000 : Int) < (t.size : Int)) = false := by simp; omega
  by_cases hx : 1 ≤ x ∧ x ≤ 5002
  · obtain ⟨x', rfl⟩ := Int.eq_ofNat_of_zero_le (show 0 ≤ x by omega)
    rw [signV_yes (by omega) (by omega) (by omega)]
    go_enter Tryd.func17, Tryd.ntmps17
    go_wp2_with fail
    refine (G2.secret_spec _ _).mono ?_
    rintro v w1 ⟨rfl, rfl⟩
    rw [yes2 hx]
    go_wp2_with fail
    refine (G5.sign0_spec x' t _ (by omega) (by omega) (by omega)).mono ?_
    rintro v w1 ⟨rfl, hb1⟩
    rw [G3.nblk_one] at hb1
    obtain ⟨c0, c1, cf, hz⟩ := kept2 hb1
    have HW : Hid (Below w.heap.size w w1) := ((Below.refl _ _).alloc (Nat.le_refl _) _).trans (hb1.mono (Nat.le_succ _))
    clear hb1
    obtain ⟨e1, he1⟩ : ∃ n, Sg.sigE x' (bytesOf t) = n := ⟨_, rfl⟩
    obtain ⟨s1, hs1⟩ : ∃ n, Sg.sigS x' (bytesOf t) = n := ⟨_, rfl⟩
    have HE : Hid (Sg.sigE x' (bytesOf t) = e1) := he1
    have HS : Hid (Sg.sigS x' (bytesOf t) = s1) := hs1
    clear he1 hs1
    unfold sig
    rw [HE.out, HS.out]
    go_wp2
    exact bodyPost_ret (v := sig e1 s1) (by simp [results, Tryd.results17, go_sem, sig, c0, c1]) rfl ⟨by rw [HE.out, HS.out], (HW.out.setCell (by simp) _).setCell (by simp) _⟩
  · rw [signV_no (by omega)]
    go_enter Tryd.func17, Tryd.ntmps17
    go_wp2_with fail
    refine (G2.secret_spec _ _).mono ?_
    rintro v w1 ⟨rfl, rfl⟩
    rw [no2 hx]
    go_wp2
    exact bodyPost_ret (v := sig 0 0) (by simp [results, Tryd.results17, go_sem, sig]) rfl ⟨rfl, (Below.refl _ _).alloc (Nat.le_refl _) _⟩

theorem verR_no {y e s : Int} {t : ByteArray} (h : ¬ (t.size ≤ 8000 ∧ 1 ≤ y ∧ y ≤ 10006)) : Sg.verR y (bytesOf t) e s = false := by
  unfold Sg.verR
  exact decide_eq_false (fun k => h ⟨by have := k.1; rw [of_length] at this; exact this, k.2.1, k.2.2.1⟩)
theorem verR_no_one {y : Nat} {e s : Int} {t : ByteArray} (h : ¬ Sg.pw y 5003 10007 = 1) : Sg.verR y (bytesOf t) e s = false := by
  unfold Sg.verR
  exact decide_eq_false (fun k => h k.2.2.2.1)
theorem verR_no_sig {y e s : Int} {t : ByteArray} (h : Sg.rightR e s = false) : Sg.verR y (bytesOf t) e s = false := by
  unfold Sg.verR
  exact decide_eq_false (fun k => of_decide_eq_false h k.2.2.2.2.1)
theorem verR_bound {y e s : Nat} {t : ByteArray} (ht : t.size ≤ 8000) (y1 : 1 ≤ y) (y2 : y ≤ 10006) (hp : Sg.pw y 5003 10007 = 1) (he : e ≤ 5002) (hs : s ≤ 5002) :
    ((Sg.bound (Sg.back y e s) y (bytesOf t) : Int) == (e : Int)) = Sg.verR y (bytesOf t) e s := by
  by_cases h : Sg.bound (Sg.back y e s) y (bytesOf t) = e
  · rw [Sg.verR_yes (by rw [of_length]; exact ht) y1 y2 hp he hs h, h]; simp
  · have : Sg.verR y (bytesOf t) e s = false := by
      unfold Sg.verR
      exact decide_eq_false (fun k => h k.2.2.2.2.2)
    rw [this]
    simp; omega
theorem rightR_parts {e s : Int} (h : Sg.rightR e s = true) : 0 ≤ e ∧ e ≤ 5002 ∧ 0 ≤ s ∧ s ≤ 5002 := of_decide_eq_true h
/-- The product of two powers, in the numbers of the machine. -/
theorem prod_wrap (a b : Nat) (ha : a < 10007) (hb : b < 10007) : IntKind.i64.wrap ((a : Int) * (b : Int)) = ((a * b : Nat) : Int) := by
  have : a * b ≤ 10007 * 10007 := Nat.mul_le_mul (Nat.le_of_lt ha) (Nat.le_of_lt hb)
  rw [IntKind.wrap_i64, Int.natCast_mul]
  have e1 : ((a * b : Nat) : Int) = (a : Int) * (b : Int) := Int.natCast_mul a b
  omega
theorem sub_wrap (e : Nat) (h : e ≤ 5002) : IntKind.i64.wrap (5003 - (e : Int)) = ((5003 - e : Nat) : Int) := by
  rw [IntKind.wrap_i64]; omega
end Go.Proofs.YthmlkbgnooahlaaDoor.G4
