/-
  SignBy in the program.
-/
import Derived.Test.YthmlkbgnooahlaaDoorH3
import Derived.Test.YthmlkbgnooahlaaDoorG4
namespace Go.Proofs.YthmlkbgnooahlaaDoor.H4
open Go.RowKit
open Go.Proofs.YthmlkbgnooahlaaDoor.C0
open Go.Proofs.YthmlkbgnooahlaaDoor.HB
open Go.Proofs.YthmlkbgnooahlaaDoor.K2 (Laid)
open Go.Proofs.YthmlkbgnooahlaaDoor.K3 (bytesOf)
open Go.Proofs.YthmlkbgnooahlaaDoor.G1 (of_length of_mk size_mk num_get)
open Go.Proofs.YthmlkbgnooahlaaDoor.G2
open Go.Proofs.YthmlkbgnooahlaaDoor.G3 (sig kept2 nblk_one)
open Go.Proofs.YthmlkbgnooahlaaDoor.H3

/-- A signature that the program answers. -/
def signI (x : Int) (t : ByteArray) : Value := sig ((Sg.signRI x (bytesOf t)).1 : Nat) ((Sg.signRI x (bytesOf t)).2 : Nat)
theorem signI_no {x : Int} {t : ByteArray} (h : ¬ (t.size ≤ 8000 ∧ 1 ≤ x ∧ x ≤ 5002)) : signI x t = sig 0 0 := by
  unfold signI Sg.signRI; rw [if_neg (by rw [of_length]; exact h)]; rfl
theorem signI_yes {x : Nat} {t : ByteArray} (ht : t.size ≤ 8000) (h1 : 1 ≤ x) (h2 : x ≤ 5002) : signI x t = sig (Sg.eI x (bytesOf t) : Nat) (Sg.sI x (bytesOf t) : Nat) := by
  unfold signI Sg.signRI; rw [if_pos ⟨by rw [of_length]; exact ht, by omega, by omega⟩, Int.toNat_natCast]
theorem tot2 (x : Int) (t : ByteArray) (h : t.size ≤ 8000) : C2.total [⟨(Mb.putNum x).toArray⟩, t] ≤ 1000000 := by
  have := size_num x
  simp only [C2.total]; omega
theorem cat2 (x : Int) (t : ByteArray) : C2.cat [⟨(Mb.putNum x).toArray⟩, t] = Mb.putNum x ++ bytesOf t := by simp [C2.cat]
theorem cat2_size (x : Int) (t : ByteArray) (h : t.size ≤ 8000) : (⟨(C2.cat [⟨(Mb.putNum x).toArray⟩, t]).toArray⟩ : ByteArray).size ≤ maxLen := by
  rw [size_mk, C2.cat_length]
  have := tot2 x t h
  unfold maxLen; omega
/-- The numbers of a signature, and what is known of them in a walk. -/
theorem signI_get (x : Nat) (t : ByteArray) (h1 : 1 ≤ x) (hx : x ≤ 5002) : ∃ h r y e : Nat, Sg.hashR (Mb.putNum x ++ bytesOf t) 5002 = h ∧ h < 5002 ∧ Sg.powR 4 ((h : Int) + 1) 10007 = r ∧ r < 10007 ∧ Sg.pubR x = y ∧ y < 10007 ∧ Sg.hashR (Mb.putNum r ++ Mb.putNum y ++ bytesOf t) 5003 = e ∧ e < 5003 ∧
      Sg.eI x (bytesOf t) = e ∧ Sg.sI x (bytesOf t) = (h + 1 + e * x) % 5003 ∧ e * x ≤ 100000000 := by
  have hk := Sg.hashR_lt (Mb.putNum x ++ bytesOf t) 5002 (by omega)
  have hp : ∀ h : Nat, h < 5002 → Sg.powR 4 ((h : Int) + 1) 10007 = Sg.pw 4 (h + 1) 10007 := fun h hh => powR_yes (a := 4) (n := h + 1) (m := 10007) (by omega) (by omega) (by omega) (by omega)
  refine ⟨_, _, _, _, rfl, hk, hp _ hk, Sg.pw_lt _ _ _ (by omega), pubR_yes h1 hx, Sg.pub_lt _, rfl, Sg.hashR_lt _ 5003 (by omega), rfl, rfl, ?_⟩
  have := Sg.boundI_lt (Sg.pw 4 (Sg.hashR (Mb.putNum x ++ bytesOf t) 5002 + 1) 10007) (Sg.pub x) (bytesOf t)
  exact Nat.le_trans (Nat.mul_le_mul (Nat.le_of_lt this) hx) (by decide)

set_option maxRecDepth 100000 in
set_option maxHeartbeats 1600000 in
theorem sign_impl (x : Int) (t : ByteArray) (w : World) (ht : t.size ≤ maxLen) (hL : Laid w) :
    Calls Tryd.prog 9 #[.int .i64 x, .string t] w fun v w' => v = .returned (signI x t) ∧ Below w.heap.size w w' := by
  unfold maxLen at ht
  by_cases hs : 8000 < t.size
  · rw [signI_no (by omega)]
    have d1 : decide ((8000 : Int) < (t.size : Int)) = true := by simp; omega
    go_enter Tryd.func9, Tryd.ntmps9
    go_wp2
    exact bodyPost_ret (v := sig 0 0) (by simp [results, Tryd.results9, go_sem, sig]) rfl ⟨rfl, ((Below.refl _ _).alloc (Nat.le_refl _) _)⟩
  have d1 : decide ((8000 : Int) < (t.size : Int)) = false := by simp; omega
  by_cases hx : 1 ≤ x ∧ x ≤ 5002
  · obtain ⟨x', rfl⟩ := Int.eq_ofNat_of_zero_le (show 0 ≤ x by omega)
    rw [signI_yes (by omega) (by omega) (by omega)]
    obtain ⟨h, r, y, e, eh, hh, er, hr, ey, hy, ee, he, eE, eS, hex⟩ := signI_get x' t (by omega) (by omega)
    have HH : Hid (Sg.hashR (Mb.putNum x' ++ bytesOf t) 5002 = h) := eh
    have HR : Hid (Sg.powR 4 ((h : Int) + 1) 10007 = r) := er
    have HY : Hid (Sg.pubR x' = y) := ey
    have HE : Hid (Sg.hashR (Mb.putNum r ++ Mb.putNum y ++ bytesOf t) 5003 = e) := ee
    rw [eE, eS]
    have z0 := hL.below (albel w (.cells #[.int .i64 0, .int .i64 0] 30))
    clear eh er ey ee eE eS
    go_enter Tryd.func9, Tryd.ntmps9
    go_wp2_with fail
    refine (H0.secret_impl _ _).mono ?_
    rintro v w1 ⟨rfl, rfl⟩
    rw [yes2 hx]
    go_wp2_with fail
    refine (C1.put_impl x' _ (by omega) (by omega)).mono ?_
    rintro v w1 ⟨rfl, hb1⟩
    go_wp2_with fail
    refine (C2.joined_any w1.heap.size 0 2 2 [⟨(Mb.putNum x').toArray⟩, t] _ rfl (by simp) (by omega) (tot2 x' t (by omega)) (cells2 _ _ _)).mono ?_
    rintro v w2 ⟨rfl, hb2⟩
    have B2 := bel2 hb1 (bel2 (albel _ _) hb2)
    go_wp2_with fail
    refine (H2.hashto_impl _ 5002 _ (cat2_size x' t (by omega)) (z0.below B2)).mono ?_
    rintro v w3 ⟨rfl, hb3⟩
    rw [of_mk, cat2, HH.out]
    have B3 := bel2 B2 hb3
    clear hb1 hb2 B2 hb3
    go_wp2_with fail
    refine (H0.public_impl x' _).mono ?_
    rintro v w4 ⟨rfl, hb4⟩
    rw [HY.out]
    have B4 := bel2 B3 hb4
    go_wp2_with fail
    refine (by_impl y t _).mono ?_
    rintro v w5 ⟨rfl, hb5, k1, k2⟩
    have B5 := bel2 B4 hb5
    clear hb4 B3 B4
    unfold boundV
    go_wp2_with fail
    refine (H0.powmod_impl 4 ((h : Int) + 1) 10007 _).mono ?_
    rintro v w6 ⟨rfl, hb6⟩
    rw [HR.out]
    have B6 := bel2 B5 hb6
    have k1' := carry k1 hb6
    have k2' := carry k2 hb6
    clear k1 k2 hb5
    go_wp2_with fail
    refine (bound_impl r y t _ _ _ ⟨by omega, by omega⟩ ⟨by omega, by omega⟩ (by omega) k1' k2' (z0.below B6)).mono ?_
    rintro v w7 ⟨rfl, hb7⟩
    rw [HE.out]
    have B7 := bel2 B6 hb7
    rw [nblk_one] at B7
    obtain ⟨c0, c1, cf, hz⟩ := kept2 B7
    have HW : Hid (Below w.heap.size w w7) := ((Below.refl _ _).alloc (Nat.le_refl _) _).trans (B7.mono (Nat.le_succ _))
    clear B7 B5 B6 hb6 hb7 k1' k2'
    go_wp2
    exact bodyPost_ret (v := sig (e : Nat) (((h + 1 + e * x') % 5003 : Nat) : Int)) (by simp [results, Tryd.results9, go_sem, sig, c0, c1]) rfl ⟨rfl, (HW.out.setCell (by simp) _).setCell (by simp) _⟩
  · rw [signI_no (by omega)]
    go_enter Tryd.func9, Tryd.ntmps9
    go_wp2_with fail
    refine (H0.secret_impl _ _).mono ?_
    rintro v w1 ⟨rfl, rfl⟩
    rw [no2 hx]
    go_wp2
    exact bodyPost_ret (v := sig 0 0) (by simp [results, Tryd.results9, go_sem, sig]) rfl ⟨rfl, ((Below.refl _ _).alloc (Nat.le_refl _) _)⟩
end Go.Proofs.YthmlkbgnooahlaaDoor.H4
