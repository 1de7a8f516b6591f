/-
  l05Sign, in the specification.
-/
import Derived.Test.YthmlkbgnooahlaaDoorG1
import Derived.Test.YthmlkbgnooahlaaDoorG3
namespace Go.Proofs.YthmlkbgnooahlaaDoor.G5
open Go.RowKit
open Go.Proofs.YthmlkbgnooahlaaDoor.C0
open Go.Proofs.YthmlkbgnooahlaaDoor.K3 (bytesOf)
open Go.Proofs.YthmlkbgnooahlaaDoor.G1 (of_length of_append num_get)
open Go.Proofs.YthmlkbgnooahlaaDoor.G2 (yes2 no2)
open Go.Proofs.YthmlkbgnooahlaaDoor.G3 (sig kept2 nblk_one)

/-- The numbers of a signature, and what is known of them in a walk. -/
theorem sign_get (x : Nat) (t : ByteArray) (hx : x ≤ 5002) : ∃ a : ByteArray, (⟨(Mb.putNum x).toArray⟩ : ByteArray) = a ∧ a.size ≤ 10 ∧
    ∃ h r y e : Nat, Sg.hash (bytesOf (a ++ t)) 5002 = h ∧ h < 5002 ∧ Sg.pw 4 (h + 1) 10007 = r ∧ r < 10007 ∧ Sg.pub x = y ∧ y < 10007 ∧ Sg.bound r y (bytesOf t) = e ∧ e < 5003 ∧
      Sg.sigE x (bytesOf t) = e ∧ Sg.sigS x (bytesOf t) = (h + 1 + e * x) % 5003 ∧ e * x ≤ 100000000 := by
  obtain ⟨a, ha, sa, ea⟩ := num_get x
  refine ⟨a, ha, sa, _, _, _, _, rfl, Sg.hash_lt _ _ (by omega), rfl, Sg.pw_lt _ _ _ (by omega), rfl, Sg.pub_lt _, rfl, Sg.bound_lt _ _ _, ?_, ?_, ?_⟩
  · rw [of_append, ea]; rfl
  · rw [of_append, ea]; rfl
  · have := Sg.bound_lt (Sg.pw 4 (Sg.hash (bytesOf (a ++ t)) 5002 + 1) 10007) (Sg.pub x) (bytesOf t)
    exact Nat.le_trans (Nat.mul_le_mul (Nat.le_of_lt this) hx) (by decide)

set_option maxRecDepth 100000 in
set_option maxHeartbeats 800000 in
theorem sign0_spec (x : Nat) (t : ByteArray) (w : World) (h1 : 1 ≤ x) (hx : x ≤ 5002) (ht : t.size ≤ 8000) :
    Calls Tryd.prog 43 #[.int .i64 x, .string t] w fun v w' => v = .returned (sig (Sg.sigE x (bytesOf t) : Nat) (Sg.sigS x (bytesOf t) : Nat)) ∧ Below w.heap.size w w' := by
  obtain ⟨a, ha, sa, h, r, y, e, eh, hh, er, hr, ey, hy, ee, he, eE, eS, hex⟩ := sign_get x t hx
  have HA : Hid ((⟨(Mb.putNum x).toArray⟩ : ByteArray) = a) := ha
  have HH : Hid (Sg.hash (bytesOf (a ++ t)) 5002 = h) := eh
  have HR : Hid (Sg.pw 4 (h + 1) 10007 = r) := er
  have HY : Hid (Sg.pubR x = y) := by unfold Hid; rw [G2.pubR_yes h1 hx]; exact ey
  have HE : Hid (Sg.bound r y (bytesOf t) = e) := ee
  have st : (a ++ t).size ≤ 20000 := by rw [ByteArray.size_append]; omega
  have q1 : a.size + t.size ≤ 9223372036854775807 := by omega
  rw [eE, eS]
  clear ha eh er ey ee eE eS
  go_enter Tryd.func43, Tryd.ntmps43
  go_wp2_with fail
  refine (C1.put_spec x _ (by omega) (by omega)).mono ?_
  rintro v w1 ⟨rfl, hb1⟩
  rw [HA.out]
  go_wp2_with fail
  refine (G1.hash_spec (a ++ t) 5002 _ st (by omega) (by omega)).mono ?_
  rintro v w2 ⟨rfl, hb2⟩
  rw [HH.out]
  go_wp2_with fail
  refine (G0.pow_spec 4 (h + 1) 10007 _ (by omega) (by omega) (by omega) (by omega)).mono ?_
  rintro v w2' ⟨rfl, rfl⟩
  rw [HR.out]
  go_wp2_with fail
  refine (G2.public_spec x _).mono ?_
  rintro v w2' ⟨rfl, rfl⟩
  rw [HY.out]
  go_wp2_with fail
  refine (G1.bound_spec r y t _ (by omega) (by omega) ht).mono ?_
  rintro v w3 ⟨rfl, hb3⟩
  rw [HE.out]
  have hb : Below (w.heap.size + 1) (w.alloc (.cells #[.int .i64 0, .int .i64 0] 30)) w3 := by
    rw [nblk_one] at hb1
    exact (hb1.trans (hb2.mono (by have := hb1.size; rw [nblk_one] at this; exact this))).trans (hb3.mono (by have h1 := hb1.size; have h2 := hb2.size; rw [nblk_one] at h1; omega))
  obtain ⟨c0, c1, cf, hz⟩ := kept2 hb
  have HW : Hid (Below w.heap.size w w3) := ((Below.refl _ _).alloc (Nat.le_refl _) _).trans (hb.mono (Nat.le_succ _))
  clear hb hb1 hb2 hb3
  go_wp2
  exact bodyPost_ret (v := sig (e : Nat) (((h + 1 + e * x) % 5003 : Nat) : Int)) (by simp [results, Tryd.results43, go_sem, sig, c0, c1]) rfl ⟨rfl, (HW.out.setCell (by simp) _).setCell (by simp) _⟩
end Go.Proofs.YthmlkbgnooahlaaDoor.G5
