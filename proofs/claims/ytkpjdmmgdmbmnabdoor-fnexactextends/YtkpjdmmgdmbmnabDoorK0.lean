/-
  A number of 32 bits turned right: what the specification's function and the program's answer.
-/
import Derived.Test.YtkpjdmmgdmbmnabDoorC0
import Derived.Test.YtkpjdmmgdmbmnabDoorQA
import Derived.Deep.Draws
namespace Go.Proofs.YtkpjdmmgdmbmnabDoor.K0
open Go.RowKit
open Go.Proofs.YtkpjdmmgdmbmnabDoor.C0

theorem cast_shr (x k : Nat) : (x : Int) / 2 ^ k = ((x / 2 ^ k : Nat) : Int) := by simp
theorem cast_shl (x k : Nat) : (x : Int) * 2 ^ k % 4294967296 = ((x * 2 ^ k % 4294967296 : Nat) : Int) := by simp
theorem turned (x k : Nat) (hx : x < 4294967296) : bits .or .u32 ((x : Int) / 2 ^ k) ((x : Int) * 2 ^ (32 - k) % 4294967296) = ((Ms.rotr x k : Nat) : Int) := by
  rw [cast_shr, cast_shl, u32_or_nat _ _ (Ms.div_lt _ hx) (Nat.mod_lt _ (by omega))]; rfl
theorem turned' (x k : Nat) (hx : x < 4294967296) : bits .or .u32 ((x : Int) * 2 ^ (32 - k) % 4294967296) ((x : Int) / 2 ^ k) = ((Ms.rotr x k : Nat) : Int) := by
  rw [cast_shr, cast_shl, u32_or_nat _ _ (Nat.mod_lt _ (by omega)) (Ms.div_lt _ hx), Nat.or_comm]; rfl

set_option maxRecDepth 100000 in
theorem turn_spec (x k : Nat) (w : World) (hx : x < 4294967296) (h1 : 0 < k) (h2 : k < 32) :
    Calls Tryd.prog 53 #[.int .u32 x, .int .u64 k] w fun e w' => e = .returned (.int .u32 (Ms.rotr x k : Nat)) ∧ w = w' := by
  have ht := turned x k hx
  go_enter Tryd.func53, Tryd.ntmps53
  go_wp2
  go_ret
  exact ⟨rfl, rfl⟩

theorem places (k : Nat) (h1 : 0 < k) (h2 : k < 32) : bits .and .u64 (IntKind.u64.wrap (-(k : Int))) 31 = ((32 - k : Nat) : Int) := by
  have e : IntKind.u64.wrap (-(k : Int)) = ((18446744073709551616 - k : Nat) : Int) := by
    rw [IntKind.wrap_u64]; omega
  rw [e, show (31 : Int) = ((31 : Nat) : Int) from rfl, u64_and_nat _ _ (by omega) (by omega), nat_mask5]
  omega

set_option maxRecDepth 100000 in
theorem rot_lib (x k : Nat) (w : World) (hx : x < 4294967296) (h1 : 0 < k) (h2 : k < 32) :
    Calls Tryd.prog 62 #[.int .u32 x, .int .i64 (-(k : Int))] w fun e w' => e = .returned (.int .u32 (Ms.rotr x k : Nat)) ∧ w = w' := by
  obtain ⟨j, hj⟩ : ∃ j, 32 - k = j := ⟨_, rfl⟩
  have ht := turned' x k hx
  have hp := places k h1 h2
  rw [hj] at ht hp
  obtain rfl : k = 32 - j := by omega
  have Hj : Hid (32 - (32 - j) = j) := hj
  have h3 : 0 < j := by omega
  have h4 : j < 32 := by omega
  clear hj h1 h2
  go_enter Tryd.func62, Tryd.ntmps62
  go_wp2
  go_ret
  exact ⟨rfl, rfl⟩

set_option maxRecDepth 100000 in
theorem turn_impl (x k : Nat) (w : World) (hx : x < 4294967296) (h1 : 0 < k) (h2 : k < 32) :
    Calls Tryd.prog 61 #[.int .u32 x, .int .i64 k] w fun e w' => e = .returned (.int .u32 (Ms.rotr x k : Nat)) ∧ w = w' := by
  go_enter Tryd.func61, Tryd.ntmps61
  go_wp2_with fail
  refine (rot_lib x k _ hx h1 h2).mono ?_
  rintro e w1 ⟨rfl, rfl⟩
  go_wp2
  go_ret
  exact ⟨rfl, rfl⟩
/-- The same in a region that draws its order and only reads. -/
theorem turn_quiet (x : Nat) (z : Int) (w : World) (m : Nat) (hx : x < 4294967296) (h1 : 0 < z) (h2 : z < 32) :
    Calls Tryd.prog 61 #[.int .u32 x, .int .i64 z] (w.drewN m) fun e w' => e = .returned (.int .u32 (Ms.rotr x z.toNat : Nat)) ∧ ∃ q, w' = w.drewN q := by
  obtain ⟨k, rfl⟩ := Int.eq_ofNat_of_zero_le (show 0 ≤ z by omega)
  exact (turn_impl x k _ hx (by omega) (by omega)).mono fun _ _ h => ⟨h.1, m, h.2.symm⟩
theorem turn_quiet_spec (x : Nat) (z : Int) (w : World) (m : Nat) (hx : x < 4294967296) (h1 : 0 < z) (h2 : z < 32) :
    Calls Tryd.prog 53 #[.int .u32 x, .int .u64 z] (w.drewN m) fun e w' => e = .returned (.int .u32 (Ms.rotr x z.toNat : Nat)) ∧ ∃ q, w' = w.drewN q := by
  obtain ⟨k, rfl⟩ := Int.eq_ofNat_of_zero_le (show 0 ≤ z by omega)
  exact (turn_spec x k _ hx (by omega) (by omega)).mono fun _ _ h => ⟨h.1, m, h.2.symm⟩
theorem turn_any (x : Nat) (z : Int) (w : World) (hx : x < 4294967296) (h1 : 0 < z) (h2 : z < 32) :
    Calls Tryd.prog 61 #[.int .u32 x, .int .i64 z] w fun e w' => e = .returned (.int .u32 (Ms.rotr x z.toNat : Nat)) ∧ w = w' := by
  obtain ⟨k, rfl⟩ := Int.eq_ofNat_of_zero_le (show 0 ≤ z by omega)
  exact turn_impl x k _ hx (by omega) (by omega)
theorem turn_any_spec (x : Nat) (z : Int) (w : World) (hx : x < 4294967296) (h1 : 0 < z) (h2 : z < 32) :
    Calls Tryd.prog 53 #[.int .u32 x, .int .u64 z] w fun e w' => e = .returned (.int .u32 (Ms.rotr x z.toNat : Nat)) ∧ w = w' := by
  obtain ⟨k, rfl⟩ := Int.eq_ofNat_of_zero_le (show 0 ≤ z by omega)
  exact turn_spec x k _ hx (by omega) (by omega)
theorem add_wrap (a b : Nat) : IntKind.u32.wrap ((a : Int) + (b : Int)) = ((Ms.add a b : Nat) : Int) := by
  rw [IntKind.wrap_u32']; simp [Ms.add]
theorem add_mod (a b : Nat) : ((a : Int) + (b : Int)) % 4294967296 = ((Ms.add a b : Nat) : Int) := by simp [Ms.add]
theorem xor3 (a b c : Nat) (ha : a < 4294967296) (hb : b < 4294967296) (hc : c < 4294967296) : bits .xor .u32 (bits .xor .u32 (a : Int) (b : Int)) (c : Int) = (((a ^^^ b) ^^^ c : Nat) : Int) := by
  rw [u32_xor_nat a b ha hb, u32_xor_nat _ c (Ms.xor_lt ha hb) hc]
theorem low0_eq (x : Nat) (h : x < 4294967296) : bits .xor .u32 (bits .xor .u32 ((Ms.rotr x 7 : Nat) : Int) ((Ms.rotr x 18 : Nat) : Int)) ((x : Int) / 8) = ((Ms.low0 x : Nat) : Int) := by
  rw [show ((x : Int) / 8) = ((x / 8 : Nat) : Int) by simp, xor3 _ _ _ (Ms.rotr_lt _ h) (Ms.rotr_lt _ h) (Ms.div_lt _ h)]; rfl
theorem low1_eq (x : Nat) (h : x < 4294967296) : bits .xor .u32 (bits .xor .u32 ((Ms.rotr x 17 : Nat) : Int) ((Ms.rotr x 19 : Nat) : Int)) ((x : Int) / 1024) = ((Ms.low1 x : Nat) : Int) := by
  rw [show ((x : Int) / 1024) = ((x / 1024 : Nat) : Int) by simp, xor3 _ _ _ (Ms.rotr_lt _ h) (Ms.rotr_lt _ h) (Ms.div_lt _ h)]; rfl
theorem up0_eq (x : Nat) (h : x < 4294967296) : bits .xor .u32 (bits .xor .u32 ((Ms.rotr x 2 : Nat) : Int) ((Ms.rotr x 13 : Nat) : Int)) ((Ms.rotr x 22 : Nat) : Int) = ((Ms.up0 x : Nat) : Int) := by
  rw [xor3 _ _ _ (Ms.rotr_lt _ h) (Ms.rotr_lt _ h) (Ms.rotr_lt _ h)]; rfl
theorem up1_eq (x : Nat) (h : x < 4294967296) : bits .xor .u32 (bits .xor .u32 ((Ms.rotr x 6 : Nat) : Int) ((Ms.rotr x 11 : Nat) : Int)) ((Ms.rotr x 25 : Nat) : Int) = ((Ms.up1 x : Nat) : Int) := by
  rw [xor3 _ _ _ (Ms.rotr_lt _ h) (Ms.rotr_lt _ h) (Ms.rotr_lt _ h)]; rfl
theorem not_xor (r : Nat) (h : r < 4294967296) : 4294967295 ^^^ r = Ms.inv r := by
  have e : (BitVec.allOnes 32 ^^^ BitVec.ofNat 32 r).toNat = (~~~ (BitVec.ofNat 32 r)).toNat := by rw [BitVec.xor_comm, BitVec.xor_allOnes]
  rw [BitVec.toNat_xor, BitVec.toNat_not, BitVec.toNat_ofNat, BitVec.toNat_allOnes] at e
  rw [Nat.mod_eq_of_lt (by omega)] at e
  unfold Ms.inv
  omega
theorem not_eq (e : Nat) (he : e < 4294967296) : bits .xor .u32 (if IntKind.u32.signed = true then -1 else IntKind.u32.max) (e : Int) = ((Ms.inv e : Nat) : Int) := by
  rw [if_neg (by decide)]
  show bits .xor .u32 ((4294967295 : Nat) : Int) (e : Int) = _
  rw [u32_xor_nat _ _ (by omega) he, not_xor e he]
theorem ch_eq (e f g : Nat) (he : e < 4294967296) (hf : f < 4294967296) (hg : g < 4294967296) :
    bits .xor .u32 (bits .and .u32 (e : Int) (f : Int)) (bits .and .u32 (bits .xor .u32 (if IntKind.u32.signed = true then -1 else IntKind.u32.max) (e : Int)) (g : Int)) = ((Ms.ch e f g : Nat) : Int) := by
  rw [not_eq e he, u32_and_nat e f he hf, u32_and_nat _ g (Ms.inv_lt e) hg, u32_xor_nat _ _ (Ms.and_lt he) (Ms.and_lt (Ms.inv_lt e))]; rfl
theorem maj_eq (a b c : Nat) (ha : a < 4294967296) (hb : b < 4294967296) (hc : c < 4294967296) :
    bits .xor .u32 (bits .xor .u32 (bits .and .u32 (a : Int) (b : Int)) (bits .and .u32 (a : Int) (c : Int))) (bits .and .u32 (b : Int) (c : Int)) = ((Ms.maj a b c : Nat) : Int) := by
  rw [u32_and_nat a b ha hb, u32_and_nat a c ha hc, u32_and_nat b c hb hc, xor3 _ _ _ (Ms.and_lt ha) (Ms.and_lt ha) (Ms.and_lt hb)]; rfl
theorem t1_eq (s : Ms.St) (k w : Nat) : ((s.h : Int) + (Ms.up1 s.e : Nat) + (Ms.ch s.e s.f s.g : Nat) + (k : Int) + (w : Int)) % 4294967296 = ((Ms.t1 s k w : Nat) : Int) := by
  simp only [Ms.t1, Ms.add]; omega
theorem t2_eq (s : Ms.St) : (((Ms.up0 s.a : Nat) : Int) + (Ms.maj s.a s.b s.c : Nat)) % 4294967296 = ((Ms.t2 s : Nat) : Int) := by
  simp only [Ms.t2, Ms.add]; omega
end Go.Proofs.YtkpjdmmgdmbmnabDoor.K0
