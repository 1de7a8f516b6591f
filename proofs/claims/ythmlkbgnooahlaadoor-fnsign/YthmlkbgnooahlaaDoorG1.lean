/-
  The number of a text, and what a signature is bound by, in the specification.
-/
import Derived.Test.YthmlkbgnooahlaaDoorG0
import Derived.Test.YthmlkbgnooahlaaDoorC1
import Derived.Test.YthmlkbgnooahlaaDoorK8
namespace Go.Proofs.YthmlkbgnooahlaaDoor.G1
open Go.RowKit
open Go.Proofs.YthmlkbgnooahlaaDoor.C0
open Go.Proofs.YthmlkbgnooahlaaDoor.K3 (bytesOf)

theorem size_mk (l : List UInt8) : (⟨l.toArray⟩ : ByteArray).size = l.length := by simp [ByteArray.size]
theorem of_mk (l : List UInt8) : bytesOf ⟨l.toArray⟩ = l := by simp
theorem of_append (s t : ByteArray) : bytesOf (s ++ t) = bytesOf s ++ bytesOf t := by simp
theorem of_length (s : ByteArray) : (bytesOf s).length = s.size := by simp
theorem six_at (d : ByteArray) (k : Nat) (h : k < d.size) : Sg.six (bytesOf d) (k + 1) = 256 * Sg.six (bytesOf d) k + d[k].toNat := by
  rw [Sg.six_succ (bytesOf d) k (by rw [of_length]; exact h)]; rfl
theorem six_small (d : List UInt8) (k : Nat) (h : k ≤ d.length) (h6 : k ≤ 6) : Sg.six d k ≤ 281474976710656 :=
  Nat.le_of_lt (Nat.lt_of_lt_of_le (Sg.six_lt d k h) (Nat.le_trans (Nat.pow_le_pow_right (by omega) h6) (by decide)))
theorem digest_get (t : List UInt8) : ∃ d : ByteArray, (⟨(Ms.digest t).toArray⟩ : ByteArray) = d ∧ d.size = 32 ∧ ∀ m, Sg.six (bytesOf d) 6 % m = Sg.hash t m :=
  ⟨_, rfl, by rw [size_mk, Ms.digest_length], fun m => by rw [of_mk]; rfl⟩

set_option maxRecDepth 100000 in
set_option maxHeartbeats 800000 in
theorem hash_spec (t : ByteArray) (m : Nat) (w : World) (ht : t.size ≤ 20000) (h1 : 1 ≤ m) (hm : m ≤ 1000000) :
    Calls Tryd.prog 41 #[.string t, .int .i64 m] w fun e w' => e = .returned (.int .i64 (Sg.hash (bytesOf t) m : Nat)) ∧ Below w.heap.size w w' := by
  obtain ⟨d, hd, sd, hh⟩ := digest_get (bytesOf t)
  have HD : Hid ((⟨(Ms.digest (bytesOf t)).toArray⟩ : ByteArray) = d) := hd
  have HH : Hid (Sg.six (bytesOf d) 6 % m = Sg.hash (bytesOf t) m) := hh m
  have HL : Hid ((bytesOf d).length = 32) := by unfold Hid; rw [of_length]; exact sd
  generalize Sg.hash (bytesOf t) m = res at *
  clear hd hh
  have hm0 : ((m : Int) == 0) = false := by simp; omega
  go_enter Tryd.func41, Tryd.ntmps41
  go_wp2_with fail
  refine (K8.all_spec t _ ht).mono ?_
  rintro e w1 ⟨rfl, hb1⟩
  rw [HD.out]
  have HB : Hid (Below w.heap.size w w1) := hb1
  clear HD hb1
  go_wp2
  go_loop [6, 7] (fun n i => ∃ k : Nat, k ≤ 6 ∧ i = .int .i64 k ∧ n = .int .i64 (Sg.six (bytesOf d) k : Nat)) (fun _ i => 6 - (intOf i).toNat)
  case atStart => exact ⟨0, by omega, rfl, rfl⟩
  case round =>
    obtain ⟨k, hk, rfl, rfl⟩ := hrel
    have hx := six_small (bytesOf d) k (by rw [HL.out]; omega) hk
    by_cases hlt : k < 6
    · have HS : Hid (Sg.six (bytesOf d) (k + 1) = 256 * Sg.six (bytesOf d) k + (d[k]'(by omega)).toNat) := six_at d k (by omega)
      have hb := (d[k]'(by omega)).toNat_lt
      generalize Sg.six (bytesOf d) k = x at *
      go_wp2
      go_round
      case rel => exact ⟨k + 1, by omega, by go_num, by rw [HS.out]; go_num⟩
      case measure => simp [intOf]; omega
    · obtain rfl : k = 6 := by omega
      generalize Sg.six (bytesOf d) 6 = x at *
      go_wp2
      go_ret
      exact ⟨by rw [← HH.out]; go_num, HB.out⟩

/-- The bytes of a number, as a text. -/
theorem num_get (n : Int) : ∃ d : ByteArray, (⟨(Mb.putNum n).toArray⟩ : ByteArray) = d ∧ d.size ≤ 10 ∧ bytesOf d = Mb.putNum n :=
  ⟨_, rfl, by rw [size_mk]; exact (Mb.leb_len 9 _).2, of_mk _⟩

set_option maxRecDepth 100000 in
set_option maxHeartbeats 800000 in
theorem bound_spec (r y : Nat) (t : ByteArray) (w : World) (hr : r ≤ 9223372036854775807) (hy : y ≤ 9223372036854775807) (ht : t.size ≤ 8000) :
    Calls Tryd.prog 45 #[.int .i64 r, .int .i64 y, .string t] w fun e w' => e = .returned (.int .i64 (Sg.bound r y (bytesOf t) : Nat)) ∧ Below w.heap.size w w' := by
  obtain ⟨a, ha, sa, ea⟩ := num_get r
  obtain ⟨b, hb, sb, eb⟩ := num_get y
  have HA : Hid ((⟨(Mb.putNum r).toArray⟩ : ByteArray) = a) := ha
  have HB : Hid ((⟨(Mb.putNum y).toArray⟩ : ByteArray) = b) := hb
  have HE : Hid (Sg.hash (bytesOf (a ++ b ++ t)) 5003 = Sg.bound r y (bytesOf t)) := by
    unfold Hid Sg.bound; rw [of_append, of_append, ea, eb]
  have st : (a ++ b ++ t).size ≤ 20000 := by rw [ByteArray.size_append, ByteArray.size_append]; omega
  have q1 : a.size + b.size ≤ 9223372036854775807 := by omega
  have q2 : (a ++ b).size + t.size ≤ 9223372036854775807 := by rw [ByteArray.size_append]; omega
  clear ha hb ea eb
  generalize Sg.bound r y (bytesOf t) = res at *
  go_enter Tryd.func45, Tryd.ntmps45
  go_wp2_with fail
  refine (C1.put_spec r _ (by omega) (by omega)).mono ?_
  rintro e w1 ⟨rfl, hb1⟩
  rw [HA.out]
  go_wp2_with fail
  refine (C1.put_spec y _ (by omega) (by omega)).mono ?_
  rintro e w2 ⟨rfl, hb2⟩
  rw [HB.out]
  go_wp2_with fail
  refine (hash_spec (a ++ b ++ t) 5003 _ st (by omega) (by omega)).mono ?_
  rintro e w3 ⟨rfl, hb3⟩
  rw [HE.out]
  have H3 : Hid (Below w.heap.size w w3) := (hb1.trans (hb2.mono hb1.size)).trans (hb3.mono (Nat.le_trans hb1.size hb2.size))
  clear hb1 hb2 hb3
  go_wp2
  go_ret
  exact ⟨rfl, H3.out⟩
end Go.Proofs.YthmlkbgnooahlaaDoor.G1
