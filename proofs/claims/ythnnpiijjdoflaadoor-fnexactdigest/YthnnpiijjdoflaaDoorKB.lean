/-
  Stretch, in the specification and in the program.
-/
import Derived.Test.YthnnpiijjdoflaaDoorKA
namespace Go.Proofs.YthnnpiijjdoflaaDoor.KB
open Go.RowKit
open Go.Proofs.YthnnpiijjdoflaaDoor.C0
open Go.Proofs.YthnnpiijjdoflaaDoor.KA
open Go.Proofs.YthnnpiijjdoflaaDoor.K2 (Laid)
open Go.Proofs.YthnnpiijjdoflaaDoor.K3 (bytesOf)

/-- What holds at the head of a round: the pass is stretched n times. -/
def Rel (p : List UInt8) (r d : Nat) (w0 : World) (t i : Value) (w : World) : Prop :=
  ∃ n : Nat, n + d ≤ r ∧ i = .int .i64 n ∧ t = .string ⟨(Ms.stretch p (n + d)).toArray⟩ ∧ Below w0.heap.size w0 w

set_option maxRecDepth 100000 in
set_option maxHeartbeats 800000 in
theorem stretch_spec (p : ByteArray) (r : Int) (w : World) (hp : p.size ≤ maxLen) (l0 : -9223372036854775808 ≤ r) (u0 : r ≤ 9223372036854775807) :
    Calls Tryd.prog 15 #[.string p, .int .i64 r] w fun e w' => e = .returned (.string ⟨(stretchB p r).toArray⟩) ∧ Below w.heap.size w w' := by
  unfold maxLen at hp
  by_cases h1 : 8000 < p.size
  · rw [stretchB_no (.inl h1)]
    have d1 : decide ((8000 : Int) < (p.size : Int)) = true := by simp; omega
    go_enter Tryd.func15, Tryd.ntmps15
    go_wp2
    go_ret
    exact ⟨rfl, Below.refl _ _⟩
  have d1 : decide ((8000 : Int) < (p.size : Int)) = false := by simp; omega
  by_cases h2 : r < 1
  · rw [stretchB_no (.inr (.inl h2))]
    have d2 : decide (r < 1) = true := by simp; omega
    go_enter Tryd.func15, Tryd.ntmps15
    go_wp2
    go_ret
    exact ⟨rfl, Below.refl _ _⟩
  have d2 : decide (r < 1) = false := by simp; omega
  by_cases h3 : 100 < r
  · rw [stretchB_no (.inr (.inr h3))]
    have d3 : decide (100 < r) = true := by simp; omega
    go_enter Tryd.func15, Tryd.ntmps15
    go_wp2
    go_ret
    exact ⟨rfl, Below.refl _ _⟩
  have d3 : decide (100 < r) = false := by simp; omega
  rw [stretchB_yes h1 h2 h3]
  obtain ⟨n, rfl⟩ := Int.eq_ofNat_of_zero_le (show 0 ≤ r by omega)
  rw [Int.toNat_natCast]
  go_enter Tryd.func15, Tryd.ntmps15
  go_wp2_with fail
  go_loopw [5, 6] (fun t i wr => Rel (bytesOf p) n 0 w t i wr) (fun _ i _ => n - (intOf i).toNat)
  case atStart => exact ⟨0, by omega, rfl, rfl, Below.refl _ _⟩
  case round =>
    obtain ⟨k, hk, rfl, rfl, hbel⟩ := hrel
    rw [Nat.add_zero] at *
    by_cases hlt : k < n
    · have hsz : (⟨(Ms.stretch (bytesOf p) k).toArray⟩ : ByteArray).size ≤ 8000 := by rw [size_mk]; have := stretch_len (bytesOf p) k; omega
      have HS : Hid (Ms.mac (bytesOf p) (bytesOf ⟨(Ms.stretch (bytesOf p) k).toArray⟩) = Ms.stretch (bytesOf p) (k + 1)) := by unfold Hid; rw [of_mk]; rfl
      have hcall := mac_spec p ⟨(Ms.stretch (bytesOf p) k).toArray⟩ wr (by omega) hsz
      rw [HS.out] at hcall
      have Hbel : Hid (Below w.heap.size w wr) := hbel
      clear HS hsz hbel
      go_wp2_with fail
      refine hcall.mono ?_
      rintro e w1 ⟨rfl, hb1⟩
      have HB : Hid (Below w.heap.size w w1) := Hbel.out.trans (hb1.mono Hbel.out.size)
      clear hcall hb1
      go_wp2
      go_roundw
      case rel => exact ⟨k + 1, by omega, by go_num, rfl, HB.out⟩
      case measure => simp [intOf]; omega
    · obtain rfl : k = n := by omega
      have Hbel : Hid (Below w.heap.size w wr) := hbel
      clear hbel
      go_wp2
      go_ret
      exact ⟨rfl, Hbel.out⟩

set_option maxRecDepth 100000 in
set_option maxHeartbeats 800000 in
theorem stretch_impl (p : ByteArray) (r : Int) (w : World) (hp : p.size ≤ maxLen) (l0 : -9223372036854775808 ≤ r) (u0 : r ≤ 9223372036854775807) (hL : Laid w) :
    Calls Tryd.prog 14 #[.string p, .int .i64 r] w fun e w' => e = .returned (.string ⟨(stretchB p r).toArray⟩) ∧ Below w.heap.size w w' := by
  unfold maxLen at hp
  by_cases h1 : 8000 < p.size
  · rw [stretchB_no (.inl h1)]
    have d1 : decide ((8000 : Int) < (p.size : Int)) = true := by simp; omega
    go_enter Tryd.func14, Tryd.ntmps14
    go_wp2
    go_ret
    exact ⟨rfl, Below.refl _ _⟩
  have d1 : decide ((8000 : Int) < (p.size : Int)) = false := by simp; omega
  by_cases h2 : r < 1
  · rw [stretchB_no (.inr (.inl h2))]
    have d2 : decide (r < 1) = true := by simp; omega
    go_enter Tryd.func14, Tryd.ntmps14
    go_wp2
    go_ret
    exact ⟨rfl, Below.refl _ _⟩
  have d2 : decide (r < 1) = false := by simp; omega
  by_cases h3 : 100 < r
  · rw [stretchB_no (.inr (.inr h3))]
    have d3 : decide (100 < r) = true := by simp; omega
    go_enter Tryd.func14, Tryd.ntmps14
    go_wp2
    go_ret
    exact ⟨rfl, Below.refl _ _⟩
  have d3 : decide (100 < r) = false := by simp; omega
  rw [stretchB_yes h1 h2 h3]
  obtain ⟨n, rfl⟩ := Int.eq_ofNat_of_zero_le (show 0 ≤ r by omega)
  rw [Int.toNat_natCast]
  obtain ⟨m, hmn⟩ : ∃ m, n - 1 = m := ⟨_, rfl⟩
  have Hmn : Hid (n = m + 1) := by unfold Hid; omega
  have hcall0 := mac_impl0 p ⟨#[115, 97, 108, 116]⟩ w (by omega) (by decide) hL
  have HS0 : Hid (Ms.mac (bytesOf p) (bytesOf ⟨#[115, 97, 108, 116]⟩) = Ms.stretch (bytesOf p) 1) := rfl
  rw [HS0.out] at hcall0
  have hm1 : (n : Int) - 1 = (m : Int) := by omega
  clear HS0 hmn
  go_enter Tryd.func14, Tryd.ntmps14
  go_wp2_with fail
  refine hcall0.mono ?_
  rintro e w0 ⟨rfl, hb0⟩
  clear hcall0
  go_wp2_with fail
  go_loopw [5, 21] (fun t i wr => Rel (bytesOf p) (m + 1) 1 w t i wr) (fun _ i _ => m - (intOf i).toNat)
  case atStart => exact ⟨0, by omega, rfl, rfl, hb0⟩
  case round =>
    obtain ⟨k, hk, rfl, rfl, hbel⟩ := hrel
    by_cases hlt : k < m
    · have hsz : (⟨(Ms.stretch (bytesOf p) (k + 1)).toArray⟩ : ByteArray).size ≤ 8000 := by rw [size_mk]; have := stretch_len (bytesOf p) (k + 1); omega
      have HS : Hid (Ms.mac (bytesOf p) (bytesOf ⟨(Ms.stretch (bytesOf p) (k + 1)).toArray⟩) = Ms.stretch (bytesOf p) (k + 1 + 1)) := by unfold Hid; rw [of_mk]; rfl
      have hcall := mac_impl0 p ⟨(Ms.stretch (bytesOf p) (k + 1)).toArray⟩ wr (by omega) hsz (hL.below hbel)
      rw [HS.out] at hcall
      have Hbel : Hid (Below w.heap.size w wr) := hbel
      clear HS hsz hbel
      go_wp2_with fail
      refine hcall.mono ?_
      rintro e w1 ⟨rfl, hb1⟩
      have HB : Hid (Below w.heap.size w w1) := Hbel.out.trans (hb1.mono Hbel.out.size)
      clear hcall hb1
      go_wp2
      go_roundw
      case rel => exact ⟨k + 1, by omega, by go_num, rfl, HB.out⟩
      case measure => simp [intOf]; omega
    · obtain rfl : k = m := by omega
      have Hbel : Hid (Below w.heap.size w wr) := hbel
      clear hbel
      go_wp2
      go_ret
      exact ⟨ret_str (by rw [Hmn.out]), Hbel.out⟩
end Go.Proofs.YthnnpiijjdoflaaDoor.KB
