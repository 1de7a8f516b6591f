/-
  Is a text a pin, is a card right: in the specification.
-/
import Derived.Test.YteehgicnfageiaaDoorJ1
import Derived.Deep.RegionWith
import Derived.Deep.QuietTactic
import Derived.BigQuiet
namespace Go.Proofs.YteehgicnfageiaaDoor.N0
open Go.RowKit
open Go.Proofs.YteehgicnfageiaaDoor.C0 Go.Proofs.YteehgicnfageiaaDoor.HB
open Go.Proofs.YteehgicnfageiaaDoor.J1 (shareR yes2 no2)

/-- A byte of a text, as a number. -/
def byN (s : ByteArray) (i : Nat) : Nat := (s.data.getD i 0).toNat
theorem byN_lt (s : ByteArray) (i : Nat) : byN s i < 256 := UInt8.toNat_lt _
theorem byN_get (s : ByteArray) (i : Nat) (h : i < s.size) : (s[i]'h).toNat = byN s i := by
  unfold byN
  have h' : i < s.data.size := h
  rw [Array.getD_eq_getD_getElem?, Array.getElem?_eq_getElem h']; rfl
/-- Are the first bytes digits? -/
def digUp (s : ByteArray) : Nat → Bool
  | 0 => true
  | k + 1 => digUp s k && (decide (48 ≤ byN s k) && decide (byN s k ≤ 57))
theorem digUp_no {s : ByteArray} {k : Nat} (h : ¬ (48 ≤ byN s k ∧ byN s k ≤ 57)) : ∀ m, k < m → digUp s m = false
  | 0, hm => by omega
  | m + 1, hm => by
    unfold digUp
    by_cases e : k = m
    · subst e
      rcases Nat.lt_or_ge (byN s k) 48 with h1 | h1
      · rw [decide_eq_false (show ¬ 48 ≤ byN s k by omega)]; simp
      · rw [decide_eq_false (show ¬ byN s k ≤ 57 by omega)]; simp
    · rw [digUp_no h m (by omega)]; rfl
/-- Is it a pin? -/
def pinB (s : ByteArray) : Bool := decide (4 ≤ s.size) && (decide (s.size ≤ 8) && digUp s s.size)
theorem pinB_no {s : ByteArray} {k : Nat} (h : ¬ (48 ≤ byN s k ∧ byN s k ≤ 57)) (hk : k < s.size) : pinB s = false := by
  unfold pinB; rw [digUp_no h s.size hk]; simp
set_option maxRecDepth 100000 in
set_option maxHeartbeats 1600000 in
theorem pin_spec (s : ByteArray) (w : World) (hs : s.size ≤ maxLen) :
    Calls Tryd.prog 25 #[.string s] w fun e w' => e = .returned (.bool (pinB s)) ∧ Below w.heap.size w w' := by
  unfold maxLen at hs
  have HD : Hid (pinB s = (decide (4 ≤ s.size) && (decide (s.size ≤ 8) && digUp s s.size))) := rfl
  go_enter Tryd.func25, Tryd.ntmps25
  go_wp2_with fail
  go_loop [3] (fun i => ∃ k : Nat, k ≤ s.size ∧ k ≤ 9 ∧ i = .int .i64 (k : Nat) ∧ digUp s k = true) (fun i => 9 - (intOf i).toNat)
  case atStart => exact ⟨0, Nat.zero_le _, by omega, rfl, rfl⟩
  case round =>
    obtain ⟨k, hk, hk9, rfl, hd⟩ := hrel
    have HU : Hid (digUp s k = true) := hd
    have HNX : Hid (digUp s (k + 1) = (digUp s k && (decide (48 ≤ byN s k) && decide (byN s k ≤ 57)))) := rfl
    have HNO : Hid (¬ (48 ≤ byN s k ∧ byN s k ≤ 57) → k < s.size → pinB s = false) := fun h h' => pinB_no h h'
    clear hd
    by_cases hlt : k < s.size
    · have t1 : decide ((k : Int) < (s.size : Int)) = true := decide_eq_true (by omega)
      have hki : (k : Int) < (s.size : Int) := by omega
      by_cases h9 : k < 9
      · have t2 : decide ((k : Int) < 9) = true := decide_eq_true (by omega)
        have hg := byN_get s k hlt
        generalize byN s k = y at *
        by_cases h48 : y < 48
        · have t3 : decide ((y : Int) < 48) = true := decide_eq_true (by omega)
          have HE : Hid (pinB s = false) := HNO.out (by omega) hlt
          go_wp2
          go_ret
          rw [HE.out]
          exact ⟨rfl, Below.refl _ _⟩
        · have t3 : decide ((y : Int) < 48) = false := decide_eq_false (by omega)
          by_cases h57 : 57 < y
          · have t4 : decide ((57 : Int) < (y : Int)) = true := decide_eq_true (by omega)
            have HE : Hid (pinB s = false) := HNO.out (by omega) hlt
            go_wp2
            go_ret
            rw [HE.out]
            exact ⟨rfl, Below.refl _ _⟩
          · have t4 : decide ((57 : Int) < (y : Int)) = false := decide_eq_false (by omega)
            have HN2 : Hid (digUp s (k + 1) = true) := by
              unfold Hid; rw [HNX.out, HU.out, decide_eq_true (show 48 ≤ y by omega), decide_eq_true (show y ≤ 57 by omega)]; rfl
            go_wp2
            go_round
            case rel => exact ⟨k + 1, by omega, by omega, by go_num, HN2.out⟩
            case measure => simp [intOf]; omega
      · have t2 : decide ((k : Int) < 9) = false := decide_eq_false (by omega)
        have HE : Hid (pinB s = false) := by unfold Hid; rw [HD.out, decide_eq_false (show ¬ s.size ≤ 8 by omega)]; simp
        have t5 : decide ((4 : Int) ≤ (s.size : Int)) = true := decide_eq_true (by omega)
        have t6 : decide ((s.size : Int) ≤ 8) = false := decide_eq_false (by omega)
        go_wp2
        go_ret
        rw [HE.out]
        exact ⟨rfl, Below.refl _ _⟩
    · obtain rfl : k = s.size := by omega
      have t1 : decide ((s.size : Int) < (s.size : Int)) = false := decide_eq_false (by omega)
      by_cases h4 : 4 ≤ s.size
      · have t5 : decide ((4 : Int) ≤ (s.size : Int)) = true := decide_eq_true (by omega)
        by_cases h8 : s.size ≤ 8
        · have t6 : decide ((s.size : Int) ≤ 8) = true := decide_eq_true (by omega)
          have HE : Hid (pinB s = true) := by unfold Hid; rw [HD.out, decide_eq_true h4, decide_eq_true h8, HU.out]; rfl
          go_wp2
          go_ret
          rw [HE.out]
          exact ⟨rfl, Below.refl _ _⟩
        · have t6 : decide ((s.size : Int) ≤ 8) = false := decide_eq_false (by omega)
          have HE : Hid (pinB s = false) := by unfold Hid; rw [HD.out, decide_eq_false h8]; simp
          go_wp2
          go_ret
          rw [HE.out]
          exact ⟨rfl, Below.refl _ _⟩
      · have t5 : decide ((4 : Int) ≤ (s.size : Int)) = false := decide_eq_false (by omega)
        have HE : Hid (pinB s = false) := by unfold Hid; rw [HD.out, decide_eq_false h4]; rfl
        go_wp2
        go_ret
        rw [HE.out]
        exact ⟨rfl, Below.refl _ _⟩
/-- A card. -/
structure Cd where
  id : Int
  ep : Int
  pin : ByteArray
  tr : Int
  ix : Int
  dt : ByteArray
def cdV (c : Cd) : Value := .agg #[.int .i64 c.id, .int .i64 c.ep, .string c.pin, .int .i64 c.tr, .int .i64 c.ix, .string c.dt]
/-- Is it a right one? -/
def cardB (c : Cd) : Bool := decide (1 ≤ c.id ∧ c.id ≤ 6) && (decide (0 ≤ c.ep ∧ c.ep ≤ 1000000) && (decide (c.pin.size = 32) && (decide (0 ≤ c.tr ∧ c.tr ≤ 3) && shareR c.ix c.dt)))
theorem time_spec (n : Int) (w : World) :
    Calls Tryd.prog 64 #[.int .i64 n] w fun e w' => e = .returned (.bool (decide (0 ≤ n ∧ n ≤ 1000000))) ∧ w = w' := by
  go_enter Tryd.func64, Tryd.ntmps64
  go_wp2_with fail
  refine (G0.is_spec n 0 1000000 _).mono ?_
  rintro e w1 ⟨rfl, rfl⟩
  go_wp2
  go_ret
  rw [Bool.decide_and]
  exact ⟨rfl, rfl⟩
set_option maxRecDepth 100000 in
set_option maxHeartbeats 1600000 in
theorem card_spec (c : Cd) (w : World) (hp : c.pin.size ≤ maxLen) (hd : c.dt.size ≤ maxLen) :
    Calls Tryd.prog 27 #[cdV c] w fun e w' => e = .returned (.bool (cardB c)) ∧ Below w.heap.size w w' := by
  obtain ⟨id, ep, pin, tr, ix, dt⟩ := c
  unfold maxLen at hp
  dsimp only at hp hd
  have HD : Hid (cardB ⟨id, ep, pin, tr, ix, dt⟩ = (decide (1 ≤ id ∧ id ≤ 6) && (decide (0 ≤ ep ∧ ep ≤ 1000000) && (decide (pin.size = 32) && (decide (0 ≤ tr ∧ tr ≤ 3) && shareR ix dt))))) := rfl
  have HB : Hid (Below w.heap.size w (w.alloc (.cells #[.int .i64 id, .int .i64 ep, .string pin, .int .i64 tr, .int .i64 ix, .string dt] 26))) := albel w _
  rw [HD.out]
  unfold cdV
  cases h1 : decide (1 ≤ id ∧ id ≤ 6) with
  | false =>
    go_enter Tryd.func27, Tryd.ntmps27
    go_wp2_with fail
    refine (G0.is_spec id 1 6 _).mono ?_
    rintro e w1 ⟨rfl, rfl⟩
    rw [h1]
    go_wp2
    go_ret
    exact ⟨rfl, HB.out⟩
  | true =>
    cases h2 : decide (0 ≤ ep ∧ ep ≤ 1000000) with
    | false =>
      go_enter Tryd.func27, Tryd.ntmps27
      go_wp2_with fail
      refine (G0.is_spec id 1 6 _).mono ?_
      rintro e w1 ⟨rfl, rfl⟩
      rw [h1]
      go_wp2_with fail
      refine (time_spec ep _).mono ?_
      rintro e w1 ⟨rfl, rfl⟩
      rw [h2]
      go_wp2
      go_ret
      exact ⟨rfl, HB.out⟩
    | true =>
      by_cases h3 : pin.size = 32
      · have t3 : ((pin.size : Int) == 32) = true := by rw [h3]; rfl
        rw [decide_eq_true h3]
        cases h4 : decide (0 ≤ tr ∧ tr ≤ 3) with
        | false =>
          go_enter Tryd.func27, Tryd.ntmps27
          go_wp2_with fail
          refine (G0.is_spec id 1 6 _).mono ?_
          rintro e w1 ⟨rfl, rfl⟩
          rw [h1]
          go_wp2_with fail
          refine (time_spec ep _).mono ?_
          rintro e w1 ⟨rfl, rfl⟩
          rw [h2]
          go_wp2_with fail
          refine (G0.is_spec tr 0 3 _).mono ?_
          rintro e w1 ⟨rfl, rfl⟩
          rw [h4]
          go_wp2
          go_ret
          exact ⟨rfl, HB.out⟩
        | true =>
          go_enter Tryd.func27, Tryd.ntmps27
          go_wp2_with fail
          refine (G0.is_spec id 1 6 _).mono ?_
          rintro e w1 ⟨rfl, rfl⟩
          rw [h1]
          go_wp2_with fail
          refine (time_spec ep _).mono ?_
          rintro e w1 ⟨rfl, rfl⟩
          rw [h2]
          go_wp2_with fail
          refine (G0.is_spec tr 0 3 _).mono ?_
          rintro e w1 ⟨rfl, rfl⟩
          rw [h4]
          go_wp2_with fail
          refine (J1.right_spec ix dt _ hd).mono ?_
          rintro e w2 ⟨rfl, hb2⟩
          have HB2 : Hid (Below w.heap.size w w2) := bel2 HB.out hb2
          clear hb2
          go_wp2
          go_ret
          exact ⟨rfl, HB2.out⟩
      · have t3 : ((pin.size : Int) == 32) = false := by rw [beq_eq_false_iff_ne]; omega
        rw [decide_eq_false h3]
        go_enter Tryd.func27, Tryd.ntmps27
        go_wp2_with fail
        refine (G0.is_spec id 1 6 _).mono ?_
        rintro e w1 ⟨rfl, rfl⟩
        rw [h1]
        go_wp2_with fail
        refine (time_spec ep _).mono ?_
        rintro e w1 ⟨rfl, rfl⟩
        rw [h2]
        go_wp2
        go_ret
        exact ⟨rfl, HB.out⟩
end Go.Proofs.YteehgicnfageiaaDoor.N0
