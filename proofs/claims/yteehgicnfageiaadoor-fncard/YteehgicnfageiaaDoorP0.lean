/-
  Is a text a pin, is a card right: in the program.
-/
import Derived.Test.YteehgicnfageiaaDoorN0
import Derived.LoopTactic
import Derived.Laws.RangeAny
namespace Go.Proofs.YteehgicnfageiaaDoor.P0
open Go.RowKit
open Go.Proofs.YteehgicnfageiaaDoor.C0 Go.Proofs.YteehgicnfageiaaDoor.HB
open Go.Proofs.YteehgicnfageiaaDoor.J1 (shareR yes2 no2)
open Go.Proofs.YteehgicnfageiaaDoor.N0 (Cd cdV cardB byN byN_get digUp pinB pinB_no)

theorem from_impl (lo n hi : Int) (w : World) :
    Calls Tryd.prog 70 #[.int .i64 lo, .int .i64 n, .int .i64 hi] w fun e w' => e = .returned (.bool (decide (lo ≤ n ∧ n ≤ hi))) ∧ w = w' := by
  by_cases h1 : lo ≤ n
  · by_cases h2 : n ≤ hi
    · rw [show decide (lo ≤ n ∧ n ≤ hi) = true by simp [h1, h2]]
      go_enter Tryd.func70, Tryd.ntmps70
      go_wp2
      go_ret
      exact ⟨rfl, rfl⟩
    · rw [show decide (lo ≤ n ∧ n ≤ hi) = false by simp [h1, h2]]
      go_enter Tryd.func70, Tryd.ntmps70
      go_wp2
      go_ret
      exact ⟨rfl, rfl⟩
  · rw [show decide (lo ≤ n ∧ n ≤ hi) = false by simp [h1]]
    go_enter Tryd.func70, Tryd.ntmps70
    go_wp2
    go_ret
    exact ⟨rfl, rfl⟩
set_option maxRecDepth 100000 in
theorem right_impl (i : Int) (d : ByteArray) (w : World) (hd : d.size ≤ maxLen) :
    Calls Tryd.prog 72 #[.agg #[.int .i64 i, .string d]] w fun e w' => e = .returned (.bool (shareR i d)) ∧ Below w.heap.size w w' := by
  unfold maxLen at hd
  have HB : Hid (Below w.heap.size w (w.alloc (.cells #[.int .i64 i, .string d] 24))) := albel w _
  by_cases hi : 1 ≤ i ∧ i ≤ 6
  · have HR : Hid (decide ((1 : Int) ≤ (d.size : Int) ∧ (d.size : Int) ≤ 16) = shareR i d) := by
      unfold Hid shareR
      apply Bool.eq_iff_iff.2
      rw [decide_eq_true_iff, decide_eq_true_iff]
      omega
    go_enter Tryd.func72, Tryd.ntmps72
    go_wp2_with fail
    refine (from_impl 1 i 6 _).mono ?_
    rintro x w1 ⟨rfl, rfl⟩
    rw [yes2 hi]
    go_wp2_with fail
    refine (from_impl 1 _ 16 _).mono ?_
    rintro x w1 ⟨rfl, rfl⟩
    rw [HR.out]
    go_wp2
    go_ret
    exact ⟨rfl, HB.out⟩
  · rw [show shareR i d = false from decide_eq_false (fun h => hi ⟨h.1, h.2.1⟩)]
    go_enter Tryd.func72, Tryd.ntmps72
    go_wp2_with fail
    refine (from_impl 1 i 6 _).mono ?_
    rintro x w1 ⟨rfl, rfl⟩
    rw [no2 hi]
    go_wp2
    go_ret
    exact ⟨rfl, HB.out⟩
theorem time_impl (n : Int) (w : World) :
    Calls Tryd.prog 71 #[.int .i64 n] w fun e w' => e = .returned (.bool (decide (0 ≤ n ∧ n ≤ 1000000))) ∧ w = w' := by
  by_cases h1 : 0 ≤ n
  · by_cases h2 : n ≤ 1000000
    · rw [show decide (0 ≤ n ∧ n ≤ 1000000) = true by simp [h1, h2]]
      go_enter Tryd.func71, Tryd.ntmps71
      go_wp2
      go_ret
      exact ⟨rfl, rfl⟩
    · rw [show decide (0 ≤ n ∧ n ≤ 1000000) = false by simp [h1, h2]]
      go_enter Tryd.func71, Tryd.ntmps71
      go_wp2
      go_ret
      exact ⟨rfl, rfl⟩
  · rw [show decide (0 ≤ n ∧ n ≤ 1000000) = false by simp [h1]]
    go_enter Tryd.func71, Tryd.ntmps71
    go_wp2
    go_ret
    exact ⟨rfl, rfl⟩
theorem pinB_size {s : ByteArray} (h : ¬ (4 ≤ s.size ∧ s.size ≤ 8)) : pinB s = false := by
  unfold pinB
  by_cases h4 : 4 ≤ s.size
  · rw [decide_eq_false (show ¬ s.size ≤ 8 by omega)]; simp
  · rw [decide_eq_false h4]; rfl
set_option maxRecDepth 100000 in
set_option maxHeartbeats 1600000 in
theorem pin_impl (s : ByteArray) (w : World) (hs : s.size ≤ maxLen) :
    Calls Tryd.prog 24 #[.string s] w fun e w' => e = .returned (.bool (pinB s)) ∧ Below w.heap.size w w' := by
  unfold maxLen at hs
  by_cases hz : 4 ≤ s.size ∧ s.size ≤ 8
  · have HD : Hid (pinB s = (decide (4 ≤ s.size) && (decide (s.size ≤ 8) && digUp s s.size))) := rfl
    have hfr : decide ((4 : Int) ≤ (s.size : Int) ∧ (s.size : Int) ≤ 8) = true := decide_eq_true (by omega)
    go_enter Tryd.func24, Tryd.ntmps24
    go_wp2_with fail
    refine (from_impl 4 (s.size : Int) 8 _).mono ?_
    rintro e w1 ⟨rfl, rfl⟩
    rw [hfr]
    go_wp2_with fail
    go_loopw [4] (fun _ w' => ∃ k : Nat, w' = w.iter s k ∧ k ≤ s.size ∧ digUp s k = true) (fun _ w' => s.size - w'.iterPos w.heap.size)
    case atStart => exact ⟨0, rfl, Nat.zero_le _, rfl⟩
    case round =>
      obtain ⟨k, rfl, hk, hd⟩ := hrel
      have HU : Hid (digUp s k = true) := hd
      have HNX : Hid (digUp s (k + 1) = (digUp s k && (decide (48 ≤ byN s k) && decide (byN s k ≤ 57)))) := rfl
      have HNO : Hid (¬ (48 ≤ byN s k ∧ byN s k ≤ 57) → k < s.size → pinB s = false) := fun h h' => pinB_no h h'
      have HB : Hid (∀ j, Below w.heap.size w (w.iter s j)) := fun j => albel w _
      clear hd
      by_cases hlt : k < s.size
      · have hg := byN_get s k hlt
        by_cases ha : (s[k]'hlt).toNat < 128
        · have hnx : ∀ ty, (Instr.next (.pointer (some ⟨w.heap.size, 0, none⟩)) true ty).run Tryd.prog (w.iter s k) = _ := fun ty => run_next_ascii w s k ty hlt ha
          rw [hg] at hnx
          clear ha hg
          generalize byN s k = y at *
          by_cases h48 : y < 48
          · have t3 : decide ((y : Int) < 48) = true := decide_eq_true (by omega)
            have t3' : (y : Int) < 48 := by omega
            have HE : Hid (pinB s = false) := HNO.out (by omega) hlt
            go_wp2
            go_ret
            rw [HE.out]
            exact ⟨rfl, HB.out _⟩
          · have t3 : decide ((y : Int) < 48) = false := decide_eq_false (by omega)
            have t3' : ¬ (y : Int) < 48 := by omega
            by_cases h57 : 57 < y
            · have t4 : decide ((57 : Int) < (y : Int)) = true := decide_eq_true (by omega)
              have t4' : (57 : Int) < (y : Int) := by omega
              have HE : Hid (pinB s = false) := HNO.out (by omega) hlt
              go_wp2
              go_ret
              rw [HE.out]
              exact ⟨rfl, HB.out _⟩
            · have t4 : decide ((57 : Int) < (y : Int)) = false := decide_eq_false (by omega)
              have t4' : ¬ (57 : Int) < (y : Int) := by omega
              have HN2 : Hid (digUp s (k + 1) = true) := by
                unfold Hid; rw [HNX.out, HU.out, decide_eq_true (show 48 ≤ y by omega), decide_eq_true (show y ≤ 57 by omega)]; rfl
              go_wp2
              go_roundw
              case rel => exact ⟨k + 1, rfl, by omega, HN2.out⟩
              case measure => simp; omega
        · have hnx : ∀ ty, (Instr.next (.pointer (some ⟨w.heap.size, 0, none⟩)) true ty).run Tryd.prog (w.iter s k) = _ := fun ty => run_next_any w s k ty hlt
          have hh := (decode_high s k hlt (by omega)).1
          have HE : Hid (pinB s = false) := HNO.out (by rw [← hg]; omega) hlt
          clear ha hg
          generalize (Utf8.decode s k).1 = y at *
          generalize (Utf8.decode s k).2 = d at *
          have t3 : decide ((y : Int) < 48) = false := decide_eq_false (by omega)
          have t3' : ¬ (y : Int) < 48 := by omega
          have t4 : decide ((57 : Int) < (y : Int)) = true := decide_eq_true (by omega)
          have t4' : (57 : Int) < (y : Int) := by omega
          go_wp2
          go_ret
          rw [HE.out]
          exact ⟨rfl, HB.out _⟩
      · have hnx : ∀ ty, (Instr.next (.pointer (some ⟨w.heap.size, 0, none⟩)) true ty).run Tryd.prog (w.iter s k) = _ := fun ty => run_next_end w s k ty hlt
        obtain rfl : k = s.size := by omega
        have HE : Hid (pinB s = true) := by unfold Hid; rw [HD.out, decide_eq_true hz.1, decide_eq_true hz.2, HU.out]; rfl
        go_wp2
        go_ret
        rw [HE.out]
        exact ⟨rfl, HB.out _⟩
  · rw [pinB_size hz]
    have hfr : decide ((4 : Int) ≤ (s.size : Int) ∧ (s.size : Int) ≤ 8) = false := decide_eq_false (by omega)
    go_enter Tryd.func24, Tryd.ntmps24
    go_wp2_with fail
    refine (from_impl 4 (s.size : Int) 8 _).mono ?_
    rintro e w1 ⟨rfl, rfl⟩
    rw [hfr]
    go_wp2
    go_ret
    exact ⟨rfl, Below.refl _ _⟩
set_option maxRecDepth 100000 in
set_option maxHeartbeats 1600000 in
theorem card_impl (c : Cd) (w : World) (hp : c.pin.size ≤ maxLen) (hd : c.dt.size ≤ maxLen) :
    Calls Tryd.prog 26 #[cdV c] w fun e w' => e = .returned (.bool (cardB c)) ∧ Below w.heap.size w w' := by
  obtain ⟨id, ep, pin, tr, ix, dt⟩ := c
  unfold maxLen at hp
  dsimp only at hp hd
  have HD : Hid (cardB ⟨id, ep, pin, tr, ix, dt⟩ = (decide (1 ≤ id ∧ id ≤ 6) && (decide (0 ≤ ep ∧ ep ≤ 1000000) && (decide (pin.size = 32) && (decide (0 ≤ tr ∧ tr ≤ 3) && shareR ix dt))))) := rfl
  have HB : Hid (Below w.heap.size w (w.alloc (.cells #[.int .i64 id, .int .i64 ep, .string pin, .int .i64 tr, .int .i64 ix, .string dt] 26))) := albel w _
  rw [HD.out]
  unfold cdV
  cases h1 : decide (1 ≤ id ∧ id ≤ 6) with
  | false =>
    go_enter Tryd.func26, Tryd.ntmps26
    go_wp2_with fail
    refine (from_impl 1 id 6 _).mono ?_
    rintro e w1 ⟨rfl, rfl⟩
    rw [h1]
    go_wp2
    go_ret
    exact ⟨rfl, HB.out⟩
  | true =>
    cases h2 : decide (0 ≤ ep ∧ ep ≤ 1000000) with
    | false =>
      go_enter Tryd.func26, Tryd.ntmps26
      go_wp2_with fail
      refine (from_impl 1 id 6 _).mono ?_
      rintro e w1 ⟨rfl, rfl⟩
      rw [h1]
      go_wp2_with fail
      refine (time_impl ep _).mono ?_
      rintro e w1 ⟨rfl, rfl⟩
      rw [h2]
      go_wp2
      go_ret
      exact ⟨rfl, HB.out⟩
    | true =>
      by_cases h3 : pin.size = 32
      · have t3 : ((pin.size : Int) == 32) = true := by rw [h3]; rfl
        rw [decide_eq_true h3]
        cases h4 : decide (0 ≤ tr ∧ tr ≤ 3) with
        | false =>
          go_enter Tryd.func26, Tryd.ntmps26
          go_wp2_with fail
          refine (from_impl 1 id 6 _).mono ?_
          rintro e w1 ⟨rfl, rfl⟩
          rw [h1]
          go_wp2_with fail
          refine (time_impl ep _).mono ?_
          rintro e w1 ⟨rfl, rfl⟩
          rw [h2]
          go_wp2_with fail
          refine (from_impl 0 tr 3 _).mono ?_
          rintro e w1 ⟨rfl, rfl⟩
          rw [h4]
          go_wp2
          go_ret
          exact ⟨rfl, HB.out⟩
        | true =>
          go_enter Tryd.func26, Tryd.ntmps26
          go_wp2_with fail
          refine (from_impl 1 id 6 _).mono ?_
          rintro e w1 ⟨rfl, rfl⟩
          rw [h1]
          go_wp2_with fail
          refine (time_impl ep _).mono ?_
          rintro e w1 ⟨rfl, rfl⟩
          rw [h2]
          go_wp2_with fail
          refine (from_impl 0 tr 3 _).mono ?_
          rintro e w1 ⟨rfl, rfl⟩
          rw [h4]
          go_wp2_with fail
          refine (right_impl ix dt _ hd).mono ?_
          rintro e w2 ⟨rfl, hb2⟩
          have HB2 : Hid (Below w.heap.size w w2) := bel2 HB.out hb2
          clear hb2
          go_wp2
          go_ret
          exact ⟨rfl, HB2.out⟩
      · have t3 : ((pin.size : Int) == 32) = false := by rw [beq_eq_false_iff_ne]; omega
        rw [decide_eq_false h3]
        go_enter Tryd.func26, Tryd.ntmps26
        go_wp2_with fail
        refine (from_impl 1 id 6 _).mono ?_
        rintro e w1 ⟨rfl, rfl⟩
        rw [h1]
        go_wp2_with fail
        refine (time_impl ep _).mono ?_
        rintro e w1 ⟨rfl, rfl⟩
        rw [h2]
        go_wp2
        go_ret
        exact ⟨rfl, HB.out⟩
end Go.Proofs.YteehgicnfageiaaDoor.P0
