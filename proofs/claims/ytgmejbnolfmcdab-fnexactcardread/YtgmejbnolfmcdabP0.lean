/-
  Is a text a pin, is a card right: in the program.
-/
import Derived.Test.YtgmejbnolfmcdabN0
import Derived.LoopTactic
import Derived.Laws.RangeAny
namespace Go.Proofs.Ytgmejbnolfmcdab.P0
open Go.RowKit
open Go.Proofs.Ytgmejbnolfmcdab.C0 Go.Proofs.Ytgmejbnolfmcdab.HB
open Go.Proofs.Ytgmejbnolfmcdab.J1 (shareR yes2 no2)
open Go.Proofs.Ytgmejbnolfmcdab.N0 (Cd cdV cardB byN byN_get digUp pinB pinB_no)

theorem from_impl (lo n hi : Int) (w : World) :
    Calls Try.prog 37 #[.int .i64 lo, .int .i64 n, .int .i64 hi] w fun e w' => e = .returned (.bool (decide (lo ≤ n ∧ n ≤ hi))) ∧ w = w' := by
  by_cases h1 : lo ≤ n
  · by_cases h2 : n ≤ hi
    · rw [show decide (lo ≤ n ∧ n ≤ hi) = true by simp [h1, h2]]
      go_enter Try.func37, Try.ntmps37
      go_wp2
      go_ret
      exact ⟨rfl, rfl⟩
    · rw [show decide (lo ≤ n ∧ n ≤ hi) = false by simp [h1, h2]]
      go_enter Try.func37, Try.ntmps37
      go_wp2
      go_ret
      exact ⟨rfl, rfl⟩
  · rw [show decide (lo ≤ n ∧ n ≤ hi) = false by simp [h1]]
    go_enter Try.func37, Try.ntmps37
    go_wp2
    go_ret
    exact ⟨rfl, rfl⟩
set_option maxRecDepth 100000 in
theorem right_impl (i : Int) (d : ByteArray) (w : World) (hd : d.size ≤ maxLen) :
    Calls Try.prog 39 #[.agg #[.int .i64 i, .string d]] w fun e w' => e = .returned (.bool (shareR i d)) ∧ Below w.heap.size w w' := by
  unfold maxLen at hd
  have HB : Hid (Below w.heap.size w (w.alloc (.cells #[.int .i64 i, .string d] 28))) := albel w _
  by_cases hi : 1 ≤ i ∧ i ≤ 6
  · have HR : Hid (decide ((1 : Int) ≤ (d.size : Int) ∧ (d.size : Int) ≤ 16) = shareR i d) := by
      unfold Hid shareR
      apply Bool.eq_iff_iff.2
      rw [decide_eq_true_iff, decide_eq_true_iff]
      omega
    go_enter Try.func39, Try.ntmps39
    go_wp2_with fail
    refine (from_impl 1 i 6 _).mono ?_
    rintro x w1 ⟨rfl, rfl⟩
    rw [yes2 hi]
    go_wp2_with fail
    refine (from_impl 1 _ 16 _).mono ?_
    rintro x w1 ⟨rfl, rfl⟩
    rw [HR.out]
    go_wp2
    go_ret
    exact ⟨rfl, HB.out⟩
  · rw [show shareR i d = false from decide_eq_false (fun h => hi ⟨h.1, h.2.1⟩)]
    go_enter Try.func39, Try.ntmps39
    go_wp2_with fail
    refine (from_impl 1 i 6 _).mono ?_
    rintro x w1 ⟨rfl, rfl⟩
    rw [no2 hi]
    go_wp2
    go_ret
    exact ⟨rfl, HB.out⟩
theorem time_impl (n : Int) (w : World) :
    Calls Try.prog 38 #[.int .i64 n] w fun e w' => e = .returned (.bool (decide (0 ≤ n ∧ n ≤ 1000000))) ∧ w = w' := by
  by_cases h1 : 0 ≤ n
  · by_cases h2 : n ≤ 1000000
    · rw [show decide (0 ≤ n ∧ n ≤ 1000000) = true by simp [h1, h2]]
      go_enter Try.func38, Try.ntmps38
      go_wp2
      go_ret
      exact ⟨rfl, rfl⟩
    · rw [show decide (0 ≤ n ∧ n ≤ 1000000) = false by simp [h1, h2]]
      go_enter Try.func38, Try.ntmps38
      go_wp2
      go_ret
      exact ⟨rfl, rfl⟩
  · rw [show decide (0 ≤ n ∧ n ≤ 1000000) = false by simp [h1]]
    go_enter Try.func38, Try.ntmps38
    go_wp2
    go_ret
    exact ⟨rfl, rfl⟩
set_option maxRecDepth 100000 in
set_option maxHeartbeats 1600000 in
theorem card_impl (c : Cd) (w : World) (hp : c.pin.size ≤ maxLen) (hd : c.dt.size ≤ maxLen) :
    Calls Try.prog 18 #[cdV c] w fun e w' => e = .returned (.bool (cardB c)) ∧ Below w.heap.size w w' := by
  obtain ⟨id, ep, pin, tr, ix, dt⟩ := c
  unfold maxLen at hp
  dsimp only at hp hd
  have HD : Hid (cardB ⟨id, ep, pin, tr, ix, dt⟩ = (decide (1 ≤ id ∧ id ≤ 6) && (decide (0 ≤ ep ∧ ep ≤ 1000000) && (decide (pin.size = 32) && (decide (0 ≤ tr ∧ tr ≤ 3) && shareR ix dt))))) := rfl
  have HB : Hid (Below w.heap.size w (w.alloc (.cells #[.int .i64 id, .int .i64 ep, .string pin, .int .i64 tr, .int .i64 ix, .string dt] 30))) := albel w _
  rw [HD.out]
  unfold cdV
  cases h1 : decide (1 ≤ id ∧ id ≤ 6) with
  | false =>
    go_enter Try.func18, Try.ntmps18
    go_wp2_with fail
    refine (from_impl 1 id 6 _).mono ?_
    rintro e w1 ⟨rfl, rfl⟩
    rw [h1]
    go_wp2
    go_ret
    exact ⟨rfl, HB.out⟩
  | true =>
    cases h2 : decide (0 ≤ ep ∧ ep ≤ 1000000) with
    | false =>
      go_enter Try.func18, Try.ntmps18
      go_wp2_with fail
      refine (from_impl 1 id 6 _).mono ?_
      rintro e w1 ⟨rfl, rfl⟩
      rw [h1]
      go_wp2_with fail
      refine (time_impl ep _).mono ?_
      rintro e w1 ⟨rfl, rfl⟩
      rw [h2]
      go_wp2
      go_ret
      exact ⟨rfl, HB.out⟩
    | true =>
      by_cases h3 : pin.size = 32
      · have t3 : ((pin.size : Int) == 32) = true := by rw [h3]; rfl
        rw [decide_eq_true h3]
        cases h4 : decide (0 ≤ tr ∧ tr ≤ 3) with
        | false =>
          go_enter Try.func18, Try.ntmps18
          go_wp2_with fail
          refine (from_impl 1 id 6 _).mono ?_
          rintro e w1 ⟨rfl, rfl⟩
          rw [h1]
          go_wp2_with fail
          refine (time_impl ep _).mono ?_
          rintro e w1 ⟨rfl, rfl⟩
          rw [h2]
          go_wp2_with fail
          refine (from_impl 0 tr 3 _).mono ?_
          rintro e w1 ⟨rfl, rfl⟩
          rw [h4]
          go_wp2
          go_ret
          exact ⟨rfl, HB.out⟩
        | true =>
          go_enter Try.func18, Try.ntmps18
          go_wp2_with fail
          refine (from_impl 1 id 6 _).mono ?_
          rintro e w1 ⟨rfl, rfl⟩
          rw [h1]
          go_wp2_with fail
          refine (time_impl ep _).mono ?_
          rintro e w1 ⟨rfl, rfl⟩
          rw [h2]
          go_wp2_with fail
          refine (from_impl 0 tr 3 _).mono ?_
          rintro e w1 ⟨rfl, rfl⟩
          rw [h4]
          go_wp2_with fail
          refine (right_impl ix dt _ hd).mono ?_
          rintro e w2 ⟨rfl, hb2⟩
          have HB2 : Hid (Below w.heap.size w w2) := bel2 HB.out hb2
          clear hb2
          go_wp2
          go_ret
          exact ⟨rfl, HB2.out⟩
      · have t3 : ((pin.size : Int) == 32) = false := by rw [beq_eq_false_iff_ne]; omega
        rw [decide_eq_false h3]
        go_enter Try.func18, Try.ntmps18
        go_wp2_with fail
        refine (from_impl 1 id 6 _).mono ?_
        rintro e w1 ⟨rfl, rfl⟩
        rw [h1]
        go_wp2_with fail
        refine (time_impl ep _).mono ?_
        rintro e w1 ⟨rfl, rfl⟩
        rw [h2]
        go_wp2
        go_ret
        exact ⟨rfl, HB.out⟩
end Go.Proofs.Ytgmejbnolfmcdab.P0
