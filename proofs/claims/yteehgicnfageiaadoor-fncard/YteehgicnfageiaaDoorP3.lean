/-
  New cards, in the specification.
-/
import Derived.Test.YteehgicnfageiaaDoorP2
namespace Go.Proofs.YteehgicnfageiaaDoor.P3
open Go.RowKit
open Go.Proofs.YteehgicnfageiaaDoor.C0 Go.Proofs.YteehgicnfageiaaDoor.HB
open Go.Proofs.YteehgicnfageiaaDoor.J1 (shareR yes2 no2)
open Go.Proofs.YteehgicnfageiaaDoor.N0 (Cd cdV cardB pinB)
open Go.Proofs.YteehgicnfageiaaDoor.P1 (CO coV ill coV_ill)
open Go.Proofs.YteehgicnfageiaaDoor.P2

theorem new_big {id ep : Int} {pin : ByteArray} {ix : Int} {dt : ByteArray} (h : 8000 < pin.size) : newR id ep pin ix dt = ill 2 := by unfold newR; rw [if_pos h]
theorem new_no {id ep : Int} {pin : ByteArray} {ix : Int} {dt : ByteArray} (h : ¬ 8000 < pin.size) (k : newOk id ep pin ix dt = false) : newR id ep pin ix dt = ill 1 := by unfold newR; rw [if_neg h, if_neg (by rw [k]; simp)]
theorem new_yes {id ep : Int} {pin : ByteArray} {ix : Int} {dt : ByteArray} (h : ¬ 8000 < pin.size) (k : newOk id ep pin ix dt = true) : newR id ep pin ix dt = ⟨⟨id, ep, macOf id pin, 3, ix, dt⟩, ⟨#[]⟩, 0⟩ := by unfold newR; rw [if_neg h, if_pos k]
set_option maxRecDepth 100000 in
set_option maxHeartbeats 3200000 in
theorem new_spec (id ep : Int) (pin : ByteArray) (ix : Int) (dt : ByteArray) (w : World) (hp : pin.size ≤ maxLen) (hd : dt.size ≤ maxLen) :
    Calls Tryd.prog 21 #[.int .i64 id, .int .i64 ep, .string pin, .agg #[.int .i64 ix, .string dt]] w fun e w' => e = .returned (coV (newR id ep pin ix dt)) ∧ Below w.heap.size w w' := by
  have HP : Hid (∀ W, Calls Tryd.prog 25 #[.string pin] W fun e w' => e = .returned (.bool (pinB pin)) ∧ Below W.heap.size W w') := fun W => N0.pin_spec pin W hp
  have HS : Hid (∀ W, Calls Tryd.prog 65 #[.agg #[.int .i64 ix, .string dt]] W fun e w' => e = .returned (.bool (shareR ix dt)) ∧ Below W.heap.size W w') := fun W => J1.right_spec ix dt W hd
  have hn := two_new w (.cells #[.int .i64 ix, .string dt] 24) (.cells #[.int .i64 0, .int .i64 0, .string ⟨#[]⟩, .int .i64 0, .int .i64 0, .string ⟨#[]⟩, .string ⟨#[]⟩, .int .i64 0] 30)
  have KS : Hid _ := hn.1
  have KR : Hid _ := hn.2.1
  have B0 : Hid _ := hn.2.2
  clear hn
  unfold maxLen at hp
  by_cases hz : 8000 < pin.size
  · rw [new_big hz, coV_ill]
    have d1 : (8000 : Int) < (pin.size : Int) := by omega
    go_enter Tryd.func21, Tryd.ntmps21
    go_wp2_with fail
    refine (ill_spec 2 _).mono ?_
    rintro e w9 ⟨rfl, hb9⟩
    rw [coV_ill]
    obtain ⟨r0, r1, r2, r3, r4, r5, r6, r7, rf⟩ := blk8 (carry KR.out hb9)
    have B9 : Hid _ := bel2 B0.out hb9
    clear hb9
    go_wp2
    exact bodyPost_ret (v := .agg #[.int .i64 0, .int .i64 0, .string ⟨#[]⟩, .int .i64 0, .int .i64 0, .string ⟨#[]⟩, .string ⟨#[]⟩, .int .i64 2]) (by simp [results, Tryd.results21, go_sem, r0, r1, r2, r3, r4, r5, r6, r7]) rfl ⟨rfl, set8 B9.out (by omega) _ _ _ _ _ _ _ _⟩
  have d1 : ¬ (8000 : Int) < (pin.size : Int) := by omega
  have HD : Hid (newOk id ep pin ix dt = (decide (1 ≤ id ∧ id ≤ 6) && (decide (0 ≤ ep ∧ ep ≤ 1000000) && (pinB pin && shareR ix dt)))) := rfl
  cases h1 : decide (1 ≤ id ∧ id ≤ 6) with
  | false =>
    rw [new_no hz (by rw [HD.out, h1]; rfl), coV_ill]
    go_enter Tryd.func21, Tryd.ntmps21
    go_wp2_with fail
    refine (G0.is_spec id 1 6 _).mono ?_
    rintro e w1 ⟨rfl, rfl⟩
    rw [h1]
    go_wp2_with fail
    refine (ill_spec 1 _).mono ?_
    rintro e w9 ⟨rfl, hb9⟩
    rw [coV_ill]
    obtain ⟨r0, r1, r2, r3, r4, r5, r6, r7, rf⟩ := blk8 (carry KR.out hb9)
    have B9 : Hid _ := bel2 B0.out hb9
    clear hb9
    go_wp2
    exact bodyPost_ret (v := .agg #[.int .i64 0, .int .i64 0, .string ⟨#[]⟩, .int .i64 0, .int .i64 0, .string ⟨#[]⟩, .string ⟨#[]⟩, .int .i64 1]) (by simp [results, Tryd.results21, go_sem, r0, r1, r2, r3, r4, r5, r6, r7]) rfl ⟨rfl, set8 B9.out (by omega) _ _ _ _ _ _ _ _⟩
  | true =>
  cases h2 : decide (0 ≤ ep ∧ ep ≤ 1000000) with
  | false =>
    rw [new_no hz (by rw [HD.out, h1, h2]; rfl), coV_ill]
    go_enter Tryd.func21, Tryd.ntmps21
    go_wp2_with fail
    refine (G0.is_spec id 1 6 _).mono ?_
    rintro e w1 ⟨rfl, rfl⟩
    rw [h1]
    go_wp2_with fail
    refine (N0.time_spec ep _).mono ?_
    rintro e w1 ⟨rfl, rfl⟩
    rw [h2]
    go_wp2_with fail
    refine (ill_spec 1 _).mono ?_
    rintro e w9 ⟨rfl, hb9⟩
    rw [coV_ill]
    obtain ⟨r0, r1, r2, r3, r4, r5, r6, r7, rf⟩ := blk8 (carry KR.out hb9)
    have B9 : Hid _ := bel2 B0.out hb9
    clear hb9
    go_wp2
    exact bodyPost_ret (v := .agg #[.int .i64 0, .int .i64 0, .string ⟨#[]⟩, .int .i64 0, .int .i64 0, .string ⟨#[]⟩, .string ⟨#[]⟩, .int .i64 1]) (by simp [results, Tryd.results21, go_sem, r0, r1, r2, r3, r4, r5, r6, r7]) rfl ⟨rfl, set8 B9.out (by omega) _ _ _ _ _ _ _ _⟩
  | true =>
  cases h3 : pinB pin with
  | false =>
    rw [new_no hz (by rw [HD.out, h1, h2, h3]; rfl), coV_ill]
    rw [h3] at HP
    go_enter Tryd.func21, Tryd.ntmps21
    go_wp2_with fail
    refine (G0.is_spec id 1 6 _).mono ?_
    rintro e w1 ⟨rfl, rfl⟩
    rw [h1]
    go_wp2_with fail
    refine (N0.time_spec ep _).mono ?_
    rintro e w1 ⟨rfl, rfl⟩
    rw [h2]
    go_wp2_with fail
    refine (HP.out _).mono ?_
    rintro e w2 ⟨rfl, hb2⟩
    have B2 := bel2 B0.out hb2
    have kS := carry KS.out hb2
    have kR := carry KR.out hb2
    obtain ⟨s0, s1⟩ := blk2c kS
    obtain ⟨r0, r1, r2, r3, r4, r5, r6, r7, rf⟩ := blk8 kR
    clear hb2
    have KS2 : Hid _ := kS
    have KR2 : Hid _ := kR
    have B2H : Hid _ := B2
    clear kS kR B2
    go_wp2_with fail
    refine (ill_spec 1 _).mono ?_
    rintro e w9 ⟨rfl, hb9⟩
    rw [coV_ill]
    obtain ⟨r0, r1, r2, r3, r4, r5, r6, r7, rf⟩ := blk8 (carry KR2.out hb9)
    have B9 : Hid _ := bel2 B2H.out hb9
    clear hb9
    go_wp2
    exact bodyPost_ret (v := .agg #[.int .i64 0, .int .i64 0, .string ⟨#[]⟩, .int .i64 0, .int .i64 0, .string ⟨#[]⟩, .string ⟨#[]⟩, .int .i64 1]) (by simp [results, Tryd.results21, go_sem, r0, r1, r2, r3, r4, r5, r6, r7]) rfl ⟨rfl, set8 B9.out (by omega) _ _ _ _ _ _ _ _⟩
  | true =>
  cases h4 : shareR ix dt with
  | false =>
    rw [new_no hz (by rw [HD.out, h1, h2, h3, h4]; rfl), coV_ill]
    rw [h3] at HP
    rw [h4] at HS
    go_enter Tryd.func21, Tryd.ntmps21
    go_wp2_with fail
    refine (G0.is_spec id 1 6 _).mono ?_
    rintro e w1 ⟨rfl, rfl⟩
    rw [h1]
    go_wp2_with fail
    refine (N0.time_spec ep _).mono ?_
    rintro e w1 ⟨rfl, rfl⟩
    rw [h2]
    go_wp2_with fail
    refine (HP.out _).mono ?_
    rintro e w2 ⟨rfl, hb2⟩
    have B2 := bel2 B0.out hb2
    have kS := carry KS.out hb2
    have kR := carry KR.out hb2
    obtain ⟨s0, s1⟩ := blk2c kS
    obtain ⟨r0, r1, r2, r3, r4, r5, r6, r7, rf⟩ := blk8 kR
    clear hb2
    have KS2 : Hid _ := kS
    have KR2 : Hid _ := kR
    have B2H : Hid _ := B2
    clear kS kR B2
    go_wp2_with fail
    refine (HS.out _).mono ?_
    rintro e w3 ⟨rfl, hb3⟩
    have B3 := bel2 B2H.out hb3
    have kS := carry KS2.out hb3
    have kR := carry KR2.out hb3
    clear s0 s1 r0 r1 r2 r3 r4 r5 r6 r7 rf
    obtain ⟨s0, s1⟩ := blk2c kS
    obtain ⟨r0, r1, r2, r3, r4, r5, r6, r7, rf⟩ := blk8 kR
    clear hb3
    have KS3 : Hid _ := kS
    have KR3 : Hid _ := kR
    have B3H : Hid _ := B3
    clear kS kR B3
    go_wp2_with fail
    refine (ill_spec 1 _).mono ?_
    rintro e w9 ⟨rfl, hb9⟩
    rw [coV_ill]
    obtain ⟨r0, r1, r2, r3, r4, r5, r6, r7, rf⟩ := blk8 (carry KR3.out hb9)
    have B9 : Hid _ := bel2 B3H.out hb9
    clear hb9
    go_wp2
    exact bodyPost_ret (v := .agg #[.int .i64 0, .int .i64 0, .string ⟨#[]⟩, .int .i64 0, .int .i64 0, .string ⟨#[]⟩, .string ⟨#[]⟩, .int .i64 1]) (by simp [results, Tryd.results21, go_sem, r0, r1, r2, r3, r4, r5, r6, r7]) rfl ⟨rfl, set8 B9.out (by omega) _ _ _ _ _ _ _ _⟩
  | true =>
    have h1' := of_decide_eq_true h1
    have HM : Hid (∀ W, Calls Tryd.prog 62 #[.int .i64 id, .string pin] W fun e w' => e = .returned (.string (macOf id pin)) ∧ Below W.heap.size W w') := fun W => P2.pin_spec id pin W (by omega) (by omega) (by omega)
    rw [new_yes hz (by rw [HD.out, h1, h2, h3, h4]; rfl)]
    unfold coV
    dsimp only
    rw [h3] at HP
    rw [h4] at HS
    generalize macOf id pin = m at *
    go_enter Tryd.func21, Tryd.ntmps21
    go_wp2_with fail
    refine (G0.is_spec id 1 6 _).mono ?_
    rintro e w1 ⟨rfl, rfl⟩
    rw [h1]
    go_wp2_with fail
    refine (N0.time_spec ep _).mono ?_
    rintro e w1 ⟨rfl, rfl⟩
    rw [h2]
    go_wp2_with fail
    refine (HP.out _).mono ?_
    rintro e w2 ⟨rfl, hb2⟩
    have B2 := bel2 B0.out hb2
    have kS := carry KS.out hb2
    have kR := carry KR.out hb2
    obtain ⟨s0, s1⟩ := blk2c kS
    obtain ⟨r0, r1, r2, r3, r4, r5, r6, r7, rf⟩ := blk8 kR
    clear hb2
    have KS2 : Hid _ := kS
    have KR2 : Hid _ := kR
    have B2H : Hid _ := B2
    clear kS kR B2
    go_wp2_with fail
    refine (HS.out _).mono ?_
    rintro e w3 ⟨rfl, hb3⟩
    have B3 := bel2 B2H.out hb3
    have kS := carry KS2.out hb3
    have kR := carry KR2.out hb3
    clear s0 s1 r0 r1 r2 r3 r4 r5 r6 r7 rf
    obtain ⟨s0, s1⟩ := blk2c kS
    obtain ⟨r0, r1, r2, r3, r4, r5, r6, r7, rf⟩ := blk8 kR
    clear hb3
    have KS3 : Hid _ := kS
    have KR3 : Hid _ := kR
    have B3H : Hid _ := B3
    clear kS kR B3
    go_wp2_with fail
    go_region_with (first
      | (go_at_call 62; refine (HM.out _).mono ?_; rintro e w4 ⟨rfl, hb4⟩; have B4 : Hid (Below w.heap.size w w4) := bel2 B3H.out.drew hb4; have kS := carry KS3.out (undrew hb4); have kR := carry KR3.out (undrew hb4); obtain ⟨p0, p1⟩ := blk2c kS; obtain ⟨q0, q1, q2, q3, q4, q5, q6, q7, qf⟩ := blk8 kR; clear kS kR hb4))
    all_goals
      go_wp2
      exact bodyPost_ret (v := .agg #[.int .i64 id, .int .i64 ep, .string m, .int .i64 3, .int .i64 ix, .string dt, .string ⟨#[]⟩, .int .i64 0]) (by simp [results, Tryd.results21, go_sem, q0, q1, q2, q3, q4, q5, q6, q7]) rfl ⟨rfl, set8 B4.out (by omega) _ _ _ _ _ _ _ _⟩
end Go.Proofs.YteehgicnfageiaaDoor.P3
