/-
  New cards, and numbers told to them, in the program.
-/
import Derived.Test.YteehgicnfageiaaDoorP6
import Derived.Test.YteehgicnfageiaaDoorP4
namespace Go.Proofs.YteehgicnfageiaaDoor.P7
open Go.RowKit
open Go.Proofs.YteehgicnfageiaaDoor.C0 Go.Proofs.YteehgicnfageiaaDoor.HB
open Go.Proofs.YteehgicnfageiaaDoor.J1 (shareR yes2 no2)
open Go.Proofs.YteehgicnfageiaaDoor.N0 (Cd cdV cardB pinB)
open Go.Proofs.YteehgicnfageiaaDoor.P1 (CO coV ill coV_ill)
open Go.Proofs.YteehgicnfageiaaDoor.P2
open Go.Proofs.YteehgicnfageiaaDoor.P5 (bl1 bl2 joined_at blk2f)
open Go.Proofs.YteehgicnfageiaaDoor.K2 (Laid)
theorem newOk_card {id ep : Int} {pin : ByteArray} {ix : Int} {dt : ByteArray} (h : pinB pin = true) : newOk id ep pin ix dt = cardB ⟨id, ep, macOf id pin, 3, ix, dt⟩ := by
  unfold newOk cardB
  dsimp only
  rw [h, macOf_size]
  simp
theorem newOk_no {id ep : Int} {pin : ByteArray} {ix : Int} {dt : ByteArray} (h : pinB pin = false) : newOk id ep pin ix dt = false := by
  unfold newOk; rw [h]; simp
theorem pinB_big {pin : ByteArray} (h : 8000 < pin.size) : pinB pin = false := by
  cases hq : pinB pin with
  | false => rfl
  | true => have := pinB_le hq; omega
theorem new_big {id ep : Int} {pin : ByteArray} {ix : Int} {dt : ByteArray} (h : 8000 < pin.size) : newR id ep pin ix dt = ill 2 := by unfold newR; rw [if_pos h]
theorem new_no {id ep : Int} {pin : ByteArray} {ix : Int} {dt : ByteArray} (h : ¬ 8000 < pin.size) (k : newOk id ep pin ix dt = false) : newR id ep pin ix dt = ill 1 := by unfold newR; rw [if_neg h, if_neg (by rw [k]; simp)]
theorem new_yes {id ep : Int} {pin : ByteArray} {ix : Int} {dt : ByteArray} (h : ¬ 8000 < pin.size) (k : newOk id ep pin ix dt = true) : newR id ep pin ix dt = ⟨⟨id, ep, macOf id pin, 3, ix, dt⟩, ⟨#[]⟩, 0⟩ := by unfold newR; rw [if_neg h, if_pos k]
set_option maxRecDepth 100000 in
set_option maxHeartbeats 3200000 in
theorem new_impl (id ep : Int) (pin : ByteArray) (ix : Int) (dt : ByteArray) (w : World) (hL : Laid w) (hi1 : -9223372036854775808 ≤ id) (hi2 : id ≤ 9223372036854775807) (hp : pin.size ≤ maxLen) (hd : dt.size ≤ 4000000) :
    Calls Tryd.prog 13 #[.int .i64 id, .int .i64 ep, .string pin, .agg #[.int .i64 ix, .string dt]] w fun e w' => e = .returned (coV (newR id ep pin ix dt)) ∧ Below w.heap.size w w' := by
  have HP : Hid (∀ W, Calls Tryd.prog 24 #[.string pin] W fun e w' => e = .returned (.bool (pinB pin)) ∧ Below W.heap.size W w') := fun W => P0.pin_impl pin W hp
  have hn := two_new w (.cells #[.int .i64 ix, .string dt] 24) (.cells #[.int .i64 0, .int .i64 0, .string ⟨#[]⟩, .int .i64 0, .int .i64 0, .string ⟨#[]⟩, .string ⟨#[]⟩, .int .i64 0] 30)
  have KS : Hid _ := hn.1
  have KR : Hid _ := hn.2.1
  have B0 : Hid _ := hn.2.2
  clear hn
  unfold maxLen at hp
  by_cases hz : 8000 < pin.size
  · rw [new_big hz, coV_ill]
    have d1 : (8000 : Int) < (pin.size : Int) := by omega
    clear hL HP
    go_enter Tryd.func13, Tryd.ntmps13
    go_wp2
    exact bodyPost_ret (v := .agg #[.int .i64 0, .int .i64 0, .string ⟨#[]⟩, .int .i64 0, .int .i64 0, .string ⟨#[]⟩, .string ⟨#[]⟩, .int .i64 2]) (by simp [results, Tryd.results13, go_sem]) rfl ⟨rfl, (two_new w _ _).2.2⟩
  have d1 : ¬ (8000 : Int) < (pin.size : Int) := by omega
  cases h1 : pinB pin with
  | false =>
    rw [new_no hz (newOk_no h1), coV_ill]
    rw [h1] at HP
    clear hL
    go_enter Tryd.func13, Tryd.ntmps13
    go_wp2_with fail
    refine (HP.out _).mono ?_
    rintro e w1 ⟨rfl, hb⟩
    have KSx := carry KS.out hb
    obtain ⟨s0, s1⟩ := blk2c KSx
    have KS1 : Hid _ := KSx
    clear KSx
    have KRx := carry KR.out hb
    obtain ⟨r0, r1, r2, r3, r4, r5, r6, r7, rf⟩ := blk8 KRx
    have KR1 : Hid _ := KRx
    clear KRx
    have B1 : Hid _ := bel2 B0.out hb
    clear hb
    go_wp2
    exact bodyPost_ret (v := .agg #[.int .i64 0, .int .i64 0, .string ⟨#[]⟩, .int .i64 0, .int .i64 0, .string ⟨#[]⟩, .string ⟨#[]⟩, .int .i64 1]) (by simp [results, Tryd.results13, go_sem, r0, r1, r2, r3, r4, r5, r6, r7]) rfl ⟨rfl, set8 B1.out (by omega) _ _ _ _ _ _ _ _⟩
  | true =>
    have hk := newOk_card (id := id) (ep := ep) (ix := ix) (dt := dt) h1
    have hms := macOf_size id pin
    have hLH : Hid (Laid w) := hL
    have HO : Hid (∀ W, Laid W → Calls Tryd.prog 46 #[.int .i64 id, .int .i64 ep, .string pin, .agg #[.int .i64 ix, .string dt]] W fun e w' => e = .returned (.agg #[.int .i64 id, .int .i64 ep, .string (macOf id pin), .int .i64 3, .int .i64 ix, .string dt]) ∧ Below W.heap.size W w') := fun W hW => P5.cardOf_impl id ep pin ix dt W hW hi1 hi2 (by omega) hd
    have HC : Hid (∀ W, Calls Tryd.prog 26 #[.agg #[.int .i64 id, .int .i64 ep, .string (macOf id pin), .int .i64 3, .int .i64 ix, .string dt]] W fun e w' => e = .returned (.bool (cardB ⟨id, ep, macOf id pin, 3, ix, dt⟩)) ∧ Below W.heap.size W w') := fun W => P0.card_impl ⟨id, ep, macOf id pin, 3, ix, dt⟩ W (by unfold maxLen; dsimp only; omega) (by unfold maxLen; dsimp only; omega)
    rw [h1] at HP
    clear hL
    cases h2 : newOk id ep pin ix dt with
    | false =>
      rw [new_no hz h2, coV_ill]
      rw [← hk, h2] at HC
      clear hk hms h2 hi1 hi2 h1
      generalize macOf id pin = m at *
      go_enter Tryd.func13, Tryd.ntmps13
      go_wp2_with fail
      refine (HP.out _).mono ?_
      rintro e w1 ⟨rfl, hb⟩
      have KSx := carry KS.out hb
      obtain ⟨s0, s1⟩ := blk2c KSx
      have KS1 : Hid _ := KSx
      clear KSx
      have KRx := carry KR.out hb
      obtain ⟨r0, r1, r2, r3, r4, r5, r6, r7, rf⟩ := blk8 KRx
      have KR1 : Hid _ := KRx
      clear KRx
      have B1 : Hid _ := bel2 B0.out hb
      clear hb
      go_wp2_with fail
      refine (HO.out _ (hLH.out.below B1.out)).mono ?_
      rintro e w2 ⟨rfl, hb⟩
      have KSx := carry KS1.out hb
      try clear s0 s1
      obtain ⟨s0, s1⟩ := blk2c KSx
      have KS2 : Hid _ := KSx
      clear KSx
      have KRx := carry KR1.out hb
      try clear r0 r1 r2 r3 r4 r5 r6 r7 rf
      obtain ⟨r0, r1, r2, r3, r4, r5, r6, r7, rf⟩ := blk8 KRx
      have KR2 : Hid _ := KRx
      clear KRx
      have B2 : Hid _ := bel2 B1.out hb
      clear hb
      have l1 := lt_some KR2.out
      have l0 := lt_some KS2.out
      go_wp2_with fail
      refine (HC.out _).mono ?_
      rintro e w3 ⟨rfl, hb⟩
      have kRx := carry (carryA KR2.out (.cells #[.int .i64 id, .int .i64 ep, .string m, .int .i64 3, .int .i64 ix, .string dt] 26)) hb
      have kYx := carry (heap_alloc_new w2 (.cells #[.int .i64 id, .int .i64 ep, .string m, .int .i64 3, .int .i64 ix, .string dt] 26)) hb
      clear r0 r1 r2 r3 r4 r5 r6 r7 rf s0 s1
      obtain ⟨r0, r1, r2, r3, r4, r5, r6, r7, rf⟩ := blk8 kRx
      obtain ⟨y0, y1, y2, y3, y4, y5, yf⟩ := blk6 kYx
      have B3 : Hid (Below w.heap.size w w3) := bel2 (B2.out.alloc B2.out.size _) hb
      clear hb kRx kYx
      go_wp2
      exact bodyPost_ret (v := .agg #[.int .i64 0, .int .i64 0, .string ⟨#[]⟩, .int .i64 0, .int .i64 0, .string ⟨#[]⟩, .string ⟨#[]⟩, .int .i64 1]) (by simp [results, Tryd.results13, go_sem, r0, r1, r2, r3, r4, r5, r6, r7]) rfl ⟨rfl, set8 B3.out (by omega) _ _ _ _ _ _ _ _⟩
    | true =>
      rw [new_yes hz h2]
      rw [← hk, h2] at HC
      clear hk hms h2 hi1 hi2 h1
      unfold coV
      dsimp only
      generalize macOf id pin = m at *
      go_enter Tryd.func13, Tryd.ntmps13
      go_wp2_with fail
      refine (HP.out _).mono ?_
      rintro e w1 ⟨rfl, hb⟩
      have KSx := carry KS.out hb
      obtain ⟨s0, s1⟩ := blk2c KSx
      have KS1 : Hid _ := KSx
      clear KSx
      have KRx := carry KR.out hb
      obtain ⟨r0, r1, r2, r3, r4, r5, r6, r7, rf⟩ := blk8 KRx
      have KR1 : Hid _ := KRx
      clear KRx
      have B1 : Hid _ := bel2 B0.out hb
      clear hb
      go_wp2_with fail
      refine (HO.out _ (hLH.out.below B1.out)).mono ?_
      rintro e w2 ⟨rfl, hb⟩
      have KSx := carry KS1.out hb
      try clear s0 s1
      obtain ⟨s0, s1⟩ := blk2c KSx
      have KS2 : Hid _ := KSx
      clear KSx
      have KRx := carry KR1.out hb
      try clear r0 r1 r2 r3 r4 r5 r6 r7 rf
      obtain ⟨r0, r1, r2, r3, r4, r5, r6, r7, rf⟩ := blk8 KRx
      have KR2 : Hid _ := KRx
      clear KRx
      have B2 : Hid _ := bel2 B1.out hb
      clear hb
      have l1 := lt_some KR2.out
      have l0 := lt_some KS2.out
      go_wp2_with fail
      refine (HC.out _).mono ?_
      rintro e w3 ⟨rfl, hb⟩
      have kRx := carry (carryA KR2.out (.cells #[.int .i64 id, .int .i64 ep, .string m, .int .i64 3, .int .i64 ix, .string dt] 26)) hb
      have kYx := carry (heap_alloc_new w2 (.cells #[.int .i64 id, .int .i64 ep, .string m, .int .i64 3, .int .i64 ix, .string dt] 26)) hb
      clear r0 r1 r2 r3 r4 r5 r6 r7 rf s0 s1
      obtain ⟨r0, r1, r2, r3, r4, r5, r6, r7, rf⟩ := blk8 kRx
      obtain ⟨y0, y1, y2, y3, y4, y5, yf⟩ := blk6 kYx
      have B3 : Hid (Below w.heap.size w w3) := bel2 (B2.out.alloc B2.out.size _) hb
      clear hb kRx kYx
      go_wp2
      exact bodyPost_ret (v := .agg #[.int .i64 id, .int .i64 ep, .string m, .int .i64 3, .int .i64 ix, .string dt, .string ⟨#[]⟩, .int .i64 0]) (by simp [results, Tryd.results13, go_sem, r0, r1, r2, r3, r4, r5, r6, r7]) rfl ⟨rfl, set8 B3.out (by omega) _ _ _ _ _ _ _ _⟩
end Go.Proofs.YteehgicnfageiaaDoor.P7
