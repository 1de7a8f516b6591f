/-
  Numbers told to cards, in the specification.
-/
import Derived.Test.YteehgicnfageiaaDoorP2
namespace Go.Proofs.YteehgicnfageiaaDoor.P4
open Go.RowKit
open Go.Proofs.YteehgicnfageiaaDoor.C0 Go.Proofs.YteehgicnfageiaaDoor.HB
open Go.Proofs.YteehgicnfageiaaDoor.J1 (shareR yes2 no2)
open Go.Proofs.YteehgicnfageiaaDoor.N0 (Cd cdV cardB pinB)
open Go.Proofs.YteehgicnfageiaaDoor.P1 (CO coV ill coV_ill)
open Go.Proofs.YteehgicnfageiaaDoor.P2

theorem try_ok {c : Cd} {old : ByteArray} (h : (tryP c old).k = 0) : tryP c old = ⟨⟨c.id, c.ep, c.pin, 3, c.ix, c.dt⟩, c.dt, 0⟩ := by
  unfold tryP at h ⊢
  by_cases h0 : c.tr = 0
  · rw [if_pos h0] at h; exact absurd h (by simp [ill])
  · rw [if_neg h0] at h ⊢
    by_cases hs : same c.pin (macOf c.id old) = true
    · rw [if_pos hs]
    · rw [if_neg hs] at h; exact absurd h (by simp)
theorem sub_one {t : Int} (h : 0 ≤ t ∧ t ≤ 3) : IntKind.i64.wrap (t - 1) = t - 1 := by rw [IntKind.wrap_i64]; omega
set_option maxRecDepth 100000 in
set_option maxHeartbeats 3200000 in
theorem try0_spec (c : Cd) (pin' : ByteArray) (w : World) (hi : 1 ≤ c.id ∧ c.id ≤ 6) (ht : 0 ≤ c.tr ∧ c.tr ≤ 3) (hp : pin'.size ≤ 8000) :
    Calls Tryd.prog 61 #[cdV c, .string pin'] w fun e w' => e = .returned (coV (tryP c pin')) ∧ Below w.heap.size w w' := by
  obtain ⟨id, ep, pin, tr, ix, dt⟩ := c
  dsimp only at hi ht
  unfold cdV tryP same
  dsimp only
  have hn := two_new w (.cells #[.int .i64 id, .int .i64 ep, .string pin, .int .i64 tr, .int .i64 ix, .string dt] 26) (.cells #[.int .i64 0, .int .i64 0, .string ⟨#[]⟩, .int .i64 0, .int .i64 0, .string ⟨#[]⟩, .string ⟨#[]⟩, .int .i64 0] 30)
  have KC : Hid _ := hn.1
  have KR : Hid _ := hn.2.1
  have B0 : Hid _ := hn.2.2
  clear hn
  by_cases h0 : tr = 0
  · rw [if_pos h0, coV_ill]
    have t0 : (tr == 0) = true := by simp [h0]
    clear ht
    subst h0
    go_enter Tryd.func61, Tryd.ntmps61
    go_wp2_with fail
    refine (ill_spec 12 _).mono ?_
    rintro e w9 ⟨rfl, hb9⟩
    rw [coV_ill]
    obtain ⟨r0, r1, r2, r3, r4, r5, r6, r7, rf⟩ := blk8 (carry KR.out hb9)
    have B9 : Hid _ := bel2 B0.out hb9
    clear hb9
    go_wp2
    exact bodyPost_ret (v := .agg #[.int .i64 0, .int .i64 0, .string ⟨#[]⟩, .int .i64 0, .int .i64 0, .string ⟨#[]⟩, .string ⟨#[]⟩, .int .i64 12]) (by simp [results, Tryd.results61, go_sem, r0, r1, r2, r3, r4, r5, r6, r7]) rfl ⟨rfl, set8 B9.out (by omega) _ _ _ _ _ _ _ _⟩
  rw [if_neg h0]
  have t0 : (tr == 0) = false := by simp [h0]
  have HW : Hid _ := sub_one ht
  have HM : Hid (∀ W, Calls Tryd.prog 62 #[.int .i64 id, .string pin'] W fun e w' => e = .returned (.string (macOf id pin')) ∧ Below W.heap.size W w') := fun W => P2.pin_spec id pin' W (by omega) (by omega) hp
  generalize macOf id pin' = m at *
  cases hq : (pin.toList == m.toList) with
  | true =>
    rw [if_pos rfl]
    unfold coV
    dsimp only
    go_enter Tryd.func61, Tryd.ntmps61
    go_wp2_with fail
    go_region_with (first
      | (go_at_call 62; refine (HM.out _).mono ?_; rintro e w4 ⟨rfl, hb4⟩; have B4 : Hid (Below w.heap.size w w4) := bel2 B0.out.drew hb4; have kC := carry KC.out (undrew hb4); have kR := carry KR.out (undrew hb4); obtain ⟨p0, p1, p2, p3, p4, p5, pf⟩ := blk6 kC; obtain ⟨r0, r1, r2, r3, r4, r5, r6, r7, rf⟩ := blk8 kR; clear kC kR hb4))
    all_goals
      go_wp2
      exact bodyPost_ret (v := .agg #[.int .i64 id, .int .i64 ep, .string pin, .int .i64 3, .int .i64 ix, .string dt, .string dt, .int .i64 0]) (by simp [results, Tryd.results61, go_sem, r0, r1, r2, r3, r4, r5, r6, r7]) rfl ⟨rfl, set8 (B4.out.setCell (by simp) _) (by omega) _ _ _ _ _ _ _ _⟩
  | false =>
    rw [if_neg (by simp)]
    unfold coV
    dsimp only
    go_enter Tryd.func61, Tryd.ntmps61
    go_wp2_with fail
    go_region_with (first
      | (go_at_call 62; refine (HM.out _).mono ?_; rintro e w4 ⟨rfl, hb4⟩; have B4 : Hid (Below w.heap.size w w4) := bel2 B0.out.drew hb4; have kC := carry KC.out (undrew hb4); have kR := carry KR.out (undrew hb4); obtain ⟨p0, p1, p2, p3, p4, p5, pf⟩ := blk6 kC; obtain ⟨r0, r1, r2, r3, r4, r5, r6, r7, rf⟩ := blk8 kR; clear kC kR hb4))
    all_goals
      have hw : IntKind.i64.wrap (tr - 1) = tr - 1 := HW.out
      go_wp2
      exact bodyPost_ret (v := .agg #[.int .i64 id, .int .i64 ep, .string pin, .int .i64 (tr - 1), .int .i64 ix, .string dt, .string ⟨#[]⟩, .int .i64 11]) (by simp [results, Tryd.results61, go_sem, r0, r1, r2, r3, r4, r5, r6, r7]) rfl ⟨rfl, set8 (B4.out.setCell (by simp) _) (by omega) _ _ _ _ _ _ _ _⟩
theorem try_big {c : Cd} {pin : ByteArray} (h : 8000 < pin.size) : tryR c pin = ill 2 := by unfold tryR; rw [if_pos h]
theorem try_no {c : Cd} {pin : ByteArray} (h : ¬ 8000 < pin.size) (k : (cardB c && pinB pin) = false) : tryR c pin = ill 1 := by unfold tryR; rw [if_neg h, if_neg (by rw [k]; simp)]
theorem try_yes {c : Cd} {pin : ByteArray} (h : ¬ 8000 < pin.size) (k : (cardB c && pinB pin) = true) : tryR c pin = tryP c pin := by unfold tryR; rw [if_neg h, if_pos k]
set_option maxRecDepth 100000 in
set_option maxHeartbeats 3200000 in
theorem try_spec (c : Cd) (pin' : ByteArray) (w : World) (hp : pin'.size ≤ maxLen) (hc : c.pin.size ≤ maxLen) (hd : c.dt.size ≤ maxLen) :
    Calls Tryd.prog 19 #[cdV c, .string pin'] w fun e w' => e = .returned (coV (tryR c pin')) ∧ Below w.heap.size w w' := by
  have HC : Hid (∀ W, Calls Tryd.prog 27 #[cdV c] W fun e w' => e = .returned (.bool (cardB c)) ∧ Below W.heap.size W w') := fun W => N0.card_spec c W hc hd
  have HP : Hid (∀ W, Calls Tryd.prog 25 #[.string pin'] W fun e w' => e = .returned (.bool (pinB pin')) ∧ Below W.heap.size W w') := fun W => N0.pin_spec pin' W hp
  unfold maxLen at hp
  by_cases hz : 8000 < pin'.size
  · rw [try_big hz, coV_ill]
    have d1 : (8000 : Int) < (pin'.size : Int) := by omega
    obtain ⟨id, ep, pin, tr, ix, dt⟩ := c
    unfold cdV at *
    dsimp only at *
    have hn := two_new w (.cells #[.int .i64 id, .int .i64 ep, .string pin, .int .i64 tr, .int .i64 ix, .string dt] 26) (.cells #[.int .i64 0, .int .i64 0, .string ⟨#[]⟩, .int .i64 0, .int .i64 0, .string ⟨#[]⟩, .string ⟨#[]⟩, .int .i64 0] 30)
    have KC : Hid _ := hn.1
    have KR : Hid _ := hn.2.1
    have B0 : Hid _ := hn.2.2
    clear hn
    go_enter Tryd.func19, Tryd.ntmps19
    go_wp2_with fail
    refine (ill_spec 2 _).mono ?_
    rintro e w9 ⟨rfl, hb9⟩
    rw [coV_ill]
    try clear r0 r1 r2 r3 r4 r5 r6 r7 rf
    obtain ⟨r0, r1, r2, r3, r4, r5, r6, r7, rf⟩ := blk8 (carry KR.out hb9)
    have B9 : Hid _ := bel2 B0.out hb9
    clear hb9
    go_wp2
    exact bodyPost_ret (v := .agg #[.int .i64 0, .int .i64 0, .string ⟨#[]⟩, .int .i64 0, .int .i64 0, .string ⟨#[]⟩, .string ⟨#[]⟩, .int .i64 2]) (by simp [results, Tryd.results19, go_sem, r0, r1, r2, r3, r4, r5, r6, r7]) rfl ⟨rfl, set8 B9.out (by omega) _ _ _ _ _ _ _ _⟩
  have d1 : ¬ (8000 : Int) < (pin'.size : Int) := by omega
  cases h1 : cardB c with
  | false =>
    rw [try_no hz (by rw [h1]; rfl), coV_ill]
    rw [h1] at HC
    obtain ⟨id, ep, pin, tr, ix, dt⟩ := c
    unfold cdV at *
    dsimp only at *
    have hn := two_new w (.cells #[.int .i64 id, .int .i64 ep, .string pin, .int .i64 tr, .int .i64 ix, .string dt] 26) (.cells #[.int .i64 0, .int .i64 0, .string ⟨#[]⟩, .int .i64 0, .int .i64 0, .string ⟨#[]⟩, .string ⟨#[]⟩, .int .i64 0] 30)
    have KC : Hid _ := hn.1
    have KR : Hid _ := hn.2.1
    have B0 : Hid _ := hn.2.2
    clear hn
    go_enter Tryd.func19, Tryd.ntmps19
    go_wp2_with fail
    refine (HC.out _).mono ?_
    rintro e w1 ⟨rfl, hb⟩
    have KCx := carry KC.out hb
    obtain ⟨c0, c1, c2, c3, c4, c5, cf⟩ := blk6 KCx
    have KC1 : Hid _ := KCx
    clear KCx
    have KRx := carry KR.out hb
    obtain ⟨r0, r1, r2, r3, r4, r5, r6, r7, rf⟩ := blk8 KRx
    have KR1 : Hid _ := KRx
    clear KRx
    have B1 : Hid _ := bel2 B0.out hb
    clear hb
    go_wp2_with fail
    refine (ill_spec 1 _).mono ?_
    rintro e w9 ⟨rfl, hb9⟩
    rw [coV_ill]
    try clear r0 r1 r2 r3 r4 r5 r6 r7 rf
    obtain ⟨r0, r1, r2, r3, r4, r5, r6, r7, rf⟩ := blk8 (carry KR1.out hb9)
    have B9 : Hid _ := bel2 B1.out hb9
    clear hb9
    go_wp2
    exact bodyPost_ret (v := .agg #[.int .i64 0, .int .i64 0, .string ⟨#[]⟩, .int .i64 0, .int .i64 0, .string ⟨#[]⟩, .string ⟨#[]⟩, .int .i64 1]) (by simp [results, Tryd.results19, go_sem, r0, r1, r2, r3, r4, r5, r6, r7]) rfl ⟨rfl, set8 B9.out (by omega) _ _ _ _ _ _ _ _⟩
  | true =>
  cases h2 : pinB pin' with
  | false =>
    rw [try_no hz (by rw [h1, h2]; rfl), coV_ill]
    rw [h1] at HC
    rw [h2] at HP
    obtain ⟨id, ep, pin, tr, ix, dt⟩ := c
    unfold cdV at *
    dsimp only at *
    have hn := two_new w (.cells #[.int .i64 id, .int .i64 ep, .string pin, .int .i64 tr, .int .i64 ix, .string dt] 26) (.cells #[.int .i64 0, .int .i64 0, .string ⟨#[]⟩, .int .i64 0, .int .i64 0, .string ⟨#[]⟩, .string ⟨#[]⟩, .int .i64 0] 30)
    have KC : Hid _ := hn.1
    have KR : Hid _ := hn.2.1
    have B0 : Hid _ := hn.2.2
    clear hn
    go_enter Tryd.func19, Tryd.ntmps19
    go_wp2_with fail
    refine (HC.out _).mono ?_
    rintro e w1 ⟨rfl, hb⟩
    have KCx := carry KC.out hb
    obtain ⟨c0, c1, c2, c3, c4, c5, cf⟩ := blk6 KCx
    have KC1 : Hid _ := KCx
    clear KCx
    have KRx := carry KR.out hb
    obtain ⟨r0, r1, r2, r3, r4, r5, r6, r7, rf⟩ := blk8 KRx
    have KR1 : Hid _ := KRx
    clear KRx
    have B1 : Hid _ := bel2 B0.out hb
    clear hb
    go_wp2_with fail
    refine (HP.out _).mono ?_
    rintro e w2 ⟨rfl, hb⟩
    have KCx := carry KC1.out hb
    try clear c0 c1 c2 c3 c4 c5 cf
    obtain ⟨c0, c1, c2, c3, c4, c5, cf⟩ := blk6 KCx
    have KC2 : Hid _ := KCx
    clear KCx
    have KRx := carry KR1.out hb
    try clear r0 r1 r2 r3 r4 r5 r6 r7 rf
    obtain ⟨r0, r1, r2, r3, r4, r5, r6, r7, rf⟩ := blk8 KRx
    have KR2 : Hid _ := KRx
    clear KRx
    have B2 : Hid _ := bel2 B1.out hb
    clear hb
    go_wp2_with fail
    refine (ill_spec 1 _).mono ?_
    rintro e w9 ⟨rfl, hb9⟩
    rw [coV_ill]
    try clear r0 r1 r2 r3 r4 r5 r6 r7 rf
    obtain ⟨r0, r1, r2, r3, r4, r5, r6, r7, rf⟩ := blk8 (carry KR2.out hb9)
    have B9 : Hid _ := bel2 B2.out hb9
    clear hb9
    go_wp2
    exact bodyPost_ret (v := .agg #[.int .i64 0, .int .i64 0, .string ⟨#[]⟩, .int .i64 0, .int .i64 0, .string ⟨#[]⟩, .string ⟨#[]⟩, .int .i64 1]) (by simp [results, Tryd.results19, go_sem, r0, r1, r2, r3, r4, r5, r6, r7]) rfl ⟨rfl, set8 B9.out (by omega) _ _ _ _ _ _ _ _⟩
  | true =>
    rw [try_yes hz (by rw [h1, h2]; rfl)]
    have hq := cardB_parts h1
    have HT : Hid (∀ W, Calls Tryd.prog 61 #[cdV c, .string pin'] W fun e w' => e = .returned (coV (tryP c pin')) ∧ Below W.heap.size W w') := fun W => try0_spec c pin' W hq.1 hq.2.2.2.1 (by omega)
    clear hq
    rw [h1] at HC
    rw [h2] at HP
    generalize tryP c pin' = o at *
    obtain ⟨⟨id2, ep2, pin2, tr2, ix2, dt2⟩, tx2, k2⟩ := o
    unfold coV at HT ⊢
    dsimp only at HT ⊢
    obtain ⟨id, ep, pin, tr, ix, dt⟩ := c
    unfold cdV at *
    dsimp only at *
    have hn := two_new w (.cells #[.int .i64 id, .int .i64 ep, .string pin, .int .i64 tr, .int .i64 ix, .string dt] 26) (.cells #[.int .i64 0, .int .i64 0, .string ⟨#[]⟩, .int .i64 0, .int .i64 0, .string ⟨#[]⟩, .string ⟨#[]⟩, .int .i64 0] 30)
    have KC : Hid _ := hn.1
    have KR : Hid _ := hn.2.1
    have B0 : Hid _ := hn.2.2
    clear hn
    go_enter Tryd.func19, Tryd.ntmps19
    go_wp2_with fail
    refine (HC.out _).mono ?_
    rintro e w1 ⟨rfl, hb⟩
    have KCx := carry KC.out hb
    obtain ⟨c0, c1, c2, c3, c4, c5, cf⟩ := blk6 KCx
    have KC1 : Hid _ := KCx
    clear KCx
    have KRx := carry KR.out hb
    obtain ⟨r0, r1, r2, r3, r4, r5, r6, r7, rf⟩ := blk8 KRx
    have KR1 : Hid _ := KRx
    clear KRx
    have B1 : Hid _ := bel2 B0.out hb
    clear hb
    go_wp2_with fail
    refine (HP.out _).mono ?_
    rintro e w2 ⟨rfl, hb⟩
    have KCx := carry KC1.out hb
    try clear c0 c1 c2 c3 c4 c5 cf
    obtain ⟨c0, c1, c2, c3, c4, c5, cf⟩ := blk6 KCx
    have KC2 : Hid _ := KCx
    clear KCx
    have KRx := carry KR1.out hb
    try clear r0 r1 r2 r3 r4 r5 r6 r7 rf
    obtain ⟨r0, r1, r2, r3, r4, r5, r6, r7, rf⟩ := blk8 KRx
    have KR2 : Hid _ := KRx
    clear KRx
    have B2 : Hid _ := bel2 B1.out hb
    clear hb
    go_wp2_with fail
    refine (HT.out _).mono ?_
    rintro e w3 ⟨rfl, hb⟩
    have KCx := carry KC2.out hb
    try clear c0 c1 c2 c3 c4 c5 cf
    obtain ⟨c0, c1, c2, c3, c4, c5, cf⟩ := blk6 KCx
    have KC3 : Hid _ := KCx
    clear KCx
    have KRx := carry KR2.out hb
    try clear r0 r1 r2 r3 r4 r5 r6 r7 rf
    obtain ⟨r0, r1, r2, r3, r4, r5, r6, r7, rf⟩ := blk8 KRx
    have KR3 : Hid _ := KRx
    clear KRx
    have B3 : Hid _ := bel2 B2.out hb
    clear hb
    go_wp2_with fail
    exact bodyPost_ret (v := .agg #[.int .i64 id2, .int .i64 ep2, .string pin2, .int .i64 tr2, .int .i64 ix2, .string dt2, .string tx2, .int .i64 k2]) (by simp [results, Tryd.results19, go_sem, r0, r1, r2, r3, r4, r5, r6, r7]) rfl ⟨rfl, set8 B3.out (by omega) _ _ _ _ _ _ _ _⟩
end Go.Proofs.YteehgicnfageiaaDoor.P4
