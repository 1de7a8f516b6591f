/-
  A number told to a card, in the program.
-/
import Derived.Test.YteehgicnfageiaaDoorP6
import Derived.Test.YteehgicnfageiaaDoorP4
namespace Go.Proofs.YteehgicnfageiaaDoor.Q0
open Go.RowKit
open Go.Proofs.YteehgicnfageiaaDoor.C0 Go.Proofs.YteehgicnfageiaaDoor.HB
open Go.Proofs.YteehgicnfageiaaDoor.J1 (shareR yes2 no2)
open Go.Proofs.YteehgicnfageiaaDoor.N0 (Cd cdV cardB pinB)
open Go.Proofs.YteehgicnfageiaaDoor.P1 (CO coV ill coV_ill)
open Go.Proofs.YteehgicnfageiaaDoor.P2 Go.Proofs.YteehgicnfageiaaDoor.P4
open Go.Proofs.YteehgicnfageiaaDoor.P5 (bl1 bl2 joined_at blk2f)
open Go.Proofs.YteehgicnfageiaaDoor.K2 (Laid)
theorem set8_at {w1 : World} {g B : Nat} {o : Obj} (hk : w1.heap[g]? = some o) (h : g ≠ B) (a b c d e f k l : Value) :
    ((((((((w1.setCell ⟨B, 0, none⟩ a).setCell ⟨B, 1, none⟩ b).setCell ⟨B, 2, none⟩ c).setCell ⟨B, 3, none⟩ d).setCell ⟨B, 4, none⟩ e).setCell ⟨B, 5, none⟩ f).setCell ⟨B, 6, none⟩ k).setCell ⟨B, 7, none⟩ l).heap[g]? = some o := by
  rw [heap_setCell_other _ _ _ _ h, heap_setCell_other _ _ _ _ h, heap_setCell_other _ _ _ _ h, heap_setCell_other _ _ _ _ h, heap_setCell_other _ _ _ _ h, heap_setCell_other _ _ _ _ h, heap_setCell_other _ _ _ _ h, heap_setCell_other _ _ _ _ h]; exact hk
set_option maxRecDepth 100000 in
set_option maxHeartbeats 6400000 in
theorem try_impl (c : Cd) (pin' : ByteArray) (w : World) (hL : Laid w) (hp : pin'.size ≤ maxLen) (hc : c.pin.size ≤ maxLen) (hd : c.dt.size ≤ maxLen) :
    Calls Tryd.prog 9 #[cdV c, .string pin'] w fun e w' => e = .returned (coV (tryR c pin')) ∧ Below w.heap.size w w' := by
  have HC : Hid (∀ W, Calls Tryd.prog 26 #[cdV c] W fun e w' => e = .returned (.bool (cardB c)) ∧ Below W.heap.size W w') := fun W => P0.card_impl c W hc hd
  have HP : Hid (∀ W, Calls Tryd.prog 24 #[.string pin'] W fun e w' => e = .returned (.bool (pinB pin')) ∧ Below W.heap.size W w') := fun W => P0.pin_impl pin' W hp
  unfold maxLen at hp
  by_cases hz : 8000 < pin'.size
  · rw [try_big hz, coV_ill]
    have d1 : (8000 : Int) < (pin'.size : Int) := by omega
    clear hL
    obtain ⟨id, ep, pin, tr, ix, dt⟩ := c
    unfold cdV at *
    dsimp only at *
    have hn := two_new w (.cells #[.int .i64 id, .int .i64 ep, .string pin, .int .i64 tr, .int .i64 ix, .string dt] 26) (.cells #[.int .i64 0, .int .i64 0, .string ⟨#[]⟩, .int .i64 0, .int .i64 0, .string ⟨#[]⟩, .string ⟨#[]⟩, .int .i64 0] 30)
    have KC : Hid _ := hn.1
    have KR : Hid _ := hn.2.1
    have B0 : Hid _ := hn.2.2
    clear hn
    go_enter Tryd.func9, Tryd.ntmps9
    go_wp2
    exact bodyPost_ret (v := .agg #[.int .i64 0, .int .i64 0, .string ⟨#[]⟩, .int .i64 0, .int .i64 0, .string ⟨#[]⟩, .string ⟨#[]⟩, .int .i64 2]) (by simp [results, Tryd.results9, go_sem]) rfl ⟨rfl, (two_new w _ _).2.2⟩
  have d1 : ¬ (8000 : Int) < (pin'.size : Int) := by omega
  cases h1 : cardB c with
  | false =>
    rw [try_no hz (by rw [h1]; rfl), coV_ill]
    rw [h1] at HC
    clear hL
    obtain ⟨id, ep, pin, tr, ix, dt⟩ := c
    unfold cdV at *
    dsimp only at *
    have hn := two_new w (.cells #[.int .i64 id, .int .i64 ep, .string pin, .int .i64 tr, .int .i64 ix, .string dt] 26) (.cells #[.int .i64 0, .int .i64 0, .string ⟨#[]⟩, .int .i64 0, .int .i64 0, .string ⟨#[]⟩, .string ⟨#[]⟩, .int .i64 0] 30)
    have KC : Hid _ := hn.1
    have KR : Hid _ := hn.2.1
    have B0 : Hid _ := hn.2.2
    clear hn
    go_enter Tryd.func9, Tryd.ntmps9
    go_wp2_with fail
    refine (HC.out _).mono ?_
    rintro e w1 ⟨rfl, hb⟩
    have KCx := carry KC.out hb
    obtain ⟨c0, c1, c2, c3, c4, c5, cf⟩ := blk6 KCx
    have KC1 : Hid _ := KCx
    clear KCx
    have KRx := carry KR.out hb
    obtain ⟨r0, r1, r2, r3, r4, r5, r6, r7, rf⟩ := blk8 KRx
    have KR1 : Hid _ := KRx
    clear KRx
    have B1 : Hid _ := bel2 B0.out hb
    clear hb
    go_wp2
    exact bodyPost_ret (v := .agg #[.int .i64 0, .int .i64 0, .string ⟨#[]⟩, .int .i64 0, .int .i64 0, .string ⟨#[]⟩, .string ⟨#[]⟩, .int .i64 1]) (by simp [results, Tryd.results9, go_sem, r0, r1, r2, r3, r4, r5, r6, r7]) rfl ⟨rfl, set8 B1.out (by omega) _ _ _ _ _ _ _ _⟩
  | true =>
  have hq := cardB_parts h1
  cases h2 : pinB pin' with
  | false =>
    rw [try_no hz (by rw [h1, h2]; rfl), coV_ill]
    rw [h1] at HC
    rw [h2] at HP
    clear hL
    obtain ⟨id, ep, pin, tr, ix, dt⟩ := c
    unfold cdV at *
    dsimp only at *
    have hn := two_new w (.cells #[.int .i64 id, .int .i64 ep, .string pin, .int .i64 tr, .int .i64 ix, .string dt] 26) (.cells #[.int .i64 0, .int .i64 0, .string ⟨#[]⟩, .int .i64 0, .int .i64 0, .string ⟨#[]⟩, .string ⟨#[]⟩, .int .i64 0] 30)
    have KC : Hid _ := hn.1
    have KR : Hid _ := hn.2.1
    have B0 : Hid _ := hn.2.2
    clear hn
    go_enter Tryd.func9, Tryd.ntmps9
    go_wp2_with fail
    refine (HC.out _).mono ?_
    rintro e w1 ⟨rfl, hb⟩
    have KCx := carry KC.out hb
    obtain ⟨c0, c1, c2, c3, c4, c5, cf⟩ := blk6 KCx
    have KC1 : Hid _ := KCx
    clear KCx
    have KRx := carry KR.out hb
    obtain ⟨r0, r1, r2, r3, r4, r5, r6, r7, rf⟩ := blk8 KRx
    have KR1 : Hid _ := KRx
    clear KRx
    have B1 : Hid _ := bel2 B0.out hb
    clear hb
    go_wp2_with fail
    refine (HP.out _).mono ?_
    rintro e w2 ⟨rfl, hb⟩
    have KCx := carry KC1.out hb
    try clear c0 c1 c2 c3 c4 c5 cf
    obtain ⟨c0, c1, c2, c3, c4, c5, cf⟩ := blk6 KCx
    have KC2 : Hid _ := KCx
    clear KCx
    have KRx := carry KR1.out hb
    try clear r0 r1 r2 r3 r4 r5 r6 r7 rf
    obtain ⟨r0, r1, r2, r3, r4, r5, r6, r7, rf⟩ := blk8 KRx
    have KR2 : Hid _ := KRx
    clear KRx
    have B2 : Hid _ := bel2 B1.out hb
    clear hb
    go_wp2
    exact bodyPost_ret (v := .agg #[.int .i64 0, .int .i64 0, .string ⟨#[]⟩, .int .i64 0, .int .i64 0, .string ⟨#[]⟩, .string ⟨#[]⟩, .int .i64 1]) (by simp [results, Tryd.results9, go_sem, r0, r1, r2, r3, r4, r5, r6, r7]) rfl ⟨rfl, set8 B2.out (by omega) _ _ _ _ _ _ _ _⟩
  | true =>
    rw [try_yes hz (by rw [h1, h2]; rfl)]
    rw [h1] at HC
    rw [h2] at HP
    have hlp := pinB_le h2
    have hdt : c.dt.size ≤ 16 := by have := hq.2.2.2.2; unfold shareR at this; have := of_decide_eq_true this; omega
    have hpn : c.pin.size = 32 := hq.2.2.1
    have HO : Hid (∀ W, Laid W → Calls Tryd.prog 46 #[.int .i64 c.id, .int .i64 c.ep, .string pin', .agg #[.int .i64 c.ix, .string c.dt]] W fun e w' => e = .returned (.agg #[.int .i64 c.id, .int .i64 c.ep, .string (macOf c.id pin'), .int .i64 3, .int .i64 c.ix, .string c.dt]) ∧ Below W.heap.size W w') := fun W hW => P5.cardOf_impl c.id c.ep pin' c.ix c.dt W hW (by omega) (by omega) (by omega) (by omega)
    have HT : Hid (∀ t W, Calls Tryd.prog 47 #[.agg #[.int .i64 c.id, .int .i64 c.ep, .string c.pin, .int .i64 c.tr, .int .i64 c.ix, .string c.dt], .int .i64 t] W fun e w' => e = .returned (.agg #[.int .i64 c.id, .int .i64 c.ep, .string c.pin, .int .i64 t, .int .i64 c.ix, .string c.dt]) ∧ Below W.heap.size W w') := fun t W => P6.tries_impl c.id c.ep c.pin c.tr c.ix c.dt t W (by omega) (by omega)
    have HW : Hid _ := sub_one hq.2.2.2.1
    have hLH : Hid (Laid w) := hL
    have hdH : Hid (c.dt.size ≤ 4000000) := by unfold Hid; omega
    clear hL hq h1 h2 hlp hdt hpn hc hd
    unfold tryP same
    by_cases h0 : c.tr = 0
    · rw [if_pos h0, coV_ill]
      obtain ⟨id, ep, pin, tr, ix, dt⟩ := c
      unfold cdV at *
      dsimp only at *
      have hn := two_new w (.cells #[.int .i64 id, .int .i64 ep, .string pin, .int .i64 tr, .int .i64 ix, .string dt] 26) (.cells #[.int .i64 0, .int .i64 0, .string ⟨#[]⟩, .int .i64 0, .int .i64 0, .string ⟨#[]⟩, .string ⟨#[]⟩, .int .i64 0] 30)
      have KC : Hid _ := hn.1
      have KR : Hid _ := hn.2.1
      have B0 : Hid _ := hn.2.2
      clear hn
      (try dsimp only at h0)
      have t0 : (tr == 0) = true := by simp [h0]
      subst h0
      go_enter Tryd.func9, Tryd.ntmps9
      go_wp2_with fail
      refine (HC.out _).mono ?_
      rintro e w1 ⟨rfl, hb⟩
      have KCx := carry KC.out hb
      obtain ⟨c0, c1, c2, c3, c4, c5, cf⟩ := blk6 KCx
      have KC1 : Hid _ := KCx
      clear KCx
      have KRx := carry KR.out hb
      obtain ⟨r0, r1, r2, r3, r4, r5, r6, r7, rf⟩ := blk8 KRx
      have KR1 : Hid _ := KRx
      clear KRx
      have B1 : Hid _ := bel2 B0.out hb
      clear hb
      go_wp2_with fail
      refine (HP.out _).mono ?_
      rintro e w2 ⟨rfl, hb⟩
      have KCx := carry KC1.out hb
      try clear c0 c1 c2 c3 c4 c5 cf
      obtain ⟨c0, c1, c2, c3, c4, c5, cf⟩ := blk6 KCx
      have KC2 : Hid _ := KCx
      clear KCx
      have KRx := carry KR1.out hb
      try clear r0 r1 r2 r3 r4 r5 r6 r7 rf
      obtain ⟨r0, r1, r2, r3, r4, r5, r6, r7, rf⟩ := blk8 KRx
      have KR2 : Hid _ := KRx
      clear KRx
      have B2 : Hid _ := bel2 B1.out hb
      clear hb
      go_wp2
      exact bodyPost_ret (v := .agg #[.int .i64 0, .int .i64 0, .string ⟨#[]⟩, .int .i64 0, .int .i64 0, .string ⟨#[]⟩, .string ⟨#[]⟩, .int .i64 12]) (by simp [results, Tryd.results9, go_sem, r0, r1, r2, r3, r4, r5, r6, r7]) rfl ⟨rfl, set8 B2.out (by omega) _ _ _ _ _ _ _ _⟩
    · rw [if_neg h0]
      generalize macOf c.id pin' = m at *
      cases hq : (c.pin.toList == m.toList) with
      | true =>
        rw [if_pos rfl]
        obtain ⟨id, ep, pin, tr, ix, dt⟩ := c
        unfold cdV at *
        dsimp only at *
        have hn := two_new w (.cells #[.int .i64 id, .int .i64 ep, .string pin, .int .i64 tr, .int .i64 ix, .string dt] 26) (.cells #[.int .i64 0, .int .i64 0, .string ⟨#[]⟩, .int .i64 0, .int .i64 0, .string ⟨#[]⟩, .string ⟨#[]⟩, .int .i64 0] 30)
        have KC : Hid _ := hn.1
        have KR : Hid _ := hn.2.1
        have B0 : Hid _ := hn.2.2
        clear hn
        have t0 : (tr == 0) = false := by simp [h0]
        unfold coV
        dsimp only
        go_enter Tryd.func9, Tryd.ntmps9
        go_wp2_with fail
        refine (HC.out _).mono ?_
        rintro e w1 ⟨rfl, hb⟩
        have KCx := carry KC.out hb
        obtain ⟨c0, c1, c2, c3, c4, c5, cf⟩ := blk6 KCx
        have KC1 : Hid _ := KCx
        clear KCx
        have KRx := carry KR.out hb
        obtain ⟨r0, r1, r2, r3, r4, r5, r6, r7, rf⟩ := blk8 KRx
        have KR1 : Hid _ := KRx
        clear KRx
        have B1 : Hid _ := bel2 B0.out hb
        clear hb
        go_wp2_with fail
        refine (HP.out _).mono ?_
        rintro e w2 ⟨rfl, hb⟩
        have KCx := carry KC1.out hb
        try clear c0 c1 c2 c3 c4 c5 cf
        obtain ⟨c0, c1, c2, c3, c4, c5, cf⟩ := blk6 KCx
        have KC2 : Hid _ := KCx
        clear KCx
        have KRx := carry KR1.out hb
        try clear r0 r1 r2 r3 r4 r5 r6 r7 rf
        obtain ⟨r0, r1, r2, r3, r4, r5, r6, r7, rf⟩ := blk8 KRx
        have KR2 : Hid _ := KRx
        clear KRx
        have B2 : Hid _ := bel2 B1.out hb
        clear hb
        go_wp2_with fail
        refine (HO.out _ (hLH.out.below B2.out)).mono ?_
        rintro e w3 ⟨rfl, hb⟩
        have KCx := carry KC2.out hb
        try clear c0 c1 c2 c3 c4 c5 cf
        obtain ⟨c0, c1, c2, c3, c4, c5, cf⟩ := blk6 KCx
        have KC3 : Hid _ := KCx
        clear KCx
        have KRx := carry KR2.out hb
        try clear r0 r1 r2 r3 r4 r5 r6 r7 rf
        obtain ⟨r0, r1, r2, r3, r4, r5, r6, r7, rf⟩ := blk8 KRx
        have KR3 : Hid _ := KRx
        clear KRx
        have B3 : Hid _ := bel2 B2.out hb
        clear hb
        have l1 := lt_some KR3.out
        have l0 := lt_some KC3.out
        go_wp2_with fail
        go_region_with (first
          | (go_at_call 47; refine (HT.out 3 _).mono ?_; rintro e w4 ⟨rfl, hb4⟩; have hb := undrew hb4; have kC := carry (carryA KC3.out (.cells #[.int .i64 id, .int .i64 ep, .string m, .int .i64 3, .int .i64 ix, .string dt] 26)) hb; have kR := carry (carryA KR3.out (.cells #[.int .i64 id, .int .i64 ep, .string m, .int .i64 3, .int .i64 ix, .string dt] 26)) hb; have kO := carry (heap_alloc_new w3 (.cells #[.int .i64 id, .int .i64 ep, .string m, .int .i64 3, .int .i64 ix, .string dt] 26)) hb; have B4 : Hid (Below w.heap.size w w4) := bel2 (B3.out.alloc B3.out.size _) hb; clear hb hb4; obtain ⟨v0, v1, v2, v3, v4, v5, vf⟩ := blk6 kC; obtain ⟨x0, x1, x2, x3, x4, x5, x6, x7, xf⟩ := blk8 kR; obtain ⟨o0, o1, o2, o3, o4, o5, of⟩ := blk6 kO; have KC4 : Hid _ := kC; have KR4 : Hid _ := kR; have KO4 : Hid _ := kO; clear kC kR kO))
        all_goals
          go_wp2_with fail
          clear c0 c1 c2 c3 c4 c5 cf r0 r1 r2 r3 r4 r5 r6 r7 rf
          have hmp : Hid (m = pin) := (same_eq.1 (show same pin m = true from hq)).symm
          have l4 := lt_some KO4.out
          have l5 := lt_some KC4.out
          simp only [Act.put, List.getElem_toArray, List.getElem_cons_succ, List.getElem_cons_zero, List.setIfInBounds_toArray, List.set_cons_zero, List.set_cons_succ]
          go_region_with (first
            | (go_at_call 48; refine (joined_at _ 1 dt _ ?_ hdH.out).mono ?_; exact heap_alloc_new _ _; rintro e w5 ⟨rfl, hb5⟩; have B5 : Hid (Below w4.heap.size w4 w5) := bl1 hb5; clear hb5; obtain ⟨z0, z1, z2, z3, z4, z5, zf⟩ := blk6 (carry KC4.out B5.out); obtain ⟨r0, r1, r2, r3, r4, r5, r6, r7, rf⟩ := blk8 (carry KR4.out B5.out); obtain ⟨y0, y1, y2, y3, y4, y5, yf⟩ := blk6 (carry KO4.out B5.out)))
          all_goals
            have B9 : Hid (Below w.heap.size w w5) := bel2 B4.out B5.out
            go_wp2
            exact bodyPost_ret (v := .agg #[.int .i64 id, .int .i64 ep, .string m, .int .i64 3, .int .i64 ix, .string dt, .string dt, .int .i64 0]) (by simp [results, Tryd.results9, go_sem, r0, r1, r2, r3, r4, r5, r6, r7]) rfl ⟨by rw [hmp.out], set8 B9.out (by omega) _ _ _ _ _ _ _ _⟩
      | false =>
        rw [if_neg (by simp)]
        obtain ⟨id, ep, pin, tr, ix, dt⟩ := c
        unfold cdV at *
        dsimp only at *
        have hn := two_new w (.cells #[.int .i64 id, .int .i64 ep, .string pin, .int .i64 tr, .int .i64 ix, .string dt] 26) (.cells #[.int .i64 0, .int .i64 0, .string ⟨#[]⟩, .int .i64 0, .int .i64 0, .string ⟨#[]⟩, .string ⟨#[]⟩, .int .i64 0] 30)
        have KC : Hid _ := hn.1
        have KR : Hid _ := hn.2.1
        have B0 : Hid _ := hn.2.2
        clear hn
        have t0 : (tr == 0) = false := by simp [h0]
        unfold coV
        dsimp only
        go_enter Tryd.func9, Tryd.ntmps9
        go_wp2_with fail
        refine (HC.out _).mono ?_
        rintro e w1 ⟨rfl, hb⟩
        have KCx := carry KC.out hb
        obtain ⟨c0, c1, c2, c3, c4, c5, cf⟩ := blk6 KCx
        have KC1 : Hid _ := KCx
        clear KCx
        have KRx := carry KR.out hb
        obtain ⟨r0, r1, r2, r3, r4, r5, r6, r7, rf⟩ := blk8 KRx
        have KR1 : Hid _ := KRx
        clear KRx
        have B1 : Hid _ := bel2 B0.out hb
        clear hb
        go_wp2_with fail
        refine (HP.out _).mono ?_
        rintro e w2 ⟨rfl, hb⟩
        have KCx := carry KC1.out hb
        try clear c0 c1 c2 c3 c4 c5 cf
        obtain ⟨c0, c1, c2, c3, c4, c5, cf⟩ := blk6 KCx
        have KC2 : Hid _ := KCx
        clear KCx
        have KRx := carry KR1.out hb
        try clear r0 r1 r2 r3 r4 r5 r6 r7 rf
        obtain ⟨r0, r1, r2, r3, r4, r5, r6, r7, rf⟩ := blk8 KRx
        have KR2 : Hid _ := KRx
        clear KRx
        have B2 : Hid _ := bel2 B1.out hb
        clear hb
        go_wp2_with fail
        refine (HO.out _ (hLH.out.below B2.out)).mono ?_
        rintro e w3 ⟨rfl, hb⟩
        have KCx := carry KC2.out hb
        try clear c0 c1 c2 c3 c4 c5 cf
        obtain ⟨c0, c1, c2, c3, c4, c5, cf⟩ := blk6 KCx
        have KC3 : Hid _ := KCx
        clear KCx
        have KRx := carry KR2.out hb
        try clear r0 r1 r2 r3 r4 r5 r6 r7 rf
        obtain ⟨r0, r1, r2, r3, r4, r5, r6, r7, rf⟩ := blk8 KRx
        have KR3 : Hid _ := KRx
        clear KRx
        have B3 : Hid _ := bel2 B2.out hb
        clear hb
        have l1 := lt_some KR3.out
        have l0 := lt_some KC3.out
        go_wp2_with fail
        go_region_with (first
          | (go_at_call 47; refine (HT.out 3 _).mono ?_; rintro e w4 ⟨rfl, hb4⟩; have hb := undrew hb4; have kC := carry (carryA KC3.out (.cells #[.int .i64 id, .int .i64 ep, .string m, .int .i64 3, .int .i64 ix, .string dt] 26)) hb; have kR := carry (carryA KR3.out (.cells #[.int .i64 id, .int .i64 ep, .string m, .int .i64 3, .int .i64 ix, .string dt] 26)) hb; have kO := carry (heap_alloc_new w3 (.cells #[.int .i64 id, .int .i64 ep, .string m, .int .i64 3, .int .i64 ix, .string dt] 26)) hb; have B4 : Hid (Below w.heap.size w w4) := bel2 (B3.out.alloc B3.out.size _) hb; clear hb hb4; obtain ⟨v0, v1, v2, v3, v4, v5, vf⟩ := blk6 kC; obtain ⟨x0, x1, x2, x3, x4, x5, x6, x7, xf⟩ := blk8 kR; obtain ⟨o0, o1, o2, o3, o4, o5, of⟩ := blk6 kO; have KC4 : Hid _ := kC; have KR4 : Hid _ := kR; have KO4 : Hid _ := kO; clear kC kR kO))
        all_goals
          go_wp2_with fail
          have hw : IntKind.i64.wrap (tr - 1) = tr - 1 := HW.out
          have hw2 : Go.RowKit.wrap64 (tr - 1) = tr - 1 := by have h := HW.out; rw [IntKind.wrap_i64] at h; unfold Go.RowKit.wrap64; omega
          go_wp2_with fail
          refine (HT.out _ _).mono ?_
          rintro e w5 ⟨rfl, hb⟩
          obtain ⟨r0, r1, r2, r3, r4, r5, r6, r7, rf⟩ := blk8 (carry KR4.out hb)
          have B5 : Hid (Below w.heap.size w w5) := bel2 B4.out hb
          clear hb
          go_wp2
          exact bodyPost_ret (v := .agg #[.int .i64 id, .int .i64 ep, .string pin, .int .i64 (tr - 1), .int .i64 ix, .string dt, .string ⟨#[]⟩, .int .i64 11]) (by simp [results, Tryd.results9, go_sem, r0, r1, r2, r3, r4, r5, r6, r7]) rfl ⟨rfl, set8 B5.out (by omega) _ _ _ _ _ _ _ _⟩
end Go.Proofs.YteehgicnfageiaaDoor.Q0
