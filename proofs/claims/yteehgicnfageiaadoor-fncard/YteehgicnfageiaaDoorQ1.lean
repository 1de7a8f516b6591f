/-
  A new number of a card, in the program.
-/
import Derived.Test.YteehgicnfageiaaDoorQ0
import Derived.Test.YteehgicnfageiaaDoorP7
import Derived.Test.YteehgicnfageiaaDoorP8
namespace Go.Proofs.YteehgicnfageiaaDoor.Q1
open Go.RowKit
open Go.Proofs.YteehgicnfageiaaDoor.C0 Go.Proofs.YteehgicnfageiaaDoor.HB
open Go.Proofs.YteehgicnfageiaaDoor.J1 (shareR yes2 no2)
open Go.Proofs.YteehgicnfageiaaDoor.N0 (Cd cdV cardB pinB)
open Go.Proofs.YteehgicnfageiaaDoor.P1 (CO coV ill coV_ill)
open Go.Proofs.YteehgicnfageiaaDoor.P2 Go.Proofs.YteehgicnfageiaaDoor.P4 Go.Proofs.YteehgicnfageiaaDoor.P8
open Go.Proofs.YteehgicnfageiaaDoor.K2 (Laid)
/-- What the program answers: the old number is told, then a new card made. -/
theorem cp_ways {c : Cd} {old pin : ByteArray} (hz : ¬ 8000 < old.size) (hy : ¬ 8000 < pin.size) (h : pinB pin = true) :
    cpR c old pin = if (tryR c old).k = 0 then newR c.id c.ep pin c.ix c.dt else tryR c old := by
  unfold cpR tryR
  rw [if_neg (by omega), if_neg hz, h, Bool.and_true]
  by_cases hc : (cardB c && pinB old) = true
  · rw [if_pos hc, if_pos hc]
    unfold pinned
    by_cases hk : (tryP c old).k = 0
    · rw [if_pos hk, if_pos hk]
      obtain ⟨h1, _⟩ := Bool.and_eq_true_iff.1 hc
      have hq := cardB_parts h1
      unfold newR
      rw [if_neg hy, if_pos]
      unfold newOk
      rw [decide_eq_true hq.1, decide_eq_true hq.2.1, h, hq.2.2.2.2]; rfl
    · rw [if_neg hk, if_neg hk]
  · rw [if_neg hc, if_neg hc, if_neg (by simp [ill])]
set_option maxRecDepth 100000 in
set_option maxHeartbeats 6400000 in
theorem cp_impl (c : Cd) (old pin' : ByteArray) (w : World) (hL : Laid w) (ho : old.size ≤ maxLen) (hp : pin'.size ≤ maxLen) (hc : c.pin.size ≤ maxLen) (hd : c.dt.size ≤ maxLen) (hdz : c.dt.size ≤ 4000000) (hi : -9223372036854775808 ≤ c.id ∧ c.id ≤ 9223372036854775807) :
    Calls Tryd.prog 11 #[cdV c, .string old, .string pin'] w fun e w' => e = .returned (coV (cpR c old pin')) ∧ Below w.heap.size w w' := by
  have HP : Hid (∀ W, Calls Tryd.prog 24 #[.string pin'] W fun e w' => e = .returned (.bool (pinB pin')) ∧ Below W.heap.size W w') := fun W => P0.pin_impl pin' W hp
  have HT : Hid (∀ W, Laid W → Calls Tryd.prog 9 #[cdV c, .string old] W fun e w' => e = .returned (coV (tryR c old)) ∧ Below W.heap.size W w') := fun W hW => Q0.try_impl c old W hW ho hc hd
  have HN : Hid (∀ W, Laid W → Calls Tryd.prog 13 #[.int .i64 c.id, .int .i64 c.ep, .string pin', .agg #[.int .i64 c.ix, .string c.dt]] W fun e w' => e = .returned (coV (newR c.id c.ep pin' c.ix c.dt)) ∧ Below W.heap.size W w') := fun W hW => P7.new_impl c.id c.ep pin' c.ix c.dt W hW hi.1 hi.2 hp hdz
  unfold maxLen at hp ho
  have hLH : Hid (Laid w) := hL
  clear hL hc hd hdz hi
  by_cases hy : 8000 < old.size
  · rw [cp_big (.inl hy), coV_ill]
    have d1 : (8000 : Int) < (old.size : Int) := by omega
    have d1' : decide ((8000 : Int) < (old.size : Int)) = true := decide_eq_true d1
    obtain ⟨id, ep, pin, tr, ix, dt⟩ := c
    unfold cdV at *
    try dsimp only at *
    have hn := two_new w (.cells #[.int .i64 id, .int .i64 ep, .string pin, .int .i64 tr, .int .i64 ix, .string dt] 26) (.cells #[.int .i64 0, .int .i64 0, .string ⟨#[]⟩, .int .i64 0, .int .i64 0, .string ⟨#[]⟩, .string ⟨#[]⟩, .int .i64 0] 30)
    have KC : Hid _ := hn.1
    have KR : Hid _ := hn.2.1
    have B0 : Hid _ := hn.2.2
    clear hn
    go_enter Tryd.func11, Tryd.ntmps11
    go_wp2
    exact bodyPost_ret (v := .agg #[.int .i64 0, .int .i64 0, .string ⟨#[]⟩, .int .i64 0, .int .i64 0, .string ⟨#[]⟩, .string ⟨#[]⟩, .int .i64 2]) (by simp [results, Tryd.results11, go_sem]) rfl ⟨rfl, (two_new w _ _).2.2⟩
  have d1 : ¬ (8000 : Int) < (old.size : Int) := by omega
  have d1' : decide ((8000 : Int) < (old.size : Int)) = false := decide_eq_false d1
  by_cases hz : 8000 < pin'.size
  · rw [cp_big (.inr hz), coV_ill]
    have d2 : (8000 : Int) < (pin'.size : Int) := by omega
    have d2' : decide ((8000 : Int) < (pin'.size : Int)) = true := decide_eq_true d2
    obtain ⟨id, ep, pin, tr, ix, dt⟩ := c
    unfold cdV at *
    try dsimp only at *
    have hn := two_new w (.cells #[.int .i64 id, .int .i64 ep, .string pin, .int .i64 tr, .int .i64 ix, .string dt] 26) (.cells #[.int .i64 0, .int .i64 0, .string ⟨#[]⟩, .int .i64 0, .int .i64 0, .string ⟨#[]⟩, .string ⟨#[]⟩, .int .i64 0] 30)
    have KC : Hid _ := hn.1
    have KR : Hid _ := hn.2.1
    have B0 : Hid _ := hn.2.2
    clear hn
    go_enter Tryd.func11, Tryd.ntmps11
    go_wp2
    exact bodyPost_ret (v := .agg #[.int .i64 0, .int .i64 0, .string ⟨#[]⟩, .int .i64 0, .int .i64 0, .string ⟨#[]⟩, .string ⟨#[]⟩, .int .i64 2]) (by simp [results, Tryd.results11, go_sem]) rfl ⟨rfl, (two_new w _ _).2.2⟩
  have d2 : ¬ (8000 : Int) < (pin'.size : Int) := by omega
  have d2' : decide ((8000 : Int) < (pin'.size : Int)) = false := decide_eq_false d2
  cases h3 : pinB pin' with
  | false =>
    rw [cp_no (by omega) (by rw [h3]; simp), coV_ill]
    rw [h3] at HP
    obtain ⟨id, ep, pin, tr, ix, dt⟩ := c
    unfold cdV at *
    try dsimp only at *
    have hn := two_new w (.cells #[.int .i64 id, .int .i64 ep, .string pin, .int .i64 tr, .int .i64 ix, .string dt] 26) (.cells #[.int .i64 0, .int .i64 0, .string ⟨#[]⟩, .int .i64 0, .int .i64 0, .string ⟨#[]⟩, .string ⟨#[]⟩, .int .i64 0] 30)
    have KC : Hid _ := hn.1
    have KR : Hid _ := hn.2.1
    have B0 : Hid _ := hn.2.2
    clear hn
    go_enter Tryd.func11, Tryd.ntmps11
    go_wp2_with fail
    refine (HP.out _).mono ?_
    rintro e w1 ⟨rfl, hb⟩
    have KCx := carry KC.out hb
    obtain ⟨c0, c1, c2, c3, c4, c5, cf⟩ := blk6 KCx
    have KC1 : Hid _ := KCx
    clear KCx
    have KRx := carry KR.out hb
    obtain ⟨r0, r1, r2, r3, r4, r5, r6, r7, rf⟩ := blk8 KRx
    have KR1 : Hid _ := KRx
    clear KRx
    have B1 : Hid _ := bel2 B0.out hb
    clear hb
    go_wp2
    exact bodyPost_ret (v := .agg #[.int .i64 0, .int .i64 0, .string ⟨#[]⟩, .int .i64 0, .int .i64 0, .string ⟨#[]⟩, .string ⟨#[]⟩, .int .i64 1]) (by simp [results, Tryd.results11, go_sem, r0, r1, r2, r3, r4, r5, r6, r7]) rfl ⟨rfl, set8 B1.out (by omega) _ _ _ _ _ _ _ _⟩
  | true =>
    rw [cp_ways hy hz h3]
    rw [h3] at HP
    by_cases hk : (tryR c old).k = 0
    · rw [if_pos hk]
      generalize tryR c old = o at *
      generalize newR c.id c.ep pin' c.ix c.dt = n at *
      obtain ⟨⟨i2, e2, p2, t2, x2, q2⟩, tx2, k2⟩ := o
      obtain ⟨⟨i3, e3, p3, t3, x3, q3⟩, tx3, k3⟩ := n
      dsimp only at hk
      have t0 : (k2 != 0) = false := by simp [hk]
      unfold coV at HT HN ⊢
      dsimp only at HT HN ⊢
      obtain ⟨id, ep, pin, tr, ix, dt⟩ := c
      unfold cdV at *
      try dsimp only at *
      have hn := two_new w (.cells #[.int .i64 id, .int .i64 ep, .string pin, .int .i64 tr, .int .i64 ix, .string dt] 26) (.cells #[.int .i64 0, .int .i64 0, .string ⟨#[]⟩, .int .i64 0, .int .i64 0, .string ⟨#[]⟩, .string ⟨#[]⟩, .int .i64 0] 30)
      have KC : Hid _ := hn.1
      have KR : Hid _ := hn.2.1
      have B0 : Hid _ := hn.2.2
      clear hn
      clear hk
      go_enter Tryd.func11, Tryd.ntmps11
      go_wp2_with fail
      refine (HP.out _).mono ?_
      rintro e w1 ⟨rfl, hb⟩
      have KCx := carry KC.out hb
      obtain ⟨c0, c1, c2, c3, c4, c5, cf⟩ := blk6 KCx
      have KC1 : Hid _ := KCx
      clear KCx
      have KRx := carry KR.out hb
      obtain ⟨r0, r1, r2, r3, r4, r5, r6, r7, rf⟩ := blk8 KRx
      have KR1 : Hid _ := KRx
      clear KRx
      have B1 : Hid _ := bel2 B0.out hb
      clear hb
      go_wp2_with fail
      refine (HT.out _ (hLH.out.below B1.out)).mono ?_
      rintro e w2 ⟨rfl, hb⟩
      have kCx := carryA (carry KC1.out hb) (.cells #[.int .i64 i2, .int .i64 e2, .string p2, .int .i64 t2, .int .i64 x2, .string q2, .string tx2, .int .i64 k2] 30)
      have kRx := carryA (carry KR1.out hb) (.cells #[.int .i64 i2, .int .i64 e2, .string p2, .int .i64 t2, .int .i64 x2, .string q2, .string tx2, .int .i64 k2] 30)
      have kYx := heap_alloc_new w2 (.cells #[.int .i64 i2, .int .i64 e2, .string p2, .int .i64 t2, .int .i64 x2, .string q2, .string tx2, .int .i64 k2] 30)
      have B2 : Below w.heap.size w w2 := bel2 B1.out hb
      have B5 : Below w.heap.size w (w2.alloc (.cells #[.int .i64 i2, .int .i64 e2, .string p2, .int .i64 t2, .int .i64 x2, .string q2, .string tx2, .int .i64 k2] 30)) := B2.alloc B2.size _
      have l1 := lt_some (carry KC1.out hb)
      have l2 := lt_some (carry KR1.out hb)
      clear hb
      go_upto_region 6 with fail
      generalize w2.alloc (.cells #[.int .i64 i2, .int .i64 e2, .string p2, .int .i64 t2, .int .i64 x2, .string q2, .string tx2, .int .i64 k2] 30) = wy at *
      clear r0 r1 r2 r3 r4 r5 r6 r7 rf c0 c1 c2 c3 c4 c5 cf
      obtain ⟨r0, r1, r2, r3, r4, r5, r6, r7, rf⟩ := blk8 kRx
      obtain ⟨c0, c1, c2, c3, c4, c5, cf⟩ := blk6 kCx
      obtain ⟨y0, y1, y2, y3, y4, y5, y6, y7, yf⟩ := blk8 kYx
      have KC5 : Hid _ := kCx
      have KR5 : Hid _ := kRx
      have B5H : Hid _ := B5
      clear kCx kRx kYx B5 l1 l2 B2
      go_wp2_with fail
      refine (HN.out _ (hLH.out.below B5H.out)).mono ?_
      rintro e w6 ⟨rfl, hb⟩
      clear r0 r1 r2 r3 r4 r5 r6 r7 rf
      obtain ⟨r0, r1, r2, r3, r4, r5, r6, r7, rf⟩ := blk8 (carry KR5.out hb)
      have B6 : Hid (Below w.heap.size w w6) := bel2 B5H.out hb
      clear hb
      go_wp2
      exact bodyPost_ret (v := .agg #[.int .i64 i3, .int .i64 e3, .string p3, .int .i64 t3, .int .i64 x3, .string q3, .string tx3, .int .i64 k3]) (by simp [results, Tryd.results11, go_sem, r0, r1, r2, r3, r4, r5, r6, r7]) rfl ⟨rfl, set8 B6.out (by omega) _ _ _ _ _ _ _ _⟩
    · rw [if_neg hk]
      generalize tryR c old = o at *
      clear HN
      obtain ⟨⟨i2, e2, p2, t2, x2, q2⟩, tx2, k2⟩ := o
      dsimp only at hk
      have t0 : (k2 != 0) = true := by simp [hk]
      unfold coV at HT ⊢
      dsimp only at HT ⊢
      obtain ⟨id, ep, pin, tr, ix, dt⟩ := c
      unfold cdV at *
      try dsimp only at *
      have hn := two_new w (.cells #[.int .i64 id, .int .i64 ep, .string pin, .int .i64 tr, .int .i64 ix, .string dt] 26) (.cells #[.int .i64 0, .int .i64 0, .string ⟨#[]⟩, .int .i64 0, .int .i64 0, .string ⟨#[]⟩, .string ⟨#[]⟩, .int .i64 0] 30)
      have KC : Hid _ := hn.1
      have KR : Hid _ := hn.2.1
      have B0 : Hid _ := hn.2.2
      clear hn
      clear hk
      go_enter Tryd.func11, Tryd.ntmps11
      go_wp2_with fail
      refine (HP.out _).mono ?_
      rintro e w1 ⟨rfl, hb⟩
      have KCx := carry KC.out hb
      obtain ⟨c0, c1, c2, c3, c4, c5, cf⟩ := blk6 KCx
      have KC1 : Hid _ := KCx
      clear KCx
      have KRx := carry KR.out hb
      obtain ⟨r0, r1, r2, r3, r4, r5, r6, r7, rf⟩ := blk8 KRx
      have KR1 : Hid _ := KRx
      clear KRx
      have B1 : Hid _ := bel2 B0.out hb
      clear hb
      go_wp2_with fail
      refine (HT.out _ (hLH.out.below B1.out)).mono ?_
      rintro e w2 ⟨rfl, hb⟩
      have kCx := carryA (carry KC1.out hb) (.cells #[.int .i64 i2, .int .i64 e2, .string p2, .int .i64 t2, .int .i64 x2, .string q2, .string tx2, .int .i64 k2] 30)
      have kRx := carryA (carry KR1.out hb) (.cells #[.int .i64 i2, .int .i64 e2, .string p2, .int .i64 t2, .int .i64 x2, .string q2, .string tx2, .int .i64 k2] 30)
      have kYx := heap_alloc_new w2 (.cells #[.int .i64 i2, .int .i64 e2, .string p2, .int .i64 t2, .int .i64 x2, .string q2, .string tx2, .int .i64 k2] 30)
      have B2 : Below w.heap.size w w2 := bel2 B1.out hb
      have B5 : Below w.heap.size w (w2.alloc (.cells #[.int .i64 i2, .int .i64 e2, .string p2, .int .i64 t2, .int .i64 x2, .string q2, .string tx2, .int .i64 k2] 30)) := B2.alloc B2.size _
      have l1 := lt_some (carry KC1.out hb)
      have l2 := lt_some (carry KR1.out hb)
      clear hb
      go_upto_region 6 with fail
      generalize w2.alloc (.cells #[.int .i64 i2, .int .i64 e2, .string p2, .int .i64 t2, .int .i64 x2, .string q2, .string tx2, .int .i64 k2] 30) = wy at *
      clear r0 r1 r2 r3 r4 r5 r6 r7 rf c0 c1 c2 c3 c4 c5 cf
      obtain ⟨r0, r1, r2, r3, r4, r5, r6, r7, rf⟩ := blk8 kRx
      obtain ⟨c0, c1, c2, c3, c4, c5, cf⟩ := blk6 kCx
      obtain ⟨y0, y1, y2, y3, y4, y5, y6, y7, yf⟩ := blk8 kYx
      have KC5 : Hid _ := kCx
      have KR5 : Hid _ := kRx
      have B5H : Hid _ := B5
      clear kCx kRx kYx B5 l1 l2 B2
      go_wp2
      exact bodyPost_ret (v := .agg #[.int .i64 i2, .int .i64 e2, .string p2, .int .i64 t2, .int .i64 x2, .string q2, .string tx2, .int .i64 k2]) (by simp [results, Tryd.results11, go_sem, r0, r1, r2, r3, r4, r5, r6, r7]) rfl ⟨rfl, set8 B5H.out (by omega) _ _ _ _ _ _ _ _⟩
end Go.Proofs.YteehgicnfageiaaDoor.Q1
