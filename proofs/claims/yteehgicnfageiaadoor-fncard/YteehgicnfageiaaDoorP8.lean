/-
  A new number of a card, in the specification.
-/
import Derived.Test.YteehgicnfageiaaDoorP4
namespace Go.Proofs.YteehgicnfageiaaDoor.P8
open Go.RowKit
open Go.Proofs.YteehgicnfageiaaDoor.C0 Go.Proofs.YteehgicnfageiaaDoor.HB
open Go.Proofs.YteehgicnfageiaaDoor.J1 (shareR yes2 no2)
open Go.Proofs.YteehgicnfageiaaDoor.N0 (Cd cdV cardB pinB)
open Go.Proofs.YteehgicnfageiaaDoor.P1 (CO coV ill coV_ill)
open Go.Proofs.YteehgicnfageiaaDoor.P2 Go.Proofs.YteehgicnfageiaaDoor.P4
theorem set8a {w w1 : World} {B : Nat} (h : Below w.heap.size w w1) (hB : w.heap.size ≤ B) (a b c d e f k l : Value) (o : Obj) :
    Below w.heap.size w (((((((((w1.setCell ⟨B, 0, none⟩ a).setCell ⟨B, 1, none⟩ b).setCell ⟨B, 2, none⟩ c).setCell ⟨B, 3, none⟩ d).setCell ⟨B, 4, none⟩ e).setCell ⟨B, 5, none⟩ f).setCell ⟨B, 6, none⟩ k).setCell ⟨B, 7, none⟩ l).alloc o) :=
  (set8 h hB a b c d e f k l).alloc (set8 h hB a b c d e f k l).size _
theorem cp_big {c : Cd} {old pin : ByteArray} (h : 8000 < old.size ∨ 8000 < pin.size) : cpR c old pin = ill 2 := by unfold cpR; rw [if_pos h]
theorem cp_no {c : Cd} {old pin : ByteArray} (h : ¬ (8000 < old.size ∨ 8000 < pin.size)) (k : (cardB c && (pinB old && pinB pin)) = false) : cpR c old pin = ill 1 := by unfold cpR; rw [if_neg h, if_neg (by rw [k]; simp)]
theorem cp_yes {c : Cd} {old pin : ByteArray} (h : ¬ (8000 < old.size ∨ 8000 < pin.size)) (k : (cardB c && (pinB old && pinB pin)) = true) : cpR c old pin = pinned c old pin := by unfold cpR; rw [if_neg h, if_pos k]
theorem pinned_ok {c : Cd} {old pin : ByteArray} (h : (tryP c old).k = 0) : pinned c old pin = ⟨⟨c.id, c.ep, macOf c.id pin, 3, c.ix, c.dt⟩, ⟨#[]⟩, 0⟩ := by unfold pinned; rw [if_pos h]
theorem pinned_no {c : Cd} {old pin : ByteArray} (h : ¬ (tryP c old).k = 0) : pinned c old pin = tryP c old := by unfold pinned; rw [if_neg h]
set_option maxRecDepth 100000 in
set_option maxHeartbeats 6400000 in
theorem cp_spec (c : Cd) (old pin' : ByteArray) (w : World) (ho : old.size ≤ maxLen) (hp : pin'.size ≤ maxLen) (hc : c.pin.size ≤ maxLen) (hd : c.dt.size ≤ maxLen) :
    Calls Tryd.prog 20 #[cdV c, .string old, .string pin'] w fun e w' => e = .returned (coV (cpR c old pin')) ∧ Below w.heap.size w w' := by
  have HC : Hid (∀ W, Calls Tryd.prog 27 #[cdV c] W fun e w' => e = .returned (.bool (cardB c)) ∧ Below W.heap.size W w') := fun W => N0.card_spec c W hc hd
  have HP : Hid (∀ W, Calls Tryd.prog 25 #[.string pin'] W fun e w' => e = .returned (.bool (pinB pin')) ∧ Below W.heap.size W w') := fun W => N0.pin_spec pin' W hp
  have HO : Hid (∀ W, Calls Tryd.prog 25 #[.string old] W fun e w' => e = .returned (.bool (pinB old)) ∧ Below W.heap.size W w') := fun W => N0.pin_spec old W ho
  unfold maxLen at hp ho
  by_cases hy : 8000 < old.size
  · rw [cp_big (.inl hy), coV_ill]
    have d1 : (8000 : Int) < (old.size : Int) := by omega
    have d1' : decide ((8000 : Int) < (old.size : Int)) = true := decide_eq_true d1
    obtain ⟨id, ep, pin, tr, ix, dt⟩ := c
    unfold cdV at *
    dsimp only at *
    have hn := two_new w (.cells #[.int .i64 id, .int .i64 ep, .string pin, .int .i64 tr, .int .i64 ix, .string dt] 26) (.cells #[.int .i64 0, .int .i64 0, .string ⟨#[]⟩, .int .i64 0, .int .i64 0, .string ⟨#[]⟩, .string ⟨#[]⟩, .int .i64 0] 30)
    have KC : Hid _ := hn.1
    have KR : Hid _ := hn.2.1
    have B0 : Hid _ := hn.2.2
    clear hn
    go_enter Tryd.func20, Tryd.ntmps20
    go_wp2_with fail
    refine (ill_spec 2 _).mono ?_
    rintro e w9 ⟨rfl, hb9⟩
    rw [coV_ill]
    try clear r0 r1 r2 r3 r4 r5 r6 r7 rf
    obtain ⟨r0, r1, r2, r3, r4, r5, r6, r7, rf⟩ := blk8 (carry KR.out hb9)
    have B9 : Hid _ := bel2 B0.out hb9
    clear hb9
    go_wp2
    exact bodyPost_ret (v := .agg #[.int .i64 0, .int .i64 0, .string ⟨#[]⟩, .int .i64 0, .int .i64 0, .string ⟨#[]⟩, .string ⟨#[]⟩, .int .i64 2]) (by simp [results, Tryd.results20, go_sem, r0, r1, r2, r3, r4, r5, r6, r7]) rfl ⟨rfl, set8 B9.out (by omega) _ _ _ _ _ _ _ _⟩
  have d1 : ¬ (8000 : Int) < (old.size : Int) := by omega
  have d1' : decide ((8000 : Int) < (old.size : Int)) = false := decide_eq_false d1
  by_cases hz : 8000 < pin'.size
  · rw [cp_big (.inr hz), coV_ill]
    have d2 : (8000 : Int) < (pin'.size : Int) := by omega
    have d2' : decide ((8000 : Int) < (pin'.size : Int)) = true := decide_eq_true d2
    obtain ⟨id, ep, pin, tr, ix, dt⟩ := c
    unfold cdV at *
    dsimp only at *
    have hn := two_new w (.cells #[.int .i64 id, .int .i64 ep, .string pin, .int .i64 tr, .int .i64 ix, .string dt] 26) (.cells #[.int .i64 0, .int .i64 0, .string ⟨#[]⟩, .int .i64 0, .int .i64 0, .string ⟨#[]⟩, .string ⟨#[]⟩, .int .i64 0] 30)
    have KC : Hid _ := hn.1
    have KR : Hid _ := hn.2.1
    have B0 : Hid _ := hn.2.2
    clear hn
    go_enter Tryd.func20, Tryd.ntmps20
    go_wp2_with fail
    refine (ill_spec 2 _).mono ?_
    rintro e w9 ⟨rfl, hb9⟩
    rw [coV_ill]
    try clear r0 r1 r2 r3 r4 r5 r6 r7 rf
    obtain ⟨r0, r1, r2, r3, r4, r5, r6, r7, rf⟩ := blk8 (carry KR.out hb9)
    have B9 : Hid _ := bel2 B0.out hb9
    clear hb9
    go_wp2
    exact bodyPost_ret (v := .agg #[.int .i64 0, .int .i64 0, .string ⟨#[]⟩, .int .i64 0, .int .i64 0, .string ⟨#[]⟩, .string ⟨#[]⟩, .int .i64 2]) (by simp [results, Tryd.results20, go_sem, r0, r1, r2, r3, r4, r5, r6, r7]) rfl ⟨rfl, set8 B9.out (by omega) _ _ _ _ _ _ _ _⟩
  have d2 : ¬ (8000 : Int) < (pin'.size : Int) := by omega
  have d2' : decide ((8000 : Int) < (pin'.size : Int)) = false := decide_eq_false d2
  have hyz : ¬ (8000 < old.size ∨ 8000 < pin'.size) := by omega
  cases h1 : cardB c with
  | false =>
    rw [cp_no hyz (by rw [h1]; rfl), coV_ill]
    rw [h1] at HC
    obtain ⟨id, ep, pin, tr, ix, dt⟩ := c
    unfold cdV at *
    dsimp only at *
    have hn := two_new w (.cells #[.int .i64 id, .int .i64 ep, .string pin, .int .i64 tr, .int .i64 ix, .string dt] 26) (.cells #[.int .i64 0, .int .i64 0, .string ⟨#[]⟩, .int .i64 0, .int .i64 0, .string ⟨#[]⟩, .string ⟨#[]⟩, .int .i64 0] 30)
    have KC : Hid _ := hn.1
    have KR : Hid _ := hn.2.1
    have B0 : Hid _ := hn.2.2
    clear hn
    go_enter Tryd.func20, Tryd.ntmps20
    go_wp2_with fail
    refine (HC.out _).mono ?_
    rintro e w1 ⟨rfl, hb⟩
    have KCx := carry KC.out hb
    obtain ⟨c0, c1, c2, c3, c4, c5, cf⟩ := blk6 KCx
    have KC1 : Hid _ := KCx
    clear KCx
    have KRx := carry KR.out hb
    obtain ⟨r0, r1, r2, r3, r4, r5, r6, r7, rf⟩ := blk8 KRx
    have KR1 : Hid _ := KRx
    clear KRx
    have B1 : Hid _ := bel2 B0.out hb
    clear hb
    go_wp2_with fail
    refine (ill_spec 1 _).mono ?_
    rintro e w9 ⟨rfl, hb9⟩
    rw [coV_ill]
    try clear r0 r1 r2 r3 r4 r5 r6 r7 rf
    obtain ⟨r0, r1, r2, r3, r4, r5, r6, r7, rf⟩ := blk8 (carry KR1.out hb9)
    have B9 : Hid _ := bel2 B1.out hb9
    clear hb9
    go_wp2
    exact bodyPost_ret (v := .agg #[.int .i64 0, .int .i64 0, .string ⟨#[]⟩, .int .i64 0, .int .i64 0, .string ⟨#[]⟩, .string ⟨#[]⟩, .int .i64 1]) (by simp [results, Tryd.results20, go_sem, r0, r1, r2, r3, r4, r5, r6, r7]) rfl ⟨rfl, set8 B9.out (by omega) _ _ _ _ _ _ _ _⟩
  | true =>
  cases h2 : pinB old with
  | false =>
    rw [cp_no hyz (by rw [h1, h2]; rfl), coV_ill]
    rw [h1] at HC
    rw [h2] at HO
    obtain ⟨id, ep, pin, tr, ix, dt⟩ := c
    unfold cdV at *
    dsimp only at *
    have hn := two_new w (.cells #[.int .i64 id, .int .i64 ep, .string pin, .int .i64 tr, .int .i64 ix, .string dt] 26) (.cells #[.int .i64 0, .int .i64 0, .string ⟨#[]⟩, .int .i64 0, .int .i64 0, .string ⟨#[]⟩, .string ⟨#[]⟩, .int .i64 0] 30)
    have KC : Hid _ := hn.1
    have KR : Hid _ := hn.2.1
    have B0 : Hid _ := hn.2.2
    clear hn
    go_enter Tryd.func20, Tryd.ntmps20
    go_wp2_with fail
    refine (HC.out _).mono ?_
    rintro e w1 ⟨rfl, hb⟩
    have KCx := carry KC.out hb
    obtain ⟨c0, c1, c2, c3, c4, c5, cf⟩ := blk6 KCx
    have KC1 : Hid _ := KCx
    clear KCx
    have KRx := carry KR.out hb
    obtain ⟨r0, r1, r2, r3, r4, r5, r6, r7, rf⟩ := blk8 KRx
    have KR1 : Hid _ := KRx
    clear KRx
    have B1 : Hid _ := bel2 B0.out hb
    clear hb
    go_wp2_with fail
    refine (HO.out _).mono ?_
    rintro e w2 ⟨rfl, hb⟩
    have KCx := carry KC1.out hb
    try clear c0 c1 c2 c3 c4 c5 cf
    obtain ⟨c0, c1, c2, c3, c4, c5, cf⟩ := blk6 KCx
    have KC2 : Hid _ := KCx
    clear KCx
    have KRx := carry KR1.out hb
    try clear r0 r1 r2 r3 r4 r5 r6 r7 rf
    obtain ⟨r0, r1, r2, r3, r4, r5, r6, r7, rf⟩ := blk8 KRx
    have KR2 : Hid _ := KRx
    clear KRx
    have B2 : Hid _ := bel2 B1.out hb
    clear hb
    go_wp2_with fail
    refine (ill_spec 1 _).mono ?_
    rintro e w9 ⟨rfl, hb9⟩
    rw [coV_ill]
    try clear r0 r1 r2 r3 r4 r5 r6 r7 rf
    obtain ⟨r0, r1, r2, r3, r4, r5, r6, r7, rf⟩ := blk8 (carry KR2.out hb9)
    have B9 : Hid _ := bel2 B2.out hb9
    clear hb9
    go_wp2
    exact bodyPost_ret (v := .agg #[.int .i64 0, .int .i64 0, .string ⟨#[]⟩, .int .i64 0, .int .i64 0, .string ⟨#[]⟩, .string ⟨#[]⟩, .int .i64 1]) (by simp [results, Tryd.results20, go_sem, r0, r1, r2, r3, r4, r5, r6, r7]) rfl ⟨rfl, set8 B9.out (by omega) _ _ _ _ _ _ _ _⟩
  | true =>
  cases h3 : pinB pin' with
  | false =>
    rw [cp_no hyz (by rw [h1, h2, h3]; rfl), coV_ill]
    rw [h1] at HC
    rw [h2] at HO
    rw [h3] at HP
    obtain ⟨id, ep, pin, tr, ix, dt⟩ := c
    unfold cdV at *
    dsimp only at *
    have hn := two_new w (.cells #[.int .i64 id, .int .i64 ep, .string pin, .int .i64 tr, .int .i64 ix, .string dt] 26) (.cells #[.int .i64 0, .int .i64 0, .string ⟨#[]⟩, .int .i64 0, .int .i64 0, .string ⟨#[]⟩, .string ⟨#[]⟩, .int .i64 0] 30)
    have KC : Hid _ := hn.1
    have KR : Hid _ := hn.2.1
    have B0 : Hid _ := hn.2.2
    clear hn
    go_enter Tryd.func20, Tryd.ntmps20
    go_wp2_with fail
    refine (HC.out _).mono ?_
    rintro e w1 ⟨rfl, hb⟩
    have KCx := carry KC.out hb
    obtain ⟨c0, c1, c2, c3, c4, c5, cf⟩ := blk6 KCx
    have KC1 : Hid _ := KCx
    clear KCx
    have KRx := carry KR.out hb
    obtain ⟨r0, r1, r2, r3, r4, r5, r6, r7, rf⟩ := blk8 KRx
    have KR1 : Hid _ := KRx
    clear KRx
    have B1 : Hid _ := bel2 B0.out hb
    clear hb
    go_wp2_with fail
    refine (HO.out _).mono ?_
    rintro e w2 ⟨rfl, hb⟩
    have KCx := carry KC1.out hb
    try clear c0 c1 c2 c3 c4 c5 cf
    obtain ⟨c0, c1, c2, c3, c4, c5, cf⟩ := blk6 KCx
    have KC2 : Hid _ := KCx
    clear KCx
    have KRx := carry KR1.out hb
    try clear r0 r1 r2 r3 r4 r5 r6 r7 rf
    obtain ⟨r0, r1, r2, r3, r4, r5, r6, r7, rf⟩ := blk8 KRx
    have KR2 : Hid _ := KRx
    clear KRx
    have B2 : Hid _ := bel2 B1.out hb
    clear hb
    go_wp2_with fail
    refine (HP.out _).mono ?_
    rintro e w3 ⟨rfl, hb⟩
    have KCx := carry KC2.out hb
    try clear c0 c1 c2 c3 c4 c5 cf
    obtain ⟨c0, c1, c2, c3, c4, c5, cf⟩ := blk6 KCx
    have KC3 : Hid _ := KCx
    clear KCx
    have KRx := carry KR2.out hb
    try clear r0 r1 r2 r3 r4 r5 r6 r7 rf
    obtain ⟨r0, r1, r2, r3, r4, r5, r6, r7, rf⟩ := blk8 KRx
    have KR3 : Hid _ := KRx
    clear KRx
    have B3 : Hid _ := bel2 B2.out hb
    clear hb
    go_wp2_with fail
    refine (ill_spec 1 _).mono ?_
    rintro e w9 ⟨rfl, hb9⟩
    rw [coV_ill]
    try clear r0 r1 r2 r3 r4 r5 r6 r7 rf
    obtain ⟨r0, r1, r2, r3, r4, r5, r6, r7, rf⟩ := blk8 (carry KR3.out hb9)
    have B9 : Hid _ := bel2 B3.out hb9
    clear hb9
    go_wp2
    exact bodyPost_ret (v := .agg #[.int .i64 0, .int .i64 0, .string ⟨#[]⟩, .int .i64 0, .int .i64 0, .string ⟨#[]⟩, .string ⟨#[]⟩, .int .i64 1]) (by simp [results, Tryd.results20, go_sem, r0, r1, r2, r3, r4, r5, r6, r7]) rfl ⟨rfl, set8 B9.out (by omega) _ _ _ _ _ _ _ _⟩
  | true =>
    rw [cp_yes hyz (by rw [h1, h2, h3]; rfl)]
    have hq := cardB_parts h1
    have HT : Hid (∀ W, Calls Tryd.prog 61 #[cdV c, .string old] W fun e w' => e = .returned (coV (tryP c old)) ∧ Below W.heap.size W w') := fun W => try0_spec c old W hq.1 hq.2.2.2.1 (by omega)
    have HM : Hid (∀ W, Calls Tryd.prog 62 #[.int .i64 c.id, .string pin'] W fun e w' => e = .returned (.string (macOf c.id pin')) ∧ Below W.heap.size W w') := fun W => P2.pin_spec c.id pin' W (by omega) (by omega) (by omega)
    clear hq
    rw [h1] at HC
    rw [h2] at HO
    rw [h3] at HP
    by_cases hk : (tryP c old).k = 0
    · rw [pinned_ok hk]
      rw [try_ok hk] at HT
      clear hk
      generalize macOf c.id pin' = m at *
      unfold coV at HT ⊢
      dsimp only at HT ⊢
      obtain ⟨id, ep, pin, tr, ix, dt⟩ := c
      unfold cdV at *
      dsimp only at *
      have hn := two_new w (.cells #[.int .i64 id, .int .i64 ep, .string pin, .int .i64 tr, .int .i64 ix, .string dt] 26) (.cells #[.int .i64 0, .int .i64 0, .string ⟨#[]⟩, .int .i64 0, .int .i64 0, .string ⟨#[]⟩, .string ⟨#[]⟩, .int .i64 0] 30)
      have KC : Hid _ := hn.1
      have KR : Hid _ := hn.2.1
      have B0 : Hid _ := hn.2.2
      clear hn
      go_enter Tryd.func20, Tryd.ntmps20
      go_wp2_with fail
      refine (HC.out _).mono ?_
      rintro e w1 ⟨rfl, hb⟩
      have KCx := carry KC.out hb
      obtain ⟨c0, c1, c2, c3, c4, c5, cf⟩ := blk6 KCx
      have KC1 : Hid _ := KCx
      clear KCx
      have KRx := carry KR.out hb
      obtain ⟨r0, r1, r2, r3, r4, r5, r6, r7, rf⟩ := blk8 KRx
      have KR1 : Hid _ := KRx
      clear KRx
      have B1 : Hid _ := bel2 B0.out hb
      clear hb
      go_wp2_with fail
      refine (HO.out _).mono ?_
      rintro e w2 ⟨rfl, hb⟩
      have KCx := carry KC1.out hb
      try clear c0 c1 c2 c3 c4 c5 cf
      obtain ⟨c0, c1, c2, c3, c4, c5, cf⟩ := blk6 KCx
      have KC2 : Hid _ := KCx
      clear KCx
      have KRx := carry KR1.out hb
      try clear r0 r1 r2 r3 r4 r5 r6 r7 rf
      obtain ⟨r0, r1, r2, r3, r4, r5, r6, r7, rf⟩ := blk8 KRx
      have KR2 : Hid _ := KRx
      clear KRx
      have B2 : Hid _ := bel2 B1.out hb
      clear hb
      go_wp2_with fail
      refine (HP.out _).mono ?_
      rintro e w3 ⟨rfl, hb⟩
      have KCx := carry KC2.out hb
      try clear c0 c1 c2 c3 c4 c5 cf
      obtain ⟨c0, c1, c2, c3, c4, c5, cf⟩ := blk6 KCx
      have KC3 : Hid _ := KCx
      clear KCx
      have KRx := carry KR2.out hb
      try clear r0 r1 r2 r3 r4 r5 r6 r7 rf
      obtain ⟨r0, r1, r2, r3, r4, r5, r6, r7, rf⟩ := blk8 KRx
      have KR3 : Hid _ := KRx
      clear KRx
      have B3 : Hid _ := bel2 B2.out hb
      clear hb
      go_wp2_with fail
      refine (HT.out _).mono ?_
      rintro e w4 ⟨rfl, hb⟩
      have KCx := carry KC3.out hb
      try clear c0 c1 c2 c3 c4 c5 cf
      obtain ⟨c0, c1, c2, c3, c4, c5, cf⟩ := blk6 KCx
      have KC4 : Hid _ := KCx
      clear KCx
      have KRx := carry KR3.out hb
      try clear r0 r1 r2 r3 r4 r5 r6 r7 rf
      obtain ⟨r0, r1, r2, r3, r4, r5, r6, r7, rf⟩ := blk8 KRx
      have KR4 : Hid _ := KRx
      clear KRx
      have B4 : Hid _ := bel2 B3.out hb
      clear hb
      have kCx := carryA KC4.out (.cells #[.int .i64 id, .int .i64 ep, .string pin, .int .i64 3, .int .i64 ix, .string dt, .string dt, .int .i64 0] 30)
      have kRx := carryA KR4.out (.cells #[.int .i64 id, .int .i64 ep, .string pin, .int .i64 3, .int .i64 ix, .string dt, .string dt, .int .i64 0] 30)
      have kYx := heap_alloc_new w4 (.cells #[.int .i64 id, .int .i64 ep, .string pin, .int .i64 3, .int .i64 ix, .string dt, .string dt, .int .i64 0] 30)
      have B5 : Below w.heap.size w (w4.alloc (.cells #[.int .i64 id, .int .i64 ep, .string pin, .int .i64 3, .int .i64 ix, .string dt, .string dt, .int .i64 0] 30)) := B4.out.alloc B4.out.size _
      have l1 := lt_some KC4.out
      have l2 := lt_some KR4.out
      have hlt : w.heap.size + 2 ≤ w4.heap.size := by omega
      go_upto_region 6 with fail
      generalize w4.alloc (.cells #[.int .i64 id, .int .i64 ep, .string pin, .int .i64 3, .int .i64 ix, .string dt, .string dt, .int .i64 0] 30) = wy at *
      clear r0 r1 r2 r3 r4 r5 r6 r7 rf c0 c1 c2 c3 c4 c5 cf
      obtain ⟨r0, r1, r2, r3, r4, r5, r6, r7, rf⟩ := blk8 kRx
      obtain ⟨c0, c1, c2, c3, c4, c5, cf⟩ := blk6 kCx
      obtain ⟨y0, y1, y2, y3, y4, y5, y6, y7, yf⟩ := blk8 kYx
      have KC5 : Hid _ := kCx
      have KR5 : Hid _ := kRx
      have KY5 : Hid _ := kYx
      have B5H : Hid _ := B5
      clear kCx kRx kYx B5 l1 l2
      go_wp2_with fail
      refine (HM.out _).mono ?_
      rintro e w5 ⟨rfl, hb⟩
      clear r0 r1 r2 r3 r4 r5 r6 r7 rf y0 y1 y2 y3 y4 y5 y6 y7 yf
      obtain ⟨r0, r1, r2, r3, r4, r5, r6, r7, rf⟩ := blk8 (carry KR5.out hb)
      obtain ⟨y0, y1, y2, y3, y4, y5, y6, y7, yf⟩ := blk8 (carry KY5.out hb)
      have B6 : Hid (Below w.heap.size w w5) := bel2 B5H.out hb
      clear hb
      go_wp2
      exact bodyPost_ret (v := .agg #[.int .i64 id, .int .i64 ep, .string m, .int .i64 3, .int .i64 ix, .string dt, .string ⟨#[]⟩, .int .i64 0]) (by simp [results, Tryd.results20, go_sem, r0, r1, r2, r3, r4, r5, r6, r7]) rfl ⟨rfl, set8 ((B6.out.setCell (by show w.heap.size ≤ w4.heap.size; omega) _).setCell (by show w.heap.size ≤ w4.heap.size; omega) _) (by omega) _ _ _ _ _ _ _ _⟩
    · rw [pinned_no hk]
      generalize tryP c old = o at *
      obtain ⟨⟨id2, ep2, pin2, tr2, ix2, dt2⟩, tx2, k2⟩ := o
      dsimp only at hk
      have t2 : (k2 == 0) = false := by simp [hk]
      unfold coV at HT ⊢
      dsimp only at HT ⊢
      obtain ⟨id, ep, pin, tr, ix, dt⟩ := c
      unfold cdV at *
      dsimp only at *
      have hn := two_new w (.cells #[.int .i64 id, .int .i64 ep, .string pin, .int .i64 tr, .int .i64 ix, .string dt] 26) (.cells #[.int .i64 0, .int .i64 0, .string ⟨#[]⟩, .int .i64 0, .int .i64 0, .string ⟨#[]⟩, .string ⟨#[]⟩, .int .i64 0] 30)
      have KC : Hid _ := hn.1
      have KR : Hid _ := hn.2.1
      have B0 : Hid _ := hn.2.2
      clear hn
      go_enter Tryd.func20, Tryd.ntmps20
      go_wp2_with fail
      refine (HC.out _).mono ?_
      rintro e w1 ⟨rfl, hb⟩
      have KCx := carry KC.out hb
      obtain ⟨c0, c1, c2, c3, c4, c5, cf⟩ := blk6 KCx
      have KC1 : Hid _ := KCx
      clear KCx
      have KRx := carry KR.out hb
      obtain ⟨r0, r1, r2, r3, r4, r5, r6, r7, rf⟩ := blk8 KRx
      have KR1 : Hid _ := KRx
      clear KRx
      have B1 : Hid _ := bel2 B0.out hb
      clear hb
      go_wp2_with fail
      refine (HO.out _).mono ?_
      rintro e w2 ⟨rfl, hb⟩
      have KCx := carry KC1.out hb
      try clear c0 c1 c2 c3 c4 c5 cf
      obtain ⟨c0, c1, c2, c3, c4, c5, cf⟩ := blk6 KCx
      have KC2 : Hid _ := KCx
      clear KCx
      have KRx := carry KR1.out hb
      try clear r0 r1 r2 r3 r4 r5 r6 r7 rf
      obtain ⟨r0, r1, r2, r3, r4, r5, r6, r7, rf⟩ := blk8 KRx
      have KR2 : Hid _ := KRx
      clear KRx
      have B2 : Hid _ := bel2 B1.out hb
      clear hb
      go_wp2_with fail
      refine (HP.out _).mono ?_
      rintro e w3 ⟨rfl, hb⟩
      have KCx := carry KC2.out hb
      try clear c0 c1 c2 c3 c4 c5 cf
      obtain ⟨c0, c1, c2, c3, c4, c5, cf⟩ := blk6 KCx
      have KC3 : Hid _ := KCx
      clear KCx
      have KRx := carry KR2.out hb
      try clear r0 r1 r2 r3 r4 r5 r6 r7 rf
      obtain ⟨r0, r1, r2, r3, r4, r5, r6, r7, rf⟩ := blk8 KRx
      have KR3 : Hid _ := KRx
      clear KRx
      have B3 : Hid _ := bel2 B2.out hb
      clear hb
      go_wp2_with fail
      refine (HT.out _).mono ?_
      rintro e w4 ⟨rfl, hb⟩
      have KCx := carry KC3.out hb
      try clear c0 c1 c2 c3 c4 c5 cf
      obtain ⟨c0, c1, c2, c3, c4, c5, cf⟩ := blk6 KCx
      have KC4 : Hid _ := KCx
      clear KCx
      have KRx := carry KR3.out hb
      try clear r0 r1 r2 r3 r4 r5 r6 r7 rf
      obtain ⟨r0, r1, r2, r3, r4, r5, r6, r7, rf⟩ := blk8 KRx
      have KR4 : Hid _ := KRx
      clear KRx
      have B4 : Hid _ := bel2 B3.out hb
      clear hb
      have kCx := carryA KC4.out (.cells #[.int .i64 id2, .int .i64 ep2, .string pin2, .int .i64 tr2, .int .i64 ix2, .string dt2, .string tx2, .int .i64 k2] 30)
      have kRx := carryA KR4.out (.cells #[.int .i64 id2, .int .i64 ep2, .string pin2, .int .i64 tr2, .int .i64 ix2, .string dt2, .string tx2, .int .i64 k2] 30)
      have kYx := heap_alloc_new w4 (.cells #[.int .i64 id2, .int .i64 ep2, .string pin2, .int .i64 tr2, .int .i64 ix2, .string dt2, .string tx2, .int .i64 k2] 30)
      have B5 : Below w.heap.size w (w4.alloc (.cells #[.int .i64 id2, .int .i64 ep2, .string pin2, .int .i64 tr2, .int .i64 ix2, .string dt2, .string tx2, .int .i64 k2] 30)) := B4.out.alloc B4.out.size _
      have l1 := lt_some KC4.out
      have l2 := lt_some KR4.out
      have hlt : w.heap.size + 2 ≤ w4.heap.size := by omega
      go_upto_region 6 with fail
      generalize w4.alloc (.cells #[.int .i64 id2, .int .i64 ep2, .string pin2, .int .i64 tr2, .int .i64 ix2, .string dt2, .string tx2, .int .i64 k2] 30) = wy at *
      clear r0 r1 r2 r3 r4 r5 r6 r7 rf c0 c1 c2 c3 c4 c5 cf
      obtain ⟨r0, r1, r2, r3, r4, r5, r6, r7, rf⟩ := blk8 kRx
      obtain ⟨c0, c1, c2, c3, c4, c5, cf⟩ := blk6 kCx
      obtain ⟨y0, y1, y2, y3, y4, y5, y6, y7, yf⟩ := blk8 kYx
      have KC5 : Hid _ := kCx
      have KR5 : Hid _ := kRx
      have KY5 : Hid _ := kYx
      have B5H : Hid _ := B5
      clear kCx kRx kYx B5 l1 l2
      go_wp2_with fail
      exact bodyPost_ret (v := .agg #[.int .i64 id2, .int .i64 ep2, .string pin2, .int .i64 tr2, .int .i64 ix2, .string dt2, .string tx2, .int .i64 k2]) (by simp [results, Tryd.results20, go_sem, r0, r1, r2, r3, r4, r5, r6, r7]) rfl ⟨rfl, set8 B5H.out (by omega) _ _ _ _ _ _ _ _⟩
end Go.Proofs.YteehgicnfageiaaDoor.P8
