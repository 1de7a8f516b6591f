/-
  VerifyBy, in the program.
-/
import Derived.Test.YthmlkbgnooahlaaDoorH1
import Derived.Test.YthmlkbgnooahlaaDoorH4
import Derived.Test.YthmlkbgnooahlaaDoorH5
namespace Go.Proofs.YthmlkbgnooahlaaDoor.H6
open Go.RowKit
open Go.Proofs.YthmlkbgnooahlaaDoor.C0
open Go.Proofs.YthmlkbgnooahlaaDoor.HB
open Go.Proofs.YthmlkbgnooahlaaDoor.K2 (Laid)
open Go.Proofs.YthmlkbgnooahlaaDoor.K3 (bytesOf)
open Go.Proofs.YthmlkbgnooahlaaDoor.G1 (of_length of_mk size_mk)
open Go.Proofs.YthmlkbgnooahlaaDoor.G2
open Go.Proofs.YthmlkbgnooahlaaDoor.G3 (sig kept2 nblk_one rightR_yes)
open Go.Proofs.YthmlkbgnooahlaaDoor.G4 (rightR_parts prod_wrap sub_wrap)
open Go.Proofs.YthmlkbgnooahlaaDoor.H3
open Go.Proofs.YthmlkbgnooahlaaDoor.H5

theorem verRI_no {y e s : Int} {t : ByteArray} (h : ¬ (t.size ≤ 8000 ∧ 1 ≤ y ∧ y ≤ 10006)) : Sg.verRI y (bytesOf t) e s = false := by
  unfold Sg.verRI
  exact decide_eq_false (fun k => h ⟨by have := k.1; rw [of_length] at this; exact this, k.2.1, k.2.2.1⟩)
theorem verRI_no_one {y : Nat} {e s : Int} {t : ByteArray} (h : ¬ Sg.pw y 5003 10007 = 1) : Sg.verRI y (bytesOf t) e s = false := by
  unfold Sg.verRI
  exact decide_eq_false (fun k => h k.2.2.2.1)
theorem verRI_no_sig {y e s : Int} {t : ByteArray} (h : Sg.rightR e s = false) : Sg.verRI y (bytesOf t) e s = false := by
  unfold Sg.verRI
  exact decide_eq_false (fun k => of_decide_eq_false h k.2.2.2.2.1)
theorem verRI_bound {y e s : Nat} {t : ByteArray} (ht : t.size ≤ 8000) (y1 : 1 ≤ y) (y2 : y ≤ 10006) (hp : Sg.pw y 5003 10007 = 1) (he : e ≤ 5002) (hs : s ≤ 5002) :
    ((e : Int) == (Sg.boundI (Sg.back y e s) y (bytesOf t) : Int)) = Sg.verRI y (bytesOf t) e s := by
  by_cases h : Sg.boundI (Sg.back y e s) y (bytesOf t) = e
  · have : Sg.verRI y (bytesOf t) e s = true := by
      unfold Sg.verRI
      exact decide_eq_true ⟨by rw [of_length]; exact ht, by omega, by omega, hp, ⟨by omega, by omega, by omega, by omega⟩, h⟩
    rw [this, h]; simp
  · have : Sg.verRI y (bytesOf t) e s = false := by
      unfold Sg.verRI
      exact decide_eq_false (fun k => h k.2.2.2.2.2)
    rw [this]
    simp; omega

/-- Is it a public's number? -/
def pubB (y : Int) : Bool := decide (1 ≤ y ∧ y ≤ 10006 ∧ Sg.pw y.toNat 5003 10007 = 1)
set_option maxRecDepth 100000 in
theorem ispub_impl (y : Int) (w : World) : Calls Tryd.prog 44 #[.int .i64 y] w fun e w' => e = .returned (.bool (pubB y)) ∧ Below w.heap.size w w' := by
  by_cases hy : 1 ≤ y ∧ y ≤ 10006
  · obtain ⟨y', rfl⟩ := Int.eq_ofNat_of_zero_le (show 0 ≤ y by omega)
    have hp : Sg.powR y' 5003 10007 = Sg.pw y' 5003 10007 := powR_yes (n := 5003) (m := 10007) (by omega) (by omega) (by omega) (by omega)
    obtain ⟨p, hpp⟩ : ∃ p, Sg.pw y' 5003 10007 = p := ⟨_, rfl⟩
    have hv : pubB y' = ((p : Int) == 1) := by
      unfold pubB
      rw [Int.toNat_natCast, hpp]
      by_cases h : p = 1
      · subst h; simp; omega
      · rw [decide_eq_false (fun k => h k.2.2)]; simp; omega
    have HP : Hid (Sg.powR y' 5003 10007 = p) := hp.trans hpp
    rw [hv]
    clear hp hpp hv
    go_enter Tryd.func44, Tryd.ntmps44
    go_wp2_with fail
    refine (H0.from_impl 1 _ 10006 _).mono ?_
    rintro v w1 ⟨rfl, rfl⟩
    rw [yes2 hy]
    go_wp2_with fail
    refine (H0.powmod_impl y' 5003 10007 _).mono ?_
    rintro v w1 ⟨rfl, hb1⟩
    rw [HP.out]
    go_wp2
    go_ret
    exact ⟨rfl, hb1⟩
  · have hv : pubB y = false := by unfold pubB; exact decide_eq_false (fun k => hy ⟨k.1, k.2.1⟩)
    rw [hv]
    go_enter Tryd.func44, Tryd.ntmps44
    go_wp2_with fail
    refine (H0.from_impl 1 _ 10006 _).mono ?_
    rintro v w1 ⟨rfl, rfl⟩
    rw [no2 hy]
    go_wp2
    go_ret
    exact ⟨rfl, Below.refl _ _⟩

set_option maxRecDepth 100000 in
set_option maxHeartbeats 1600000 in
theorem verify_impl (y e s : Int) (t : ByteArray) (w : World) (ht : t.size ≤ maxLen) (hL : Laid w) :
    Calls Tryd.prog 18 #[.int .i64 y, .string t, .agg #[.int .i64 e, .int .i64 s]] w fun v w' => v = .returned (.bool (Sg.verRI y (bytesOf t) e s)) ∧ Below w.heap.size w w' := by
  unfold maxLen at ht
  have b0 := albel w (.cells #[.int .i64 e, .int .i64 s] 30)
  have k0 := heap_alloc_new w (.cells #[.int .i64 e, .int .i64 s] 30)
  by_cases hs : 8000 < t.size
  · rw [verRI_no (by omega)]
    have d1 : decide ((8000 : Int) < (t.size : Int)) = true := by simp; omega
    go_enter Tryd.func18, Tryd.ntmps18
    go_wp2
    go_ret
    exact ⟨rfl, b0⟩
  have d1 : decide ((8000 : Int) < (t.size : Int)) = false := by simp; omega
  obtain ⟨pb, hpb⟩ : ∃ pb, pubB y = pb := ⟨_, rfl⟩
  have HPB : Hid (∀ W, Calls Tryd.prog 44 #[.int .i64 y] W fun e w' => e = .returned (.bool pb) ∧ Below W.heap.size W w') := fun W => by
    rw [← hpb]; exact ispub_impl y W
  cases pb with
  | false =>
    have hno : Sg.verRI y (bytesOf t) e s = false := by
      unfold Sg.verRI
      exact decide_eq_false (fun k => of_decide_eq_false hpb ⟨k.2.1, k.2.2.1, k.2.2.2.1⟩)
    rw [hno]
    clear hpb hno
    go_enter Tryd.func18, Tryd.ntmps18
    go_wp2_with fail
    refine (HPB.out _).mono ?_
    rintro v w1 ⟨rfl, hb1⟩
    go_wp2
    go_ret
    exact ⟨rfl, bel2 b0 hb1⟩
  | true =>
    obtain ⟨y1, y9, hp1⟩ := of_decide_eq_true hpb
    obtain ⟨y', rfl⟩ := Int.eq_ofNat_of_zero_le (show 0 ≤ y by omega)
    rw [Int.toNat_natCast] at hp1
    obtain ⟨R, hR⟩ : ∃ R, Sg.rightR e s = R := ⟨_, rfl⟩
    have HRt : Hid (∀ W, Calls Tryd.prog 22 #[.agg #[.int .i64 e, .int .i64 s]] W fun x w' => x = .returned (.bool R) ∧ Below W.heap.size W w') := fun W => by
      rw [← hR]; exact H1.right_impl e s W
    cases R with
    | false =>
      rw [verRI_no_sig hR]
      clear hp1 hpb hR
      go_enter Tryd.func18, Tryd.ntmps18
      go_wp2_with fail
      refine (HPB.out _).mono ?_
      rintro v w1 ⟨rfl, hb1⟩
      have k1 := carry k0 hb1
      have B1 := bel2 b0 hb1
      clear k0 b0 hb1
      obtain ⟨q0', q1'⟩ := kept2b k1 (Below.refl _ _)
      go_wp2_with fail
      refine (HRt.out _).mono ?_
      rintro v w2 ⟨rfl, hb2⟩
      go_wp2
      go_ret
      exact ⟨rfl, bel2 B1 hb2⟩
    | true =>
      obtain ⟨e0, e9, s0, s9⟩ := rightR_parts hR
      obtain ⟨e', rfl⟩ := Int.eq_ofNat_of_zero_le e0
      obtain ⟨s', rfl⟩ := Int.eq_ofNat_of_zero_le s0
      obtain ⟨P, d, q, r, hP, hd, hd2, hq, hr, hr2, q0, q9⟩ := back_get y' e' s' (by omega)
      have hbl := Sg.back_lt y' e' s'
      obtain ⟨E, hE⟩ : ∃ E : Int, E = (Sg.boundI (Sg.back y' e' s') y' (bytesOf t) : Nat) := ⟨_, rfl⟩
      have hv := verRI_bound (t := t) (y := y') (e := e') (s := s') (by omega) (by omega) (by omega) hp1 (by omega) (by omega)
      rw [← hE] at hv
      have HC : Hid (∀ a n W, (a = 4 ∧ n = (s' : Int)) ∨ (a = (y' : Int) ∧ n = d) → Calls Tryd.prog 13 #[.int .i64 a, .int .i64 n, .int .i64 10007] W fun e w' => e = .returned (.int .i64 (P a n)) ∧ Below W.heap.size W w') := fun a n W h => by
        rw [hP]
        rcases h with ⟨ha, hn⟩ | ⟨ha, hn⟩
        · have h4 : Sg.powR 4 (s' : Int) 10007 = Sg.pw 4 s' 10007 := powR_yes (a := 4) (m := 10007) (by omega) (by omega) (by omega) (by omega)
          have := H0.powmod_impl 4 s' 10007 W
          rw [h4] at this
          rw [ha, hn]
          exact this
        · have h4 : Sg.powR (y' : Int) d 10007 = Sg.pw y' (5003 - e') 10007 := by
            rw [hd2]; exact powR_yes (m := 10007) (by omega) (by omega) (by omega) (by omega)
          have := H0.powmod_impl y' d 10007 W
          rw [h4] at this
          rw [ha, hn, Int.toNat_natCast, show d.toNat = 5003 - e' by omega]
          exact this
      have HE : Hid (∀ g1 g2 W, W.heap[g1]? = some (.cells #[.int .i64 y'] 2) → W.heap[g2]? = some (.cells #[.string t] 9) → Laid W → Calls Tryd.prog 49 #[.int .i64 r, .pointer (some ⟨g1, 0, none⟩), .pointer (some ⟨g2, 0, none⟩)] W fun e w' => e = .returned (.int .i64 E) ∧ Below W.heap.size W w') := fun g1 g2 W k1 k2 hl => by
        rw [hr2, hE]; exact bound_impl (Sg.back y' e' s' : Nat) y' t g1 g2 W ⟨by omega, by omega⟩ ⟨by omega, by omega⟩ (by omega) k1 k2 hl
      generalize Sg.verRI y' (bytesOf t) e' s' = V at *
      have HV : Hid (((e' : Int) == E) = V) := hv
      clear hp1 hP hr2 hE hd2 hbl hv hR hpb
      have z0 := hL.below b0
      go_enter Tryd.func18, Tryd.ntmps18
      go_wp2_with fail
      refine (HPB.out _).mono ?_
      rintro v w1 ⟨rfl, hb1⟩
      have k1 := carry k0 hb1
      have B1 := bel2 b0 hb1
      have z1 := z0.below hb1
      clear k0 b0 hb1 z0
      obtain ⟨q0', q1'⟩ := kept2b k1 (Below.refl _ _)
      go_wp2_with fail
      refine (HRt.out _).mono ?_
      rintro v w2 ⟨rfl, hb2⟩
      have k2 := carry k1 hb2
      have B2 := bel2 B1 hb2
      have z2 := z1.below hb2
      clear k1 B1 hb2 q0' q1' HRt HPB z1
      obtain ⟨q0', q1'⟩ := kept2b k2 (Below.refl _ _)
      go_wp2_with fail
      go_region_held3 (fun x => x.cell? ⟨w.heap.size, 0, none⟩ = some (.int .i64 e') ∧ x.cell? ⟨w.heap.size, 1, none⟩ = some (.int .i64 s'))
        (first
          | (with_reducible exact kept2b k2 BN)
          | (with_reducible exact kept2b k2 (Below.refl _ _).drew)
          | go_keep)
        (first
          | (go_at_call 13; refine (HC.out _ _ _ (by first | exact .inl ⟨rfl, rfl⟩ | exact .inr ⟨rfl, rfl⟩)).mono ?_; rintro v wn ⟨rfl, hbn⟩; have BN : Below w2.heap.size w2 wn := (by first | exact bel2 BN hbn | exact undrew hbn)))
      all_goals
        have k3 := carry k2 BN
        have B3 := bel2 B2 BN
        have z3 := z2.below BN
        clear k2 B2 z2 q0' q1' BN hbn HC hd hq hr
        go_wp2_with fail
        refine (by_impl y' t _).mono ?_
        rintro v w4 ⟨rfl, hb4, j1, j2⟩
        have k4 := carry k3 hb4
        have B4 := bel2 B3 hb4
        have z4 := z3.below hb4
        clear k3 B3 z3 hb4
        obtain ⟨q0', q1'⟩ := kept2b k4 (Below.refl _ _)
        unfold boundV
        go_wp2_with fail
        have HQ : Hid (∀ W, W = w4.drew → Calls Tryd.prog 49 #[.int .i64 r, .pointer (some ⟨_, 0, none⟩), .pointer (some ⟨_, 0, none⟩)] W fun e w' => e = .returned (.int .i64 E) ∧ Below W.heap.size W w') := fun W h => by
          subst h; exact HE.out _ _ _ j1 j2 z4
        go_region_held3 (fun x => x.cell? ⟨w.heap.size, 0, none⟩ = some (.int .i64 e') ∧ x.cell? ⟨w.heap.size, 1, none⟩ = some (.int .i64 s'))
          (first
            | (with_reducible exact kept2b k4 BN)
            | (with_reducible exact kept2b k4 (Below.refl _ _).drew)
            | go_keep)
          (first
            | (go_at_call 49; refine (HQ.out _ rfl).mono ?_; rintro v wn ⟨rfl, hbn⟩; have BN : Below w4.heap.size w4 wn := undrew hbn))
        all_goals
          go_wp2
          go_ret
          exact ⟨by rw [← HV.out]; rfl, bel2 B4 BN⟩
end Go.Proofs.YthmlkbgnooahlaaDoor.H6
