/-
  VerifyBy, in the specification.
-/
import Derived.Test.YthmlkbgnooahlaaDoorG4
import Derived.Test.YthmlkbgnooahlaaDoorHB
import Derived.Deep.RegionHeld3
namespace Go.Proofs.YthmlkbgnooahlaaDoor.H5
open Go.RowKit
open Go.Proofs.YthmlkbgnooahlaaDoor.C0
open Go.Proofs.YthmlkbgnooahlaaDoor.HB
open Go.Proofs.YthmlkbgnooahlaaDoor.K3 (bytesOf)
open Go.Proofs.YthmlkbgnooahlaaDoor.G1 (of_length of_mk size_mk)
open Go.Proofs.YthmlkbgnooahlaaDoor.G2
open Go.Proofs.YthmlkbgnooahlaaDoor.G3 (sig kept2 nblk_one rightR_yes)
open Go.Proofs.YthmlkbgnooahlaaDoor.G4

theorem kept2b {W w' : World} {g : Nat} {a b : Value} {T : TypeId} (k : W.heap[g]? = some (.cells #[a, b] T)) (h : Below W.heap.size W w') :
    w'.cell? ⟨g, 0, none⟩ = some a ∧ w'.cell? ⟨g, 1, none⟩ = some b :=
  ⟨block_cell (carry k h) 0, block_cell (carry k h) 1⟩
/-- The numbers of a check, and what is known of them in a walk. -/
theorem back_get (y e s : Nat) (he : e ≤ 5002) : ∃ (P : Int → Int → Int) (d q r : Int),
    (∀ a n, P a n = (Sg.pw a.toNat n.toNat 10007 : Nat)) ∧ IntKind.i64.wrap (5003 - (e : Int)) = d ∧ d = ((5003 - e : Nat) : Int) ∧ IntKind.i64.wrap (P 4 s * P y d) = q ∧ q.tmod 10007 = r ∧ r = (Sg.back y e s : Nat) ∧ 0 ≤ q ∧ q ≤ 100200000 := by
  have h1 := Sg.pw_lt 4 s 10007 (by omega)
  have h2 := Sg.pw_lt y (5003 - e) 10007 (by omega)
  have hb : Sg.back y e s = Sg.pw 4 s 10007 * Sg.pw y (5003 - e) 10007 % 10007 := rfl
  have hw := prod_wrap _ _ h1 h2
  have hq : Sg.pw 4 s 10007 * Sg.pw y (5003 - e) 10007 ≤ 10007 * 10007 := Nat.mul_le_mul (Nat.le_of_lt h1) (Nat.le_of_lt h2)
  obtain ⟨q, hq2⟩ : ∃ q : Nat, Sg.pw 4 s 10007 * Sg.pw y (5003 - e) 10007 = q := ⟨_, rfl⟩
  rw [hq2] at hb hw hq
  refine ⟨fun a n => (Sg.pw a.toNat n.toNat 10007 : Nat), ((5003 - e : Nat) : Int), (q : Nat), ((q % 10007 : Nat) : Int), fun _ _ => rfl, sub_wrap e he, rfl, ?_, by rw [Int.tmod_eq_emod_of_nonneg (by omega)]; omega, by rw [hb], by omega, by omega⟩
  simp only [Int.toNat_natCast]
  exact hw

theorem beq_of {n m : Int} (h : ¬ n = m) : (n == m) = false := by simpa using h
theorem bne_of {n m : Int} (h : ¬ n = m) : (n != m) = true := by simpa using h
theorem bne_eq {n m : Int} (h : n = m) : (n != m) = false := by simpa using h

set_option maxRecDepth 100000 in
set_option maxHeartbeats 1600000 in
theorem verify_spec (y e s : Int) (t : ByteArray) (w : World) (ht : t.size ≤ maxLen) :
    Calls Tryd.prog 19 #[.int .i64 y, .string t, .agg #[.int .i64 e, .int .i64 s]] w fun v w' => v = .returned (.bool (Sg.verR y (bytesOf t) e s)) ∧ Below w.heap.size w w' := by
  unfold maxLen at ht
  have b0 := albel w (.cells #[.int .i64 e, .int .i64 s] 30)
  have k0 := heap_alloc_new w (.cells #[.int .i64 e, .int .i64 s] 30)
  by_cases hs : 8000 < t.size
  · rw [verR_no (by omega)]
    have d1 : decide ((8000 : Int) < (t.size : Int)) = true := by simp; omega
    go_enter Tryd.func19, Tryd.ntmps19
    go_wp2
    go_ret
    exact ⟨rfl, b0⟩
  have d1 : decide ((8000 : Int) < (t.size : Int)) = false := by simp; omega
  by_cases hy : 1 ≤ y ∧ y ≤ 10006
  · obtain ⟨y', rfl⟩ := Int.eq_ofNat_of_zero_le (show 0 ≤ y by omega)
    obtain ⟨p, hp⟩ : ∃ p, Sg.pw y' 5003 10007 = p := ⟨_, rfl⟩
    have HP : Hid (∀ W, Calls Tryd.prog 39 #[.int .i64 y', .int .i64 5003, .int .i64 10007] W fun e w' => e = .returned (.int .i64 (p : Nat)) ∧ W = w') := fun W => by
      rw [← hp]; exact G0.pow_spec y' 5003 10007 W (by omega) (by omega) (by omega) (by omega)
    by_cases hp1 : p = 1
    · have f1 : ((p : Int) != 1) = false := bne_eq (by omega)
      obtain ⟨R, hR⟩ : ∃ R, Sg.rightR e s = R := ⟨_, rfl⟩
      have HRt : Hid (∀ W, Calls Tryd.prog 23 #[.agg #[.int .i64 e, .int .i64 s]] W fun x w' => x = .returned (.bool R) ∧ Below W.heap.size W w') := fun W => by
        rw [← hR]; exact G3.right_spec e s W
      cases R with
      | false =>
        rw [verR_no_sig hR]
        clear hp
        go_enter Tryd.func19, Tryd.ntmps19
        go_wp2_with fail
        refine (G0.is_spec _ 1 10006 _).mono ?_
        rintro v w1 ⟨rfl, rfl⟩
        rw [yes2 hy]
        go_wp2_with fail
        refine (HP.out _).mono ?_
        rintro v w1 ⟨rfl, rfl⟩
        go_wp2_with fail
        refine (HRt.out _).mono ?_
        rintro v w1 ⟨rfl, hb1⟩
        go_wp2
        go_ret
        exact ⟨rfl, bel2 b0 hb1⟩
      | true =>
        obtain ⟨e0, e9, s0, s9⟩ := rightR_parts hR
        obtain ⟨e', rfl⟩ := Int.eq_ofNat_of_zero_le e0
        obtain ⟨s', rfl⟩ := Int.eq_ofNat_of_zero_le s0
        obtain ⟨P, d, q, r, hP, hd, hd2, hq, hr, hr2, q0, q9⟩ := back_get y' e' s' (by omega)
        have hbl := Sg.back_lt y' e' s'
        obtain ⟨E, hE⟩ : ∃ E : Int, E = (Sg.bound (Sg.back y' e' s') y' (bytesOf t) : Nat) := ⟨_, rfl⟩
        have hv := verR_bound (t := t) (y := y') (e := e') (s := s') (by omega) (by omega) (by omega) (hp.trans hp1) (by omega) (by omega)
        rw [← hE] at hv
        have HC : Hid (∀ a n W, (a = 4 ∧ n = (s' : Int)) ∨ (a = (y' : Int) ∧ n = d) → Calls Tryd.prog 39 #[.int .i64 a, .int .i64 n, .int .i64 10007] W fun e w' => e = .returned (.int .i64 (P a n)) ∧ W = w') := fun a n W h => by
          rw [hP]
          rcases h with ⟨rfl, rfl⟩ | ⟨rfl, rfl⟩
          · exact G0.pow_spec 4 s' 10007 W (by omega) (by omega) (by omega) (by omega)
          · rw [hd2]; exact G0.pow_spec y' (5003 - e') 10007 W (by omega) (by omega) (by omega) (by omega)
        have HE : Hid (∀ W, Calls Tryd.prog 45 #[.int .i64 r, .int .i64 y', .string t] W fun e w' => e = .returned (.int .i64 E) ∧ Below W.heap.size W w') := fun W => by
          rw [hr2, hE]; exact G1.bound_spec (Sg.back y' e' s') y' t W (by omega) (by omega) (by omega)
        generalize Sg.verR y' (bytesOf t) e' s' = V at *
        have HV : Hid ((E == (e' : Int)) = V) := hv
        clear hp hP hr2 hE hd2 hbl hv hR
        go_enter Tryd.func19, Tryd.ntmps19
        go_wp2_with fail
        refine (G0.is_spec _ 1 10006 _).mono ?_
        rintro v w1 ⟨rfl, rfl⟩
        rw [yes2 hy]
        go_wp2_with fail
        refine (HP.out _).mono ?_
        rintro v w1 ⟨rfl, rfl⟩
        go_wp2_with fail
        refine (HRt.out _).mono ?_
        rintro v w1 ⟨rfl, hb1⟩
        go_wp2_with fail
        have k1 := carry k0 hb1
        have B1 := bel2 b0 hb1
        clear k0 b0 hb1 HRt HP
        obtain ⟨q0', q1'⟩ := kept2b k1 (Below.refl _ _)
        go_region_held3 (fun x => x.cell? ⟨w.heap.size, 0, none⟩ = some (.int .i64 e') ∧ x.cell? ⟨w.heap.size, 1, none⟩ = some (.int .i64 s'))
          (first
            | (with_reducible exact kept2b k1 BN)
            | (with_reducible exact kept2b k1 (Below.refl _ _).drew)
            | go_keep)
          (first
            | (go_at_call 39; refine (HC.out _ _ _ (by first | exact .inl ⟨rfl, rfl⟩ | exact .inr ⟨rfl, rfl⟩)).mono ?_; rintro v wn ⟨rfl, rfl⟩))
        go_wp2_with fail
        have k2 : w1.drew.heap[w.heap.size]? = some (.cells #[.int .i64 e', .int .i64 s'] 30) := k1
        have B2 : Below w.heap.size w w1.drew := B1.drew
        obtain ⟨W, hW⟩ : ∃ W, w1.drew = W := ⟨_, rfl⟩
        rw [hW] at k2 B2 ⊢
        clear k1 B1 hW HC q0' q1' hd hq hr
        obtain ⟨q0', q1'⟩ := kept2b k2 (Below.refl _ _)
        go_region_held3 (fun x => x.cell? ⟨w.heap.size, 0, none⟩ = some (.int .i64 e') ∧ x.cell? ⟨w.heap.size, 1, none⟩ = some (.int .i64 s'))
          (first
            | (with_reducible exact kept2b k2 BN)
            | (with_reducible exact kept2b k2 (Below.refl _ _).drew)
            | go_keep)
          (first
            | (go_at_call 45; refine (HE.out _).mono ?_; rintro v wn ⟨rfl, hbn⟩; have BN : Below W.heap.size W wn := undrew hbn))
        go_wp2
        go_ret
        exact ⟨by rw [← HV.out]; rfl, bel2 B2 BN⟩
    · have f1 : ((p : Int) != 1) = true := bne_of (by omega)
      rw [verR_no_one (by rw [hp]; exact hp1)]
      clear hp
      go_enter Tryd.func19, Tryd.ntmps19
      go_wp2_with fail
      refine (G0.is_spec _ 1 10006 _).mono ?_
      rintro v w1 ⟨rfl, rfl⟩
      rw [yes2 hy]
      go_wp2_with fail
      refine (HP.out _).mono ?_
      rintro v w1 ⟨rfl, rfl⟩
      go_wp2
      go_ret
      exact ⟨rfl, b0⟩
  · rw [verR_no (by omega)]
    go_enter Tryd.func19, Tryd.ntmps19
    go_wp2_with fail
    refine (G0.is_spec _ 1 10006 _).mono ?_
    rintro v w1 ⟨rfl, rfl⟩
    rw [no2 hy]
    go_wp2
    go_ret
    exact ⟨rfl, b0⟩
end Go.Proofs.YthmlkbgnooahlaaDoor.H5
