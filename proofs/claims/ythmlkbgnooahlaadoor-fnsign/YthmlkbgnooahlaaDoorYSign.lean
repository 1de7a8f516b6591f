/-
  The walk of the law on signing.
-/
import Derived.Test.YthmlkbgnooahlaaDoorDW
import Derived.Test.YthmlkbgnooahlaaDoorDP
import Derived.Test.YthmlkbgnooahlaaDoorH6
import Derived.Deep.DeepCutAuto
namespace Go.Proofs.YthmlkbgnooahlaaDoor.YSign
open Go.RowKit
open Go.Proofs.YthmlkbgnooahlaaDoor.C0 Go.Proofs.YthmlkbgnooahlaaDoor.D0 Go.Proofs.YthmlkbgnooahlaaDoor.HB
open Go.Proofs.YthmlkbgnooahlaaDoor.K3 (bytesOf)
open Go.Proofs.YthmlkbgnooahlaaDoor.G1 (of_length)
open Go.Proofs.YthmlkbgnooahlaaDoor.G3 (sig)
open Go.Proofs.YthmlkbgnooahlaaDoor.G4 (signV)
open Go.Proofs.YthmlkbgnooahlaaDoor.H4 (signI)

theorem sign_both (x : Int) (t : ByteArray) (h : t.size ≤ 9) : ∃ p q : Int, signI x t = sig p q ∧ signV x t = sig p q ∧ Sg.rightR p q = true ∧ (1 ≤ x → x ≤ 5002 → Sg.verRI (Sg.pubR x) (bytesOf t) p q = true) := by
  have hl : (bytesOf t).length ≤ 7980 := by rw [of_length]; omega
  refine ⟨_, _, ?_, rfl, Sg.rightR_sign x (bytesOf t), fun h1 h2 => ?_⟩
  · unfold signI; rw [Sg.signRI_room _ _ hl]
  · rw [Sg.verRI_room _ _ _ _ hl]
    exact Sg.verR_sign (by rw [of_length]; omega) h1 h2
theorem below_dn {a b : World} {B : Nat} (h : Below B a b) (n : Nat) : Below B a (b.drewN n) := ⟨h.os, h.tape, h.output, h.size, h.block⟩
/-- Powers over sums, in the numbers of the machine. -/
theorem more_get (a n m : Int) (h : 0 ≤ a ∧ a ≤ 1000000 ∧ 0 ≤ n ∧ n ≤ 9999 ∧ 1 ≤ m ∧ m ≤ 1000000) : ∃ (F : Int → Int) (n1 am q r : Int), (∀ k, F k = (Sg.powR a k m : Nat)) ∧ IntKind.i64.wrap (n + 1) = n1 ∧ n1 = n + 1 ∧ a.tmod m = am ∧ IntKind.i64.wrap (F n * am) = q ∧ q.tmod m = r ∧ (F n1 != r) = false := by
  obtain ⟨h1, h2, h3, h4, h5, h6⟩ := h
  have hm := Sg.powR_more h1 h2 h3 h4 h5 h6
  have hp : (Sg.powR a n m : Int) < m ∧ (0 : Int) ≤ (Sg.powR a n m : Int) := by
    refine ⟨?_, by omega⟩
    unfold Sg.powR
    rw [if_pos ⟨h1, h2, h3, by omega, h5, h6⟩]
    have := Sg.pw_lt a.toNat n.toNat m.toNat (by omega)
    omega
  have ha : a % m < m ∧ 0 ≤ a % m := ⟨Int.emod_lt_of_pos _ (by omega), Int.emod_nonneg _ (by omega)⟩
  have hq : (Sg.powR a n m : Int) * (a % m) ≤ 1000000 * 1000000 := Int.mul_le_mul (by omega) (by omega) ha.2 (by omega)
  have hq0 : 0 ≤ (Sg.powR a n m : Int) * (a % m) := Int.mul_nonneg hp.2 ha.2
  refine ⟨fun k => (Sg.powR a k m : Nat), n + 1, a % m, (Sg.powR a n m : Int) * (a % m), (Sg.powR a n m : Int) * (a % m) % m, fun _ => rfl, by rw [IntKind.wrap_i64]; omega, rfl, Int.tmod_eq_emod_of_nonneg h1, ?_, Int.tmod_eq_emod_of_nonneg hq0, ?_⟩
  · show IntKind.i64.wrap ((Sg.powR a n m : Int) * (a % m)) = _
    rw [IntKind.wrap_i64]; omega
  · show ((Sg.powR a (n + 1) m : Int) != _) = false
    rw [hm]; simp

set_option maxRecDepth 100000 in
set_option maxHeartbeats 3200000 in
theorem walk (a0 a1 : Option Addr) (n0 n1 c0 c1 : Nat) (w : World) (hL : K2.Laid w) (h0 : IsCode w.heap.size w (.slice a0 n0 c0) n0) (h1 : IsCode w.heap.size w (.slice a1 n1 c1) n1) :
    Calls Tryd.prog 3 #[.slice a0 n0 c0, .slice a1 n1 c1] w fun e w' => e = .returned (.bool true) ∧ Below w.heap.size w w' := by
  have m0 := h0.1
  have m1 := h1.1
  by_cases g0 : 1048576 < n0
  · have d0 : decide ((1048576 : Int) < (n0 : Int)) = true := by simp; omega
    go_enter Tryd.func3, Tryd.ntmps3
    go_wp2
    go_ret
    exact ⟨rfl, Below.refl _ _⟩
  have d0 : decide ((1048576 : Int) < (n0 : Int)) = false := by simp; omega
  by_cases g1 : 1048576 < n1
  · go_enter Tryd.func3, Tryd.ntmps3
    go_wp2
    go_ret
    exact ⟨rfl, Below.refl _ _⟩
  have d1 : decide ((1048576 : Int) < (n1 : Int)) = false := by simp; omega
  go_enter Tryd.func3, Tryd.ntmps3
  go_wp2_with fail
  refine (DP.pow_draw _ n0 _ h0).mono ?_
  rintro e w1 ⟨a, n, m, rfl, sa, sn, sm, B1⟩
  go_wp2_with fail
  refine (DV.hash_draw _ n1 _ ((h1.below B1 (Nat.le_refl _)).up B1.size)).mono ?_
  rintro e w2 ⟨t, k, rfl, ht, k1, k2, hb⟩
  have B2 := bel2 B1 hb
  clear hb B1
  go_wp2_with fail
  refine (DV.sign_draw _ n0 _ ((h0.below B2 (Nat.le_refl _)).up B2.size)).mono ?_
  rintro e w3 ⟨x, s, rfl, x1, x2, hs, hb⟩
  have B3 := bel2 B2 hb
  clear hb B2
  obtain ⟨p, q, hI, hV, hR, hvv⟩ := sign_both x s (by omega)
  go_wp2_with fail
  refine (H4.sign_impl x s _ (by unfold maxLen; omega) (hL.below B3)).mono ?_
  rintro e w4 ⟨rfl, hb⟩
  rw [hI]
  have B4 := bel2 B3 hb
  clear hb B3
  unfold sig
  go_wp2_with fail
  have l1 := heap_alloc_new w4 (.cells #[.int .i64 p, .int .i64 q] 30)
  have B5 := bel2 B4 (albel w4 (.cells #[.int .i64 p, .int .i64 q] 30))
  generalize w4.heap.size = D1 at *
  generalize (w4.alloc (.cells #[.int .i64 p, .int .i64 q] 30)) = W4 at l1 B5 ⊢
  clear B4
  refine (DW.verify_draw _ n1 _ ((h1.below B5 (Nat.le_refl _)).up B5.size)).mono ?_
  rintro e w5 ⟨y, u, ga, gb, rfl, hy, hu, hga, hgb, hb⟩
  have B6 := bel2 B5 hb
  have l2 := carry l1 hb
  clear hb B5 l1
  unfold sig
  go_wp2_with fail
  have l3 := carryA l2 (.cells #[.int .i64 ga, .int .i64 gb] 30)
  have j3 := heap_alloc_new w5 (.cells #[.int .i64 ga, .int .i64 gb] 30)
  have B7 := bel2 B6 (albel w5 (.cells #[.int .i64 ga, .int .i64 gb] 30))
  generalize w5.heap.size = D2 at *
  generalize (w5.alloc (.cells #[.int .i64 ga, .int .i64 gb] 30)) = W5 at l3 j3 B7 ⊢
  clear B6 l2
  refine (DV.public_draw _ n1 _ ((h1.below B7 (Nat.le_refl _)).up B7.size)).mono ?_
  rintro e w6 ⟨z, rfl, z1, z2, hb⟩
  have B8 := bel2 B7 hb
  have l4 := carry l3 hb
  have j4 := carry j3 hb
  clear hb B7 l3 j3
  go_wp2_with fail
  refine (DV.right_draw _ n0 _ ((h0.below B8 (Nat.le_refl _)).up B8.size)).mono ?_
  rintro e w7 ⟨ra, rb, rfl, hra, hrb, hb⟩
  have B9 := bel2 B8 hb
  have l5 := carry l4 hb
  have j5 := carry j4 hb
  clear hb B8 l4 j4
  unfold sig
  go_upto_region 10 with fail
  have l6 := carryA l5 (.cells #[.int .i64 ra, .int .i64 rb] 30)
  have j6 := carryA j5 (.cells #[.int .i64 ra, .int .i64 rb] 30)
  have i6 := heap_alloc_new w7 (.cells #[.int .i64 ra, .int .i64 rb] 30)
  have BB := bel2 B9 (albel w7 (.cells #[.int .i64 ra, .int .i64 rb] 30))
  generalize w7.heap.size = D3 at *
  generalize (w7.alloc (.cells #[.int .i64 ra, .int .i64 rb] 30)) = W at l6 j6 i6 BB ⊢
  clear B9 l5 j5
  have hLW := hL.below BB
  have KF : Hid (∀ x, Below W.heap.size W x → x.cell? ⟨D1, 0, none⟩ = some (.int .i64 p) ∧ x.cell? ⟨D1, 1, none⟩ = some (.int .i64 q) ∧ x.cell? ⟨D2, 0, none⟩ = some (.int .i64 ga) ∧ x.cell? ⟨D2, 1, none⟩ = some (.int .i64 gb) ∧ x.cell? ⟨D3, 0, none⟩ = some (.int .i64 ra) ∧ x.cell? ⟨D3, 1, none⟩ = some (.int .i64 rb)) := fun x hx =>
    ⟨block_cell (carry l6 hx) 0, block_cell (carry l6 hx) 1, block_cell (carry j6 hx) 0, block_cell (carry j6 hx) 1, block_cell (carry i6 hx) 0, block_cell (carry i6 hx) 1⟩
  clear l6 j6 i6
  obtain ⟨P, hP⟩ : ∃ P : Int, P = (Sg.powR a n m : Nat) := ⟨_, rfl⟩
  obtain ⟨Hh, hH⟩ : ∃ H : Int, H = (Sg.hashR (bytesOf t) k : Nat) := ⟨_, rfl⟩
  obtain ⟨Vv, hVv⟩ : ∃ V : Bool, V = Sg.verR y (bytesOf u) ga gb := ⟨_, rfl⟩
  obtain ⟨Pu, hPu⟩ : ∃ P : Int, P = (Sg.pubR z : Nat) := ⟨_, rfl⟩
  obtain ⟨Rr, hRr⟩ : ∃ R : Bool, R = Sg.rightR ra rb := ⟨_, rfl⟩
  have C1 : Hid (∀ x, Below W.heap.size W x → Calls Tryd.prog 13 #[.int .i64 a, .int .i64 n, .int .i64 m] x fun e w' => e = .returned (.int .i64 P) ∧ Below W.heap.size W w') := fun x hx => by
    rw [hP]; exact (H0.powmod_impl a n m x).mono fun e w' h => ⟨h.1, bel2 hx h.2⟩
  have C2 : Hid (∀ x, Below W.heap.size W x → Calls Tryd.prog 14 #[.int .i64 a, .int .i64 n, .int .i64 m] x fun e w' => e = .returned (.int .i64 P) ∧ Below W.heap.size W w') := fun x hx => by
    rw [hP]; exact (G2.powmod_spec a n m x).mono fun e w' h => ⟨h.1, by rw [← h.2]; exact hx⟩
  have C3 : Hid (∀ x, Below W.heap.size W x → Calls Tryd.prog 15 #[.string t, .int .i64 k] x fun e w' => e = .returned (.int .i64 Hh) ∧ Below W.heap.size W w') := fun x hx => by
    rw [hH]; exact (H2.hashto_impl t k x (by unfold maxLen; omega) (hLW.below hx)).mono fun e w' h => ⟨h.1, bel2 hx h.2⟩
  have C4 : Hid (∀ x, Below W.heap.size W x → Calls Tryd.prog 16 #[.string t, .int .i64 k] x fun e w' => e = .returned (.int .i64 Hh) ∧ Below W.heap.size W w') := fun x hx => by
    rw [hH]; exact (GH.hashto_spec t k x (by unfold maxLen; omega)).mono fun e w' h => ⟨h.1, bel2 hx h.2⟩
  have C5 : Hid (∀ y, Below W.heap.size W y → Calls Tryd.prog 17 #[.int .i64 x, .string s] y fun e w' => e = .returned (.agg #[.int .i64 p, .int .i64 q]) ∧ Below W.heap.size W w') := fun y hy => by
    have := G4.sign_spec x s y (by unfold maxLen; omega)
    rw [hV] at this
    exact this.mono fun e w' h => ⟨h.1, bel2 hy h.2⟩
  have C6 : Hid (∀ x, Below W.heap.size W x → Calls Tryd.prog 18 #[.int .i64 y, .string u, .agg #[.int .i64 ga, .int .i64 gb]] x fun e w' => e = .returned (.bool Vv) ∧ Below W.heap.size W w') := fun x hx => by
    rw [hVv, ← Sg.verRI_room _ _ _ _ (show (bytesOf u).length ≤ 7980 by rw [of_length]; omega)]
    exact (H6.verify_impl y ga gb u x (by unfold maxLen; omega) (hLW.below hx)).mono fun e w' h => ⟨h.1, bel2 hx h.2⟩
  have C7 : Hid (∀ x, Below W.heap.size W x → Calls Tryd.prog 19 #[.int .i64 y, .string u, .agg #[.int .i64 ga, .int .i64 gb]] x fun e w' => e = .returned (.bool Vv) ∧ Below W.heap.size W w') := fun x hx => by
    rw [hVv]
    exact (H5.verify_spec y ga gb u x (by unfold maxLen; omega)).mono fun e w' h => ⟨h.1, bel2 hx h.2⟩
  have C8 : Hid (∀ x, Below W.heap.size W x → Calls Tryd.prog 20 #[.int .i64 z] x fun e w' => e = .returned (.int .i64 Pu) ∧ Below W.heap.size W w') := fun x hx => by
    rw [hPu]; exact (H0.public_impl z x).mono fun e w' h => ⟨h.1, bel2 hx h.2⟩
  have C9 : Hid (∀ x, Below W.heap.size W x → Calls Tryd.prog 21 #[.int .i64 z] x fun e w' => e = .returned (.int .i64 Pu) ∧ Below W.heap.size W w') := fun x hx => by
    rw [hPu]; exact (G2.public_spec z x).mono fun e w' h => ⟨h.1, by rw [← h.2]; exact hx⟩
  have CA : Hid (∀ x, Below W.heap.size W x → Calls Tryd.prog 22 #[.agg #[.int .i64 ra, .int .i64 rb]] x fun e w' => e = .returned (.bool Rr) ∧ Below W.heap.size W w') := fun x hx => by
    rw [hRr]; exact (H1.right_impl ra rb x).mono fun e w' h => ⟨h.1, bel2 hx h.2⟩
  have CB : Hid (∀ x, Below W.heap.size W x → Calls Tryd.prog 23 #[.agg #[.int .i64 ra, .int .i64 rb]] x fun e w' => e = .returned (.bool Rr) ∧ Below W.heap.size W w') := fun x hx => by
    rw [hRr]; exact (G3.right_spec ra rb x).mono fun e w' h => ⟨h.1, bel2 hx h.2⟩
  clear hP hH hVv hPu hRr hI hV
  go_cut [104] (fun s x => s = .bool false ∧ Below W.heap.size W x)
  case first => as_aux_lemma =>
    have hb : Below W.heap.size W W := Below.refl _ _
    go_region_held3 (fun x => x.cell? ⟨D1, 0, none⟩ = some (.int .i64 p) ∧ x.cell? ⟨D1, 1, none⟩ = some (.int .i64 q) ∧ x.cell? ⟨D2, 0, none⟩ = some (.int .i64 ga) ∧ x.cell? ⟨D2, 1, none⟩ = some (.int .i64 gb) ∧ x.cell? ⟨D3, 0, none⟩ = some (.int .i64 ra) ∧ x.cell? ⟨D3, 1, none⟩ = some (.int .i64 rb))
      (first
        | with_reducible exact KF.out _ hb
        | with_reducible exact KF.out _ hb.drew)
      (first
        | (go_at_call 13
           with_reducible refine (C1.out _ (by first | exact hb | exact hb.drew)).mono ?_
           rintro e xn ⟨rfl, hb⟩)
        | (go_at_call 14
           with_reducible refine (C2.out _ (by first | exact hb | exact hb.drew)).mono ?_
           rintro e xn ⟨rfl, hb⟩)
        | (go_at_call 15
           with_reducible refine (C3.out _ hb).mono ?_
           rintro e xn ⟨rfl, hb⟩)
        | (go_at_call 16
           with_reducible refine (C4.out _ hb).mono ?_
           rintro e xn ⟨rfl, hb⟩)
        | (go_at_call 17
           with_reducible refine (C5.out _ hb).mono ?_
           rintro e xn ⟨rfl, hb⟩)
        | (go_at_call 18
           with_reducible refine (C6.out _ hb).mono ?_
           rintro e xn ⟨rfl, hb⟩)
        | (go_at_call 19
           with_reducible refine (C7.out _ hb).mono ?_
           rintro e xn ⟨rfl, hb⟩)
        | (go_at_call 20
           with_reducible refine (C8.out _ hb).mono ?_
           rintro e xn ⟨rfl, hb⟩)
        | (go_at_call 21
           with_reducible refine (C9.out _ hb).mono ?_
           rintro e xn ⟨rfl, hb⟩)
        | (go_at_call 22
           with_reducible refine (CA.out _ hb).mono ?_
           rintro e xn ⟨rfl, hb⟩)
        | (go_at_call 23
           with_reducible refine (CB.out _ hb).mono ?_
           rintro e xn ⟨rfl, hb⟩))
    go_wp2_with fail
    go_meet
    case rel => exact ⟨rfl, hb⟩
  case rest =>
    obtain ⟨rfl, hb⟩ := hcut
    clear C1 C2 C3 C4 C5 C6 C7 C8 C9 CA CB hra hrb hga hgb hy
    have HX : Hid (x < 1 ∨ 5003 ≤ x ∨ (1 ≤ x ∧ x ≤ 5002)) := by unfold Hid; omega
    go_upto_region 12 with fail
    go_cut [144] (fun s x => s = .bool false ∧ Below W.heap.size W x)
    case first => as_aux_lemma =>
      clear HX hvv hR KF
      by_cases hC : 0 ≤ a ∧ a ≤ 1000000 ∧ 0 ≤ n ∧ n ≤ 9999 ∧ 1 ≤ m ∧ m ≤ 1000000
      · obtain ⟨F, nn, am, qq, rr, hF, f1, f1', f2, f3, f4, f5⟩ := more_get a n m hC
        have C1 : Hid (∀ k x, (k = nn ∨ k = n) → Below W.heap.size W x → Calls Tryd.prog 13 #[.int .i64 a, .int .i64 k, .int .i64 m] x fun e w' => e = .returned (.int .i64 (F k)) ∧ Below W.heap.size W w') := fun k x _ hx => by
          rw [hF]; exact (H0.powmod_impl a k m x).mono fun e w' h => ⟨h.1, bel2 hx h.2⟩
        have hm0 : (m == 0) = false := by simp; omega
        have hm1 : ¬ m = 0 := by omega
        obtain ⟨e1, e2, e3, e4, e5, e6⟩ := hC
        have t1 : decide (0 ≤ a) = true := decide_eq_true e1
        have t2 : decide (a ≤ 1000000) = true := decide_eq_true e2
        have t3 : decide (0 ≤ n) = true := decide_eq_true e3
        have t4 : decide (n ≤ 9999) = true := decide_eq_true e4
        have t5 : decide (1 ≤ m) = true := decide_eq_true e5
        have t6 : decide (m ≤ 1000000) = true := decide_eq_true e6
        clear hF f1'
        go_region_held3 (fun _ => True)
          (first
            | trivial)
          (first
            | (go_at_call 13
               refine (C1.out _ _ (by first | exact .inl rfl | exact .inr rfl) (by first | exact hb | exact hb.drew)).mono ?_
               rintro e xn ⟨rfl, hb⟩))
        go_wp2_with fail
        go_meet
        case rel => exact ⟨rfl, hb⟩
      · clear hL hLW h0 h1
        by_cases e1 : 0 ≤ a
        case neg =>
          have t1 : decide (0 ≤ a) = false := decide_eq_false e1
          clear hC
          go_quiet (fail)
          go_wp2_with fail
          go_meet
          case rel => exact ⟨rfl, below_dn hb _⟩
        have t1 : decide (0 ≤ a) = true := decide_eq_true e1
        by_cases e2 : a ≤ 1000000
        case neg =>
          have t2 : decide (a ≤ 1000000) = false := decide_eq_false e2
          clear hC
          go_quiet (fail)
          go_wp2_with fail
          go_meet
          case rel => exact ⟨rfl, below_dn hb _⟩
        have t2 : decide (a ≤ 1000000) = true := decide_eq_true e2
        by_cases e3 : 0 ≤ n
        case neg =>
          have t3 : decide (0 ≤ n) = false := decide_eq_false e3
          clear hC
          go_quiet (fail)
          go_wp2_with fail
          go_meet
          case rel => exact ⟨rfl, below_dn hb _⟩
        have t3 : decide (0 ≤ n) = true := decide_eq_true e3
        by_cases e4 : n ≤ 9999
        case neg =>
          have t4 : decide (n ≤ 9999) = false := decide_eq_false e4
          clear hC
          go_quiet (fail)
          go_wp2_with fail
          go_meet
          case rel => exact ⟨rfl, below_dn hb _⟩
        have t4 : decide (n ≤ 9999) = true := decide_eq_true e4
        by_cases e5 : 1 ≤ m
        case neg =>
          have t5 : decide (1 ≤ m) = false := decide_eq_false e5
          clear hC
          go_quiet (fail)
          go_wp2_with fail
          go_meet
          case rel => exact ⟨rfl, below_dn hb _⟩
        have t5 : decide (1 ≤ m) = true := decide_eq_true e5
        by_cases e6 : m ≤ 1000000
        case neg =>
          have t6 : decide (m ≤ 1000000) = false := decide_eq_false e6
          clear hC
          go_quiet (fail)
          go_wp2_with fail
          go_meet
          case rel => exact ⟨rfl, below_dn hb _⟩
        have t6 : decide (m ≤ 1000000) = true := decide_eq_true e6
        exact absurd ⟨e1, e2, e3, e4, e5, e6⟩ hC
    case rest =>
      obtain ⟨rfl, hb⟩ := hcut
      go_upto_region 14 with fail
      go_cut [4] (fun s x => s = .bool true ∧ Below W.heap.size W x)
      case first => as_aux_lemma =>
        rcases HX.out with hx | hx | ⟨hx1, hx2⟩
        · have t1 : decide (x < 1) = true := decide_eq_true hx
          clear HX hvv hR
          go_quiet (fail)
          go_wp2_with fail
          go_meet
          case rel => exact ⟨rfl, below_dn hb _⟩
        · have t1 : decide (x < 1) = false := decide_eq_false (by omega)
          have t2 : decide (5003 ≤ x) = true := decide_eq_true hx
          clear HX hvv hR
          go_quiet (fail)
          go_wp2_with fail
          go_meet
          case rel => exact ⟨rfl, below_dn hb _⟩
        · have t1 : decide (x < 1) = false := decide_eq_false (by omega)
          have t2 : decide (5003 ≤ x) = false := decide_eq_false (by omega)
          have hv := hvv hx1 hx2
          obtain ⟨Y, hY⟩ : ∃ Y : Int, Y = (Sg.pubR x : Nat) := ⟨_, rfl⟩
          have C1 : Hid (∀ x, Below W.heap.size W x → Calls Tryd.prog 22 #[.agg #[.int .i64 p, .int .i64 q]] x fun e w' => e = .returned (.bool true) ∧ Below W.heap.size W w') := fun x hx => by
            rw [← hR]; exact (H1.right_impl p q x).mono fun e w' h => ⟨h.1, bel2 hx h.2⟩
          have C2 : Hid (∀ y, Below W.heap.size W y → Calls Tryd.prog 20 #[.int .i64 x] y fun e w' => e = .returned (.int .i64 Y) ∧ Below W.heap.size W w') := fun y hy => by
            rw [hY]; exact (H0.public_impl x y).mono fun e w' h => ⟨h.1, bel2 hy h.2⟩
          have C3 : Hid (∀ y, Below W.heap.size W y → Calls Tryd.prog 18 #[.int .i64 Y, .string s, .agg #[.int .i64 p, .int .i64 q]] y fun e w' => e = .returned (.bool true) ∧ Below W.heap.size W w') := fun y hy => by
            rw [hY, ← hv]; exact (H6.verify_impl _ p q s y (by unfold maxLen; omega) (hLW.below hy)).mono fun e w' h => ⟨h.1, bel2 hy h.2⟩
          clear HX hvv hR hv hY
          go_region_held3 (fun x => x.cell? ⟨D1, 0, none⟩ = some (.int .i64 p) ∧ x.cell? ⟨D1, 1, none⟩ = some (.int .i64 q) ∧ x.cell? ⟨D2, 0, none⟩ = some (.int .i64 ga) ∧ x.cell? ⟨D2, 1, none⟩ = some (.int .i64 gb) ∧ x.cell? ⟨D3, 0, none⟩ = some (.int .i64 ra) ∧ x.cell? ⟨D3, 1, none⟩ = some (.int .i64 rb))
            (first
              | with_reducible exact KF.out _ hb
              | with_reducible exact KF.out _ hb.drew)
            (first
              | (go_at_call 22
                 with_reducible refine (C1.out _ (by first | exact hb | exact hb.drew)).mono ?_
                 rintro e xn ⟨rfl, hb⟩)
              | (go_at_call 20
                 with_reducible refine (C2.out _ hb).mono ?_
                 rintro e xn ⟨rfl, hb⟩)
              | (go_at_call 18
                 with_reducible refine (C3.out _ hb).mono ?_
                 rintro e xn ⟨rfl, hb⟩))
          go_wp2_with fail
          go_meet
          case rel => exact ⟨rfl, hb⟩
      case rest =>
        obtain ⟨rfl, hb⟩ := hcut
        go_wp2
        go_ret
        exact ⟨rfl, bel2 BB hb⟩
end Go.Proofs.YthmlkbgnooahlaaDoor.YSign
