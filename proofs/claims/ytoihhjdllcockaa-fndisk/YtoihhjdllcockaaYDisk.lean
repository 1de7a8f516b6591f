/-
  The walk of the law on disks.
-/
import Derived.Test.YtoihhjdllcockaaE6
namespace Go.Proofs.Ytoihhjdllcockaa.YDisk
open Go.RowKit
open Go.Proofs.Ytoihhjdllcockaa.C0 Go.Proofs.Ytoihhjdllcockaa.D0 Go.Proofs.Ytoihhjdllcockaa.D6 Go.Proofs.Ytoihhjdllcockaa.D7 Go.Proofs.Ytoihhjdllcockaa.D8 Go.Proofs.Ytoihhjdllcockaa.E1 Go.Proofs.Ytoihhjdllcockaa.E2 Go.Proofs.Ytoihhjdllcockaa.E3 Go.Proofs.Ytoihhjdllcockaa.E4 Go.Proofs.Ytoihhjdllcockaa.E5 Go.Proofs.Ytoihhjdllcockaa.E6 Go.Proofs.Ytoihhjdllcockaa.S0 Go.Proofs.Ytoihhjdllcockaa.S1 Go.Proofs.Ytoihhjdllcockaa.S2 Go.Proofs.Ytoihhjdllcockaa.O1 Go.Proofs.Ytoihhjdllcockaa.T2 Go.Proofs.Ytoihhjdllcockaa.T4 Go.Proofs.Ytoihhjdllcockaa.T5 Go.Proofs.Ytoihhjdllcockaa.TC
open Go.Proofs.Ytoihhjdllcockaa.Dk (Out ill writeR flushR readR crashR rightB right_iff write_ok flush_ok read_data)
set_option maxRecDepth 100000 in
set_option maxHeartbeats 4000000 in
theorem walk (va : Value) (na : Nat) (vb : Value) (nb : Nat) (w : World) (ka : IsCode w.heap.size w va na) (kb : IsCode w.heap.size w vb nb) :
    Calls Try.prog 3 #[va, vb] w fun e w' => e = .returned (.bool true) ∧ Below w.heap.size w w' := by
  obtain ⟨aa, ca, ea⟩ : ∃ a c, va = .slice a na c := by obtain ⟨_, a, c, e, _⟩ := ka; exact ⟨a, c, e⟩
  obtain ⟨ab, cb, eb⟩ : ∃ a c, vb = .slice a nb c := by obtain ⟨_, a, c, e, _⟩ := kb; exact ⟨a, c, e⟩
  subst ea eb
  by_cases g1 : (1048576 : Int) < (na : Int)
  · go_enter Try.func3, Try.ntmps3
    go_wp2
    go_ret
    exact ⟨rfl, Below.refl _ _⟩
  by_cases g2 : (1048576 : Int) < (nb : Int)
  · go_enter Try.func3, Try.ntmps3
    go_wp2
    go_ret
    exact ⟨rfl, Below.refl _ _⟩
  go_enter Try.func3, Try.ntmps3
  go_wp2_with fail
  refine (write_draw _ na w ka).mono ?_
  rintro e w1 ⟨s1, p1, a1, c1, a1', c1', i, t, rfl, hi, ht, G1⟩
  have X1 := DB.lay G1.own
  have B1 : Below w.heap.size w (w1.alloc (.cells #[.slice a1 s1.length c1, .slice a1' p1.length c1'] 26)) := bel2 G1.bel (albel _ _)
  obtain ⟨-, m1, n1, z1, q1, -⟩ := G1
  obtain ⟨W1, hW1⟩ : ∃ W, w1.alloc (.cells #[.slice a1 s1.length c1, .slice a1' p1.length c1'] 26) = W := ⟨_, rfl⟩
  rw [hW1] at X1 B1
  obtain ⟨x0, x1, xf, x9⟩ := blk2 X1.loc
  go_wp2_with fail
  clear hW1 x0 x1 xf x9
  generalize w1.heap.size = D1 at *
  obtain ⟨o1, ho1⟩ : ∃ o, writeR s1 p1 i t = o := ⟨_, rfl⟩
  have fit1 : Fit o1 := by rw [← ho1]; exact fit_of (write_out _ _ _ _)
  have cw := fun x (h1 : Strs x (.slice a1 s1.length c1) s1) (h2 : Pends x (.slice a1' p1.length c1') p1) => TA.write_impl _ _ s1 p1 (i : Int) t x h1 h2 z1 q1 (by unfold maxLen; omega)
  rw [ho1] at cw
  refine (cw _ X1.hs X1.hp).mono ?_
  clear cw
  have HO1 : Hid (writeR s1 p1 i t = o1) := ho1
  clear ho1
  rintro e w2 ⟨f1, d1, f1', d1', rfl, uu, hb⟩
  have Y1 := OB.lay uu
  have hb2 := bel2 hb (albel w2 (.cells #[.slice f1 o1.ss.length d1, .slice f1' o1.ps.length d1', .string o1.d, .int .i64 o1.k] 30))
  have X1' := X1.below hb2
  have B2 := bel2 B1 hb2
  clear uu hb hb2 X1 B1
  obtain ⟨W2, hW2⟩ : ∃ W, w2.alloc (.cells #[.slice f1 o1.ss.length d1, .slice f1' o1.ps.length d1', .string o1.d, .int .i64 o1.k] 30) = W := ⟨_, rfl⟩
  rw [hW2] at Y1 X1' B2
  go_wp2_with fail
  clear hW2
  generalize w2.heap.size = E1 at *
  refine (crash_draw _ nb W2 ((kb.below B2 (Nat.le_refl _)).up B2.size)).mono ?_
  rintro e w3 ⟨s2, p2, a2, c2, a2', c2', kp, fk, dk, rfl, hk, ik, G2⟩
  have X2 := DB.lay G2.own
  have hb3 := bel2 G2.bel (albel w3 (.cells #[.slice a2 s2.length c2, .slice a2' p2.length c2'] 26))
  have Y1' := Y1.below hb3
  have X1 := X1'.below hb3
  have B3 := bel2 B2 hb3
  have K3 := ik.below (albel w3 (.cells #[.slice a2 s2.length c2, .slice a2' p2.length c2'] 26))
  obtain ⟨-, m2, n2, z2, q2, -⟩ := G2
  clear hb3 Y1 X1' B2 ik
  obtain ⟨W3, hW3⟩ : ∃ W, w3.alloc (.cells #[.slice a2 s2.length c2, .slice a2' p2.length c2'] 26) = W := ⟨_, rfl⟩
  rw [hW3] at X2 Y1' X1 B3 K3
  obtain ⟨x0, x1, xf, x9⟩ := blk2 X2.loc
  go_wp2_with fail
  clear hW3 x0 x1 xf x9
  generalize w3.heap.size = D2 at *
  obtain ⟨s3, p3, hcr⟩ : ∃ s p, crashR s2 p2 kp = (s, p) := ⟨_, _, rfl⟩
  have cw := fun x (h1 : Strs x (.slice a2 s2.length c2) s2) (h2 : Pends x (.slice a2' p2.length c2') p2) (h3 : Ints x (.slice fk kp.length dk) kp) => TD.crash_impl _ _ _ s2 p2 kp x h1 h2 h3 z2 q2 (by omega) (by omega)
  rw [hcr] at cw
  refine (cw _ X2.hs X2.hp K3).mono ?_
  clear cw
  have HCR : Hid (crashR s2 p2 kp = (s3, p3)) := hcr
  clear hcr
  rintro e w4 ⟨a3, c3, a3', c3', rfl, uu, hb⟩
  dsimp only at uu ⊢
  have X3 := DB.lay uu
  have hb4 := bel2 hb (albel w4 (.cells #[.slice a3 s3.length c3, .slice a3' p3.length c3'] 26))
  have Y1 := Y1'.below hb4
  have X1' := X1.below hb4
  have X2' := X2.below hb4
  have K4 := K3.below hb4
  have B4 := bel2 B3 hb4
  clear uu hb hb4 Y1' X1 X2 K3 B3
  obtain ⟨W4, hW4⟩ : ∃ W, w4.alloc (.cells #[.slice a3 s3.length c3, .slice a3' p3.length c3'] 26) = W := ⟨_, rfl⟩
  rw [hW4] at X3 Y1 X1' X2' K4 B4
  obtain ⟨x0, x1, xf, x9⟩ := blk2 X2'.loc
  go_wp2_with fail
  clear hW4 x0 x1 xf x9
  generalize w4.heap.size = D3 at *
  obtain ⟨o2, ho2⟩ : ∃ o, flushR s2 p2 = o := ⟨_, rfl⟩
  have fit2 : Fit o2 := by rw [← ho2]; exact fit_of (flush_out _ _)
  have cw := fun x (h1 : Strs x (.slice a2 s2.length c2) s2) (h2 : Pends x (.slice a2' p2.length c2') p2) => TB.flush_impl _ _ s2 p2 x h1 h2 z2 q2
  rw [ho2] at cw
  refine (cw _ X2'.hs X2'.hp).mono ?_
  clear cw
  have HO2 : Hid (flushR s2 p2 = o2) := ho2
  clear ho2
  rintro e w5 ⟨f2, d2, f2', d2', rfl, uu, hb⟩
  have Y2 := OB.lay uu
  have hb5 := bel2 hb (albel w5 (.cells #[.slice f2 o2.ss.length d2, .slice f2' o2.ps.length d2', .string o2.d, .int .i64 o2.k] 30))
  have Y1' := Y1.below hb5
  have X1 := X1'.below hb5
  have X2 := X2'.below hb5
  have X3' := X3.below hb5
  have K5 := K4.below hb5
  have B5 := bel2 B4 hb5
  clear uu hb hb5 Y1 X1' X2' X3 K4 B4
  obtain ⟨W5, hW5⟩ : ∃ W, w5.alloc (.cells #[.slice f2 o2.ss.length d2, .slice f2' o2.ps.length d2', .string o2.d, .int .i64 o2.k] 30) = W := ⟨_, rfl⟩
  rw [hW5] at Y2 Y1' X1 X2 X3' K5 B5
  go_wp2_with fail
  clear hW5
  generalize w5.heap.size = E2 at *
  refine (new_draw _ nb W5 ((kb.below B5 (Nat.le_refl _)).up B5.size)).mono ?_
  rintro e w6 ⟨z, rfl, hz1, hz2, hb⟩
  have B6 := bel2 B5 hb
  have Y1 := Y1'.below hb
  have Y2' := Y2.below hb
  have X1' := X1.below hb
  have X2' := X2.below hb
  have X3 := X3'.below hb
  have K6 := K5.below hb
  clear Y1' Y2 X1 X2 X3' K5 hb B5
  go_wp2_with fail
  refine (read_draw _ na w6 ((ka.below B6 (Nat.le_refl _)).up B6.size)).mono ?_
  rintro e w7 ⟨s4, p4, a4, c4, a4', c4', j, rfl, hj1, hj2, G4⟩
  have X4 := DB.lay G4.own
  have hb7 := bel2 G4.bel (albel w7 (.cells #[.slice a4 s4.length c4, .slice a4' p4.length c4'] 26))
  have Y1' := Y1.below hb7
  have Y2 := Y2'.below hb7
  have X1 := X1'.below hb7
  have X2 := X2'.below hb7
  have X3' := X3.below hb7
  have K7 := K6.below hb7
  have B7 := bel2 B6 hb7
  obtain ⟨-, m4, n4, z4, q4, -⟩ := G4
  clear hb7 Y1 Y2' X1' X2' X3 K6 B6
  obtain ⟨W7, hW7⟩ : ∃ W, w7.alloc (.cells #[.slice a4 s4.length c4, .slice a4' p4.length c4'] 26) = W := ⟨_, rfl⟩
  rw [hW7] at X4 Y1' Y2 X1 X2 X3' K7 B7
  go_upto_region 10 with fail
  clear hW7
  generalize w7.heap.size = D4 at *
  have KF : Hid (∀ x, Below W7.heap.size W7 x → x.cell? ⟨D1, 0, none⟩ = some (.slice a1 s1.length c1) ∧ x.cell? ⟨D1, 1, none⟩ = some (.slice a1' p1.length c1') ∧ x.cell? ⟨E1, 0, none⟩ = some (.slice f1 o1.ss.length d1) ∧ x.cell? ⟨E1, 1, none⟩ = some (.slice f1' o1.ps.length d1') ∧ x.cell? ⟨E1, 2, none⟩ = some (.string o1.d) ∧ x.cell? ⟨E1, 3, none⟩ = some (.int .i64 o1.k) ∧ x.cell? ⟨D2, 0, none⟩ = some (.slice a2 s2.length c2) ∧ x.cell? ⟨D2, 1, none⟩ = some (.slice a2' p2.length c2') ∧ x.cell? ⟨D3, 0, none⟩ = some (.slice a3 s3.length c3) ∧ x.cell? ⟨D3, 1, none⟩ = some (.slice a3' p3.length c3') ∧ x.cell? ⟨E2, 0, none⟩ = some (.slice f2 o2.ss.length d2) ∧ x.cell? ⟨E2, 1, none⟩ = some (.slice f2' o2.ps.length d2') ∧ x.cell? ⟨E2, 2, none⟩ = some (.string o2.d) ∧ x.cell? ⟨E2, 3, none⟩ = some (.int .i64 o2.k) ∧ x.cell? ⟨D4, 0, none⟩ = some (.slice a4 s4.length c4) ∧ x.cell? ⟨D4, 1, none⟩ = some (.slice a4' p4.length c4')) := fun x h => ⟨(blk2 (X1.below h).loc).1, (blk2 (X1.below h).loc).2.1, (blk4 (Y1'.below h).loc).1, (blk4 (Y1'.below h).loc).2.1, (blk4 (Y1'.below h).loc).2.2.1, (blk4 (Y1'.below h).loc).2.2.2.1, (blk2 (X2.below h).loc).1, (blk2 (X2.below h).loc).2.1, (blk2 (X3'.below h).loc).1, (blk2 (X3'.below h).loc).2.1, (blk4 (Y2.below h).loc).1, (blk4 (Y2.below h).loc).2.1, (blk4 (Y2.below h).loc).2.2.1, (blk4 (Y2.below h).loc).2.2.2.1, (blk2 (X4.below h).loc).1, (blk2 (X4.below h).loc).2.1⟩
  have CW : Hid (∀ x, Below W7.heap.size W7 x → Calls Try.prog 17 #[.agg #[.slice a1 s1.length c1, .slice a1' p1.length c1'], .int .i64 (i : Int), .string t] x fun e w' => Res W7 o1 e w') := fun x h => res_of HO1.out h (TA.write_spec _ _ s1 p1 i t x (X1.below h).hs (X1.below h).hp z1 q1 (by omega) (by omega) (by unfold maxLen; omega))
  have CC : Hid (∀ x, Below W7.heap.size W7 x → Calls Try.prog 19 #[.agg #[.slice a2 s2.length c2, .slice a2' p2.length c2'], .slice fk kp.length dk] x fun e w' => DRes W7 s3 p3 e w') := fun x h => dres_of HCR.out h (TC.crash_spec _ _ _ s2 p2 kp x (X2.below h).hs (X2.below h).hp (K7.below h) z2 q2 (by omega) (by omega))
  have CF : Hid (∀ x, Below W7.heap.size W7 x → Calls Try.prog 20 #[.agg #[.slice a2 s2.length c2, .slice a2' p2.length c2']] x fun e w' => Res W7 o2 e w') := fun x h => res_of HO2.out h (TB.flush_spec _ _ s2 p2 x (X2.below h).hs (X2.below h).hp z2 q2)
  obtain ⟨s5, h5⟩ : ∃ s, newOf z = s := ⟨_, rfl⟩
  obtain ⟨p5, hp5⟩ : ∃ p : List Pend, [] = p := ⟨_, rfl⟩
  have CN : Hid (∀ x, Calls Try.prog 22 #[.int .i64 z] x fun e w' => DRes x s5 p5 e w') := fun x => dres_of (c' := (s5, p5)) (c := (newOf z, [])) (by rw [h5, hp5]) (Below.refl _ _) (new_spec z x)
  have CM : Hid (∀ x, Below W7.heap.size W7 x → Calls Try.prog 21 #[.int .i64 z] x fun e w' => DRes W7 s5 p5 e w') := fun x h => dres_of (c' := (s5, p5)) (c := (newOf z, [])) (by rw [h5, hp5]) h (new_impl z x)
  obtain ⟨o3, ho3⟩ : ∃ o, readR s4 p4 j = o := ⟨_, rfl⟩
  have fit3 : Fit o3 := by rw [← ho3]; exact fit_of (read_out _ _ _)
  have CR : Hid (∀ x, Below W7.heap.size W7 x → Calls Try.prog 24 #[.agg #[.slice a4 s4.length c4, .slice a4' p4.length c4'], .int .i64 j] x fun e w' => Res x o3 e w') := fun x h => res_of ho3 (Below.refl _ _) (read_spec _ _ s4 p4 j x (X4.below h).hs (X4.below h).hp z4 q4 hj1 hj2)
  have CQ : Hid (∀ x, Below W7.heap.size W7 x → Calls Try.prog 23 #[.agg #[.slice a4 s4.length c4, .slice a4' p4.length c4'], .int .i64 j] x fun e w' => Res W7 o3 e w') := fun x h => res_of ho3 h (T9.read_impl _ _ s4 p4 j x (X4.below h).hs (X4.below h).hp z4 q4)
  obtain ⟨br, hbr⟩ : ∃ b, rightB s2 p2 = b := ⟨_, rfl⟩
  have CI : Hid (∀ x, Below W7.heap.size W7 x → Calls Try.prog 25 #[.agg #[.slice a2 s2.length c2, .slice a2' p2.length c2']] x fun e w' => e = .returned (.bool br) ∧ Below W7.heap.size W7 w') := fun x h => is_of h (by have := T1.right_impl _ _ s2 p2 x (X2.below h).hs (X2.below h).hp z2 q2; rw [hbr] at this; exact this)
  have CS : Hid (∀ x, Below W7.heap.size W7 x → Calls Try.prog 26 #[.agg #[.slice a2 s2.length c2, .slice a2' p2.length c2']] x fun e w' => e = .returned (.bool br) ∧ Below W7.heap.size W7 w') := fun x h => is_of h (by have := T0.right_spec _ _ s2 p2 x (X2.below h).hs (X2.below h).hp z2 q2; rw [hbr] at this; exact this)
  have L1 : Hid (∀ x g e g' e', Below W7.heap.size W7 x → Strs x (.slice g o1.ss.length e) o1.ss → Pends x (.slice g' o1.ps.length e') o1.ps → Calls Try.prog 16 #[.agg #[.slice f1 o1.ss.length d1, .slice f1' o1.ps.length d1', .string o1.d, .int .i64 o1.k], .agg #[.slice g o1.ss.length e, .slice g' o1.ps.length e', .string o1.d, .int .i64 o1.k]] x fun e w' => e = .returned (.bool true) ∧ Below W7.heap.size W7 w') := fun x _ _ _ _ h h1 h2 => is_of h (S8.lwDisks_any _ _ _ _ _ _ _ _ x (Y1'.below h).hs (Y1'.below h).hp h1 h2 fit1.1 fit1.2.1 fit1.2.2)
  have L2 : Hid (∀ x g e g' e', Below W7.heap.size W7 x → Strs x (.slice g o2.ss.length e) o2.ss → Pends x (.slice g' o2.ps.length e') o2.ps → Calls Try.prog 16 #[.agg #[.slice f2 o2.ss.length d2, .slice f2' o2.ps.length d2', .string o2.d, .int .i64 o2.k], .agg #[.slice g o2.ss.length e, .slice g' o2.ps.length e', .string o2.d, .int .i64 o2.k]] x fun e w' => e = .returned (.bool true) ∧ Below W7.heap.size W7 w') := fun x _ _ _ _ h h1 h2 => is_of h (S8.lwDisks_any _ _ _ _ _ _ _ _ x (Y2.below h).hs (Y2.below h).hp h1 h2 fit2.1 fit2.2.1 fit2.2.2)
  have L3 : Hid (∀ x f d f' d' g e g' e', Below W7.heap.size W7 x → Strs x (.slice f o3.ss.length d) o3.ss → Pends x (.slice f' o3.ps.length d') o3.ps → Strs x (.slice g o3.ss.length e) o3.ss → Pends x (.slice g' o3.ps.length e') o3.ps → Calls Try.prog 16 #[.agg #[.slice f o3.ss.length d, .slice f' o3.ps.length d', .string o3.d, .int .i64 o3.k], .agg #[.slice g o3.ss.length e, .slice g' o3.ps.length e', .string o3.d, .int .i64 o3.k]] x fun e w' => e = .returned (.bool true) ∧ Below W7.heap.size W7 w') := fun x _ _ _ _ _ _ _ _ h h3 h4 h1 h2 => is_of h (S8.lwDisks_any _ _ _ _ _ _ _ _ x h3 h4 h1 h2 fit3.1 fit3.2.1 fit3.2.2)
  have M1 : Hid (∀ x g e g' e', Below W7.heap.size W7 x → Strs x (.slice g s3.length e) s3 → Pends x (.slice g' p3.length e') p3 → Calls Try.prog 18 #[.agg #[.slice a3 s3.length c3, .slice a3' p3.length c3'], .agg #[.slice g s3.length e, .slice g' p3.length e']] x fun e w' => e = .returned (.bool true) ∧ Below W7.heap.size W7 w') := fun x _ _ _ _ h h1 h2 => is_of h (S8.lwDisk_any _ _ _ _ _ _ x (X3'.below h).hs (X3'.below h).hp h1 h2)
  have M2 : Hid (∀ x f d f' d' g e g' e', Below W7.heap.size W7 x → Strs x (.slice f s5.length d) s5 → Pends x (.slice f' p5.length d') p5 → Strs x (.slice g s5.length e) s5 → Pends x (.slice g' p5.length e') p5 → Calls Try.prog 18 #[.agg #[.slice f s5.length d, .slice f' p5.length d'], .agg #[.slice g s5.length e, .slice g' p5.length e']] x fun e w' => e = .returned (.bool true) ∧ Below W7.heap.size W7 w') := fun x _ _ _ _ _ _ _ _ h h3 h4 h1 h2 => is_of h (S8.lwDisk_any _ _ _ _ _ _ x h3 h4 h1 h2)
  clear h5 hp5 ho3 hbr
  go_cut [103] (fun s x => s = .bool false ∧ Below W7.heap.size W7 x)
  case first => as_aux_lemma =>
    have hb : Below W7.heap.size W7 W7 := Below.refl _ _
    go_region_held3 (fun x => x.cell? ⟨D1, 0, none⟩ = some (.slice a1 s1.length c1) ∧ x.cell? ⟨D1, 1, none⟩ = some (.slice a1' p1.length c1') ∧ x.cell? ⟨E1, 0, none⟩ = some (.slice f1 o1.ss.length d1) ∧ x.cell? ⟨E1, 1, none⟩ = some (.slice f1' o1.ps.length d1') ∧ x.cell? ⟨E1, 2, none⟩ = some (.string o1.d) ∧ x.cell? ⟨E1, 3, none⟩ = some (.int .i64 o1.k) ∧ x.cell? ⟨D2, 0, none⟩ = some (.slice a2 s2.length c2) ∧ x.cell? ⟨D2, 1, none⟩ = some (.slice a2' p2.length c2') ∧ x.cell? ⟨D3, 0, none⟩ = some (.slice a3 s3.length c3) ∧ x.cell? ⟨D3, 1, none⟩ = some (.slice a3' p3.length c3') ∧ x.cell? ⟨E2, 0, none⟩ = some (.slice f2 o2.ss.length d2) ∧ x.cell? ⟨E2, 1, none⟩ = some (.slice f2' o2.ps.length d2') ∧ x.cell? ⟨E2, 2, none⟩ = some (.string o2.d) ∧ x.cell? ⟨E2, 3, none⟩ = some (.int .i64 o2.k) ∧ x.cell? ⟨D4, 0, none⟩ = some (.slice a4 s4.length c4) ∧ x.cell? ⟨D4, 1, none⟩ = some (.slice a4' p4.length c4'))
      (first
        | with_reducible exact KF.out _ hb
        | with_reducible exact KF.out _ hb.drew)
      (first
        | (go_at_call 17
           with_reducible refine (CW.out _ (by first | exact hb | exact hb.drew)).mono ?_
           rintro e x ⟨g1, e1, g1', e1', rfl, r1, t1, hb⟩)
        | (go_at_call 16
           with_reducible refine (L1.out _ _ _ _ _ hb r1 t1).mono ?_
           rintro e x ⟨rfl, hb⟩)
        | (go_at_call 19
           with_reducible refine (CC.out _ hb).mono ?_
           rintro e x ⟨g2, e2, g2', e2', rfl, r2, t2, hb⟩)
        | (go_at_call 18
           with_reducible refine (M1.out _ _ _ _ _ hb r2 t2).mono ?_
           rintro e x ⟨rfl, hb⟩)
        | (go_at_call 20
           with_reducible refine (CF.out _ hb).mono ?_
           rintro e x ⟨g3, e3, g3', e3', rfl, r3, t3, hb⟩)
        | (go_at_call 16
           with_reducible refine (L2.out _ _ _ _ _ hb r3 t3).mono ?_
           rintro e x ⟨rfl, hb⟩)
        | (go_at_call 21
           with_reducible refine (CM.out _ hb).mono ?_
           rintro e x ⟨g4, e4, g4', e4', rfl, r4, t4, hb⟩)
        | (go_at_call 22
           with_reducible refine (CN.out _).mono ?_
           rintro e x ⟨g5, e5, g5', e5', rfl, r5, t5, hx⟩
           have hb := bel2 hb hx
           have r4 := r4.below hx
           have t4 := t4.below hx)
        | (go_at_call 18
           with_reducible refine (M2.out _ _ _ _ _ _ _ _ _ hb r4 t4 r5 t5).mono ?_
           rintro e x ⟨rfl, hb⟩)
        | (go_at_call 23
           with_reducible refine (CQ.out _ hb).mono ?_
           rintro e x ⟨g6, e6, g6', e6', rfl, r6, t6, hb⟩)
        | (go_at_call 24
           with_reducible refine (CR.out _ hb).mono ?_
           rintro e x ⟨g7, e7, g7', e7', rfl, r7, t7, hx⟩
           have hb := bel2 hb hx
           have r6 := r6.below hx
           have t6 := t6.below hx)
        | (go_at_call 16
           with_reducible refine (L3.out _ _ _ _ _ _ _ _ _ hb r6 t6 r7 t7).mono ?_
           rintro e x ⟨rfl, hb⟩)
        | (go_at_call 25
           with_reducible refine (CI.out _ hb).mono ?_
           rintro e x ⟨rfl, hb⟩)
        | (go_at_call 26
           with_reducible refine (CS.out _ hb).mono ?_
           rintro e x ⟨rfl, hb⟩))
    go_wp2_with fail
    go_meet
    case rel => exact ⟨rfl, hb⟩
  case rest =>
    obtain ⟨rfl, hb⟩ := hcut
    clear CW CC CF CN CM CR CQ CI CS L1 L2 L3 M1 M2
    have fd := field_data
    obtain ⟨v0, v1, y0, y1, y2, y3, -, -, -, -, -, -, -, y6, -, -⟩ := KF.out _ hb
    go_upto_if 106 with fail
    go_cut [16, 17] (fun _ _ x => Below W7.heap.size W7 x)
    case first => as_aux_lemma =>
      by_cases hk1 : o1.k = 0
      · have hw : (writeR s1 p1 i t).k = 0 := by rw [HO1.out]; exact hk1
        obtain ⟨hR1, -, -, -, -, hw2, hR2⟩ := write_ok hw
        have ho1 : o1 = ⟨s1, p1 ++ [((i : Int), t)], ⟨#[]⟩, 0⟩ := by rw [← HO1.out, hw2]
        have C1 : Hid (∀ x (k : Nat), k < s1.length → Below W7.heap.size W7 x → Calls Try.prog 24 #[.agg #[.slice a1 s1.length c1, .slice a1' p1.length c1'], .int .i64 (k : Int)] x fun e w' => DatRes W7 (wantAt s1 p1 k) e w') := fun x k h0 h => dat_of (rd hR1 h0) h (read_spec _ _ s1 p1 k x (X1.below h).hs (X1.below h).hp z1 q1 (by omega) (by omega))
        have C2 : Hid (∀ x (k : Nat), k < s1.length → Below W7.heap.size W7 x → Calls Try.prog 23 #[.agg #[.slice f1 o1.ss.length d1, .slice f1' o1.ps.length d1'], .int .i64 (k : Int)] x fun e w' => DatRes W7 (if i = k then t else wantAt s1 p1 k) e w') := fun x k h0 h => dat_of (by rw [← want_more, ho1]; exact rd hR2 h0) h (T9.read_impl _ _ o1.ss o1.ps k x (Y1'.below h).hs (Y1'.below h).hp fit1.1 fit1.2.1)
        clear hw hw2 hR1 hR2 ho1
        have H0 : Hid (RelL W7 s1.length (.int .i64 0) wc) := ⟨0, Nat.zero_le _, rfl, hb⟩
        have hbk : (o1.k == 0) = true := by simp [hk1]
        rw [hbk]
        clear hbk hk1
        go_wp2_with fail
        go_loopw [16, 17] (fun x _ wr => RelL W7 s1.length x wr) (fun x _ _ => s1.length - (intOf x).toNat)
        case atStart => exact H0.out
        case round =>
          clear H0 v0 v1 y0 y1 y2 y3 y6
          obtain ⟨k, hk, rfl, hb⟩ := hrel
          obtain ⟨v0, v1, y0, y1, y2, y3, -, -, -, -, -, -, -, y6, -, -⟩ := KF.out _ hb
          by_cases hlt : k < s1.length
          · have hlt' : (k : Int) < (s1.length : Int) := by omega
            go_wp2_with fail
            refine (C1.out _ k hlt hb).mono ?_
            rintro e x1 ⟨ra, rb, cc, rfl, hb1⟩
            clear v0 v1 y0 y1 y2 y3 y6
            obtain ⟨v0, v1, y0, y1, y2, y3, -, -, -, -, -, -, -, y6, -, -⟩ := KF.out _ hb1
            by_cases hki : i = k
            · subst hki
              have C3 := C2.out x1 i hlt hb1
              rw [if_pos rfl] at C3
              go_wp2_with fail
              refine C3.mono ?_
              rintro e x2 ⟨rc, re, cd, rfl, hb2⟩
              have HN : Hid (RelL W7 s1.length (.int .i64 ((i : Int) + 1)) x2) := ⟨i + 1, hlt, by simp, hb2⟩
              clear C3
              go_wp2
              go_roundw
              case rel => exact HN.out
              case measure => simp [intOf]; omega
            · have hki' : ¬ (k : Int) = (i : Int) := by omega
              have hki2 : ¬ k = i := by omega
              have C3 := C2.out x1 k hlt hb1
              rw [if_neg hki] at C3
              go_wp2_with fail
              refine C3.mono ?_
              rintro e x2 ⟨rc, re, cd, rfl, hb2⟩
              have HN : Hid (RelL W7 s1.length (.int .i64 ((k : Int) + 1)) x2) := ⟨k + 1, hlt, by simp, hb2⟩
              clear C3
              go_wp2
              go_roundw
              case rel => exact HN.out
              case measure => simp [intOf]; omega
          · have hlt' : ¬ (k : Int) < (s1.length : Int) := by omega
            go_wp2
            go_meet
            case rel => exact hb
      · go_wp2_with fail
        go_meet
        case rel => exact hb
    case rest =>
      clear v0 v1 y0 y1 y2 y3 y6 hb
      have hb := hcut
      obtain ⟨-, -, -, -, -, -, v0, v1, -, -, y0, y1, y2, y3, -, -⟩ := KF.out _ hb
      by_cases hk2 : o2.k = 0
      · have hf : (flushR s2 p2).k = 0 := by rw [HO2.out]; exact hk2
        obtain ⟨hR2, hf2, hR3⟩ := flush_ok hf
        have ho2 : o2 = ⟨Dk.flushOf s2 p2, [], ⟨#[]⟩, 0⟩ := by rw [← HO2.out, hf2]
        have hl2 : Hid (o2.ss.length = s2.length) := by show o2.ss.length = s2.length; rw [ho2]; exact Dk.flushOf_length p2 s2
        have CH : Calls Try.prog 12 #[.agg #[.slice f2 o2.ss.length d2, .slice f2' o2.ps.length d2'], .slice fk kp.length dk] wc fun e w' => DRes wc o2.ss o2.ps e w' :=
          dres_of (c' := (o2.ss, o2.ps)) (by rw [ho2]; exact Dk.crash_none (by omega) hR3) (Below.refl _ _) (TD.crash_impl _ _ _ o2.ss o2.ps kp wc (Y2.below hb).hs (Y2.below hb).hp (K7.below hb) fit2.1 fit2.2.1 (by have := hl2.out; omega) (by rw [ho2]; simp))
        have HO : Hid (o2 = ⟨Dk.flushOf s2 p2, [], ⟨#[]⟩, 0⟩) := ho2
        clear hf hf2 ho2
        go_wp2_with fail
        refine CH.mono ?_
        clear CH
        rintro e w8 ⟨f5, d5, f5', d5', rfl, h5, t5, hx⟩
        have X5 : DB (w8.alloc (.cells #[.slice f5 o2.ss.length d5, .slice f5' o2.ps.length d5'] 26)) w8.heap.size o2.ss o2.ps f5 d5 f5' d5' := ⟨heap_alloc_new _ _, h5.alloc _, t5.alloc _⟩
        have hb8 := bel2 (bel2 hb hx) (albel w8 (.cells #[.slice f5 o2.ss.length d5, .slice f5' o2.ps.length d5'] 26))
        clear h5 t5 hx hb v0 v1 y0 y1 y2 y3 hcut
        obtain ⟨W8, hW8⟩ : ∃ W, w8.alloc (.cells #[.slice f5 o2.ss.length d5, .slice f5' o2.ps.length d5'] 26) = W := ⟨_, rfl⟩
        rw [hW8] at X5 hb8
        go_wp2_with fail
        clear hW8
        generalize w8.heap.size = H at *
        have X2 := X2.below hb8
        have X3 := X3'.below hb8
        have Y2 := Y2.below hb8
        have B8 := bel2 B7 hb8
        have KG : Hid (∀ x, Below W8.heap.size W8 x → x.cell? ⟨D2, 0, none⟩ = some (.slice a2 s2.length c2) ∧ x.cell? ⟨D2, 1, none⟩ = some (.slice a2' p2.length c2') ∧ x.cell? ⟨D3, 0, none⟩ = some (.slice a3 s3.length c3) ∧ x.cell? ⟨D3, 1, none⟩ = some (.slice a3' p3.length c3') ∧ x.cell? ⟨E2, 0, none⟩ = some (.slice f2 o2.ss.length d2) ∧ x.cell? ⟨E2, 1, none⟩ = some (.slice f2' o2.ps.length d2') ∧ x.cell? ⟨E2, 2, none⟩ = some (.string o2.d) ∧ x.cell? ⟨E2, 3, none⟩ = some (.int .i64 o2.k) ∧ x.cell? ⟨H, 0, none⟩ = some (.slice f5 o2.ss.length d5) ∧ x.cell? ⟨H, 1, none⟩ = some (.slice f5' o2.ps.length d5')) := fun x h => ⟨(blk2 (X2.below h).loc).1, (blk2 (X2.below h).loc).2.1, (blk2 (X3.below h).loc).1, (blk2 (X3.below h).loc).2.1, (blk4 (Y2.below h).loc).1, (blk4 (Y2.below h).loc).2.1, (blk4 (Y2.below h).loc).2.2.1, (blk4 (Y2.below h).loc).2.2.2.1, (blk2 (X5.below h).loc).1, (blk2 (X5.below h).loc).2.1⟩
        have hdat : ∀ k : Nat, k < s2.length → (readR o2.ss o2.ps k).d = wantAt s2 p2 k := fun k hk => by rw [HO.out]; exact flushed_read hR2 hR3 hk
        have C5 : Hid (∀ x (k : Nat), k < s2.length → Below W8.heap.size W8 x → Calls Try.prog 23 #[.agg #[.slice f2 o2.ss.length d2, .slice f2' o2.ps.length d2'], .int .i64 (k : Int)] x fun e w' => DatRes W8 (wantAt s2 p2 k) e w') := fun x k h0 h => dat_of (hdat k h0) h (T9.read_impl _ _ o2.ss o2.ps k x (Y2.below h).hs (Y2.below h).hp fit2.1 fit2.2.1)
        have C6 : Hid (∀ x (k : Nat), k < s2.length → Below W8.heap.size W8 x → Calls Try.prog 24 #[.agg #[.slice a2 s2.length c2, .slice a2' p2.length c2'], .int .i64 (k : Int)] x fun e w' => DatRes W8 (wantAt s2 p2 k) e w') := fun x k h0 h => dat_of (rd hR2 h0) h (read_spec _ _ s2 p2 k x (X2.below h).hs (X2.below h).hp z2 q2 (by omega) (by omega))
        have C7 : Hid (∀ x (k : Nat), k < s2.length → Below W8.heap.size W8 x → Calls Try.prog 23 #[.agg #[.slice f5 o2.ss.length d5, .slice f5' o2.ps.length d5'], .int .i64 (k : Int)] x fun e w' => DatRes W8 (wantAt s2 p2 k) e w') := fun x k h0 h => dat_of (hdat k h0) h (T9.read_impl _ _ o2.ss o2.ps k x (X5.below h).hs (X5.below h).hp fit2.1 fit2.2.1)
        have H0 : Hid (RelL W8 s2.length (.int .i64 0) W8) := ⟨0, Nat.zero_le _, rfl, Below.refl _ _⟩
        clear KF X1 X4 X5 Y1' K7 ka kb fit1 HO1 z1 q1 hdat hb8
        go_loopw [19, 20, 21] (fun x _ _ wr => RelL W8 s2.length x wr) (fun x _ _ _ => s2.length - (intOf x).toNat)
        case atStart => exact H0.out
        case round =>
          clear H0
          obtain ⟨k, hk, rfl, hb⟩ := hrel
          obtain ⟨v0, v1, -⟩ := KG.out _ hb
          by_cases hlt : k < s2.length
          · have hlt' : (k : Int) < (s2.length : Int) := by omega
            go_upto_region 27 with fail
            clear v0 v1
            go_cut [163] (fun s x => s = .bool false ∧ Below W8.heap.size W8 x)
            case first => as_aux_lemma =>
              go_region_held3 (fun x => x.cell? ⟨D2, 0, none⟩ = some (.slice a2 s2.length c2) ∧ x.cell? ⟨D2, 1, none⟩ = some (.slice a2' p2.length c2') ∧ x.cell? ⟨D3, 0, none⟩ = some (.slice a3 s3.length c3) ∧ x.cell? ⟨D3, 1, none⟩ = some (.slice a3' p3.length c3') ∧ x.cell? ⟨E2, 0, none⟩ = some (.slice f2 o2.ss.length d2) ∧ x.cell? ⟨E2, 1, none⟩ = some (.slice f2' o2.ps.length d2') ∧ x.cell? ⟨E2, 2, none⟩ = some (.string o2.d) ∧ x.cell? ⟨E2, 3, none⟩ = some (.int .i64 o2.k) ∧ x.cell? ⟨H, 0, none⟩ = some (.slice f5 o2.ss.length d5) ∧ x.cell? ⟨H, 1, none⟩ = some (.slice f5' o2.ps.length d5'))
                (first
                  | with_reducible exact KG.out _ hb
                  | with_reducible exact KG.out _ hb.drew)
                (first
                  | (go_at_call 23
                     with_reducible refine (C5.out _ k hlt (by first | exact hb | exact hb.drew)).mono ?_
                     rintro e x ⟨ra, rb, cc, rfl, hb⟩)
                  | (go_at_call 24
                     with_reducible refine (C6.out _ k hlt hb).mono ?_
                     rintro e x ⟨rc, re, cd, rfl, hb⟩)
                  | (go_at_call 23
                     with_reducible refine (C7.out _ k hlt hb).mono ?_
                     rintro e x ⟨rg, rh, ce, rfl, hb⟩))
              go_wp2_with fail
              go_meet
              case rel => exact ⟨rfl, hb⟩
            case rest =>
              obtain ⟨rfl, hb⟩ := hcut
              have HL := crash_left (by omega) hR2 HCR.out
              obtain ⟨x2, e2⟩ : ∃ x, s2[k]? = some x := ⟨_, List.getElem?_eq_getElem hlt⟩
              have hl3 : (k : Int) < (s3.length : Int) := by have := HL.1; omega
              obtain ⟨x3, e3⟩ : ∃ x, s3[k]? = some x := ⟨_, List.getElem?_eq_getElem (by omega)⟩
              obtain ⟨b2, off2, rfl, hb2, cc2⟩ := strs_at X2.hs e2
              obtain ⟨b3, off3, rfl, hb3, cc3⟩ := strs_at X3.hs e3
              have CE : Hid (∀ b, Gath x2 x3 p2 k p2.length b → b = true) := fun b h => gath_all h HL.2 e2 e3
              clear HL e2 e3
              have KC : Hid (∀ x, Below W8.heap.size W8 x → x.cell? ⟨b2, off2 + k, none⟩ = some (.string x2) ∧ x.cell? ⟨b3, off3 + k, none⟩ = some (.string x3)) := fun x h => ⟨(h.cell (p := ⟨b2, off2 + k, none⟩) hb2).trans cc2, (h.cell (p := ⟨b3, off3 + k, none⟩) hb3).trans cc3⟩
              clear hb2 hb3 cc2 cc3
              obtain ⟨q0, -, q1, -⟩ := KG.out _ hb
              obtain ⟨q2, q3⟩ := KC.out _ hb
              have HB : Hid (Below W8.heap.size W8 wc) := hb
              clear hb
              go_upto_region 29 with fail
              go_cut [20] (fun s x => RelB W8 x2 x3 s x)
              case first => as_aux_lemma =>
                go_quiet (fail)
                go_wp2
                go_meet
                case rel => exact ⟨_, rfl, fun h => by subst h; simp, S3.drewN_below HB.out _⟩
              case rest =>
                clear q0 q1 q2 q3 HB
                obtain ⟨b, rfl, hx, hb⟩ := hcut
                have H1 : Hid (RelM W8 x2 x3 p2 k (.bool b) (.int .i64 0) wc) := ⟨0, b, Nat.zero_le _, rfl, rfl, gath_none _ _ hx, hb⟩
                clear hx hb
                go_wp2_with fail
                go_loopw [20, 21] (fun x y wr => RelM W8 x2 x3 p2 k x y wr) (fun _ y _ => p2.length - (intOf y).toNat)
                case atStart => exact H1.out
                case round =>
                  clear H1
                  obtain ⟨m, b, hm, rfl, rfl, ht, hb⟩ := hrel
                  obtain ⟨q0, q1, q2, -⟩ := KG.out _ hb
                  obtain ⟨-, q3⟩ := KC.out _ hb
                  by_cases hmp : m < p2.length
                  · have hmp' : (m : Int) < (p2.length : Int) := by omega
                    obtain ⟨⟨pa, pd⟩, ep⟩ : ∃ p, p2[m]? = some p := ⟨_, List.getElem?_eq_getElem hmp⟩
                    obtain ⟨bp, offp, rfl, hbp, cp1, cp2⟩ := pends_at X2.hp ep
                    have r1 := (hb.cell (p := ⟨bp, offp + m * 2, none⟩) hbp).trans cp1
                    have r2 := (hb.cell (p := ⟨bp, offp + m * 2 + 1, none⟩) hbp).trans cp2
                    clear cp1 cp2 hbp
                    have HB : Hid (Below W8.heap.size W8 wr) := hb
                    have EP : Hid (p2[m]? = some (pa, pd)) := ep
                    have HT : Hid (Gath x2 x3 p2 k m b) := ht
                    clear hb ep ht
                    dsimp only at r1 r2
                    cases b with
                    | true =>
                      go_upto_region 33 with fail
                      go_quiet (fail)
                      have HN : Hid (RelM W8 x2 x3 p2 k (.bool true) (.int .i64 ((m : Int) + 1)) (wr.drewN nq)) := ⟨m + 1, true, hmp, rfl, by simp, gath_yes _ _ _ _ _, S3.drewN_below HB.out _⟩
                      go_wp2
                      go_roundw
                      case rel => exact HN.out
                      case measure => simp [intOf]; omega
                    | false =>
                      by_cases hp1 : pa = (k : Int)
                      · subst hp1
                        cases hq : (pd.toList == x3.toList) with
                        | true =>
                          go_upto_region 33 with fail
                          go_quiet (fail)
                          have HN : Hid (RelM W8 x2 x3 p2 k (.bool true) (.int .i64 ((m : Int) + 1)) (wr.drewN nq)) := ⟨m + 1, true, hmp, rfl, by simp, gath_yes _ _ _ _ _, S3.drewN_below HB.out _⟩
                          go_wp2
                          go_roundw
                          case rel => exact HN.out
                          case measure => simp [intOf]; omega
                        | false =>
                          go_upto_region 33 with fail
                          go_quiet (fail)
                          have HN : Hid (RelM W8 x2 x3 p2 k (.bool false) (.int .i64 ((m : Int) + 1)) (wr.drewN nq)) := ⟨m + 1, false, hmp, rfl, by simp, gath_more HT.out EP.out (fun h => apart_of hq h.2), S3.drewN_below HB.out _⟩
                          go_wp2
                          go_roundw
                          case rel => exact HN.out
                          case measure => simp [intOf]; omega
                      · have hp2 : (pa == (k : Int)) = false := by simpa using hp1
                        have hp3 : decide (pa = (k : Int)) = false := by simpa using hp1
                        go_upto_region 33 with fail
                        go_quiet (fail)
                        have HN : Hid (RelM W8 x2 x3 p2 k (.bool false) (.int .i64 ((m : Int) + 1)) (wr.drewN nq)) := ⟨m + 1, false, hmp, rfl, by simp, gath_more HT.out EP.out (fun h => hp1 h.1), S3.drewN_below HB.out _⟩
                        go_wp2
                        go_roundw
                        case rel => exact HN.out
                        case measure => simp [intOf]; omega
                  · have hmp' : ¬ (m : Int) < (p2.length : Int) := by omega
                    have em : m = p2.length := by omega
                    subst em
                    have hbt := CE.out b ht
                    subst hbt
                    have HN : Hid (RelL W8 s2.length (.int .i64 ((k : Int) + 1)) wr) := ⟨k + 1, hlt, by simp, hb⟩
                    clear ht hb
                    go_wp2
                    go_roundw
                    case rel => exact HN.out
                    case measure => simp [intOf]; omega
          · have hlt' : ¬ (k : Int) < (s2.length : Int) := by omega
            obtain ⟨-, -, x0, x1, -⟩ := KG.out _ hb
            have hp3 : p3.length = 0 := crash_nil hR2 HCR.out
            go_wp2
            go_ret
            exact ⟨rfl, bel2 B8 hb⟩
      · go_wp2
        go_ret
        exact ⟨rfl, bel2 B7 hb⟩
end Go.Proofs.Ytoihhjdllcockaa.YDisk
