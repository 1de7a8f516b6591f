/-
  The walk of the law on areas.
-/
import Derived.Test.YtfiabbfdnmldjaaGreatDoorF3
import Derived.Test.YtfiabbfdnmldjaaGreatDoorF4
namespace Go.Proofs.YtfiabbfdnmldjaaGreatDoor.YArea
open Go.RowKit
open Go.Proofs.YtfiabbfdnmldjaaGreatDoor.C0 Go.Proofs.YtfiabbfdnmldjaaGreatDoor.D0 Go.Proofs.YtfiabbfdnmldjaaGreatDoor.E1 Go.Proofs.YtfiabbfdnmldjaaGreatDoor.E5 Go.Proofs.YtfiabbfdnmldjaaGreatDoor.F3 Go.Proofs.YtfiabbfdnmldjaaGreatDoor.F4 Go.Proofs.YtfiabbfdnmldjaaGreatDoor.S0 Go.Proofs.YtfiabbfdnmldjaaGreatDoor.S1 Go.Proofs.YtfiabbfdnmldjaaGreatDoor.S2 Go.Proofs.YtfiabbfdnmldjaaGreatDoor.O1 Go.Proofs.YtfiabbfdnmldjaaGreatDoor.T2 Go.Proofs.YtfiabbfdnmldjaaGreatDoor.T4 Go.Proofs.YtfiabbfdnmldjaaGreatDoor.T5 Go.Proofs.YtfiabbfdnmldjaaGreatDoor.U0 Go.Proofs.YtfiabbfdnmldjaaGreatDoor.U1 Go.Proofs.YtfiabbfdnmldjaaGreatDoor.U4 Go.Proofs.YtfiabbfdnmldjaaGreatDoor.U5 Go.Proofs.YtfiabbfdnmldjaaGreatDoor.V0 Go.Proofs.YtfiabbfdnmldjaaGreatDoor.V3 Go.Proofs.YtfiabbfdnmldjaaGreatDoor.V4 Go.Proofs.YtfiabbfdnmldjaaGreatDoor.W2
open Go.Proofs.YtfiabbfdnmldjaaGreatDoor.Dk (rightB right_iff)
/-- A text that has no room is refused. -/
theorem put_full {ss : List ByteArray} {ps : List Pend} {t : ByteArray} {n : Int} (h8 : t.size ≤ 8000) (hk : (readA ss ps).k = 0) (hr : roomN ss ps < t.size) : (putA ss ps t n).k = 9 := by
  have hc : codeD ss ps = 0 := by rw [← X3.readA_k]; exact hk
  have hR := code_right hc
  unfold roomN at hr
  rw [if_pos hR] at hr
  unfold putA
  rw [if_neg (by omega), if_pos hc, if_pos (.inl hr)]
  rfl
/-- The number of a text that was put. -/
theorem gen_ok {ss : List ByteArray} {ps : List Pend} {t : ByteArray} {n : Int} (h : (putA ss ps t n).k = 0) : 0 ≤ (readA ss ps).g ∧ (readA ss ps).g < 1000000 := by
  obtain ⟨-, h1, -, h3, -, -⟩ := put_ok h
  obtain ⟨-, g0, -⟩ := seenD_ok h1
  rw [(readA_gen h1).1]
  exact ⟨g0, h3⟩
theorem wrap_gen {g : Int} (h1 : 0 ≤ g) (h2 : g < 1000000) : IntKind.i64.wrap (g + 1) = g + 1 := by
  rw [IntKind.wrap_i64]; omega
set_option maxRecDepth 100000 in
set_option maxHeartbeats 8000000 in
theorem walk (a1 a3 a5 a9 : Addr) (va : Value) (na : Nat) (vb : Value) (nb : Nat) (w : World) (hS : Sents w a1 a3 a5 a9) (ka : IsCode w.heap.size w va na) (kb : IsCode w.heap.size w vb nb) :
    Calls Tryz.prog 3 #[va, vb] w fun e w' => e = .returned (.bool true) ∧ Below w.heap.size w w' := by
  obtain ⟨aa, ca, ea⟩ : ∃ a c, va = .slice a na c := by obtain ⟨_, a, c, e, _⟩ := ka; exact ⟨a, c, e⟩
  obtain ⟨ab, cb, eb⟩ : ∃ a c, vb = .slice a nb c := by obtain ⟨_, a, c, e, _⟩ := kb; exact ⟨a, c, e⟩
  subst ea eb
  by_cases g1 : (1048576 : Int) < (na : Int)
  · go_enter Tryz.func3, Tryz.ntmps3
    go_wp2
    go_ret
    exact ⟨rfl, Below.refl _ _⟩
  by_cases g2 : (1048576 : Int) < (nb : Int)
  · go_enter Tryz.func3, Tryz.ntmps3
    go_wp2
    go_ret
    exact ⟨rfl, Below.refl _ _⟩
  go_enter Tryz.func3, Tryz.ntmps3
  go_wp2_with fail
  refine (put4_draw _ na w ka).mono ?_
  rintro e w1 ⟨s1, p1, b1, c1, b1', c1', t, z, rfl, ht, hz1, hz2, G1⟩
  have DX1 := DB.lay G1.own
  have B1 : Below w.heap.size w (w1.alloc (.cells #[.slice b1 s1.length c1, .slice b1' p1.length c1'] 26)) := bel2 G1.bel (albel _ _)
  obtain ⟨-, m1, n1, z1, q1, -⟩ := G1
  obtain ⟨W1, hW1⟩ : ∃ W, w1.alloc (.cells #[.slice b1 s1.length c1, .slice b1' p1.length c1'] 26) = W := ⟨_, rfl⟩
  rw [hW1] at DX1 B1
  go_wp2_with fail
  clear hW1
  generalize w1.heap.size = D1 at *
  refine (form4_draw _ nb W1 ((kb.below B1 (Nat.le_refl _)).up B1.size)).mono ?_
  rintro e w2 ⟨s2, p2, b2, c2, b2', c2', rfl, G2⟩
  have NX := DB.lay G2.own
  have hb := bel2 G2.bel (albel w2 (.cells #[.slice b2 s2.length c2, .slice b2' p2.length c2'] 26))
  have DX1 := DX1.below hb
  have B2 := bel2 B1 hb
  obtain ⟨-, m2, n2, z2, q2, -⟩ := G2
  have DX2 := NX
  clear hb B1 NX
  obtain ⟨W2, hW2⟩ : ∃ W, w2.alloc (.cells #[.slice b2 s2.length c2, .slice b2' p2.length c2'] 26) = W := ⟨_, rfl⟩
  rw [hW2] at DX1 DX2 B2
  obtain ⟨x0, x1, xf, x9⟩ := blk2 DX1.loc
  go_wp2_with fail
  clear hW2 x0 x1 xf x9
  generalize w2.heap.size = D2 at *
  refine (read4_draw _ nb W2 ((kb.below B2 (Nat.le_refl _)).up B2.size)).mono ?_
  rintro e w3 ⟨s3, p3, b3, c3, b3', c3', rfl, G3⟩
  have NX := DB.lay G3.own
  have hb := bel2 G3.bel (albel w3 (.cells #[.slice b3 s3.length c3, .slice b3' p3.length c3'] 26))
  have DX1 := DX1.below hb
  have DX2 := DX2.below hb
  have B3 := bel2 B2 hb
  obtain ⟨-, m3, n3, z3, q3, -⟩ := G3
  have DX3 := NX
  clear hb B2 NX
  obtain ⟨W3, hW3⟩ : ∃ W, w3.alloc (.cells #[.slice b3 s3.length c3, .slice b3' p3.length c3'] 26) = W := ⟨_, rfl⟩
  rw [hW3] at DX1 DX2 DX3 B3
  obtain ⟨x0, x1, xf, x9⟩ := blk2 DX1.loc
  go_wp2_with fail
  clear hW3 x0 x1 xf x9
  generalize w3.heap.size = D3 at *
  obtain ⟨A1, hA1⟩ : ∃ o, readA s1 p1 = o := ⟨_, rfl⟩
  have cw := V6.read_impl a1 a3 a5 a9 _ _ s1 p1 W3 (hS.below B3) DX1.hs DX1.hp z1 q1
  rw [hA1] at cw
  refine cw.mono ?_
  clear cw
  have HA1 : Hid (readA s1 p1 = A1) := hA1
  clear hA1
  rintro e w4 ⟨f1, d1, f1', d1', rfl, uu, hb⟩
  have OY1 := OA.lay uu
  have hb2 := bel2 hb (albel w4 (.cells #[.slice f1 A1.ss.length d1, .slice f1' A1.ps.length d1', .string A1.t, .int .i64 A1.g, .int .i64 A1.k] 31))
  have DX1 := DX1.below hb2
  have DX2 := DX2.below hb2
  have DX3 := DX3.below hb2
  have B4 := bel2 B3 hb2
  clear uu hb hb2 B3
  obtain ⟨W4, hW4⟩ : ∃ W, w4.alloc (.cells #[.slice f1 A1.ss.length d1, .slice f1' A1.ps.length d1', .string A1.t, .int .i64 A1.g, .int .i64 A1.k] 31) = W := ⟨_, rfl⟩
  rw [hW4] at DX1 DX2 DX3 OY1 B4
  obtain ⟨x0, x1, xf, x9⟩ := blk2 DX1.loc
  go_wp2_with fail
  clear hW4 x0 x1 xf x9
  generalize w4.heap.size = E1 at *
  obtain ⟨A2, hA2⟩ : ∃ o, putA s1 p1 t 1000 = o := ⟨_, rfl⟩
  have fit2 : FitA A2 := by rw [← hA2]; exact put_fit _ _ _ _
  have cw := Go.Proofs.YtfiabbfdnmldjaaGreatDoor.X2.put_impl a1 a3 a5 a9 _ _ s1 p1 t 1000 W4 (hS.below B4) DX1.hs DX1.hp z1 q1 (by unfold maxLen; omega) (by omega) (by omega)
  rw [hA2] at cw
  refine cw.mono ?_
  clear cw
  have HA2 : Hid (putA s1 p1 t 1000 = A2) := hA2
  clear hA2
  rintro e w5 ⟨f2, d2, f2', d2', rfl, uu, hb⟩
  have OY2 := OA.lay uu
  have hb2 := bel2 hb (albel w5 (.cells #[.slice f2 A2.ss.length d2, .slice f2' A2.ps.length d2', .string A2.t, .int .i64 A2.g, .int .i64 A2.k] 31))
  have DX1 := DX1.below hb2
  have DX2 := DX2.below hb2
  have DX3 := DX3.below hb2
  have OY1 := OY1.below hb2
  have B5 := bel2 B4 hb2
  clear uu hb hb2 B4
  obtain ⟨W5, hW5⟩ : ∃ W, w5.alloc (.cells #[.slice f2 A2.ss.length d2, .slice f2' A2.ps.length d2', .string A2.t, .int .i64 A2.g, .int .i64 A2.k] 31) = W := ⟨_, rfl⟩
  rw [hW5] at DX1 DX2 DX3 OY1 OY2 B5
  obtain ⟨x0, x1, xf, x9⟩ := blk2 DX2.loc
  go_wp2_with fail
  clear hW5 x0 x1 xf x9
  generalize w5.heap.size = E2 at *
  obtain ⟨A3, hA3⟩ : ∃ o, formA s2 p2 = o := ⟨_, rfl⟩
  have fit3 : FitA A3 := by rw [← hA3]; exact form_fit _ _
  have cw := U6.format_impl a1 a3 a5 a9 _ _ s2 p2 W5 (hS.below B5) DX2.hs DX2.hp z2 q2
  rw [hA3] at cw
  refine cw.mono ?_
  clear cw
  have HA3 : Hid (formA s2 p2 = A3) := hA3
  clear hA3
  rintro e w6 ⟨f3, d3, f3', d3', rfl, uu, hb⟩
  have OY3 := OA.lay uu
  have hb2 := bel2 hb (albel w6 (.cells #[.slice f3 A3.ss.length d3, .slice f3' A3.ps.length d3', .string A3.t, .int .i64 A3.g, .int .i64 A3.k] 31))
  have DX1 := DX1.below hb2
  have DX2 := DX2.below hb2
  have DX3 := DX3.below hb2
  have OY1 := OY1.below hb2
  have OY2 := OY2.below hb2
  have B6 := bel2 B5 hb2
  clear uu hb hb2 B5
  obtain ⟨W6, hW6⟩ : ∃ W, w6.alloc (.cells #[.slice f3 A3.ss.length d3, .slice f3' A3.ps.length d3', .string A3.t, .int .i64 A3.g, .int .i64 A3.k] 31) = W := ⟨_, rfl⟩
  rw [hW6] at DX1 DX2 DX3 OY1 OY2 OY3 B6
  go_upto_region 9 with fail
  clear hW6
  generalize w6.heap.size = E3 at *
  have KF : Hid (∀ x, Below W6.heap.size W6 x → x.cell? ⟨D1, 0, none⟩ = some (.slice b1 s1.length c1) ∧ x.cell? ⟨D1, 1, none⟩ = some (.slice b1' p1.length c1') ∧ x.cell? ⟨E1, 0, none⟩ = some (.slice f1 A1.ss.length d1) ∧ x.cell? ⟨E1, 1, none⟩ = some (.slice f1' A1.ps.length d1') ∧ x.cell? ⟨E1, 2, none⟩ = some (.string A1.t) ∧ x.cell? ⟨E1, 3, none⟩ = some (.int .i64 A1.g) ∧ x.cell? ⟨E1, 4, none⟩ = some (.int .i64 A1.k) ∧ x.cell? ⟨E2, 0, none⟩ = some (.slice f2 A2.ss.length d2) ∧ x.cell? ⟨E2, 1, none⟩ = some (.slice f2' A2.ps.length d2') ∧ x.cell? ⟨E2, 2, none⟩ = some (.string A2.t) ∧ x.cell? ⟨E2, 3, none⟩ = some (.int .i64 A2.g) ∧ x.cell? ⟨E2, 4, none⟩ = some (.int .i64 A2.k) ∧ x.cell? ⟨D2, 0, none⟩ = some (.slice b2 s2.length c2) ∧ x.cell? ⟨D2, 1, none⟩ = some (.slice b2' p2.length c2') ∧ x.cell? ⟨E3, 0, none⟩ = some (.slice f3 A3.ss.length d3) ∧ x.cell? ⟨E3, 1, none⟩ = some (.slice f3' A3.ps.length d3') ∧ x.cell? ⟨E3, 2, none⟩ = some (.string A3.t) ∧ x.cell? ⟨E3, 3, none⟩ = some (.int .i64 A3.g) ∧ x.cell? ⟨E3, 4, none⟩ = some (.int .i64 A3.k) ∧ x.cell? ⟨D3, 0, none⟩ = some (.slice b3 s3.length c3) ∧ x.cell? ⟨D3, 1, none⟩ = some (.slice b3' p3.length c3')) := fun x h => ⟨(blk2 (DX1.below h).loc).1, (blk2 (DX1.below h).loc).2.1, (U4.blk5 (OY1.below h).loc).1, (U4.blk5 (OY1.below h).loc).2.1, (U4.blk5 (OY1.below h).loc).2.2.1, (U4.blk5 (OY1.below h).loc).2.2.2.1, (U4.blk5 (OY1.below h).loc).2.2.2.2.1, (U4.blk5 (OY2.below h).loc).1, (U4.blk5 (OY2.below h).loc).2.1, (U4.blk5 (OY2.below h).loc).2.2.1, (U4.blk5 (OY2.below h).loc).2.2.2.1, (U4.blk5 (OY2.below h).loc).2.2.2.2.1, (blk2 (DX2.below h).loc).1, (blk2 (DX2.below h).loc).2.1, (U4.blk5 (OY3.below h).loc).1, (U4.blk5 (OY3.below h).loc).2.1, (U4.blk5 (OY3.below h).loc).2.2.1, (U4.blk5 (OY3.below h).loc).2.2.2.1, (U4.blk5 (OY3.below h).loc).2.2.2.2.1, (blk2 (DX3.below h).loc).1, (blk2 (DX3.below h).loc).2.1⟩
  have C1 : Hid (∀ x, Below W6.heap.size W6 x → Calls Tryz.prog 13 #[.agg #[.slice b1 s1.length c1, .slice b1' p1.length c1']] x fun e w' => ARes W6 A1 e w') := fun x h => ares_of HA1.out h (V1.read_spec _ _ s1 p1 x (DX1.below h).hs (DX1.below h).hp z1 q1)
  have C2 : Hid (∀ x, Below W6.heap.size W6 x → Calls Tryz.prog 14 #[.agg #[.slice b1 s1.length c1, .slice b1' p1.length c1'], .string t, .int .i64 1000] x fun e w' => ARes W6 A2 e w') := fun x h => ares_of HA2.out h (X3.put_spec _ _ s1 p1 t 1000 x (DX1.below h).hs (DX1.below h).hp z1 q1 (by unfold maxLen; omega) (by omega) (by omega))
  obtain ⟨A4, hA4⟩ : ∃ o, putA s1 p1 t z = o := ⟨_, rfl⟩
  have C3 : Hid (∀ x, Below W6.heap.size W6 x → Calls Tryz.prog 10 #[.agg #[.slice b1 s1.length c1, .slice b1' p1.length c1'], .string t, .int .i64 z] x fun e w' => ARes W6 A4 e w') := fun x h => ares_of hA4 h (Go.Proofs.YtfiabbfdnmldjaaGreatDoor.X2.put_impl a1 a3 a5 a9 _ _ s1 p1 t z x ((hS.below B6).below h) (DX1.below h).hs (DX1.below h).hp z1 q1 (by unfold maxLen; omega) (by omega) (by omega))
  have C4 : Hid (∀ x, Below W6.heap.size W6 x → Calls Tryz.prog 14 #[.agg #[.slice b1 s1.length c1, .slice b1' p1.length c1'], .string t, .int .i64 z] x fun e w' => ARes x A4 e w') := fun x h => ares_of hA4 (Below.refl _ _) (X3.put_spec _ _ s1 p1 t z x (DX1.below h).hs (DX1.below h).hp z1 q1 (by unfold maxLen; omega) (by omega) (by omega))
  have C5 : Hid (∀ x, Below W6.heap.size W6 x → Calls Tryz.prog 15 #[.agg #[.slice b2 s2.length c2, .slice b2' p2.length c2']] x fun e w' => ARes W6 A3 e w') := fun x h => ares_of HA3.out h (U5.format_spec _ _ s2 p2 x (DX2.below h).hs (DX2.below h).hp z2 q2)
  obtain ⟨A5, hA5⟩ : ∃ o, readA s3 p3 = o := ⟨_, rfl⟩
  have C6 : Hid (∀ x, Below W6.heap.size W6 x → Calls Tryz.prog 9 #[.agg #[.slice b3 s3.length c3, .slice b3' p3.length c3']] x fun e w' => ARes W6 A5 e w') := fun x h => ares_of hA5 h (V6.read_impl a1 a3 a5 a9 _ _ s3 p3 x ((hS.below B6).below h) (DX3.below h).hs (DX3.below h).hp z3 q3)
  have C7 : Hid (∀ x, Below W6.heap.size W6 x → Calls Tryz.prog 13 #[.agg #[.slice b3 s3.length c3, .slice b3' p3.length c3']] x fun e w' => ARes x A5 e w') := fun x h => ares_of hA5 (Below.refl _ _) (V1.read_spec _ _ s3 p3 x (DX3.below h).hs (DX3.below h).hp z3 q3)
  obtain ⟨R, hR⟩ : ∃ r, roomN s1 p1 = r := ⟨_, rfl⟩
  have C8 : Hid (∀ x, Below W6.heap.size W6 x → Calls Tryz.prog 16 #[.agg #[.slice b1 s1.length c1, .slice b1' p1.length c1']] x fun e w' => e = .returned (.int .i64 (R : Nat)) ∧ Below W6.heap.size W6 w') := fun x h => num_of h (by have := room_impl _ _ s1 p1 x (DX1.below h).hs (DX1.below h).hp z1 q1; rwa [hR] at this)
  have C9 : Hid (∀ x, Below W6.heap.size W6 x → Calls Tryz.prog 17 #[.agg #[.slice b1 s1.length c1, .slice b1' p1.length c1']] x fun e w' => e = .returned (.int .i64 (R : Nat)) ∧ Below W6.heap.size W6 w') := fun x h => num_of h (by have := room_spec _ _ s1 p1 x (DX1.below h).hs (DX1.below h).hp z1 q1; rwa [hR] at this)
  have L1 : Hid (∀ x g e g' e', Below W6.heap.size W6 x → Strs x (.slice g A1.ss.length e) A1.ss → Pends x (.slice g' A1.ps.length e') A1.ps → Calls Tryz.prog 12 #[.agg #[.slice f1 A1.ss.length d1, .slice f1' A1.ps.length d1', .string A1.t, .int .i64 A1.g, .int .i64 A1.k], .agg #[.slice g A1.ss.length e, .slice g' A1.ps.length e', .string A1.t, .int .i64 A1.g, .int .i64 A1.k]] x fun e w' => e = .returned (.bool true) ∧ Below W6.heap.size W6 w') := fun x _ _ _ _ h h1 h2 => is_of h (lwArea_any _ _ _ _ _ _ _ _ _ x (OY1.below h).hs (OY1.below h).hp h1 h2)
  have L2 : Hid (∀ x g e g' e', Below W6.heap.size W6 x → Strs x (.slice g A2.ss.length e) A2.ss → Pends x (.slice g' A2.ps.length e') A2.ps → Calls Tryz.prog 12 #[.agg #[.slice f2 A2.ss.length d2, .slice f2' A2.ps.length d2', .string A2.t, .int .i64 A2.g, .int .i64 A2.k], .agg #[.slice g A2.ss.length e, .slice g' A2.ps.length e', .string A2.t, .int .i64 A2.g, .int .i64 A2.k]] x fun e w' => e = .returned (.bool true) ∧ Below W6.heap.size W6 w') := fun x _ _ _ _ h h1 h2 => is_of h (lwArea_any _ _ _ _ _ _ _ _ _ x (OY2.below h).hs (OY2.below h).hp h1 h2)
  have L3 : Hid (∀ x g e g' e', Below W6.heap.size W6 x → Strs x (.slice g A3.ss.length e) A3.ss → Pends x (.slice g' A3.ps.length e') A3.ps → Calls Tryz.prog 12 #[.agg #[.slice f3 A3.ss.length d3, .slice f3' A3.ps.length d3', .string A3.t, .int .i64 A3.g, .int .i64 A3.k], .agg #[.slice g A3.ss.length e, .slice g' A3.ps.length e', .string A3.t, .int .i64 A3.g, .int .i64 A3.k]] x fun e w' => e = .returned (.bool true) ∧ Below W6.heap.size W6 w') := fun x _ _ _ _ h h1 h2 => is_of h (lwArea_any _ _ _ _ _ _ _ _ _ x (OY3.below h).hs (OY3.below h).hp h1 h2)
  have L4 : Hid (∀ x f d f' d' g e g' e', Below W6.heap.size W6 x → Strs x (.slice f A4.ss.length d) A4.ss → Pends x (.slice f' A4.ps.length d') A4.ps → Strs x (.slice g A4.ss.length e) A4.ss → Pends x (.slice g' A4.ps.length e') A4.ps → Calls Tryz.prog 12 #[.agg #[.slice f A4.ss.length d, .slice f' A4.ps.length d', .string A4.t, .int .i64 A4.g, .int .i64 A4.k], .agg #[.slice g A4.ss.length e, .slice g' A4.ps.length e', .string A4.t, .int .i64 A4.g, .int .i64 A4.k]] x fun e w' => e = .returned (.bool true) ∧ Below W6.heap.size W6 w') := fun x _ _ _ _ _ _ _ _ h h3 h4 h1 h2 => is_of h (lwArea_any _ _ _ _ _ _ _ _ _ x h3 h4 h1 h2)
  have L5 : Hid (∀ x f d f' d' g e g' e', Below W6.heap.size W6 x → Strs x (.slice f A5.ss.length d) A5.ss → Pends x (.slice f' A5.ps.length d') A5.ps → Strs x (.slice g A5.ss.length e) A5.ss → Pends x (.slice g' A5.ps.length e') A5.ps → Calls Tryz.prog 12 #[.agg #[.slice f A5.ss.length d, .slice f' A5.ps.length d', .string A5.t, .int .i64 A5.g, .int .i64 A5.k], .agg #[.slice g A5.ss.length e, .slice g' A5.ps.length e', .string A5.t, .int .i64 A5.g, .int .i64 A5.k]] x fun e w' => e = .returned (.bool true) ∧ Below W6.heap.size W6 w') := fun x _ _ _ _ _ _ _ _ h h3 h4 h1 h2 => is_of h (lwArea_any _ _ _ _ _ _ _ _ _ x h3 h4 h1 h2)
  have HR : Hid (roomN s1 p1 = R) := hR
  clear hA4 hA5 hR
  go_cut [86] (fun s x => s = .bool false ∧ Below W6.heap.size W6 x)
  case first => as_aux_lemma =>
    have hb : Below W6.heap.size W6 W6 := Below.refl _ _
    go_region_held3 (fun x => x.cell? ⟨D1, 0, none⟩ = some (.slice b1 s1.length c1) ∧ x.cell? ⟨D1, 1, none⟩ = some (.slice b1' p1.length c1') ∧ x.cell? ⟨E1, 0, none⟩ = some (.slice f1 A1.ss.length d1) ∧ x.cell? ⟨E1, 1, none⟩ = some (.slice f1' A1.ps.length d1') ∧ x.cell? ⟨E1, 2, none⟩ = some (.string A1.t) ∧ x.cell? ⟨E1, 3, none⟩ = some (.int .i64 A1.g) ∧ x.cell? ⟨E1, 4, none⟩ = some (.int .i64 A1.k) ∧ x.cell? ⟨E2, 0, none⟩ = some (.slice f2 A2.ss.length d2) ∧ x.cell? ⟨E2, 1, none⟩ = some (.slice f2' A2.ps.length d2') ∧ x.cell? ⟨E2, 2, none⟩ = some (.string A2.t) ∧ x.cell? ⟨E2, 3, none⟩ = some (.int .i64 A2.g) ∧ x.cell? ⟨E2, 4, none⟩ = some (.int .i64 A2.k) ∧ x.cell? ⟨D2, 0, none⟩ = some (.slice b2 s2.length c2) ∧ x.cell? ⟨D2, 1, none⟩ = some (.slice b2' p2.length c2') ∧ x.cell? ⟨E3, 0, none⟩ = some (.slice f3 A3.ss.length d3) ∧ x.cell? ⟨E3, 1, none⟩ = some (.slice f3' A3.ps.length d3') ∧ x.cell? ⟨E3, 2, none⟩ = some (.string A3.t) ∧ x.cell? ⟨E3, 3, none⟩ = some (.int .i64 A3.g) ∧ x.cell? ⟨E3, 4, none⟩ = some (.int .i64 A3.k) ∧ x.cell? ⟨D3, 0, none⟩ = some (.slice b3 s3.length c3) ∧ x.cell? ⟨D3, 1, none⟩ = some (.slice b3' p3.length c3'))
      (first
        | with_reducible exact KF.out _ hb
        | with_reducible exact KF.out _ hb.drew)
      (first
        | (go_at_call 13
           with_reducible refine (C1.out _ (by first | exact hb | exact hb.drew)).mono ?_
           rintro e x ⟨g1, e1, g1', e1', rfl, r1, t1, hb⟩)
        | (go_at_call 12
           with_reducible refine (L1.out _ _ _ _ _ hb r1 t1).mono ?_
           rintro e x ⟨rfl, hb⟩)
        | (go_at_call 14
           with_reducible refine (C2.out _ hb).mono ?_
           rintro e x ⟨g2, e2, g2', e2', rfl, r2, t2, hb⟩)
        | (go_at_call 12
           with_reducible refine (L2.out _ _ _ _ _ hb r2 t2).mono ?_
           rintro e x ⟨rfl, hb⟩)
        | (go_at_call 10
           with_reducible refine (C3.out _ hb).mono ?_
           rintro e x ⟨g4, e4, g4', e4', rfl, r4, t4, hb⟩)
        | (go_at_call 14
           with_reducible refine (C4.out _ hb).mono ?_
           rintro e x ⟨g5, e5, g5', e5', rfl, r5, t5, hx⟩
           have hb := bel2 hb hx
           have r4 := r4.below hx
           have t4 := t4.below hx)
        | (go_at_call 12
           with_reducible refine (L4.out _ _ _ _ _ _ _ _ _ hb r4 t4 r5 t5).mono ?_
           rintro e x ⟨rfl, hb⟩)
        | (go_at_call 15
           with_reducible refine (C5.out _ hb).mono ?_
           rintro e x ⟨g3, e3, g3', e3', rfl, r3, t3, hb⟩)
        | (go_at_call 12
           with_reducible refine (L3.out _ _ _ _ _ hb r3 t3).mono ?_
           rintro e x ⟨rfl, hb⟩)
        | (go_at_call 9
           with_reducible refine (C6.out _ hb).mono ?_
           rintro e x ⟨g6, e6, g6', e6', rfl, r6, t6, hb⟩)
        | (go_at_call 13
           with_reducible refine (C7.out _ hb).mono ?_
           rintro e x ⟨g7, e7, g7', e7', rfl, r7, t7, hx⟩
           have hb := bel2 hb hx
           have r6 := r6.below hx
           have t6 := t6.below hx)
        | (go_at_call 12
           with_reducible refine (L5.out _ _ _ _ _ _ _ _ _ hb r6 t6 r7 t7).mono ?_
           rintro e x ⟨rfl, hb⟩)
        | (go_at_call 16
           with_reducible refine (C8.out _ hb).mono ?_
           rintro e x ⟨rfl, hb⟩)
        | (go_at_call 17
           with_reducible refine (C9.out _ hb).mono ?_
           rintro e x ⟨rfl, hb⟩))
    go_wp2_with fail
    go_meet
    case rel => exact ⟨rfl, hb⟩
  case rest =>
    obtain ⟨rfl, hb⟩ := hcut
    clear C1 C2 C3 C4 C5 C6 C7 C9 L1 L2 L3 L4 L5
    obtain ⟨v0, v1, x0, x1, x2, x3, x4, y0, y1, y2, y3, y4, -, -, j0, j1, j2, j3, j4, -, -⟩ := KF.out _ hb
    go_upto_if 89 with fail
    go_cut [] (fun x => Below W6.heap.size W6 x)
    case first => as_aux_lemma =>
      by_cases hk3 : A3.k = 0
      · have hk3' : (A3.k == 0) = true := by simpa using hk3
        have hfr := form_read (ss := s2) (ps := p2) (by rw [HA3.out]; exact hk3)
        rw [HA3.out] at hfr
        have CE : Calls Tryz.prog 9 #[.agg #[.slice f3 A3.ss.length d3, .slice f3' A3.ps.length d3']] wc fun e w' => ARes W6 ⟨A3.ss, A3.ps, ⟨#[]⟩, 0, 0⟩ e w' := ares_of hfr.1 hb (V6.read_impl a1 a3 a5 a9 _ _ A3.ss A3.ps wc ((hS.below B6).below hb) (OY3.below hb).hs (OY3.below hb).hp fit3.1 fit3.2)
        clear hk3 hfr
        go_wp2_with fail
        refine CE.mono ?_
        rintro e x ⟨g1, e1, g1', e1', rfl, r1, t1, hb⟩
        dsimp only at r1 t1 ⊢
        have hb2 := bel2 hb (albel x (.cells #[.slice g1 A3.ss.length e1, .slice g1' A3.ps.length e1', .string ⟨#[]⟩, .int .i64 0, .int .i64 0] 31))
        go_wp2
        go_meet
        case rel => exact hb2
      · have hk3' : (A3.k == 0) = false := by simpa using hk3
        go_wp2_with fail
        go_meet
        case rel => exact hb
    case rest =>
      clear v0 v1 x0 x1 x2 x3 x4 y0 y1 y2 y3 y4 j0 j1 j2 j3 j4 hb
      have hb := hcut
      clear hcut
      obtain ⟨v0, v1, x0, x1, x2, x3, x4, y0, y1, y2, y3, y4, -⟩ := KF.out _ hb
      go_upto_region 15 with fail
      go_cut [120] (fun s x => s = .bool false ∧ Below W6.heap.size W6 x)
      case first => as_aux_lemma =>
        by_cases hk1 : A1.k = 0
        · have hk1' : (A1.k == 0) = true := by simpa using hk1
          by_cases hrr : (R : Int) < (t.size : Int)
          · have hk2 : A2.k = 9 := by
              have := put_full (n := 1000) (t := t) (by omega) (by rw [HA1.out]; exact hk1) (by rw [HR.out]; omega)
              rw [HA2.out] at this; exact this
            have hk2' : (A2.k == 9) = true := by simpa using hk2
            have hk2b : (A2.k != 9) = false := by simp [hk2]
            have hrr2 : R < t.size := by omega
            clear hk1 hk2
            go_wp2_with fail
            refine (C8.out _ hb).mono ?_
            rintro e x ⟨rfl, hb⟩
            obtain ⟨v0, v1, x0, x1, x2, x3, x4, y0, y1, y2, y3, y4, -⟩ := KF.out _ hb
            go_wp2
            go_meet
            case rel => exact ⟨rfl, hb⟩
          · have hrr2 : ¬ R < t.size := by omega
            clear hk1
            go_wp2_with fail
            refine (C8.out _ hb).mono ?_
            rintro e x ⟨rfl, hb⟩
            obtain ⟨v0, v1, x0, x1, x2, x3, x4, y0, y1, y2, y3, y4, -⟩ := KF.out _ hb
            go_wp2
            go_meet
            case rel => exact ⟨rfl, hb⟩
        · have hk1' : (A1.k == 0) = false := by simpa using hk1
          clear hk1
          go_wp2
          go_meet
          case rel => exact ⟨rfl, hb⟩
      case rest =>
        clear v0 v1 x0 x1 x2 x3 x4 y0 y1 y2 y3 y4 hb
        obtain ⟨rfl, hb⟩ := hcut
        obtain ⟨-, -, x0, x1, x2, x3, x4, y0, y1, y2, y3, y4, -⟩ := KF.out _ hb
        by_cases hk2 : A2.k = 0
        · have hk2' : (A2.k == 0) = true := by simpa using hk2
          have hpr := put_read (ss := s1) (ps := p1) (t := t) (n := 1000) (by rw [HA2.out]; exact hk2) (by omega)
          have hgn := gen_ok (ss := s1) (ps := p1) (t := t) (n := 1000) (by rw [HA2.out]; exact hk2)
          rw [HA2.out, HA1.out] at hpr
          rw [HA1.out] at hgn
          obtain ⟨hg1, hg2⟩ := hgn
          have CE : Calls Tryz.prog 9 #[.agg #[.slice f2 A2.ss.length d2, .slice f2' A2.ps.length d2']] wc fun e w' => ARes W6 ⟨A2.ss, A2.ps, t, A1.g + 1, 0⟩ e w' := ares_of hpr.1 hb (V6.read_impl a1 a3 a5 a9 _ _ A2.ss A2.ps wc ((hS.below B6).below hb) (OY2.below hb).hs (OY2.below hb).hp fit2.1 fit2.2)
          have hwg : IntKind.i64.wrap (A1.g + 1) = A1.g + 1 := wrap_gen hg1 hg2
          clear hk2 hpr
          go_wp2_with fail
          refine CE.mono ?_
          rintro e x ⟨g1, e1, g1', e1', rfl, r1, t1, hb⟩
          dsimp only at r1 t1 ⊢
          have hb2 := bel2 hb (albel x (.cells #[.slice g1 A2.ss.length e1, .slice g1' A2.ps.length e1', .string t, .int .i64 (A1.g + 1), .int .i64 0] 31))
          obtain ⟨-, -, w0, w1, w2, w3, w4, -⟩ := KF.out _ hb2
          go_wp2
          go_ret
          exact ⟨rfl, bel2 B6 hb2⟩
        · have hk2' : (A2.k == 0) = false := by simpa using hk2
          go_wp2
          go_ret
          exact ⟨rfl, bel2 B6 hb⟩
end Go.Proofs.YtfiabbfdnmldjaaGreatDoor.YArea
