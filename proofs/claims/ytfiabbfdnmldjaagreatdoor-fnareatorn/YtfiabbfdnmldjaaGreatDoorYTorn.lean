/-
  The walk of the law on the power that goes while a text is put.
-/
import Derived.Test.YtfiabbfdnmldjaaGreatDoorF3
import Derived.Test.YtfiabbfdnmldjaaGreatDoorF4
import Derived.Test.YtfiabbfdnmldjaaGreatDoorPN
namespace Go.Proofs.YtfiabbfdnmldjaaGreatDoor.YTorn
open Go.RowKit
open Go.Proofs.YtfiabbfdnmldjaaGreatDoor.C0 Go.Proofs.YtfiabbfdnmldjaaGreatDoor.D0 Go.Proofs.YtfiabbfdnmldjaaGreatDoor.E1 Go.Proofs.YtfiabbfdnmldjaaGreatDoor.E4 Go.Proofs.YtfiabbfdnmldjaaGreatDoor.E5 Go.Proofs.YtfiabbfdnmldjaaGreatDoor.F3 Go.Proofs.YtfiabbfdnmldjaaGreatDoor.F4 Go.Proofs.YtfiabbfdnmldjaaGreatDoor.S0 Go.Proofs.YtfiabbfdnmldjaaGreatDoor.S1 Go.Proofs.YtfiabbfdnmldjaaGreatDoor.S2 Go.Proofs.YtfiabbfdnmldjaaGreatDoor.S7 Go.Proofs.YtfiabbfdnmldjaaGreatDoor.O1 Go.Proofs.YtfiabbfdnmldjaaGreatDoor.T2 Go.Proofs.YtfiabbfdnmldjaaGreatDoor.T4 Go.Proofs.YtfiabbfdnmldjaaGreatDoor.T5 Go.Proofs.YtfiabbfdnmldjaaGreatDoor.U0 Go.Proofs.YtfiabbfdnmldjaaGreatDoor.U1 Go.Proofs.YtfiabbfdnmldjaaGreatDoor.U4 Go.Proofs.YtfiabbfdnmldjaaGreatDoor.U5 Go.Proofs.YtfiabbfdnmldjaaGreatDoor.V0 Go.Proofs.YtfiabbfdnmldjaaGreatDoor.V3 Go.Proofs.YtfiabbfdnmldjaaGreatDoor.V4 Go.Proofs.YtfiabbfdnmldjaaGreatDoor.W1 Go.Proofs.YtfiabbfdnmldjaaGreatDoor.W2
open Go.Proofs.YtfiabbfdnmldjaaGreatDoor.U9 (take_at)
open Go.Proofs.YtfiabbfdnmldjaaGreatDoor.D8 (small_sizes)
open Go.Proofs.YtfiabbfdnmldjaaGreatDoor.Dk (rightB right_iff crashR crash_none)
theorem gen_ok {ss : List ByteArray} {ps : List Pend} {t : ByteArray} {n : Int} (h : (putA ss ps t n).k = 0) : 0 ≤ (readA ss ps).g ∧ (readA ss ps).g < 1000000 := by
  obtain ⟨-, h1, -, h3, -, -⟩ := put_ok h
  obtain ⟨-, g0, -⟩ := seenD_ok h1
  rw [(readA_gen h1).1]
  exact ⟨g0, h3⟩
theorem wrap_gen {g : Int} (h1 : 0 ≤ g) (h2 : g < 1000000) : IntKind.i64.wrap (g + 1) = g + 1 := by
  rw [IntKind.wrap_i64]; omega
theorem next_no (g : Int) : (g + 1 == g) = false := by rw [beq_eq_false_iff_ne]; omega
/-- What is there behind a crash, and what is read of it. -/
theorem torn2 {ss : List ByteArray} {t : ByteArray} {n : Int} {keep : List Int} (hx : (putA ss [] t n).k = 0) (hy : (putA ss [] t 1000).k = 0) (hkeep : keep.length ≤ 400) :
    ∃ (s4 : List ByteArray) (p4 : List Pend) (ta : ByteArray) (ga : Int), crashR (putA ss [] t n).ss (putA ss [] t n).ps keep = (s4, p4) ∧ rightB s4 p4 = true ∧ readA s4 p4 = ⟨s4, p4, ta, ga, 0⟩ ∧
      ((ta = (readA ss []).t ∧ ga = (readA ss []).g) ∨ (ta = t ∧ ga = (readA ss []).g + 1)) := by
  have h := torn (keep := keep) hx hy hkeep
  obtain ⟨s4, p4, e⟩ : ∃ s p, crashR (putA ss [] t n).ss (putA ss [] t n).ps keep = (s, p) := ⟨_, _, rfl⟩
  rw [e] at h
  obtain ⟨h1, h2⟩ := h
  have hc : codeD s4 p4 = 0 := by rw [← X3.readA_k]; exact h1
  have hr := readA_eq s4 p4
  rw [if_pos hc] at hr
  refine ⟨s4, p4, textD s4 p4, (seenD s4 p4).1, e, code_right hc, hr, ?_⟩
  rw [hr] at h2
  exact h2
/-- With all steps a crash leaves all. -/
theorem torn3 {ss : List ByteArray} {t : ByteArray} {keep : List Int} (hy : (putA ss [] t 1000).k = 0) (hkeep : keep.length ≤ 400) :
    crashR (putA ss [] t 1000).ss (putA ss [] t 1000).ps keep = ((putA ss [] t 1000).ss, (putA ss [] t 1000).ps) ∧ readA (putA ss [] t 1000).ss (putA ss [] t 1000).ps = ⟨(putA ss [] t 1000).ss, (putA ss [] t 1000).ps, t, (readA ss []).g + 1, 0⟩ := by
  obtain ⟨h1, h2, h3⟩ := put_read hy (by omega)
  refine ⟨?_, h1⟩
  rw [h2]
  exact crash_none (by omega) h3
theorem len_of {ss : List ByteArray} {ps : List Pend} (h : rightB ss ps = true) : ss.length ≤ 1048576 ∧ ps.length ≤ 1048576 := by
  obtain ⟨-, h2, h3, -, -⟩ := (right_iff ss ps).1 h
  exact ⟨by omega, by omega⟩
/-- Whether the law goes on behind its first look. -/
def R8 (k2 k3 : Int) (ps : List Pend) (W : World) (s : Value) (x : World) : Prop := ∃ b : Bool, s = .bool b ∧ (b = false → k2 = 0 ∧ k3 = 0 ∧ ps = []) ∧ Below W.heap.size W x
theorem R8.yes {k2 k3 : Int} {ps : List Pend} {W x : World} (h : Below W.heap.size W x) : R8 k2 k3 ps W (.bool true) x := ⟨true, rfl, fun e => Bool.noConfusion e, h⟩
theorem field3 (a b c d e : Value) (w : World) : (Instr.field 31 (.agg #[a, b, c, d, e]) 3).run Tryz.prog w = .ok e w := by kernel_rfl
theorem field0 (a b c d e : Value) (w : World) : (Instr.field 31 (.agg #[a, b, c, d, e]) 0).run Tryz.prog w = .ok (.agg #[a, b]) w := by kernel_rfl
set_option maxRecDepth 100000 in
set_option maxHeartbeats 8000000 in
theorem walk (a1 a3 a5 a9 : Addr) (va : Value) (na : Nat) (vb : Value) (nb : Nat) (w : World) (hS : Sents w a1 a3 a5 a9) (ka : IsCode w.heap.size w va na) (kb : IsCode w.heap.size w vb nb) :
    Calls Tryz.prog 4 #[va, vb] w fun e w' => e = .returned (.bool true) ∧ Below w.heap.size w w' := by
  obtain ⟨aa, ca, ea⟩ : ∃ a c, va = .slice a na c := by obtain ⟨_, a, c, e, _⟩ := ka; exact ⟨a, c, e⟩
  obtain ⟨ab, cb, eb⟩ : ∃ a c, vb = .slice a nb c := by obtain ⟨_, a, c, e, _⟩ := kb; exact ⟨a, c, e⟩
  subst ea eb
  by_cases g1 : (1048576 : Int) < (na : Int)
  · go_enter Tryz.func4, Tryz.ntmps4
    go_wp2
    go_ret
    exact ⟨rfl, Below.refl _ _⟩
  by_cases g2 : (1048576 : Int) < (nb : Int)
  · go_enter Tryz.func4, Tryz.ntmps4
    go_wp2
    go_ret
    exact ⟨rfl, Below.refl _ _⟩
  go_enter Tryz.func4, Tryz.ntmps4
  go_wp2_with fail
  refine (put4_draw _ na w ka).mono ?_
  rintro e w1 ⟨s1, p1, b1, c1, b1', c1', t, z, rfl, ht, hz1, hz2, G1⟩
  have DX1 := DB.lay G1.own
  have B1 : Below w.heap.size w (w1.alloc (.cells #[.slice b1 s1.length c1, .slice b1' p1.length c1'] 26)) := bel2 G1.bel (albel _ _)
  obtain ⟨-, m1, n1, z1, q1, -⟩ := G1
  obtain ⟨W1, hW1⟩ : ∃ W, w1.alloc (.cells #[.slice b1 s1.length c1, .slice b1' p1.length c1'] 26) = W := ⟨_, rfl⟩
  rw [hW1] at DX1 B1
  go_wp2_with fail
  clear hW1
  generalize w1.heap.size = D1 at *
  refine (crash_draw _ nb W1 ((kb.below B1 (Nat.le_refl _)).up B1.size)).mono ?_
  rintro e w2 ⟨s2, p2, b2, c2, b2', c2', kp, fk, dk, rfl, hkp, ik, G2⟩
  have hb := bel2 G2.bel (albel w2 (.cells #[.slice b2 s2.length c2, .slice b2' p2.length c2'] 26))
  have DX1 := DX1.below hb
  have KX := ik.below (albel w2 (.cells #[.slice b2 s2.length c2, .slice b2' p2.length c2'] 26))
  have B2 := bel2 B1 hb
  clear hb B1 ik G2
  obtain ⟨W2, hW2⟩ : ∃ W, w2.alloc (.cells #[.slice b2 s2.length c2, .slice b2' p2.length c2'] 26) = W := ⟨_, rfl⟩
  rw [hW2] at DX1 KX B2
  obtain ⟨x0, x1, xf, x9⟩ := blk2 DX1.loc
  go_wp2_with fail
  clear hW2 x0 x1 xf x9
  generalize w2.heap.size = D2 at *
  obtain ⟨A1, hA1⟩ : ∃ o, readA s1 p1 = o := ⟨_, rfl⟩
  have cw := V1.read_spec _ _ s1 p1 W2 DX1.hs DX1.hp z1 q1
  rw [hA1] at cw
  refine cw.mono ?_
  clear cw
  have HA1 : Hid (readA s1 p1 = A1) := hA1
  clear hA1
  rintro e w3 ⟨f1, d1, f1', d1', rfl, uu, hb⟩
  have OY1 := OA.lay uu
  have hb2 := bel2 hb (albel w3 (.cells #[.slice f1 A1.ss.length d1, .slice f1' A1.ps.length d1', .string A1.t, .int .i64 A1.g, .int .i64 A1.k] 31))
  have DX1 := DX1.below hb2
  have KX := KX.below hb2
  have B3 := bel2 B2 hb2
  clear uu hb hb2 B2
  obtain ⟨W3, hW3⟩ : ∃ W, w3.alloc (.cells #[.slice f1 A1.ss.length d1, .slice f1' A1.ps.length d1', .string A1.t, .int .i64 A1.g, .int .i64 A1.k] 31) = W := ⟨_, rfl⟩
  rw [hW3] at DX1 KX OY1 B3
  obtain ⟨x0, x1, xf, x9⟩ := blk2 DX1.loc
  go_wp2_with fail
  clear hW3 x0 x1 xf x9
  generalize w3.heap.size = E1 at *
  obtain ⟨A2, hA2⟩ : ∃ o, putA s1 p1 t z = o := ⟨_, rfl⟩
  have fit2 : FitA A2 := by rw [← hA2]; exact put_fit _ _ _ _
  have cw := Go.Proofs.YtfiabbfdnmldjaaGreatDoor.X2.put_impl a1 a3 a5 a9 _ _ s1 p1 t z W3 (hS.below B3) DX1.hs DX1.hp z1 q1 (by unfold maxLen; omega) (by omega) (by omega)
  rw [hA2] at cw
  refine cw.mono ?_
  clear cw
  have HA2 : Hid (putA s1 p1 t z = A2) := hA2
  clear hA2
  rintro e w4 ⟨f2, d2, f2', d2', rfl, uu, hb⟩
  have OY2 := OA.lay uu
  have hb2 := bel2 hb (albel w4 (.cells #[.slice f2 A2.ss.length d2, .slice f2' A2.ps.length d2', .string A2.t, .int .i64 A2.g, .int .i64 A2.k] 31))
  have DX1 := DX1.below hb2
  have KX := KX.below hb2
  have OY1 := OY1.below hb2
  have B4 := bel2 B3 hb2
  clear uu hb hb2 B3
  obtain ⟨W4, hW4⟩ : ∃ W, w4.alloc (.cells #[.slice f2 A2.ss.length d2, .slice f2' A2.ps.length d2', .string A2.t, .int .i64 A2.g, .int .i64 A2.k] 31) = W := ⟨_, rfl⟩
  rw [hW4] at DX1 KX OY1 OY2 B4
  obtain ⟨x0, x1, xf, x9⟩ := blk2 DX1.loc
  go_wp2_with fail
  clear hW4 x0 x1 xf x9
  generalize w4.heap.size = E2 at *
  obtain ⟨A3, hA3⟩ : ∃ o, putA s1 p1 t 1000 = o := ⟨_, rfl⟩
  have fit3 : FitA A3 := by rw [← hA3]; exact put_fit _ _ _ _
  have cw := Go.Proofs.YtfiabbfdnmldjaaGreatDoor.X2.put_impl a1 a3 a5 a9 _ _ s1 p1 t 1000 W4 (hS.below B4) DX1.hs DX1.hp z1 q1 (by unfold maxLen; omega) (by omega) (by omega)
  rw [hA3] at cw
  refine cw.mono ?_
  clear cw
  have HA3 : Hid (putA s1 p1 t 1000 = A3) := hA3
  clear hA3
  rintro e w5 ⟨f3, d3, f3', d3', rfl, uu, hb⟩
  have OY3 := OA.lay uu
  have hb2 := bel2 hb (albel w5 (.cells #[.slice f3 A3.ss.length d3, .slice f3' A3.ps.length d3', .string A3.t, .int .i64 A3.g, .int .i64 A3.k] 31))
  have DX1 := DX1.below hb2
  have KX := KX.below hb2
  have OY1 := OY1.below hb2
  have OY2 := OY2.below hb2
  have B5 := bel2 B4 hb2
  clear uu hb hb2 B4
  obtain ⟨W5, hW5⟩ : ∃ W, w5.alloc (.cells #[.slice f3 A3.ss.length d3, .slice f3' A3.ps.length d3', .string A3.t, .int .i64 A3.g, .int .i64 A3.k] 31) = W := ⟨_, rfl⟩
  rw [hW5] at DX1 KX OY1 OY2 OY3 B5
  go_upto_region 8 with fail
  clear hW5
  generalize w5.heap.size = E3 at *
  have KF : Hid (∀ x, Below W5.heap.size W5 x → x.cell? ⟨D1, 0, none⟩ = some (.slice b1 s1.length c1) ∧ x.cell? ⟨D1, 1, none⟩ = some (.slice b1' p1.length c1') ∧ x.cell? ⟨E1, 0, none⟩ = some (.slice f1 A1.ss.length d1) ∧ x.cell? ⟨E1, 1, none⟩ = some (.slice f1' A1.ps.length d1') ∧ x.cell? ⟨E1, 2, none⟩ = some (.string A1.t) ∧ x.cell? ⟨E1, 3, none⟩ = some (.int .i64 A1.g) ∧ x.cell? ⟨E1, 4, none⟩ = some (.int .i64 A1.k) ∧ x.cell? ⟨E2, 0, none⟩ = some (.slice f2 A2.ss.length d2) ∧ x.cell? ⟨E2, 1, none⟩ = some (.slice f2' A2.ps.length d2') ∧ x.cell? ⟨E2, 2, none⟩ = some (.string A2.t) ∧ x.cell? ⟨E2, 3, none⟩ = some (.int .i64 A2.g) ∧ x.cell? ⟨E2, 4, none⟩ = some (.int .i64 A2.k) ∧ x.cell? ⟨E3, 0, none⟩ = some (.slice f3 A3.ss.length d3) ∧ x.cell? ⟨E3, 1, none⟩ = some (.slice f3' A3.ps.length d3') ∧ x.cell? ⟨E3, 2, none⟩ = some (.string A3.t) ∧ x.cell? ⟨E3, 3, none⟩ = some (.int .i64 A3.g) ∧ x.cell? ⟨E3, 4, none⟩ = some (.int .i64 A3.k)) := fun x h => ⟨(blk2 (DX1.below h).loc).1, (blk2 (DX1.below h).loc).2.1, (U4.blk5 (OY1.below h).loc).1, (U4.blk5 (OY1.below h).loc).2.1, (U4.blk5 (OY1.below h).loc).2.2.1, (U4.blk5 (OY1.below h).loc).2.2.2.1, (U4.blk5 (OY1.below h).loc).2.2.2.2.1, (U4.blk5 (OY2.below h).loc).1, (U4.blk5 (OY2.below h).loc).2.1, (U4.blk5 (OY2.below h).loc).2.2.1, (U4.blk5 (OY2.below h).loc).2.2.2.1, (U4.blk5 (OY2.below h).loc).2.2.2.2.1, (U4.blk5 (OY3.below h).loc).1, (U4.blk5 (OY3.below h).loc).2.1, (U4.blk5 (OY3.below h).loc).2.2.1, (U4.blk5 (OY3.below h).loc).2.2.2.1, (U4.blk5 (OY3.below h).loc).2.2.2.2.1⟩
  have C1 : Hid (∀ x, Below W5.heap.size W5 x → Calls Tryz.prog 14 #[.agg #[.slice b1 s1.length c1, .slice b1' p1.length c1'], .string t, .int .i64 z] x fun e w' => ARes W5 A2 e w') := fun x h => ares_of HA2.out h (X3.put_spec _ _ s1 p1 t z x (DX1.below h).hs (DX1.below h).hp z1 q1 (by unfold maxLen; omega) (by omega) (by omega))
  have C2 : Hid (∀ x, Below W5.heap.size W5 x → Calls Tryz.prog 14 #[.agg #[.slice b1 s1.length c1, .slice b1' p1.length c1'], .string t, .int .i64 1000] x fun e w' => ARes W5 A3 e w') := fun x h => ares_of HA3.out h (X3.put_spec _ _ s1 p1 t 1000 x (DX1.below h).hs (DX1.below h).hp z1 q1 (by unfold maxLen; omega) (by omega) (by omega))
  have L1 : Hid (∀ x g e g' e', Below W5.heap.size W5 x → Strs x (.slice g A2.ss.length e) A2.ss → Pends x (.slice g' A2.ps.length e') A2.ps → Calls Tryz.prog 19 #[.agg #[.slice f2 A2.ss.length d2, .slice f2' A2.ps.length d2'], .agg #[.slice g A2.ss.length e, .slice g' A2.ps.length e']] x fun e w' => e = .returned (.bool true) ∧ Below W5.heap.size W5 w') := fun x _ _ _ _ h h1 h2 => is_of h (S8.lwDisk_any _ _ _ _ _ _ x (OY2.below h).hs (OY2.below h).hp h1 h2)
  have hf3 := field3
  have hf0 := field0
  go_cut [77] (fun s x => R8 A2.k A3.k p1 W5 s x)
  case first => as_aux_lemma =>
    have hb : Below W5.heap.size W5 W5.drew := (Below.refl _ _).drew
    refine wp_region_held_drew (S := (fun x => x.cell? ⟨D1, 0, none⟩ = some (.slice b1 s1.length c1) ∧ x.cell? ⟨D1, 1, none⟩ = some (.slice b1' p1.length c1') ∧ x.cell? ⟨E1, 0, none⟩ = some (.slice f1 A1.ss.length d1) ∧ x.cell? ⟨E1, 1, none⟩ = some (.slice f1' A1.ps.length d1') ∧ x.cell? ⟨E1, 2, none⟩ = some (.string A1.t) ∧ x.cell? ⟨E1, 3, none⟩ = some (.int .i64 A1.g) ∧ x.cell? ⟨E1, 4, none⟩ = some (.int .i64 A1.k) ∧ x.cell? ⟨E2, 0, none⟩ = some (.slice f2 A2.ss.length d2) ∧ x.cell? ⟨E2, 1, none⟩ = some (.slice f2' A2.ps.length d2') ∧ x.cell? ⟨E2, 2, none⟩ = some (.string A2.t) ∧ x.cell? ⟨E2, 3, none⟩ = some (.int .i64 A2.g) ∧ x.cell? ⟨E2, 4, none⟩ = some (.int .i64 A2.k) ∧ x.cell? ⟨E3, 0, none⟩ = some (.slice f3 A3.ss.length d3) ∧ x.cell? ⟨E3, 1, none⟩ = some (.slice f3' A3.ps.length d3') ∧ x.cell? ⟨E3, 2, none⟩ = some (.string A3.t) ∧ x.cell? ⟨E3, 3, none⟩ = some (.int .i64 A3.g) ∧ x.cell? ⟨E3, 4, none⟩ = some (.int .i64 A3.k))) (by kernel_rfl) (KF.out _ hb) (fun hHeld => ?_)
    refine take_at 0 (some 43) (v := ?v1) rfl rfl (by kernel_rfl) (by kernel_rfl) (by kernel_rfl) (fun _ _ _ h => h) (Or.inl ⟨rfl, ?h1⟩) hHeld ?r1
    case h1 => intro wq hSw; (try dsimp only at hSw); go_simp; all_goals (with_reducible rfl)
    try simp only [Act.put, List.setIfInBounds_toArray, List.set_cons_zero, List.set_cons_succ]
    refine take_at 1 (some 44) (v := ?v2) rfl rfl (by kernel_rfl) (by kernel_rfl) (by kernel_rfl) (fun _ _ _ h => h) (Or.inl ⟨rfl, ?h2⟩) hHeld ?r2
    case h2 => intro wq hSw; (try dsimp only at hSw); go_simp; all_goals (with_reducible rfl)
    try simp only [Act.put, List.setIfInBounds_toArray, List.set_cons_zero, List.set_cons_succ]
    refine take_at 2 (some 45) (v := ?v3) rfl rfl (by kernel_rfl) (by kernel_rfl) (by kernel_rfl) (fun _ _ _ h => h) (Or.inl ⟨rfl, ?h3⟩) hHeld ?r3
    case h3 => intro wq hSw; (try dsimp only at hSw); go_simp; all_goals (with_reducible rfl)
    try simp only [Act.put, List.setIfInBounds_toArray, List.set_cons_zero, List.set_cons_succ]
    refine take_at 3 (some 46) (v := ?v4) rfl rfl (by kernel_rfl) (by kernel_rfl) (by kernel_rfl) (fun _ _ _ h => h) (Or.inl ⟨rfl, ?h4⟩) hHeld ?r4
    case h4 => intro wq hSw; (try dsimp only at hSw); go_simp; all_goals (with_reducible rfl)
    try simp only [Act.put, List.setIfInBounds_toArray, List.set_cons_zero, List.set_cons_succ]
    refine take_at 4 (some 47) (v := ?v5) rfl rfl (by kernel_rfl) (by kernel_rfl) (by kernel_rfl) (fun _ _ _ h => h) (Or.inl ⟨rfl, ?h5⟩) hHeld ?r5
    case h5 => intro wq hSw; (try dsimp only at hSw); go_simp; all_goals (with_reducible rfl)
    try simp only [Act.put, List.setIfInBounds_toArray, List.set_cons_zero, List.set_cons_succ]
    refine wpAnyH_ready (rs := [5]) (by kernel_rfl) (by simp) ?_
    refine AllReadyH.cons rfl (fun K hK => ?_) AllReadyH.nil
    go_simp
    go_at_call 14
    refine (C1.out _ hb).mono ?_
    rintro e xa ⟨g1, e1, g1', e1', rfl, r1, t1, hb⟩
    try (go_wp2_with fail)
    refine hK.out _ _ ?_ (fun hHeld => ?_)
    · exact KF.out _ hb
    clear hK K
    try simp only [Act.put, List.setIfInBounds_toArray, List.set_cons_zero, List.set_cons_succ]
    refine take_at 6 (some 49) (v := ?v6) rfl rfl (by kernel_rfl) (by kernel_rfl) (by kernel_rfl) (fun _ _ _ h => h) (Or.inl ⟨rfl, ?h6⟩) hHeld ?r6
    case h6 => intro wq hSw; (try dsimp only at hSw); go_simp; all_goals (with_reducible rfl)
    try simp only [Act.put, List.setIfInBounds_toArray, List.set_cons_zero, List.set_cons_succ]
    refine take_at 7 (some 50) (v := ?v7) rfl rfl (by kernel_rfl) (by kernel_rfl) (by kernel_rfl) (fun _ _ _ h => h) (Or.inl ⟨rfl, ?h7⟩) hHeld ?r7
    case h7 => intro wq hSw; (try dsimp only at hSw); go_simp; all_goals (with_reducible rfl)
    try simp only [Act.put, List.setIfInBounds_toArray, List.set_cons_zero, List.set_cons_succ]
    refine take_at 8 (some 51) (v := ?v8) rfl rfl (by kernel_rfl) (by kernel_rfl) (by kernel_rfl) (fun _ _ _ h => h) (Or.inl ⟨rfl, ?h8⟩) hHeld ?r8
    case h8 => intro wq hSw; (try dsimp only at hSw); go_simp; all_goals (with_reducible rfl)
    try simp only [Act.put, List.setIfInBounds_toArray, List.set_cons_zero, List.set_cons_succ]
    refine take_at 9 (some 52) (v := ?v9) rfl rfl (by kernel_rfl) (by kernel_rfl) (by kernel_rfl) (fun _ _ _ h => h) (Or.inl ⟨rfl, ?h9⟩) hHeld ?r9
    case h9 => intro wq hSw; (try dsimp only at hSw); go_simp; all_goals (with_reducible rfl)
    try simp only [Act.put, List.setIfInBounds_toArray, List.set_cons_zero, List.set_cons_succ]
    refine take_at 10 (some 53) (v := ?v10) rfl rfl (by kernel_rfl) (by kernel_rfl) (by kernel_rfl) (fun _ _ _ h => h) (Or.inl ⟨rfl, ?h10⟩) hHeld ?r10
    case h10 => intro wq hSw; (try dsimp only at hSw); go_simp; all_goals (with_reducible rfl)
    try simp only [Act.put, List.setIfInBounds_toArray, List.set_cons_zero, List.set_cons_succ]
    refine take_at 11 (some 54) (v := ?v11) rfl rfl (by kernel_rfl) (by kernel_rfl) (by kernel_rfl) (fun _ _ _ h => h) (Or.inl ⟨rfl, ?h11⟩) hHeld ?r11
    case h11 => intro wq hSw; (try dsimp only at hSw); go_simp; all_goals (with_reducible rfl)
    try simp only [Act.put, List.setIfInBounds_toArray, List.set_cons_zero, List.set_cons_succ]
    refine take_at 12 (some 55) (v := ?v12) rfl rfl (by kernel_rfl) (by kernel_rfl) (by kernel_rfl) (fun _ _ _ h => h) (Or.inl ⟨rfl, ?h12⟩) hHeld ?r12
    case h12 => intro wq hSw; (try dsimp only at hSw); go_simp; all_goals (with_reducible rfl)
    try simp only [Act.put, List.setIfInBounds_toArray, List.set_cons_zero, List.set_cons_succ]
    refine take_at 13 (some 56) (v := ?v13) rfl rfl (by kernel_rfl) (by kernel_rfl) (by kernel_rfl) (fun _ _ _ h => h) (Or.inl ⟨rfl, ?h13⟩) hHeld ?r13
    case h13 => intro wq hSw; (try dsimp only at hSw); go_simp; all_goals (with_reducible rfl)
    try simp only [Act.put, List.setIfInBounds_toArray, List.set_cons_zero, List.set_cons_succ]
    refine wpAnyH_ready (rs := [14]) (by kernel_rfl) (by simp) ?_
    refine AllReadyH.cons rfl (fun K hK => ?_) AllReadyH.nil
    go_simp
    go_at_call 14
    refine (C1.out _ hb).mono ?_
    rintro e xb ⟨g2, e2, g2', e2', rfl, r2, t2, hb⟩
    try (go_wp2_with fail)
    refine hK.out _ _ ?_ (fun hHeld => ?_)
    · exact KF.out _ hb
    clear hK K
    try simp only [Act.put, List.setIfInBounds_toArray, List.set_cons_zero, List.set_cons_succ]
    refine take_at 15 (some 58) (v := ?v14) rfl rfl (by kernel_rfl) (by kernel_rfl) (by kernel_rfl) (fun _ _ _ h => h) (Or.inl ⟨rfl, ?h14⟩) hHeld ?r14
    case h14 => intro wq hSw; (try dsimp only at hSw); go_simp; all_goals (with_reducible rfl)
    try simp only [Act.put, List.setIfInBounds_toArray, List.set_cons_zero, List.set_cons_succ]
    refine wpAnyH_ready (rs := [16]) (by kernel_rfl) (by simp) ?_
    refine AllReadyH.cons rfl (fun K hK => ?_) AllReadyH.nil
    go_simp
    go_at_call 19
    refine (L1.out _ _ _ _ _ hb r2 t2).mono ?_
    rintro e xc ⟨rfl, hb⟩
    try (go_wp2_with fail)
    refine hK.out _ _ ?_ (fun hHeld => ?_)
    · exact KF.out _ hb
    clear hK K
    try simp only [Act.put, List.setIfInBounds_toArray, List.set_cons_zero, List.set_cons_succ]
    refine take_at 17 (some 60) (v := ?v15) rfl rfl (by kernel_rfl) (by kernel_rfl) (by kernel_rfl) (fun _ _ _ h => h) (Or.inl ⟨rfl, ?h15⟩) hHeld ?r15
    case h15 => intro wq hSw; (try dsimp only at hSw); go_simp; all_goals (with_reducible rfl)
    try simp only [Act.put, List.setIfInBounds_toArray, List.set_cons_zero, List.set_cons_succ]
    refine take_at 18 (some 61) (v := ?v16) rfl rfl (by kernel_rfl) (by kernel_rfl) (by kernel_rfl) (fun _ _ _ h => h) (Or.inl ⟨rfl, ?h16⟩) hHeld ?r16
    case h16 => intro wq hSw; (try dsimp only at hSw); go_simp; all_goals (with_reducible rfl)
    try simp only [Act.put, List.setIfInBounds_toArray, List.set_cons_zero, List.set_cons_succ]
    refine take_at 19 (some 62) (v := ?v17) rfl rfl (by kernel_rfl) (by kernel_rfl) (by kernel_rfl) (fun _ _ _ h => h) (Or.inl ⟨rfl, ?h17⟩) hHeld ?r17
    case h17 => intro wq hSw; (try dsimp only at hSw); go_simp; all_goals (with_reducible rfl)
    try simp only [Act.put, List.setIfInBounds_toArray, List.set_cons_zero, List.set_cons_succ]
    by_cases hk2 : A2.k = 0
    · have hk2' : (A2.k == 0) = true := by simpa using hk2
      refine take_at 20 (some 63) (v := ?v18) rfl rfl (by kernel_rfl) (by kernel_rfl) (by kernel_rfl) (fun _ _ _ h => h) (Or.inl ⟨rfl, ?h18⟩) hHeld ?r18
      case h18 => intro wq hSw; (try dsimp only at hSw); go_simp; all_goals (with_reducible rfl)
      try simp only [Act.put, List.setIfInBounds_toArray, List.set_cons_zero, List.set_cons_succ]
      refine take_at 21 (some 64) (v := ?v19) rfl rfl (by kernel_rfl) (by kernel_rfl) (by kernel_rfl) (fun _ _ _ h => h) (Or.inl ⟨rfl, ?h19⟩) hHeld ?r19
      case h19 => intro wq hSw; (try dsimp only at hSw); go_simp; all_goals (with_reducible rfl)
      try simp only [Act.put, List.setIfInBounds_toArray, List.set_cons_zero, List.set_cons_succ]
      refine take_at 22 (some 65) (v := ?v20) rfl rfl (by kernel_rfl) (by kernel_rfl) (by kernel_rfl) (fun _ _ _ h => h) (Or.inl ⟨rfl, ?h20⟩) hHeld ?r20
      case h20 => intro wq hSw; (try dsimp only at hSw); go_simp; all_goals (with_reducible rfl)
      try simp only [Act.put, List.setIfInBounds_toArray, List.set_cons_zero, List.set_cons_succ]
      refine take_at 23 (some 66) (v := ?v21) rfl rfl (by kernel_rfl) (by kernel_rfl) (by kernel_rfl) (fun _ _ _ h => h) (Or.inl ⟨rfl, ?h21⟩) hHeld ?r21
      case h21 => intro wq hSw; (try dsimp only at hSw); go_simp; all_goals (with_reducible rfl)
      try simp only [Act.put, List.setIfInBounds_toArray, List.set_cons_zero, List.set_cons_succ]
      refine take_at 24 (some 67) (v := ?v22) rfl rfl (by kernel_rfl) (by kernel_rfl) (by kernel_rfl) (fun _ _ _ h => h) (Or.inl ⟨rfl, ?h22⟩) hHeld ?r22
      case h22 => intro wq hSw; (try dsimp only at hSw); go_simp; all_goals (with_reducible rfl)
      try simp only [Act.put, List.setIfInBounds_toArray, List.set_cons_zero, List.set_cons_succ]
      by_cases hk3 : A3.k = 0
      · have hk3' : (A3.k == 0) = true := by simpa using hk3
        refine take_at 25 (some 68) (v := ?v23) rfl rfl (by kernel_rfl) (by kernel_rfl) (by kernel_rfl) (fun _ _ _ h => h) (Or.inl ⟨rfl, ?h23⟩) hHeld ?r23
        case h23 => intro wq hSw; (try dsimp only at hSw); go_simp; all_goals (with_reducible rfl)
        try simp only [Act.put, List.setIfInBounds_toArray, List.set_cons_zero, List.set_cons_succ]
        refine take_at 26 (some 69) (v := ?v24) rfl rfl (by kernel_rfl) (by kernel_rfl) (by kernel_rfl) (fun _ _ _ h => h) (Or.inl ⟨rfl, ?h24⟩) hHeld ?r24
        case h24 => intro wq hSw; (try dsimp only at hSw); go_simp; all_goals (with_reducible rfl)
        try simp only [Act.put, List.setIfInBounds_toArray, List.set_cons_zero, List.set_cons_succ]
        refine take_at 27 (some 70) (v := ?v25) rfl rfl (by kernel_rfl) (by kernel_rfl) (by kernel_rfl) (fun _ _ _ h => h) (Or.inl ⟨rfl, ?h25⟩) hHeld ?r25
        case h25 => intro wq hSw; (try dsimp only at hSw); go_simp; all_goals (with_reducible rfl)
        try simp only [Act.put, List.setIfInBounds_toArray, List.set_cons_zero, List.set_cons_succ]
        refine take_at 28 (some 71) (v := ?v26) rfl rfl (by kernel_rfl) (by kernel_rfl) (by kernel_rfl) (fun _ _ _ h => h) (Or.inl ⟨rfl, ?h26⟩) hHeld ?r26
        case h26 => intro wq hSw; (try dsimp only at hSw); go_simp; all_goals (with_reducible rfl)
        try simp only [Act.put, List.setIfInBounds_toArray, List.set_cons_zero, List.set_cons_succ]
        refine take_at 29 (some 72) (v := ?v27) rfl rfl (by kernel_rfl) (by kernel_rfl) (by kernel_rfl) (fun _ _ _ h => h) (Or.inl ⟨rfl, ?h27⟩) hHeld ?r27
        case h27 => intro wq hSw; (try dsimp only at hSw); go_simp; all_goals (with_reducible rfl)
        try simp only [Act.put, List.setIfInBounds_toArray, List.set_cons_zero, List.set_cons_succ]
        by_cases hpl : p1.length = 0
        · have hpn : p1 = [] := List.eq_nil_of_length_eq_zero hpl
          have hH : Hid (A2.k = 0 ∧ A3.k = 0 ∧ p1 = []) := ⟨hk2, hk3, hpn⟩
          have hpd : ¬ 0 < p1.length := by omega
          clear hpn hk2 hk3
          refine take_at 30 (some 73) (v := ?v28) rfl rfl (by kernel_rfl) (by kernel_rfl) (by kernel_rfl) (fun _ _ _ h => h) (Or.inl ⟨rfl, ?h28⟩) hHeld ?r28
          case h28 => intro wq hSw; (try dsimp only at hSw); go_simp; all_goals (with_reducible rfl)
          try simp only [Act.put, List.setIfInBounds_toArray, List.set_cons_zero, List.set_cons_succ]
          refine take_at 31 (some 74) (v := ?v29) rfl rfl (by kernel_rfl) (by kernel_rfl) (by kernel_rfl) (fun _ _ _ h => h) (Or.inl ⟨rfl, ?h29⟩) hHeld ?r29
          case h29 => intro wq hSw; (try dsimp only at hSw); go_simp; all_goals (with_reducible rfl)
          try simp only [Act.put, List.setIfInBounds_toArray, List.set_cons_zero, List.set_cons_succ]
          refine take_at 32 (some 75) (v := ?v30) rfl rfl (by kernel_rfl) (by kernel_rfl) (by kernel_rfl) (fun _ _ _ h => h) (Or.inl ⟨rfl, ?h30⟩) hHeld ?r30
          case h30 => intro wq hSw; (try dsimp only at hSw); go_simp; all_goals (with_reducible rfl)
          try simp only [Act.put, List.setIfInBounds_toArray, List.set_cons_zero, List.set_cons_succ]
          refine take_at 33 (some 76) (v := ?v31) rfl rfl (by kernel_rfl) (by kernel_rfl) (by kernel_rfl) (fun _ _ _ h => h) (Or.inl ⟨rfl, ?h31⟩) hHeld ?r31
          case h31 => intro wq hSw; (try dsimp only at hSw); go_simp; all_goals (with_reducible rfl)
          try simp only [Act.put, List.setIfInBounds_toArray, List.set_cons_zero, List.set_cons_succ]
          refine take_at 34 (some 77) (v := ?v32) rfl rfl (by kernel_rfl) (by kernel_rfl) (by kernel_rfl) (fun _ _ _ h => h) (Or.inl ⟨rfl, ?h32⟩) hHeld ?r32
          case h32 => intro wq hSw; (try dsimp only at hSw); go_simp; all_goals (with_reducible rfl)
          try simp only [Act.put, List.setIfInBounds_toArray, List.set_cons_zero, List.set_cons_succ]
          refine wpAnyH_done (by kernel_rfl) ?_ _
          go_wp2_with fail
          go_meet
          case rel => exact ⟨false, rfl, fun _ => hH.out, hb⟩
        · have hpd : 0 < p1.length := by omega
          clear hk2 hk3
          refine take_at 30 (some 73) (v := ?v33) rfl rfl (by kernel_rfl) (by kernel_rfl) (by kernel_rfl) (fun _ _ _ h => h) (Or.inl ⟨rfl, ?h33⟩) hHeld ?r33
          case h33 => intro wq hSw; (try dsimp only at hSw); go_simp; all_goals (with_reducible rfl)
          try simp only [Act.put, List.setIfInBounds_toArray, List.set_cons_zero, List.set_cons_succ]
          refine take_at 31 (some 74) (v := ?v34) rfl rfl (by kernel_rfl) (by kernel_rfl) (by kernel_rfl) (fun _ _ _ h => h) (Or.inl ⟨rfl, ?h34⟩) hHeld ?r34
          case h34 => intro wq hSw; (try dsimp only at hSw); go_simp; all_goals (with_reducible rfl)
          try simp only [Act.put, List.setIfInBounds_toArray, List.set_cons_zero, List.set_cons_succ]
          refine take_at 32 (some 75) (v := ?v35) rfl rfl (by kernel_rfl) (by kernel_rfl) (by kernel_rfl) (fun _ _ _ h => h) (Or.inl ⟨rfl, ?h35⟩) hHeld ?r35
          case h35 => intro wq hSw; (try dsimp only at hSw); go_simp; all_goals (with_reducible rfl)
          try simp only [Act.put, List.setIfInBounds_toArray, List.set_cons_zero, List.set_cons_succ]
          refine take_at 33 (some 76) (v := ?v36) rfl rfl (by kernel_rfl) (by kernel_rfl) (by kernel_rfl) (fun _ _ _ h => h) (Or.inl ⟨rfl, ?h36⟩) hHeld ?r36
          case h36 => intro wq hSw; (try dsimp only at hSw); go_simp; all_goals (with_reducible rfl)
          try simp only [Act.put, List.setIfInBounds_toArray, List.set_cons_zero, List.set_cons_succ]
          refine take_at 34 (some 77) (v := ?v37) rfl rfl (by kernel_rfl) (by kernel_rfl) (by kernel_rfl) (fun _ _ _ h => h) (Or.inl ⟨rfl, ?h37⟩) hHeld ?r37
          case h37 => intro wq hSw; (try dsimp only at hSw); go_simp; all_goals (with_reducible rfl)
          try simp only [Act.put, List.setIfInBounds_toArray, List.set_cons_zero, List.set_cons_succ]
          refine wpAnyH_done (by kernel_rfl) ?_ _
          go_wp2_with fail
          go_meet
          case rel => exact R8.yes hb
      · have hk3' : (A3.k == 0) = false := by simpa using hk3
        have hk3a : decide (A3.k = 0) = false := by simpa using hk3
        have hk3b : (A3.k != 0) = true := by simpa using hk3
        refine take_at 25 (some 68) (v := ?v38) rfl rfl (by kernel_rfl) (by kernel_rfl) (by kernel_rfl) (fun _ _ _ h => h) (Or.inl ⟨rfl, ?h38⟩) hHeld ?r38
        case h38 => intro wq hSw; (try dsimp only at hSw); go_simp; all_goals (with_reducible rfl)
        try simp only [Act.put, List.setIfInBounds_toArray, List.set_cons_zero, List.set_cons_succ]
        refine take_at 26 (some 69) (v := ?v39) rfl rfl (by kernel_rfl) (by kernel_rfl) (by kernel_rfl) (fun _ _ _ h => h) (Or.inl ⟨rfl, ?h39⟩) hHeld ?r39
        case h39 => intro wq hSw; (try dsimp only at hSw); go_simp; all_goals (with_reducible rfl)
        try simp only [Act.put, List.setIfInBounds_toArray, List.set_cons_zero, List.set_cons_succ]
        refine take_at 27 (some 70) (v := ?v40) rfl rfl (by kernel_rfl) (by kernel_rfl) (by kernel_rfl) (fun _ _ _ h => h) (Or.inl ⟨rfl, ?h40⟩) hHeld ?r40
        case h40 => intro wq hSw; (try dsimp only at hSw); go_simp; all_goals (with_reducible rfl)
        try simp only [Act.put, List.setIfInBounds_toArray, List.set_cons_zero, List.set_cons_succ]
        refine take_at 28 (some 71) (v := ?v41) rfl rfl (by kernel_rfl) (by kernel_rfl) (by kernel_rfl) (fun _ _ _ h => h) (Or.inl ⟨rfl, ?h41⟩) hHeld ?r41
        case h41 => intro wq hSw; (try dsimp only at hSw); go_simp; all_goals (with_reducible rfl)
        try simp only [Act.put, List.setIfInBounds_toArray, List.set_cons_zero, List.set_cons_succ]
        refine take_at 29 (some 72) (v := ?v42) rfl rfl (by kernel_rfl) (by kernel_rfl) (by kernel_rfl) (fun _ _ _ h => h) (Or.inl ⟨rfl, ?h42⟩) hHeld ?r42
        case h42 => intro wq hSw; (try dsimp only at hSw); go_simp; all_goals (with_reducible rfl)
        try simp only [Act.put, List.setIfInBounds_toArray, List.set_cons_zero, List.set_cons_succ]
        refine take_at 30 (some 73) (v := undef) rfl rfl (by kernel_rfl) (by kernel_rfl) (by kernel_rfl) (fun _ _ _ h => h) (Or.inr ⟨rfl, rfl⟩) hHeld ?_
        try simp only [Act.put, List.setIfInBounds_toArray, List.set_cons_zero, List.set_cons_succ]
        refine take_at 31 (some 74) (v := undef) rfl rfl (by kernel_rfl) (by kernel_rfl) (by kernel_rfl) (fun _ _ _ h => h) (Or.inr ⟨rfl, rfl⟩) hHeld ?_
        try simp only [Act.put, List.setIfInBounds_toArray, List.set_cons_zero, List.set_cons_succ]
        refine take_at 32 (some 75) (v := undef) rfl rfl (by kernel_rfl) (by kernel_rfl) (by kernel_rfl) (fun _ _ _ h => h) (Or.inr ⟨rfl, rfl⟩) hHeld ?_
        try simp only [Act.put, List.setIfInBounds_toArray, List.set_cons_zero, List.set_cons_succ]
        refine take_at 33 (some 76) (v := undef) rfl rfl (by kernel_rfl) (by kernel_rfl) (by kernel_rfl) (fun _ _ _ h => h) (Or.inr ⟨rfl, rfl⟩) hHeld ?_
        try simp only [Act.put, List.setIfInBounds_toArray, List.set_cons_zero, List.set_cons_succ]
        refine take_at 34 (some 77) (v := ?v43) rfl rfl (by kernel_rfl) (by kernel_rfl) (by kernel_rfl) (fun _ _ _ h => h) (Or.inl ⟨rfl, ?h43⟩) hHeld ?r43
        case h43 => intro wq hSw; (try dsimp only at hSw); go_simp; all_goals (with_reducible rfl)
        try simp only [Act.put, List.setIfInBounds_toArray, List.set_cons_zero, List.set_cons_succ]
        refine wpAnyH_done (by kernel_rfl) ?_ _
        go_wp2_with fail
        go_meet
        case rel => exact R8.yes hb
    · have hk2' : (A2.k == 0) = false := by simpa using hk2
      have hk2a : decide (A2.k = 0) = false := by simpa using hk2
      have hk2b : (A2.k != 0) = true := by simpa using hk2
      refine take_at 20 (some 63) (v := ?v44) rfl rfl (by kernel_rfl) (by kernel_rfl) (by kernel_rfl) (fun _ _ _ h => h) (Or.inl ⟨rfl, ?h44⟩) hHeld ?r44
      case h44 => intro wq hSw; (try dsimp only at hSw); go_simp; all_goals (with_reducible rfl)
      try simp only [Act.put, List.setIfInBounds_toArray, List.set_cons_zero, List.set_cons_succ]
      refine take_at 21 (some 64) (v := ?v45) rfl rfl (by kernel_rfl) (by kernel_rfl) (by kernel_rfl) (fun _ _ _ h => h) (Or.inl ⟨rfl, ?h45⟩) hHeld ?r45
      case h45 => intro wq hSw; (try dsimp only at hSw); go_simp; all_goals (with_reducible rfl)
      try simp only [Act.put, List.setIfInBounds_toArray, List.set_cons_zero, List.set_cons_succ]
      refine take_at 22 (some 65) (v := ?v46) rfl rfl (by kernel_rfl) (by kernel_rfl) (by kernel_rfl) (fun _ _ _ h => h) (Or.inl ⟨rfl, ?h46⟩) hHeld ?r46
      case h46 => intro wq hSw; (try dsimp only at hSw); go_simp; all_goals (with_reducible rfl)
      try simp only [Act.put, List.setIfInBounds_toArray, List.set_cons_zero, List.set_cons_succ]
      refine take_at 23 (some 66) (v := ?v47) rfl rfl (by kernel_rfl) (by kernel_rfl) (by kernel_rfl) (fun _ _ _ h => h) (Or.inl ⟨rfl, ?h47⟩) hHeld ?r47
      case h47 => intro wq hSw; (try dsimp only at hSw); go_simp; all_goals (with_reducible rfl)
      try simp only [Act.put, List.setIfInBounds_toArray, List.set_cons_zero, List.set_cons_succ]
      refine take_at 24 (some 67) (v := ?v48) rfl rfl (by kernel_rfl) (by kernel_rfl) (by kernel_rfl) (fun _ _ _ h => h) (Or.inl ⟨rfl, ?h48⟩) hHeld ?r48
      case h48 => intro wq hSw; (try dsimp only at hSw); go_simp; all_goals (with_reducible rfl)
      try simp only [Act.put, List.setIfInBounds_toArray, List.set_cons_zero, List.set_cons_succ]
      refine take_at 25 (some 68) (v := undef) rfl rfl (by kernel_rfl) (by kernel_rfl) (by kernel_rfl) (fun _ _ _ h => h) (Or.inr ⟨rfl, rfl⟩) hHeld ?_
      try simp only [Act.put, List.setIfInBounds_toArray, List.set_cons_zero, List.set_cons_succ]
      refine take_at 26 (some 69) (v := undef) rfl rfl (by kernel_rfl) (by kernel_rfl) (by kernel_rfl) (fun _ _ _ h => h) (Or.inr ⟨rfl, rfl⟩) hHeld ?_
      try simp only [Act.put, List.setIfInBounds_toArray, List.set_cons_zero, List.set_cons_succ]
      refine take_at 27 (some 70) (v := undef) rfl rfl (by kernel_rfl) (by kernel_rfl) (by kernel_rfl) (fun _ _ _ h => h) (Or.inr ⟨rfl, rfl⟩) hHeld ?_
      try simp only [Act.put, List.setIfInBounds_toArray, List.set_cons_zero, List.set_cons_succ]
      refine take_at 28 (some 71) (v := ?v49) rfl rfl (by kernel_rfl) (by kernel_rfl) (by kernel_rfl) (fun _ _ _ h => h) (Or.inl ⟨rfl, ?h49⟩) hHeld ?r49
      case h49 => intro wq hSw; (try dsimp only at hSw); go_simp; all_goals (with_reducible rfl)
      try simp only [Act.put, List.setIfInBounds_toArray, List.set_cons_zero, List.set_cons_succ]
      refine take_at 29 (some 72) (v := ?v50) rfl rfl (by kernel_rfl) (by kernel_rfl) (by kernel_rfl) (fun _ _ _ h => h) (Or.inl ⟨rfl, ?h50⟩) hHeld ?r50
      case h50 => intro wq hSw; (try dsimp only at hSw); go_simp; all_goals (with_reducible rfl)
      try simp only [Act.put, List.setIfInBounds_toArray, List.set_cons_zero, List.set_cons_succ]
      refine take_at 30 (some 73) (v := undef) rfl rfl (by kernel_rfl) (by kernel_rfl) (by kernel_rfl) (fun _ _ _ h => h) (Or.inr ⟨rfl, rfl⟩) hHeld ?_
      try simp only [Act.put, List.setIfInBounds_toArray, List.set_cons_zero, List.set_cons_succ]
      refine take_at 31 (some 74) (v := undef) rfl rfl (by kernel_rfl) (by kernel_rfl) (by kernel_rfl) (fun _ _ _ h => h) (Or.inr ⟨rfl, rfl⟩) hHeld ?_
      try simp only [Act.put, List.setIfInBounds_toArray, List.set_cons_zero, List.set_cons_succ]
      refine take_at 32 (some 75) (v := undef) rfl rfl (by kernel_rfl) (by kernel_rfl) (by kernel_rfl) (fun _ _ _ h => h) (Or.inr ⟨rfl, rfl⟩) hHeld ?_
      try simp only [Act.put, List.setIfInBounds_toArray, List.set_cons_zero, List.set_cons_succ]
      refine take_at 33 (some 76) (v := undef) rfl rfl (by kernel_rfl) (by kernel_rfl) (by kernel_rfl) (fun _ _ _ h => h) (Or.inr ⟨rfl, rfl⟩) hHeld ?_
      try simp only [Act.put, List.setIfInBounds_toArray, List.set_cons_zero, List.set_cons_succ]
      refine take_at 34 (some 77) (v := ?v51) rfl rfl (by kernel_rfl) (by kernel_rfl) (by kernel_rfl) (fun _ _ _ h => h) (Or.inl ⟨rfl, ?h51⟩) hHeld ?r51
      case h51 => intro wq hSw; (try dsimp only at hSw); go_simp; all_goals (with_reducible rfl)
      try simp only [Act.put, List.setIfInBounds_toArray, List.set_cons_zero, List.set_cons_succ]
      refine wpAnyH_done (by kernel_rfl) ?_ _
      go_wp2_with fail
      go_meet
      case rel => exact R8.yes hb
  case rest =>
    obtain ⟨bo, rfl, hgo, hb⟩ := hcut
    cases bo with
    | true =>
      clear hgo
      go_upto_region 9 with fail
      go_cut [4] (fun s x => s = .bool true ∧ Below W5.heap.size W5 x)
      case first => as_aux_lemma =>
        go_region_held3 (fun x => x.cell? ⟨D1, 0, none⟩ = some (.slice b1 s1.length c1) ∧ x.cell? ⟨D1, 1, none⟩ = some (.slice b1' p1.length c1') ∧ x.cell? ⟨E1, 0, none⟩ = some (.slice f1 A1.ss.length d1) ∧ x.cell? ⟨E1, 1, none⟩ = some (.slice f1' A1.ps.length d1') ∧ x.cell? ⟨E1, 2, none⟩ = some (.string A1.t) ∧ x.cell? ⟨E1, 3, none⟩ = some (.int .i64 A1.g) ∧ x.cell? ⟨E1, 4, none⟩ = some (.int .i64 A1.k) ∧ x.cell? ⟨E2, 0, none⟩ = some (.slice f2 A2.ss.length d2) ∧ x.cell? ⟨E2, 1, none⟩ = some (.slice f2' A2.ps.length d2') ∧ x.cell? ⟨E2, 2, none⟩ = some (.string A2.t) ∧ x.cell? ⟨E2, 3, none⟩ = some (.int .i64 A2.g) ∧ x.cell? ⟨E2, 4, none⟩ = some (.int .i64 A2.k) ∧ x.cell? ⟨E3, 0, none⟩ = some (.slice f3 A3.ss.length d3) ∧ x.cell? ⟨E3, 1, none⟩ = some (.slice f3' A3.ps.length d3') ∧ x.cell? ⟨E3, 2, none⟩ = some (.string A3.t) ∧ x.cell? ⟨E3, 3, none⟩ = some (.int .i64 A3.g) ∧ x.cell? ⟨E3, 4, none⟩ = some (.int .i64 A3.k))
          (first
            | with_reducible exact KF.out _ hb
            | with_reducible exact KF.out _ hb.drew)
          (first
            | (go_at_call 14
               with_reducible refine (C1.out _ (by first | exact hb | exact hb.drew)).mono ?_
               rintro e x ⟨g1, e1, g1', e1', rfl, r1, t1, hb⟩)
            | (go_at_call 19
               with_reducible refine (L1.out _ _ _ _ _ hb r1 t1).mono ?_
               rintro e x ⟨rfl, hb⟩)
            | (go_at_call 14
               with_reducible refine (C2.out _ hb).mono ?_
               rintro e x ⟨g1, e1, g1', e1', rfl, r1, t1, hb⟩))
        go_wp2_with fail
        go_meet
        case rel => exact ⟨rfl, hb⟩
      case rest =>
        clear hb
        obtain ⟨rfl, hb⟩ := hcut
        go_wp2
        go_ret
        exact ⟨rfl, bel2 B5 hb⟩
    | false =>
      obtain ⟨hk2, hk3, hpn⟩ := hgo rfl
      subst hpn
      have hR2 : rightB A2.ss A2.ps = true := by rw [← HA2.out]; exact F0.put_right (by rw [HA2.out]; exact hk2)
      have hR3 : rightB A3.ss A3.ps = true := by rw [← HA3.out]; exact F0.put_right (by rw [HA3.out]; exact hk3)
      obtain ⟨s4, p4, ta, ga, hcr, hR4, hra, hor⟩ := torn2 (ss := s1) (t := t) (n := z) (keep := kp) (by rw [HA2.out]; exact hk2) (by rw [HA3.out]; exact hk3) (by omega)
      obtain ⟨hcr3, hra3⟩ := torn3 (ss := s1) (t := t) (keep := kp) (by rw [HA3.out]; exact hk3) (by omega)
      obtain ⟨hg1, hg2⟩ := gen_ok (ss := s1) (ps := []) (t := t) (n := 1000) (by rw [HA3.out]; exact hk3)
      rw [HA2.out] at hcr
      rw [HA3.out] at hcr3 hra3
      rw [HA1.out] at hra3 hor hg1 hg2
      clear hgo hk2 hk3 C1 C2 L1
      obtain ⟨-, -, -, -, i2, i3, -, x0, x1, -, -, -, y0, y1, -⟩ := KF.out _ hb
      have CX : Calls Tryz.prog 20 #[.agg #[.slice f2 A2.ss.length d2, .slice f2' A2.ps.length d2'], .slice fk kp.length dk] wc fun e w' => DRes W5 s4 p4 e w' :=
        dres_of (c' := (s4, p4)) hcr hb (TD.crash_impl _ _ _ A2.ss A2.ps kp wc (OY2.below hb).hs (OY2.below hb).hp (KX.below hb) fit2.1 fit2.2 (len_of hR2).1 (len_of hR2).2)
      go_wp2_with fail
      refine CX.mono ?_
      clear CX
      rintro e x6 ⟨h4, j4, h4', j4', rfl, r4, q4, hb⟩
      go_wp2_with fail
      have cw := V6.read_impl a1 a3 a5 a9 _ _ s4 p4 x6 ((hS.below B5).below hb) r4 q4 (small_sizes hR4).1 (small_sizes hR4).2
      rw [hra] at cw
      refine cw.mono ?_
      clear cw
      rintro e w6 ⟨f4, d4, f4', d4', rfl, uu, hbx⟩
      dsimp only at uu ⊢
      have hba := albel w6 (.cells #[.slice f4 s4.length d4, .slice f4' p4.length d4', .string ta, .int .i64 ga, .int .i64 0] 31)
      have L4 : (w6.alloc (.cells #[.slice f4 s4.length d4, .slice f4' p4.length d4', .string ta, .int .i64 ga, .int .i64 0] 31)).heap[w6.heap.size]? = some (.cells #[.slice f4 s4.length d4, .slice f4' p4.length d4', .string ta, .int .i64 ga, .int .i64 0] 31) := heap_alloc_new _ _
      have hb6 := bel2 (bel2 hb hbx) hba
      clear uu hbx hba r4 q4 hb
      obtain ⟨-, -, -, -, -, -, -, -, -, -, -, -, y0, y1, -⟩ := KF.out _ hb6
      go_wp2_with fail
      obtain ⟨W6, hW6⟩ : ∃ W, w6.alloc (.cells #[.slice f4 s4.length d4, .slice f4' p4.length d4', .string ta, .int .i64 ga, .int .i64 0] 31) = W := ⟨_, rfl⟩
      rw [hW6] at L4 hb6 ⊢
      clear hW6 y0 y1
      generalize w6.heap.size = E4 at *
      have CY : Calls Tryz.prog 20 #[.agg #[.slice f3 A3.ss.length d3, .slice f3' A3.ps.length d3'], .slice fk kp.length dk] W6 fun e w' => DRes W6 A3.ss A3.ps e w' :=
        dres_of (c' := (A3.ss, A3.ps)) hcr3 (Below.refl _ _) (TD.crash_impl _ _ _ A3.ss A3.ps kp W6 (OY3.below hb6).hs (OY3.below hb6).hp (KX.below hb6) fit3.1 fit3.2 (len_of hR3).1 (len_of hR3).2)
      refine CY.mono ?_
      clear CY
      rintro e x7 ⟨h5, j5, h5', j5', rfl, r5, q5, hb⟩
      go_wp2_with fail
      have cw := V6.read_impl a1 a3 a5 a9 _ _ A3.ss A3.ps x7 ((hS.below B5).below (bel2 hb6 hb)) r5 q5 fit3.1 fit3.2
      rw [hra3] at cw
      refine cw.mono ?_
      clear cw
      rintro e w7 ⟨f5, d5, f5', d5', rfl, uu, hbx⟩
      dsimp only at uu ⊢
      have hba := albel w7 (.cells #[.slice f5 A3.ss.length d5, .slice f5' A3.ps.length d5', .string t, .int .i64 (A1.g + 1), .int .i64 0] 31)
      have hb7 := bel2 (bel2 hb hbx) hba
      have L4 := carry L4 hb7
      have L5 : (w7.alloc (.cells #[.slice f5 A3.ss.length d5, .slice f5' A3.ps.length d5', .string t, .int .i64 (A1.g + 1), .int .i64 0] 31)).heap[w7.heap.size]? = some (.cells #[.slice f5 A3.ss.length d5, .slice f5' A3.ps.length d5', .string t, .int .i64 (A1.g + 1), .int .i64 0] 31) := heap_alloc_new _ _
      have hb8 := bel2 hb6 hb7
      clear uu hbx hba r5 q5 hb hb7 hb6
      obtain ⟨-, -, -, -, i2, i3, -⟩ := KF.out _ hb8
      obtain ⟨l0, l1, l2, l3, l4, -, -⟩ := U4.blk5 L4
      obtain ⟨m0, m1', m2, m3, m4, -, -⟩ := U4.blk5 L5
      have hwg := wrap_gen hg1 hg2
      have hnn := next_no A1.g
      have HB : Hid (Below W5.heap.size W5 (w7.alloc (.cells #[.slice f5 A3.ss.length d5, .slice f5' A3.ps.length d5', .string t, .int .i64 (A1.g + 1), .int .i64 0] 31))) := hb8
      clear hra hra3 hcr hcr3 hb8 L4 L5
      rcases hor with ⟨e1, e2⟩ | ⟨e1, e2⟩
      · subst e1 e2
        go_wp2
        go_ret
        exact ⟨rfl, bel2 B5 HB.out⟩
      · subst e1 e2
        cases hq : (ta.toList == A1.t.toList)
        · go_wp2
          go_ret
          exact ⟨rfl, bel2 B5 HB.out⟩
        · go_wp2
          go_ret
          exact ⟨rfl, bel2 B5 HB.out⟩
end Go.Proofs.YtfiabbfdnmldjaaGreatDoor.YTorn
