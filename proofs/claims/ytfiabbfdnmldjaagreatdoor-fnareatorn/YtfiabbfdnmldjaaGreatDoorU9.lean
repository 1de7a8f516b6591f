/-
  The specification's reading of a head.
-/
import Derived.Test.YtfiabbfdnmldjaaGreatDoorPL
import Derived.Test.YtfiabbfdnmldjaaGreatDoorPJ
import Derived.Test.YtfiabbfdnmldjaaGreatDoorPD
import Derived.Test.YtfiabbfdnmldjaaGreatDoorPE
import Derived.Deep.RegionHeld3
import Derived.BigQuiet
import Derived.Deep.QuietTactic
namespace Go.Proofs.YtfiabbfdnmldjaaGreatDoor.U9
open Go.RowKit
open Go.Proofs.YtfiabbfdnmldjaaGreatDoor.C0 Go.Proofs.YtfiabbfdnmldjaaGreatDoor.C6 Go.Proofs.YtfiabbfdnmldjaaGreatDoor.C7 Go.Proofs.YtfiabbfdnmldjaaGreatDoor.CH Go.Proofs.YtfiabbfdnmldjaaGreatDoor.S0 Go.Proofs.YtfiabbfdnmldjaaGreatDoor.S1 Go.Proofs.YtfiabbfdnmldjaaGreatDoor.S3 Go.Proofs.YtfiabbfdnmldjaaGreatDoor.O1 Go.Proofs.YtfiabbfdnmldjaaGreatDoor.T0 Go.Proofs.YtfiabbfdnmldjaaGreatDoor.T4 Go.Proofs.YtfiabbfdnmldjaaGreatDoor.T5 Go.Proofs.YtfiabbfdnmldjaaGreatDoor.U0 Go.Proofs.YtfiabbfdnmldjaaGreatDoor.U2 Go.Proofs.YtfiabbfdnmldjaaGreatDoor.U8
open Go.Proofs.YtfiabbfdnmldjaaGreatDoor.Dk (Out rightB right_iff readOf readR)
theorem nOf_ok (t : ByteArray) (a : Nat) : ok64 (nOf (rr t a)) := by
  unfold nOf
  split
  · rename_i h
    have g : rr t a = ((rr t a).1, (rr t a).2.1, 0) := by rw [← h]
    obtain ⟨-, -, -, h1, h2⟩ := Mn.get_inv g
    exact ⟨h1, h2⟩
  · exact ⟨by omega, by omega⟩
theorem aOf_le (t : ByteArray) (a : Nat) : aOf (rr t a) ≤ t.size := by
  unfold aOf
  split
  · rename_i h
    have g : rr t a = ((rr t a).1, (rr t a).2.1, 0) := by rw [← h]
    obtain ⟨-, -, h3, -, -⟩ := Mn.get_inv g
    exact h3
  · omega
theorem num_at (t : ByteArray) (a : Nat) (h : t.size ≤ 8000) : numOf t (a : Int) = .agg #[.int .i64 (nOf (rr t a)), .int .i64 (aOf (rr t a)), .int .i64 ((rr t a).2.2 : Nat)] := by
  rw [numOf_nat (by omega), outV_eq]; rfl
theorem body_size (x : ByteArray) : (body x).size ≤ x.size := by
  unfold body; rw [ByteArray.size_extract]; omega
def seenV (S : Int × Int × Int × Int) : Value := .tuple #[.int .i64 S.1, .int .i64 S.2.1, .int .i64 S.2.2.1, .int .i64 S.2.2.2]
theorem seen_no {x : ByteArray} {room : Nat} (h : ¬ codeU x = 0) : seenR x room = (0, 0, 0, codeU x) := by unfold seenR; rw [if_neg h]
theorem seen_bad {x : ByteArray} {room : Nat} (h : codeU x = 0) (h2 : ¬ HeadOk x room) : seenR x room = (0, 0, 0, 3) := by unfold seenR; rw [if_pos h, if_neg h2]
theorem seen_yes {x : ByteArray} {room : Nat} (h : codeU x = 0) (h2 : HeadOk x room) : seenR x room = (nOf (R1 (body x)), nOf (R2 (body x)), nOf (R3 (body x)), 0) := by unfold seenR; rw [if_pos h, if_pos h2]
theorem keepH {W w' : World} {D G E Z : Nat} {vs vp g0 g1 g2 e0 e1 e2 z0 z1 z2 : Value} {T U : TypeId} (kD : W.heap[D]? = some (.cells #[vs, vp] T)) (kG : W.heap[G]? = some (.cells #[g0, g1, g2] U)) (kE : W.heap[E]? = some (.cells #[e0, e1, e2] U)) (kZ : W.heap[Z]? = some (.cells #[z0, z1, z2] U)) (h : Below W.heap.size W w') :
    w'.cell? ⟨D, 0, none⟩ = some vs ∧ w'.cell? ⟨D, 1, none⟩ = some vp ∧ w'.cell? ⟨G, 0, none⟩ = some g0 ∧ w'.cell? ⟨G, 2, none⟩ = some g2 ∧ w'.cell? ⟨E, 0, none⟩ = some e0 ∧ w'.cell? ⟨E, 2, none⟩ = some e2 ∧ w'.cell? ⟨Z, 0, none⟩ = some z0 ∧ w'.cell? ⟨Z, 2, none⟩ = some z2 :=
  ⟨(blk2 (carry kD h)).1, (blk2 (carry kD h)).2.1, (blk3 (carry kG h)).1, (blk3 (carry kG h)).2.2.1, (blk3 (carry kE h)).1, (blk3 (carry kE h)).2.2.1, (blk3 (carry kZ h)).1, (blk3 (carry kZ h)).2.2.1⟩
theorem field_data (a b c d : Value) (w : World) : (Instr.field 72 (.agg #[a, b, c, d]) 1).run Tryz.prog w = .ok c w := by kernel_rfl
theorem code_of (t : ByteArray) (a : Nat) : ∀ (f i u : Nat), (Mg.getFrom t a f i u).2.2 = 0 ∨ (Mg.getFrom t a f i u).2.2 = 3 ∨ (Mg.getFrom t a f i u).2.2 = 4
  | 0, _, _ => .inr (.inl rfl)
  | f + 1, i, u => by
    unfold Mg.getFrom
    split
    · split
      · exact .inr (.inl rfl)
      · split
        · split
          · exact .inr (.inl rfl)
          · exact .inl rfl
        · exact code_of t a f (i + 1) _
    · exact .inr (.inr rfl)
theorem wrap_half (n : Nat) (h : n ≤ 31) : IntKind.i64.wrap (64 * (n : Int)) = 64 * (n : Int) := by
  rw [IntKind.wrap_i64]; omega
/-- One operation of a region is taken ahead of the others: what it leaves lies in slot d. -/
theorem take_at {P : Program} {ops : Array Oper} {Q : Exit → Act → World → Prop} {md : Region.Mode} {S : World → Prop} (i : Nat) (d : Option Tmp) {oi : Oper} {v : Value} {fuel : Nat} {listed : Array Bool} {a : Act} {w : World} (hi : ops[i]? = some oi) (hd : oi.dst = d)
    (hs : Region.noSelect ops = true) (hf : Region.free md ops listed i = true) (hr : (Region.ready md ops listed).contains i = true)
    (hQ : ∀ c a w, Q (.panic c) (a.put d v) w → Q (.panic c) a w) (hy : YieldsIf P ops S oi v a) (hS : S w)
    (h : wpAnyH P md ops Q S fuel (listed.setIfInBounds i true) (a.put d v) w) : wpAnyH P md ops Q S (fuel + 1) listed a w := by
  subst hd
  exact wpAnyH_take hi hs hf hr hQ hy hS h
def RH (P : Prop) (W : World) (s : Value) (x : World) : Prop := ∃ b : Bool, s = .bool b ∧ (b = true → ¬ P) ∧ (b = false → P) ∧ Below W.heap.size W x
theorem RH.no {P : Prop} {W x : World} (h : ¬ P) (hb : Below W.heap.size W x) : RH P W (.bool true) x := ⟨true, rfl, fun _ => h, fun e => Bool.noConfusion e, hb⟩
theorem RH.yes {P : Prop} {W x : World} (h : P) (hb : Below W.heap.size W x) : RH P W (.bool false) x := ⟨false, rfl, fun e => Bool.noConfusion e, fun _ => h, hb⟩
theorem list_beq (a b : ByteArray) : (a.toList == b.toList) = true ↔ a = b := by
  rw [beq_iff_eq, ByteArray.toList_eq, ByteArray.toList_eq]
  exact ⟨ba_ext, fun h => by rw [h]⟩
set_option maxRecDepth 100000 in
set_option maxHeartbeats 6400000 in
theorem seen_spec (vs vp : Value) (ss : List ByteArray) (ps : List Pend) (w : World) (hs : Strs w vs ss) (hp : Pends w vp ps) (hR : rightB ss ps = true) :
    Calls Tryz.prog 41 #[.agg #[vs, vp]] w fun e w' => e = .returned (seenV (seenR (zeroth ss ps) (halfN ss.length * 64))) ∧ Below w.heap.size w w' := by
  obtain ⟨n1, n2, n3, n4, n5⟩ := (right_iff ss ps).1 hR
  have hz : ∀ s ∈ ss, s.size ≤ maxLen := fun s h => by have := n4 s h; unfold maxLen; omega
  have hzp : ∀ p ∈ ps, p.2.size ≤ maxLen := fun p h => by have := (n5 p h).2.2; unfold maxLen; omega
  have hX := zeroth_size hR
  have hread : ∀ W, Strs W vs ss → Pends W vp ps → Calls Tryz.prog 42 #[.agg #[vs, vp], .int .i64 0] W fun e w' => OTold W ss ps (zeroth ss ps) 0 e w' := fun W h1 h2 => by
    have := T5.read_spec vs vp ss ps 0 W h1 h2 hz hzp (by omega) (by omega)
    rw [zeroth_read hR] at this
    exact this
  obtain ⟨sa, sc, rfl⟩ : ∃ a c, vs = .slice a ss.length c := hs.len
  generalize zeroth ss ps = X at *
  have hun := opened_eq X
  have HN0 : Hid (¬ codeU X = 0 → seenR X (halfN ss.length * 64) = (0, 0, 0, codeU X)) := fun h => seen_no h
  have HB0 : Hid (codeU X = 0 → ¬ HeadOk X (halfN ss.length * 64) → seenR X (halfN ss.length * 64) = (0, 0, 0, 3)) := fun h h2 => seen_bad h h2
  have HY0 : Hid (codeU X = 0 → HeadOk X (halfN ss.length * 64) → seenR X (halfN ss.length * 64) = (nOf (R1 (body X)), nOf (R2 (body X)), nOf (R3 (body X)), 0)) := fun h h2 => seen_yes h h2
  generalize seenR X (halfN ss.length * 64) = SR at HN0 HB0 HY0 ⊢
  have hfd := field_data
  have hh31 := half_le _ n2
  have hwr := wrap_half _ hh31
  have b0 := albel w (.cells #[.slice sa ss.length sc, vp] 26)
  have k0 := heap_alloc_new w (.cells #[.slice sa ss.length sc, vp] 26)
  go_enter Tryz.func41, Tryz.ntmps41
  go_wp2_with fail
  refine (hread _ (hs.below b0) (hp.below b0)).mono ?_
  rintro e w1 ⟨fa, fm, fa', fm', rfl, -, hb1⟩
  have B1 := bel2 b0 hb1
  have k1 := carry k0 hb1
  clear k0 b0 hb1
  go_wp2_with fail
  refine (C7.spec_any X _ (by unfold maxLen; omega)).mono ?_
  rintro e w2 ⟨rfl, hb2⟩
  have B2 := bel2 B1 hb2
  have k2 := carry k1 hb2
  clear k1 B1 hb2
  rw [hun]
  unfold out
  by_cases hc : codeU X = 0
  case neg =>
    have hc' : (codeU X == 0) = false := by simpa using hc
    have HR : Hid (SR = (0, 0, 0, codeU X)) := HN0.out hc
    clear HN0 HB0 HY0
    clear hc hun
    generalize codeU X = cu at *
    go_wp2
    go_quiet (fail)
    go_wp2
    exact bodyPost_ret (v := .tuple #[.int .i64 0, .int .i64 0, .int .i64 0, .int .i64 cu]) (by simp [results, Tryz.results41, go_sem]) rfl ⟨by rw [HR.out]; rfl, drewN_below (bel2 B2 (albel _ _)) _⟩
  have htx : textU X = body X := by unfold textU; rw [if_pos hc]
  rw [htx, hc]
  have hbs : (body X).size ≤ 64 := Nat.le_trans (body_size X) hX
  have o1 := nOf_ok (body X) 0
  have o2 := nOf_ok (body X) (aOf (R1 (body X)))
  have o3 := nOf_ok (body X) (aOf (R2 (body X)))
  have l1 := aOf_le (body X) 0
  have l2 := aOf_le (body X) (aOf (R1 (body X)))
  have E1 := num_at (body X) 0 (by omega)
  have E2 := num_at (body X) (aOf (R1 (body X))) (by omega)
  have E3 := num_at (body X) (aOf (R2 (body X))) (by omega)
  have HB : Hid (¬ HeadOk X (halfN ss.length * 64) → SR = (0, 0, 0, 3)) := HB0.out hc
  have HY : Hid (HeadOk X (halfN ss.length * 64) → SR = (nOf (R1 (body X)), nOf (R2 (body X)), nOf (R3 (body X)), 0)) := HY0.out hc
  clear HN0 HB0 HY0
  have HO : Hid (HeadOk X (halfN ss.length * 64) ↔ (R1 (body X)).2.2 = 0 ∧ (R2 (body X)).2.2 = 0 ∧ (R3 (body X)).2.2 = 0 ∧ headB (nOf (R1 (body X))) (nOf (R2 (body X))) (nOf (R3 (body X))) = X ∧ 0 ≤ nOf (R1 (body X)) ∧ (0 ≤ nOf (R2 (body X)) ∧ nOf (R2 (body X)) ≤ 1) ∧ 0 ≤ nOf (R3 (body X)) ∧ nOf (R3 (body X)) ≤ (halfN ss.length * 64 : Nat)) := Iff.rfl
  have v1 := code_of (body X) 0 10 0 0
  have v2 := code_of (body X) (aOf (R1 (body X))) 10 0 0
  have v3 := code_of (body X) (aOf (R2 (body X))) 10 0 0
  generalize HeadOk X (halfN ss.length * 64) = OKP at *
  clear hun htx hc hX
  generalize (R3 (body X)).2.2 = c3 at *
  generalize nOf (R3 (body X)) = m3 at *
  generalize aOf (R3 (body X)) = p3 at *
  generalize (R2 (body X)).2.2 = c2 at *
  generalize nOf (R2 (body X)) = m2 at *
  generalize aOf (R2 (body X)) = p2 at *
  generalize (R1 (body X)).2.2 = c1 at *
  generalize nOf (R1 (body X)) = m1 at *
  generalize aOf (R1 (body X)) = p1 at *
  generalize body X = t at *
  have k3 := carryA k2 (.cells #[.string t, .int .i64 0, .int .i64 0] 101)
  have kt := heap_alloc_new w2 (.cells #[.string t, .int .i64 0, .int .i64 0] 101)
  have B3 := bel2 B2 (albel w2 (.cells #[.string t, .int .i64 0, .int .i64 0] 101))
  clear k2 B2
  go_wp2_with fail
  refine (CI.get_spec t 0 _ (by unfold maxLen; omega) (by omega) (by omega)).mono ?_
  rintro e w4 ⟨rfl, hb4⟩
  have E1' : numOf t 0 = .agg #[.int .i64 m1, .int .i64 p1, .int .i64 (c1 : Nat)] := E1
  rw [E1']
  have k4 := carryA (carry k3 hb4) (.cells #[.int .i64 m1, .int .i64 p1, .int .i64 (c1 : Nat)] 119)
  have kt4 := carryA (carry kt hb4) (.cells #[.int .i64 m1, .int .i64 p1, .int .i64 (c1 : Nat)] 119)
  have kG := heap_alloc_new w4 (.cells #[.int .i64 m1, .int .i64 p1, .int .i64 (c1 : Nat)] 119)
  have B4 := bel2 (bel2 B3 hb4) (albel w4 (.cells #[.int .i64 m1, .int .i64 p1, .int .i64 (c1 : Nat)] 119))
  obtain ⟨s0, s1, s2, -, -⟩ := blk3 (carry kt hb4)
  have s9 := lt_some (carry kt hb4)
  clear k3 kt B3 hb4 E1 E1'
  go_wp2_with fail
  refine (CI.get_spec t p1 _ (by unfold maxLen; omega) (by omega) (by omega)).mono ?_
  rintro e w5 ⟨rfl, hb5⟩
  rw [E2]
  have k5 := carryA (carry k4 hb5) (.cells #[.int .i64 m2, .int .i64 p2, .int .i64 (c2 : Nat)] 119)
  have kt5 := carryA (carry kt4 hb5) (.cells #[.int .i64 m2, .int .i64 p2, .int .i64 (c2 : Nat)] 119)
  have kG5 := carryA (carry kG hb5) (.cells #[.int .i64 m2, .int .i64 p2, .int .i64 (c2 : Nat)] 119)
  have kE := heap_alloc_new w5 (.cells #[.int .i64 m2, .int .i64 p2, .int .i64 (c2 : Nat)] 119)
  have B5 := bel2 (bel2 B4 hb5) (albel w5 (.cells #[.int .i64 m2, .int .i64 p2, .int .i64 (c2 : Nat)] 119))
  clear s0 s1 s2 s9
  obtain ⟨s0, s1, s2, -, s9⟩ := blk3 (carry kt4 hb5)
  clear k4 kt4 kG B4 hb5 E2
  go_wp2_with fail
  refine (CI.get_spec t p2 _ (by unfold maxLen; omega) (by omega) (by omega)).mono ?_
  rintro e w6 ⟨rfl, hb6⟩
  rw [E3]
  have k6 := carryA (carry k5 hb6) (.cells #[.int .i64 m3, .int .i64 p3, .int .i64 (c3 : Nat)] 119)
  have kG6 := carryA (carry kG5 hb6) (.cells #[.int .i64 m3, .int .i64 p3, .int .i64 (c3 : Nat)] 119)
  have kE6 := carryA (carry kE hb6) (.cells #[.int .i64 m3, .int .i64 p3, .int .i64 (c3 : Nat)] 119)
  have kZ := heap_alloc_new w6 (.cells #[.int .i64 m3, .int .i64 p3, .int .i64 (c3 : Nat)] 119)
  have B6 := bel2 (bel2 B5 hb6) (albel w6 (.cells #[.int .i64 m3, .int .i64 p3, .int .i64 (c3 : Nat)] 119))
  clear s0 s1 s2 s9 k5 kt5 kG5 kE B5 hb6 E3
  go_wp2_with fail
  obtain ⟨W, hW⟩ : ∃ W, w6.alloc (.cells #[.int .i64 m3, .int .i64 p3, .int .i64 (c3 : Nat)] 119) = W := ⟨_, rfl⟩
  rw [hW] at k6 kG6 kE6 kZ B6 ⊢
  clear hW
  go_cut [77] (fun s x => RH OKP W s x)
  case first =>
    obtain ⟨u0, u1, -, -⟩ := blk2 k6
    rcases v1.symm with v1 | rfl
    · rcases v1 with rfl | rfl
      · have HN : Hid (¬ OKP) := fun h => absurd (HO.out.1 h).1 (by decide)
        have kG6 : W.heap[w4.heap.size]? = some (.cells #[.int .i64 m1, .int .i64 (p1 : Nat), .int .i64 3] 119) := kG6
        obtain ⟨g0, g1, g2, -, -⟩ := blk3 kG6
        obtain ⟨e0, e1, e2, -, -⟩ := blk3 kE6
        obtain ⟨z0, z1, z2, -, -⟩ := blk3 kZ
        go_quiet (fail)
        go_wp2_with fail
        go_meet
        case rel => exact RH.no HN.out (drewN_below (Below.refl _ _) _)
      · have HN : Hid (¬ OKP) := fun h => absurd (HO.out.1 h).1 (by decide)
        have kG6 : W.heap[w4.heap.size]? = some (.cells #[.int .i64 m1, .int .i64 (p1 : Nat), .int .i64 4] 119) := kG6
        obtain ⟨g0, g1, g2, -, -⟩ := blk3 kG6
        obtain ⟨e0, e1, e2, -, -⟩ := blk3 kE6
        obtain ⟨z0, z1, z2, -, -⟩ := blk3 kZ
        go_quiet (fail)
        go_wp2_with fail
        go_meet
        case rel => exact RH.no HN.out (drewN_below (Below.refl _ _) _)
    have kG6 : W.heap[w4.heap.size]? = some (.cells #[.int .i64 m1, .int .i64 (p1 : Nat), .int .i64 0] 119) := kG6
    rcases v2.symm with v2 | rfl
    · rcases v2 with rfl | rfl
      · have HN : Hid (¬ OKP) := fun h => absurd (HO.out.1 h).2.1 (by decide)
        have kE6 : W.heap[w5.heap.size]? = some (.cells #[.int .i64 m2, .int .i64 (p2 : Nat), .int .i64 3] 119) := kE6
        obtain ⟨g0, g1, g2, -, -⟩ := blk3 kG6
        obtain ⟨e0, e1, e2, -, -⟩ := blk3 kE6
        obtain ⟨z0, z1, z2, -, -⟩ := blk3 kZ
        go_quiet (fail)
        go_wp2_with fail
        go_meet
        case rel => exact RH.no HN.out (drewN_below (Below.refl _ _) _)
      · have HN : Hid (¬ OKP) := fun h => absurd (HO.out.1 h).2.1 (by decide)
        have kE6 : W.heap[w5.heap.size]? = some (.cells #[.int .i64 m2, .int .i64 (p2 : Nat), .int .i64 4] 119) := kE6
        obtain ⟨g0, g1, g2, -, -⟩ := blk3 kG6
        obtain ⟨e0, e1, e2, -, -⟩ := blk3 kE6
        obtain ⟨z0, z1, z2, -, -⟩ := blk3 kZ
        go_quiet (fail)
        go_wp2_with fail
        go_meet
        case rel => exact RH.no HN.out (drewN_below (Below.refl _ _) _)
    have kE6 : W.heap[w5.heap.size]? = some (.cells #[.int .i64 m2, .int .i64 (p2 : Nat), .int .i64 0] 119) := kE6
    rcases v3.symm with v3 | rfl
    · rcases v3 with rfl | rfl
      · have HN : Hid (¬ OKP) := fun h => absurd (HO.out.1 h).2.2.1 (by decide)
        have kZ : W.heap[w6.heap.size]? = some (.cells #[.int .i64 m3, .int .i64 (p3 : Nat), .int .i64 3] 119) := kZ
        obtain ⟨g0, g1, g2, -, -⟩ := blk3 kG6
        obtain ⟨e0, e1, e2, -, -⟩ := blk3 kE6
        obtain ⟨z0, z1, z2, -, -⟩ := blk3 kZ
        go_quiet (fail)
        go_wp2_with fail
        go_meet
        case rel => exact RH.no HN.out (drewN_below (Below.refl _ _) _)
      · have HN : Hid (¬ OKP) := fun h => absurd (HO.out.1 h).2.2.1 (by decide)
        have kZ : W.heap[w6.heap.size]? = some (.cells #[.int .i64 m3, .int .i64 (p3 : Nat), .int .i64 4] 119) := kZ
        obtain ⟨g0, g1, g2, -, -⟩ := blk3 kG6
        obtain ⟨e0, e1, e2, -, -⟩ := blk3 kE6
        obtain ⟨z0, z1, z2, -, -⟩ := blk3 kZ
        go_quiet (fail)
        go_wp2_with fail
        go_meet
        case rel => exact RH.no HN.out (drewN_below (Below.refl _ _) _)
    have kZ : W.heap[w6.heap.size]? = some (.cells #[.int .i64 m3, .int .i64 (p3 : Nat), .int .i64 0] 119) := kZ
    obtain ⟨g0, g1, g2, -, -⟩ := blk3 kG6
    obtain ⟨e0, e1, e2, -, -⟩ := blk3 kE6
    obtain ⟨z0, z1, z2, -, -⟩ := blk3 kZ
    cases hq : ((headB m1 m2 m3).toList == X.toList)
    · have HN : Hid (¬ OKP) := fun h => by have := (list_beq _ _).2 (HO.out.1 h).2.2.2.1; rw [hq] at this; cases this
      refine wp_region_held_drew (S := (fun w' => w'.cell? ⟨w.heap.size, 0, none⟩ = some (.slice sa ss.length sc) ∧ w'.cell? ⟨w.heap.size, 1, none⟩ = some vp ∧ w'.cell? ⟨w4.heap.size, 0, none⟩ = some (.int .i64 m1) ∧ w'.cell? ⟨w4.heap.size, 2, none⟩ = some (.int .i64 0) ∧ w'.cell? ⟨w5.heap.size, 0, none⟩ = some (.int .i64 m2) ∧ w'.cell? ⟨w5.heap.size, 2, none⟩ = some (.int .i64 0) ∧ w'.cell? ⟨w6.heap.size, 0, none⟩ = some (.int .i64 m3) ∧ w'.cell? ⟨w6.heap.size, 2, none⟩ = some (.int .i64 0))) (by kernel_rfl) (keepH k6 kG6 kE6 kZ (Below.refl _ _).drew) (fun hHeld => ?_)
      refine take_at 0 (some 32) (v := ?v2600) rfl rfl (by kernel_rfl) (by kernel_rfl) (by kernel_rfl) (fun _ _ _ h => h) (Or.inl ⟨rfl, ?h2600⟩) hHeld ?r2600
      case h2600 => intro wq hSw; (try dsimp only at hSw); go_simp; all_goals (with_reducible rfl)
      try simp only [Act.put, List.setIfInBounds_toArray, List.set_cons_zero, List.set_cons_succ]
      refine take_at 1 (some 33) (v := ?v2601) rfl rfl (by kernel_rfl) (by kernel_rfl) (by kernel_rfl) (fun _ _ _ h => h) (Or.inl ⟨rfl, ?h2601⟩) hHeld ?r2601
      case h2601 => intro wq hSw; (try dsimp only at hSw); go_simp; all_goals (with_reducible rfl)
      try simp only [Act.put, List.setIfInBounds_toArray, List.set_cons_zero, List.set_cons_succ]
      refine take_at 2 (some 34) (v := ?v2602) rfl rfl (by kernel_rfl) (by kernel_rfl) (by kernel_rfl) (fun _ _ _ h => h) (Or.inl ⟨rfl, ?h2602⟩) hHeld ?r2602
      case h2602 => intro wq hSw; (try dsimp only at hSw); go_simp; all_goals (with_reducible rfl)
      try simp only [Act.put, List.setIfInBounds_toArray, List.set_cons_zero, List.set_cons_succ]
      refine take_at 3 (some 35) (v := ?v2603) rfl rfl (by kernel_rfl) (by kernel_rfl) (by kernel_rfl) (fun _ _ _ h => h) (Or.inl ⟨rfl, ?h2603⟩) hHeld ?r2603
      case h2603 => intro wq hSw; (try dsimp only at hSw); go_simp; all_goals (with_reducible rfl)
      try simp only [Act.put, List.setIfInBounds_toArray, List.set_cons_zero, List.set_cons_succ]
      refine take_at 4 (some 36) (v := ?v2604) rfl rfl (by kernel_rfl) (by kernel_rfl) (by kernel_rfl) (fun _ _ _ h => h) (Or.inl ⟨rfl, ?h2604⟩) hHeld ?r2604
      case h2604 => intro wq hSw; (try dsimp only at hSw); go_simp; all_goals (with_reducible rfl)
      try simp only [Act.put, List.setIfInBounds_toArray, List.set_cons_zero, List.set_cons_succ]
      refine take_at 5 (some 37) (v := ?v2605) rfl rfl (by kernel_rfl) (by kernel_rfl) (by kernel_rfl) (fun _ _ _ h => h) (Or.inl ⟨rfl, ?h2605⟩) hHeld ?r2605
      case h2605 => intro wq hSw; (try dsimp only at hSw); go_simp; all_goals (with_reducible rfl)
      try simp only [Act.put, List.setIfInBounds_toArray, List.set_cons_zero, List.set_cons_succ]
      refine take_at 6 (some 38) (v := ?v2606) rfl rfl (by kernel_rfl) (by kernel_rfl) (by kernel_rfl) (fun _ _ _ h => h) (Or.inl ⟨rfl, ?h2606⟩) hHeld ?r2606
      case h2606 => intro wq hSw; (try dsimp only at hSw); go_simp; all_goals (with_reducible rfl)
      try simp only [Act.put, List.setIfInBounds_toArray, List.set_cons_zero, List.set_cons_succ]
      refine take_at 7 (some 39) (v := ?v2607) rfl rfl (by kernel_rfl) (by kernel_rfl) (by kernel_rfl) (fun _ _ _ h => h) (Or.inl ⟨rfl, ?h2607⟩) hHeld ?r2607
      case h2607 => intro wq hSw; (try dsimp only at hSw); go_simp; all_goals (with_reducible rfl)
      try simp only [Act.put, List.setIfInBounds_toArray, List.set_cons_zero, List.set_cons_succ]
      refine take_at 8 (some 40) (v := ?v2608) rfl rfl (by kernel_rfl) (by kernel_rfl) (by kernel_rfl) (fun _ _ _ h => h) (Or.inl ⟨rfl, ?h2608⟩) hHeld ?r2608
      case h2608 => intro wq hSw; (try dsimp only at hSw); go_simp; all_goals (with_reducible rfl)
      try simp only [Act.put, List.setIfInBounds_toArray, List.set_cons_zero, List.set_cons_succ]
      refine take_at 9 (some 41) (v := ?v2609) rfl rfl (by kernel_rfl) (by kernel_rfl) (by kernel_rfl) (fun _ _ _ h => h) (Or.inl ⟨rfl, ?h2609⟩) hHeld ?r2609
      case h2609 => intro wq hSw; (try dsimp only at hSw); go_simp; all_goals (with_reducible rfl)
      try simp only [Act.put, List.setIfInBounds_toArray, List.set_cons_zero, List.set_cons_succ]
      refine take_at 10 (some 42) (v := ?v2610) rfl rfl (by kernel_rfl) (by kernel_rfl) (by kernel_rfl) (fun _ _ _ h => h) (Or.inl ⟨rfl, ?h2610⟩) hHeld ?r2610
      case h2610 => intro wq hSw; (try dsimp only at hSw); go_simp; all_goals (with_reducible rfl)
      try simp only [Act.put, List.setIfInBounds_toArray, List.set_cons_zero, List.set_cons_succ]
      refine take_at 11 (some 43) (v := ?v2611) rfl rfl (by kernel_rfl) (by kernel_rfl) (by kernel_rfl) (fun _ _ _ h => h) (Or.inl ⟨rfl, ?h2611⟩) hHeld ?r2611
      case h2611 => intro wq hSw; (try dsimp only at hSw); go_simp; all_goals (with_reducible rfl)
      try simp only [Act.put, List.setIfInBounds_toArray, List.set_cons_zero, List.set_cons_succ]
      refine take_at 12 (some 44) (v := ?v2612) rfl rfl (by kernel_rfl) (by kernel_rfl) (by kernel_rfl) (fun _ _ _ h => h) (Or.inl ⟨rfl, ?h2612⟩) hHeld ?r2612
      case h2612 => intro wq hSw; (try dsimp only at hSw); go_simp; all_goals (with_reducible rfl)
      try simp only [Act.put, List.setIfInBounds_toArray, List.set_cons_zero, List.set_cons_succ]
      refine take_at 13 (some 45) (v := ?v2613) rfl rfl (by kernel_rfl) (by kernel_rfl) (by kernel_rfl) (fun _ _ _ h => h) (Or.inl ⟨rfl, ?h2613⟩) hHeld ?r2613
      case h2613 => intro wq hSw; (try dsimp only at hSw); go_simp; all_goals (with_reducible rfl)
      try simp only [Act.put, List.setIfInBounds_toArray, List.set_cons_zero, List.set_cons_succ]
      refine take_at 14 (some 46) (v := ?v2614) rfl rfl (by kernel_rfl) (by kernel_rfl) (by kernel_rfl) (fun _ _ _ h => h) (Or.inl ⟨rfl, ?h2614⟩) hHeld ?r2614
      case h2614 => intro wq hSw; (try dsimp only at hSw); go_simp; all_goals (with_reducible rfl)
      try simp only [Act.put, List.setIfInBounds_toArray, List.set_cons_zero, List.set_cons_succ]
      refine take_at 15 (some 47) (v := ?v2615) rfl rfl (by kernel_rfl) (by kernel_rfl) (by kernel_rfl) (fun _ _ _ h => h) (Or.inl ⟨rfl, ?h2615⟩) hHeld ?r2615
      case h2615 => intro wq hSw; (try dsimp only at hSw); go_simp; all_goals (with_reducible rfl)
      try simp only [Act.put, List.setIfInBounds_toArray, List.set_cons_zero, List.set_cons_succ]
      refine take_at 16 (some 48) (v := ?v2616) rfl rfl (by kernel_rfl) (by kernel_rfl) (by kernel_rfl) (fun _ _ _ h => h) (Or.inl ⟨rfl, ?h2616⟩) hHeld ?r2616
      case h2616 => intro wq hSw; (try dsimp only at hSw); go_simp; all_goals (with_reducible rfl)
      try simp only [Act.put, List.setIfInBounds_toArray, List.set_cons_zero, List.set_cons_succ]
      refine take_at 17 (some 49) (v := ?v2617) rfl rfl (by kernel_rfl) (by kernel_rfl) (by kernel_rfl) (fun _ _ _ h => h) (Or.inl ⟨rfl, ?h2617⟩) hHeld ?r2617
      case h2617 => intro wq hSw; (try dsimp only at hSw); go_simp; all_goals (with_reducible rfl)
      try simp only [Act.put, List.setIfInBounds_toArray, List.set_cons_zero, List.set_cons_succ]
      refine take_at 18 (some 50) (v := ?v2618) rfl rfl (by kernel_rfl) (by kernel_rfl) (by kernel_rfl) (fun _ _ _ h => h) (Or.inl ⟨rfl, ?h2618⟩) hHeld ?r2618
      case h2618 => intro wq hSw; (try dsimp only at hSw); go_simp; all_goals (with_reducible rfl)
      try simp only [Act.put, List.setIfInBounds_toArray, List.set_cons_zero, List.set_cons_succ]
      refine take_at 19 (some 51) (v := ?v2619) rfl rfl (by kernel_rfl) (by kernel_rfl) (by kernel_rfl) (fun _ _ _ h => h) (Or.inl ⟨rfl, ?h2619⟩) hHeld ?r2619
      case h2619 => intro wq hSw; (try dsimp only at hSw); go_simp; all_goals (with_reducible rfl)
      try simp only [Act.put, List.setIfInBounds_toArray, List.set_cons_zero, List.set_cons_succ]
      refine take_at 21 (some 53) (v := ?v2621) rfl rfl (by kernel_rfl) (by kernel_rfl) (by kernel_rfl) (fun _ _ _ h => h) (Or.inl ⟨rfl, ?h2621⟩) hHeld ?r2621
      case h2621 => intro wq hSw; (try dsimp only at hSw); go_simp; all_goals (with_reducible rfl)
      try simp only [Act.put, List.setIfInBounds_toArray, List.set_cons_zero, List.set_cons_succ]
      refine wpAnyH_ready (rs := [20]) (by kernel_rfl) (by simp) ?_
      refine AllReadyH.cons rfl (fun K hK => ?_) AllReadyH.nil
      go_simp
      (first
        | (go_at_call 48; refine (head_spec m1 m2 m3 _ o1 o2 o3).mono ?_; rintro e wn ⟨rfl, hbn⟩; have BN : Below W.heap.size W wn := undrew hbn)
        | (go_at_call 42; refine (hread _ (hs.below (bel2 B6 BN)) (hp.below (bel2 B6 BN))).mono ?_; rintro e wn ⟨ra, rm, ra', rm', rfl, -, hbn⟩; have BN : Below W.heap.size W wn := bel2 BN hbn)
        | (go_at_call 46; refine (half_spec _ _ _ _ _ n1 n2).mono ?_; rintro e wn ⟨rfl, hbn⟩; have BN : Below W.heap.size W wn := bel2 BN hbn)
        | (go_at_call 82; refine (is_yes _ _ _ _ (by omega) (by omega)).mono ?_; rintro e w9 ⟨rfl, rfl⟩)
        | (go_at_call 82; refine (is_no _ _ _ _ (by omega)).mono ?_; rintro e w9 ⟨rfl, rfl⟩))
      try (go_wp2_with fail)
      refine hK.out _ _ ?_ (fun hHeld => ?_)
      · exact (by first | exact hHeld | exact keepH k6 kG6 kE6 kZ BN)
      clear hK K
      try simp only [Act.put, List.setIfInBounds_toArray, List.set_cons_zero, List.set_cons_succ]
      refine wpAnyH_ready (rs := [22]) (by kernel_rfl) (by simp) ?_
      refine AllReadyH.cons rfl (fun K hK => ?_) AllReadyH.nil
      go_simp
      (first
        | (go_at_call 48; refine (head_spec m1 m2 m3 _ o1 o2 o3).mono ?_; rintro e wn ⟨rfl, hbn⟩; have BN : Below W.heap.size W wn := undrew hbn)
        | (go_at_call 42; refine (hread _ (hs.below (bel2 B6 BN)) (hp.below (bel2 B6 BN))).mono ?_; rintro e wn ⟨ra, rm, ra', rm', rfl, -, hbn⟩; have BN : Below W.heap.size W wn := bel2 BN hbn)
        | (go_at_call 46; refine (half_spec _ _ _ _ _ n1 n2).mono ?_; rintro e wn ⟨rfl, hbn⟩; have BN : Below W.heap.size W wn := bel2 BN hbn)
        | (go_at_call 82; refine (is_yes _ _ _ _ (by omega) (by omega)).mono ?_; rintro e w9 ⟨rfl, rfl⟩)
        | (go_at_call 82; refine (is_no _ _ _ _ (by omega)).mono ?_; rintro e w9 ⟨rfl, rfl⟩))
      try (go_wp2_with fail)
      refine hK.out _ _ ?_ (fun hHeld => ?_)
      · exact (by first | exact hHeld | exact keepH k6 kG6 kE6 kZ BN)
      clear hK K
      try simp only [Act.put, List.setIfInBounds_toArray, List.set_cons_zero, List.set_cons_succ]
      refine take_at 23 (some 55) (v := ?v2623) rfl rfl (by kernel_rfl) (by kernel_rfl) (by kernel_rfl) (fun _ _ _ h => h) (Or.inl ⟨rfl, ?h2623⟩) hHeld ?r2623
      case h2623 => intro wq hSw; (try dsimp only at hSw); go_simp; all_goals (with_reducible rfl)
      try simp only [Act.put, List.setIfInBounds_toArray, List.set_cons_zero, List.set_cons_succ]
      refine take_at 24 (some 56) (v := ?v2624) rfl rfl (by kernel_rfl) (by kernel_rfl) (by kernel_rfl) (fun _ _ _ h => h) (Or.inl ⟨rfl, ?h2624⟩) hHeld ?r2624
      case h2624 => intro wq hSw; (try dsimp only at hSw); go_simp; all_goals (with_reducible rfl)
      try simp only [Act.put, List.setIfInBounds_toArray, List.set_cons_zero, List.set_cons_succ]
      refine take_at 25 (some 57) (v := ?v2625) rfl rfl (by kernel_rfl) (by kernel_rfl) (by kernel_rfl) (fun _ _ _ h => h) (Or.inl ⟨rfl, ?h2625⟩) hHeld ?r2625
      case h2625 => intro wq hSw; (try dsimp only at hSw); go_simp; all_goals (with_reducible rfl)
      try simp only [Act.put, List.setIfInBounds_toArray, List.set_cons_zero, List.set_cons_succ]
      refine take_at 26 (some 58) (v := ?v2626) rfl rfl (by kernel_rfl) (by kernel_rfl) (by kernel_rfl) (fun _ _ _ h => h) (Or.inl ⟨rfl, ?h2626⟩) hHeld ?r2626
      case h2626 => intro wq hSw; (try dsimp only at hSw); go_simp; all_goals (with_reducible rfl)
      try simp only [Act.put, List.setIfInBounds_toArray, List.set_cons_zero, List.set_cons_succ]
      refine take_at 27 (some 59) (v := undef) rfl rfl (by kernel_rfl) (by kernel_rfl) (by kernel_rfl) (fun _ _ _ h => h) (Or.inr ⟨rfl, rfl⟩) hHeld ?_
      try simp only [Act.put, List.setIfInBounds_toArray, List.set_cons_zero, List.set_cons_succ]
      refine take_at 28 (some 60) (v := undef) rfl rfl (by kernel_rfl) (by kernel_rfl) (by kernel_rfl) (fun _ _ _ h => h) (Or.inr ⟨rfl, rfl⟩) hHeld ?_
      try simp only [Act.put, List.setIfInBounds_toArray, List.set_cons_zero, List.set_cons_succ]
      refine take_at 29 (some 61) (v := undef) rfl rfl (by kernel_rfl) (by kernel_rfl) (by kernel_rfl) (fun _ _ _ h => h) (Or.inr ⟨rfl, rfl⟩) hHeld ?_
      try simp only [Act.put, List.setIfInBounds_toArray, List.set_cons_zero, List.set_cons_succ]
      refine take_at 30 (some 62) (v := ?v2630) rfl rfl (by kernel_rfl) (by kernel_rfl) (by kernel_rfl) (fun _ _ _ h => h) (Or.inl ⟨rfl, ?h2630⟩) hHeld ?r2630
      case h2630 => intro wq hSw; (try dsimp only at hSw); go_simp; all_goals (with_reducible rfl)
      try simp only [Act.put, List.setIfInBounds_toArray, List.set_cons_zero, List.set_cons_succ]
      refine take_at 31 (some 63) (v := ?v2631) rfl rfl (by kernel_rfl) (by kernel_rfl) (by kernel_rfl) (fun _ _ _ h => h) (Or.inl ⟨rfl, ?h2631⟩) hHeld ?r2631
      case h2631 => intro wq hSw; (try dsimp only at hSw); go_simp; all_goals (with_reducible rfl)
      try simp only [Act.put, List.setIfInBounds_toArray, List.set_cons_zero, List.set_cons_succ]
      refine take_at 32 (some 64) (v := undef) rfl rfl (by kernel_rfl) (by kernel_rfl) (by kernel_rfl) (fun _ _ _ h => h) (Or.inr ⟨rfl, rfl⟩) hHeld ?_
      try simp only [Act.put, List.setIfInBounds_toArray, List.set_cons_zero, List.set_cons_succ]
      refine take_at 33 (some 65) (v := undef) rfl rfl (by kernel_rfl) (by kernel_rfl) (by kernel_rfl) (fun _ _ _ h => h) (Or.inr ⟨rfl, rfl⟩) hHeld ?_
      try simp only [Act.put, List.setIfInBounds_toArray, List.set_cons_zero, List.set_cons_succ]
      refine take_at 34 (some 66) (v := undef) rfl rfl (by kernel_rfl) (by kernel_rfl) (by kernel_rfl) (fun _ _ _ h => h) (Or.inr ⟨rfl, rfl⟩) hHeld ?_
      try simp only [Act.put, List.setIfInBounds_toArray, List.set_cons_zero, List.set_cons_succ]
      refine take_at 35 (some 67) (v := undef) rfl rfl (by kernel_rfl) (by kernel_rfl) (by kernel_rfl) (fun _ _ _ h => h) (Or.inr ⟨rfl, rfl⟩) hHeld ?_
      try simp only [Act.put, List.setIfInBounds_toArray, List.set_cons_zero, List.set_cons_succ]
      refine take_at 36 (some 68) (v := ?v2636) rfl rfl (by kernel_rfl) (by kernel_rfl) (by kernel_rfl) (fun _ _ _ h => h) (Or.inl ⟨rfl, ?h2636⟩) hHeld ?r2636
      case h2636 => intro wq hSw; (try dsimp only at hSw); go_simp; all_goals (with_reducible rfl)
      try simp only [Act.put, List.setIfInBounds_toArray, List.set_cons_zero, List.set_cons_succ]
      refine take_at 37 (some 69) (v := ?v2637) rfl rfl (by kernel_rfl) (by kernel_rfl) (by kernel_rfl) (fun _ _ _ h => h) (Or.inl ⟨rfl, ?h2637⟩) hHeld ?r2637
      case h2637 => intro wq hSw; (try dsimp only at hSw); go_simp; all_goals (with_reducible rfl)
      try simp only [Act.put, List.setIfInBounds_toArray, List.set_cons_zero, List.set_cons_succ]
      refine take_at 38 (some 70) (v := undef) rfl rfl (by kernel_rfl) (by kernel_rfl) (by kernel_rfl) (fun _ _ _ h => h) (Or.inr ⟨rfl, rfl⟩) hHeld ?_
      try simp only [Act.put, List.setIfInBounds_toArray, List.set_cons_zero, List.set_cons_succ]
      refine take_at 39 (some 71) (v := undef) rfl rfl (by kernel_rfl) (by kernel_rfl) (by kernel_rfl) (fun _ _ _ h => h) (Or.inr ⟨rfl, rfl⟩) hHeld ?_
      try simp only [Act.put, List.setIfInBounds_toArray, List.set_cons_zero, List.set_cons_succ]
      refine take_at 40 (some 72) (v := undef) rfl rfl (by kernel_rfl) (by kernel_rfl) (by kernel_rfl) (fun _ _ _ h => h) (Or.inr ⟨rfl, rfl⟩) hHeld ?_
      try simp only [Act.put, List.setIfInBounds_toArray, List.set_cons_zero, List.set_cons_succ]
      refine take_at 41 (some 73) (v := undef) rfl rfl (by kernel_rfl) (by kernel_rfl) (by kernel_rfl) (fun _ _ _ h => h) (Or.inr ⟨rfl, rfl⟩) hHeld ?_
      try simp only [Act.put, List.setIfInBounds_toArray, List.set_cons_zero, List.set_cons_succ]
      refine take_at 42 (some 74) (v := undef) rfl rfl (by kernel_rfl) (by kernel_rfl) (by kernel_rfl) (fun _ _ _ h => h) (Or.inr ⟨rfl, rfl⟩) hHeld ?_
      try simp only [Act.put, List.setIfInBounds_toArray, List.set_cons_zero, List.set_cons_succ]
      refine take_at 43 (some 75) (v := undef) rfl rfl (by kernel_rfl) (by kernel_rfl) (by kernel_rfl) (fun _ _ _ h => h) (Or.inr ⟨rfl, rfl⟩) hHeld ?_
      try simp only [Act.put, List.setIfInBounds_toArray, List.set_cons_zero, List.set_cons_succ]
      refine take_at 44 (some 76) (v := undef) rfl rfl (by kernel_rfl) (by kernel_rfl) (by kernel_rfl) (fun _ _ _ h => h) (Or.inr ⟨rfl, rfl⟩) hHeld ?_
      try simp only [Act.put, List.setIfInBounds_toArray, List.set_cons_zero, List.set_cons_succ]
      refine take_at 45 (some 77) (v := ?v2645) rfl rfl (by kernel_rfl) (by kernel_rfl) (by kernel_rfl) (fun _ _ _ h => h) (Or.inl ⟨rfl, ?h2645⟩) hHeld ?r2645
      case h2645 => intro wq hSw; (try dsimp only at hSw); go_simp; all_goals (with_reducible rfl)
      try simp only [Act.put, List.setIfInBounds_toArray, List.set_cons_zero, List.set_cons_succ]
      refine wpAnyH_done (by kernel_rfl) ?_ _
      go_wp2_with fail
      go_meet
      case rel => exact RH.no HN.out BN
    have HQ : Hid (headB m1 m2 m3 = X) := (list_beq _ _).1 hq
    by_cases hm1 : m1 < 0
    · have hd1 : decide (m1 < 0) = true := decide_eq_true hm1
      have HN : Hid (¬ OKP) := fun h => by have := (HO.out.1 h).2.2.2.2.1; omega
      refine wp_region_held_drew (S := (fun w' => w'.cell? ⟨w.heap.size, 0, none⟩ = some (.slice sa ss.length sc) ∧ w'.cell? ⟨w.heap.size, 1, none⟩ = some vp ∧ w'.cell? ⟨w4.heap.size, 0, none⟩ = some (.int .i64 m1) ∧ w'.cell? ⟨w4.heap.size, 2, none⟩ = some (.int .i64 0) ∧ w'.cell? ⟨w5.heap.size, 0, none⟩ = some (.int .i64 m2) ∧ w'.cell? ⟨w5.heap.size, 2, none⟩ = some (.int .i64 0) ∧ w'.cell? ⟨w6.heap.size, 0, none⟩ = some (.int .i64 m3) ∧ w'.cell? ⟨w6.heap.size, 2, none⟩ = some (.int .i64 0))) (by kernel_rfl) (keepH k6 kG6 kE6 kZ (Below.refl _ _).drew) (fun hHeld => ?_)
      refine take_at 0 (some 32) (v := ?v3100) rfl rfl (by kernel_rfl) (by kernel_rfl) (by kernel_rfl) (fun _ _ _ h => h) (Or.inl ⟨rfl, ?h3100⟩) hHeld ?r3100
      case h3100 => intro wq hSw; (try dsimp only at hSw); go_simp; all_goals (with_reducible rfl)
      try simp only [Act.put, List.setIfInBounds_toArray, List.set_cons_zero, List.set_cons_succ]
      refine take_at 1 (some 33) (v := ?v3101) rfl rfl (by kernel_rfl) (by kernel_rfl) (by kernel_rfl) (fun _ _ _ h => h) (Or.inl ⟨rfl, ?h3101⟩) hHeld ?r3101
      case h3101 => intro wq hSw; (try dsimp only at hSw); go_simp; all_goals (with_reducible rfl)
      try simp only [Act.put, List.setIfInBounds_toArray, List.set_cons_zero, List.set_cons_succ]
      refine take_at 2 (some 34) (v := ?v3102) rfl rfl (by kernel_rfl) (by kernel_rfl) (by kernel_rfl) (fun _ _ _ h => h) (Or.inl ⟨rfl, ?h3102⟩) hHeld ?r3102
      case h3102 => intro wq hSw; (try dsimp only at hSw); go_simp; all_goals (with_reducible rfl)
      try simp only [Act.put, List.setIfInBounds_toArray, List.set_cons_zero, List.set_cons_succ]
      refine take_at 3 (some 35) (v := ?v3103) rfl rfl (by kernel_rfl) (by kernel_rfl) (by kernel_rfl) (fun _ _ _ h => h) (Or.inl ⟨rfl, ?h3103⟩) hHeld ?r3103
      case h3103 => intro wq hSw; (try dsimp only at hSw); go_simp; all_goals (with_reducible rfl)
      try simp only [Act.put, List.setIfInBounds_toArray, List.set_cons_zero, List.set_cons_succ]
      refine take_at 4 (some 36) (v := ?v3104) rfl rfl (by kernel_rfl) (by kernel_rfl) (by kernel_rfl) (fun _ _ _ h => h) (Or.inl ⟨rfl, ?h3104⟩) hHeld ?r3104
      case h3104 => intro wq hSw; (try dsimp only at hSw); go_simp; all_goals (with_reducible rfl)
      try simp only [Act.put, List.setIfInBounds_toArray, List.set_cons_zero, List.set_cons_succ]
      refine take_at 5 (some 37) (v := ?v3105) rfl rfl (by kernel_rfl) (by kernel_rfl) (by kernel_rfl) (fun _ _ _ h => h) (Or.inl ⟨rfl, ?h3105⟩) hHeld ?r3105
      case h3105 => intro wq hSw; (try dsimp only at hSw); go_simp; all_goals (with_reducible rfl)
      try simp only [Act.put, List.setIfInBounds_toArray, List.set_cons_zero, List.set_cons_succ]
      refine take_at 6 (some 38) (v := ?v3106) rfl rfl (by kernel_rfl) (by kernel_rfl) (by kernel_rfl) (fun _ _ _ h => h) (Or.inl ⟨rfl, ?h3106⟩) hHeld ?r3106
      case h3106 => intro wq hSw; (try dsimp only at hSw); go_simp; all_goals (with_reducible rfl)
      try simp only [Act.put, List.setIfInBounds_toArray, List.set_cons_zero, List.set_cons_succ]
      refine take_at 7 (some 39) (v := ?v3107) rfl rfl (by kernel_rfl) (by kernel_rfl) (by kernel_rfl) (fun _ _ _ h => h) (Or.inl ⟨rfl, ?h3107⟩) hHeld ?r3107
      case h3107 => intro wq hSw; (try dsimp only at hSw); go_simp; all_goals (with_reducible rfl)
      try simp only [Act.put, List.setIfInBounds_toArray, List.set_cons_zero, List.set_cons_succ]
      refine take_at 8 (some 40) (v := ?v3108) rfl rfl (by kernel_rfl) (by kernel_rfl) (by kernel_rfl) (fun _ _ _ h => h) (Or.inl ⟨rfl, ?h3108⟩) hHeld ?r3108
      case h3108 => intro wq hSw; (try dsimp only at hSw); go_simp; all_goals (with_reducible rfl)
      try simp only [Act.put, List.setIfInBounds_toArray, List.set_cons_zero, List.set_cons_succ]
      refine take_at 9 (some 41) (v := ?v3109) rfl rfl (by kernel_rfl) (by kernel_rfl) (by kernel_rfl) (fun _ _ _ h => h) (Or.inl ⟨rfl, ?h3109⟩) hHeld ?r3109
      case h3109 => intro wq hSw; (try dsimp only at hSw); go_simp; all_goals (with_reducible rfl)
      try simp only [Act.put, List.setIfInBounds_toArray, List.set_cons_zero, List.set_cons_succ]
      refine take_at 10 (some 42) (v := ?v3110) rfl rfl (by kernel_rfl) (by kernel_rfl) (by kernel_rfl) (fun _ _ _ h => h) (Or.inl ⟨rfl, ?h3110⟩) hHeld ?r3110
      case h3110 => intro wq hSw; (try dsimp only at hSw); go_simp; all_goals (with_reducible rfl)
      try simp only [Act.put, List.setIfInBounds_toArray, List.set_cons_zero, List.set_cons_succ]
      refine take_at 11 (some 43) (v := ?v3111) rfl rfl (by kernel_rfl) (by kernel_rfl) (by kernel_rfl) (fun _ _ _ h => h) (Or.inl ⟨rfl, ?h3111⟩) hHeld ?r3111
      case h3111 => intro wq hSw; (try dsimp only at hSw); go_simp; all_goals (with_reducible rfl)
      try simp only [Act.put, List.setIfInBounds_toArray, List.set_cons_zero, List.set_cons_succ]
      refine take_at 12 (some 44) (v := ?v3112) rfl rfl (by kernel_rfl) (by kernel_rfl) (by kernel_rfl) (fun _ _ _ h => h) (Or.inl ⟨rfl, ?h3112⟩) hHeld ?r3112
      case h3112 => intro wq hSw; (try dsimp only at hSw); go_simp; all_goals (with_reducible rfl)
      try simp only [Act.put, List.setIfInBounds_toArray, List.set_cons_zero, List.set_cons_succ]
      refine take_at 13 (some 45) (v := ?v3113) rfl rfl (by kernel_rfl) (by kernel_rfl) (by kernel_rfl) (fun _ _ _ h => h) (Or.inl ⟨rfl, ?h3113⟩) hHeld ?r3113
      case h3113 => intro wq hSw; (try dsimp only at hSw); go_simp; all_goals (with_reducible rfl)
      try simp only [Act.put, List.setIfInBounds_toArray, List.set_cons_zero, List.set_cons_succ]
      refine take_at 14 (some 46) (v := ?v3114) rfl rfl (by kernel_rfl) (by kernel_rfl) (by kernel_rfl) (fun _ _ _ h => h) (Or.inl ⟨rfl, ?h3114⟩) hHeld ?r3114
      case h3114 => intro wq hSw; (try dsimp only at hSw); go_simp; all_goals (with_reducible rfl)
      try simp only [Act.put, List.setIfInBounds_toArray, List.set_cons_zero, List.set_cons_succ]
      refine take_at 15 (some 47) (v := ?v3115) rfl rfl (by kernel_rfl) (by kernel_rfl) (by kernel_rfl) (fun _ _ _ h => h) (Or.inl ⟨rfl, ?h3115⟩) hHeld ?r3115
      case h3115 => intro wq hSw; (try dsimp only at hSw); go_simp; all_goals (with_reducible rfl)
      try simp only [Act.put, List.setIfInBounds_toArray, List.set_cons_zero, List.set_cons_succ]
      refine take_at 16 (some 48) (v := ?v3116) rfl rfl (by kernel_rfl) (by kernel_rfl) (by kernel_rfl) (fun _ _ _ h => h) (Or.inl ⟨rfl, ?h3116⟩) hHeld ?r3116
      case h3116 => intro wq hSw; (try dsimp only at hSw); go_simp; all_goals (with_reducible rfl)
      try simp only [Act.put, List.setIfInBounds_toArray, List.set_cons_zero, List.set_cons_succ]
      refine take_at 17 (some 49) (v := ?v3117) rfl rfl (by kernel_rfl) (by kernel_rfl) (by kernel_rfl) (fun _ _ _ h => h) (Or.inl ⟨rfl, ?h3117⟩) hHeld ?r3117
      case h3117 => intro wq hSw; (try dsimp only at hSw); go_simp; all_goals (with_reducible rfl)
      try simp only [Act.put, List.setIfInBounds_toArray, List.set_cons_zero, List.set_cons_succ]
      refine take_at 18 (some 50) (v := ?v3118) rfl rfl (by kernel_rfl) (by kernel_rfl) (by kernel_rfl) (fun _ _ _ h => h) (Or.inl ⟨rfl, ?h3118⟩) hHeld ?r3118
      case h3118 => intro wq hSw; (try dsimp only at hSw); go_simp; all_goals (with_reducible rfl)
      try simp only [Act.put, List.setIfInBounds_toArray, List.set_cons_zero, List.set_cons_succ]
      refine take_at 19 (some 51) (v := ?v3119) rfl rfl (by kernel_rfl) (by kernel_rfl) (by kernel_rfl) (fun _ _ _ h => h) (Or.inl ⟨rfl, ?h3119⟩) hHeld ?r3119
      case h3119 => intro wq hSw; (try dsimp only at hSw); go_simp; all_goals (with_reducible rfl)
      try simp only [Act.put, List.setIfInBounds_toArray, List.set_cons_zero, List.set_cons_succ]
      refine take_at 21 (some 53) (v := ?v3121) rfl rfl (by kernel_rfl) (by kernel_rfl) (by kernel_rfl) (fun _ _ _ h => h) (Or.inl ⟨rfl, ?h3121⟩) hHeld ?r3121
      case h3121 => intro wq hSw; (try dsimp only at hSw); go_simp; all_goals (with_reducible rfl)
      try simp only [Act.put, List.setIfInBounds_toArray, List.set_cons_zero, List.set_cons_succ]
      refine wpAnyH_ready (rs := [20]) (by kernel_rfl) (by simp) ?_
      refine AllReadyH.cons rfl (fun K hK => ?_) AllReadyH.nil
      go_simp
      (first
        | (go_at_call 48; refine (head_spec m1 m2 m3 _ o1 o2 o3).mono ?_; rintro e wn ⟨rfl, hbn⟩; have BN : Below W.heap.size W wn := undrew hbn)
        | (go_at_call 42; refine (hread _ (hs.below (bel2 B6 BN)) (hp.below (bel2 B6 BN))).mono ?_; rintro e wn ⟨ra, rm, ra', rm', rfl, -, hbn⟩; have BN : Below W.heap.size W wn := bel2 BN hbn)
        | (go_at_call 46; refine (half_spec _ _ _ _ _ n1 n2).mono ?_; rintro e wn ⟨rfl, hbn⟩; have BN : Below W.heap.size W wn := bel2 BN hbn)
        | (go_at_call 82; refine (is_yes _ _ _ _ (by omega) (by omega)).mono ?_; rintro e w9 ⟨rfl, rfl⟩)
        | (go_at_call 82; refine (is_no _ _ _ _ (by omega)).mono ?_; rintro e w9 ⟨rfl, rfl⟩))
      try (go_wp2_with fail)
      refine hK.out _ _ ?_ (fun hHeld => ?_)
      · exact (by first | exact hHeld | exact keepH k6 kG6 kE6 kZ BN)
      clear hK K
      try simp only [Act.put, List.setIfInBounds_toArray, List.set_cons_zero, List.set_cons_succ]
      refine wpAnyH_ready (rs := [22]) (by kernel_rfl) (by simp) ?_
      refine AllReadyH.cons rfl (fun K hK => ?_) AllReadyH.nil
      go_simp
      (first
        | (go_at_call 48; refine (head_spec m1 m2 m3 _ o1 o2 o3).mono ?_; rintro e wn ⟨rfl, hbn⟩; have BN : Below W.heap.size W wn := undrew hbn)
        | (go_at_call 42; refine (hread _ (hs.below (bel2 B6 BN)) (hp.below (bel2 B6 BN))).mono ?_; rintro e wn ⟨ra, rm, ra', rm', rfl, -, hbn⟩; have BN : Below W.heap.size W wn := bel2 BN hbn)
        | (go_at_call 46; refine (half_spec _ _ _ _ _ n1 n2).mono ?_; rintro e wn ⟨rfl, hbn⟩; have BN : Below W.heap.size W wn := bel2 BN hbn)
        | (go_at_call 82; refine (is_yes _ _ _ _ (by omega) (by omega)).mono ?_; rintro e w9 ⟨rfl, rfl⟩)
        | (go_at_call 82; refine (is_no _ _ _ _ (by omega)).mono ?_; rintro e w9 ⟨rfl, rfl⟩))
      try (go_wp2_with fail)
      refine hK.out _ _ ?_ (fun hHeld => ?_)
      · exact (by first | exact hHeld | exact keepH k6 kG6 kE6 kZ BN)
      clear hK K
      try simp only [Act.put, List.setIfInBounds_toArray, List.set_cons_zero, List.set_cons_succ]
      refine take_at 23 (some 55) (v := ?v3123) rfl rfl (by kernel_rfl) (by kernel_rfl) (by kernel_rfl) (fun _ _ _ h => h) (Or.inl ⟨rfl, ?h3123⟩) hHeld ?r3123
      case h3123 => intro wq hSw; (try dsimp only at hSw); go_simp; all_goals (with_reducible rfl)
      try simp only [Act.put, List.setIfInBounds_toArray, List.set_cons_zero, List.set_cons_succ]
      refine take_at 24 (some 56) (v := ?v3124) rfl rfl (by kernel_rfl) (by kernel_rfl) (by kernel_rfl) (fun _ _ _ h => h) (Or.inl ⟨rfl, ?h3124⟩) hHeld ?r3124
      case h3124 => intro wq hSw; (try dsimp only at hSw); go_simp; all_goals (with_reducible rfl)
      try simp only [Act.put, List.setIfInBounds_toArray, List.set_cons_zero, List.set_cons_succ]
      refine take_at 25 (some 57) (v := ?v3125) rfl rfl (by kernel_rfl) (by kernel_rfl) (by kernel_rfl) (fun _ _ _ h => h) (Or.inl ⟨rfl, ?h3125⟩) hHeld ?r3125
      case h3125 => intro wq hSw; (try dsimp only at hSw); go_simp; all_goals (with_reducible rfl)
      try simp only [Act.put, List.setIfInBounds_toArray, List.set_cons_zero, List.set_cons_succ]
      refine take_at 26 (some 58) (v := ?v3126) rfl rfl (by kernel_rfl) (by kernel_rfl) (by kernel_rfl) (fun _ _ _ h => h) (Or.inl ⟨rfl, ?h3126⟩) hHeld ?r3126
      case h3126 => intro wq hSw; (try dsimp only at hSw); go_simp; all_goals (with_reducible rfl)
      try simp only [Act.put, List.setIfInBounds_toArray, List.set_cons_zero, List.set_cons_succ]
      refine take_at 27 (some 59) (v := ?v3127) rfl rfl (by kernel_rfl) (by kernel_rfl) (by kernel_rfl) (fun _ _ _ h => h) (Or.inl ⟨rfl, ?h3127⟩) hHeld ?r3127
      case h3127 => intro wq hSw; (try dsimp only at hSw); go_simp; all_goals (with_reducible rfl)
      try simp only [Act.put, List.setIfInBounds_toArray, List.set_cons_zero, List.set_cons_succ]
      refine take_at 28 (some 60) (v := ?v3128) rfl rfl (by kernel_rfl) (by kernel_rfl) (by kernel_rfl) (fun _ _ _ h => h) (Or.inl ⟨rfl, ?h3128⟩) hHeld ?r3128
      case h3128 => intro wq hSw; (try dsimp only at hSw); go_simp; all_goals (with_reducible rfl)
      try simp only [Act.put, List.setIfInBounds_toArray, List.set_cons_zero, List.set_cons_succ]
      refine take_at 29 (some 61) (v := ?v3129) rfl rfl (by kernel_rfl) (by kernel_rfl) (by kernel_rfl) (fun _ _ _ h => h) (Or.inl ⟨rfl, ?h3129⟩) hHeld ?r3129
      case h3129 => intro wq hSw; (try dsimp only at hSw); go_simp; all_goals (with_reducible rfl)
      try simp only [Act.put, List.setIfInBounds_toArray, List.set_cons_zero, List.set_cons_succ]
      refine take_at 30 (some 62) (v := ?v3130) rfl rfl (by kernel_rfl) (by kernel_rfl) (by kernel_rfl) (fun _ _ _ h => h) (Or.inl ⟨rfl, ?h3130⟩) hHeld ?r3130
      case h3130 => intro wq hSw; (try dsimp only at hSw); go_simp; all_goals (with_reducible rfl)
      try simp only [Act.put, List.setIfInBounds_toArray, List.set_cons_zero, List.set_cons_succ]
      refine take_at 31 (some 63) (v := ?v3131) rfl rfl (by kernel_rfl) (by kernel_rfl) (by kernel_rfl) (fun _ _ _ h => h) (Or.inl ⟨rfl, ?h3131⟩) hHeld ?r3131
      case h3131 => intro wq hSw; (try dsimp only at hSw); go_simp; all_goals (with_reducible rfl)
      try simp only [Act.put, List.setIfInBounds_toArray, List.set_cons_zero, List.set_cons_succ]
      refine take_at 32 (some 64) (v := undef) rfl rfl (by kernel_rfl) (by kernel_rfl) (by kernel_rfl) (fun _ _ _ h => h) (Or.inr ⟨rfl, rfl⟩) hHeld ?_
      try simp only [Act.put, List.setIfInBounds_toArray, List.set_cons_zero, List.set_cons_succ]
      refine take_at 33 (some 65) (v := undef) rfl rfl (by kernel_rfl) (by kernel_rfl) (by kernel_rfl) (fun _ _ _ h => h) (Or.inr ⟨rfl, rfl⟩) hHeld ?_
      try simp only [Act.put, List.setIfInBounds_toArray, List.set_cons_zero, List.set_cons_succ]
      refine take_at 34 (some 66) (v := undef) rfl rfl (by kernel_rfl) (by kernel_rfl) (by kernel_rfl) (fun _ _ _ h => h) (Or.inr ⟨rfl, rfl⟩) hHeld ?_
      try simp only [Act.put, List.setIfInBounds_toArray, List.set_cons_zero, List.set_cons_succ]
      refine take_at 35 (some 67) (v := undef) rfl rfl (by kernel_rfl) (by kernel_rfl) (by kernel_rfl) (fun _ _ _ h => h) (Or.inr ⟨rfl, rfl⟩) hHeld ?_
      try simp only [Act.put, List.setIfInBounds_toArray, List.set_cons_zero, List.set_cons_succ]
      refine take_at 36 (some 68) (v := ?v3136) rfl rfl (by kernel_rfl) (by kernel_rfl) (by kernel_rfl) (fun _ _ _ h => h) (Or.inl ⟨rfl, ?h3136⟩) hHeld ?r3136
      case h3136 => intro wq hSw; (try dsimp only at hSw); go_simp; all_goals (with_reducible rfl)
      try simp only [Act.put, List.setIfInBounds_toArray, List.set_cons_zero, List.set_cons_succ]
      refine take_at 37 (some 69) (v := ?v3137) rfl rfl (by kernel_rfl) (by kernel_rfl) (by kernel_rfl) (fun _ _ _ h => h) (Or.inl ⟨rfl, ?h3137⟩) hHeld ?r3137
      case h3137 => intro wq hSw; (try dsimp only at hSw); go_simp; all_goals (with_reducible rfl)
      try simp only [Act.put, List.setIfInBounds_toArray, List.set_cons_zero, List.set_cons_succ]
      refine take_at 38 (some 70) (v := undef) rfl rfl (by kernel_rfl) (by kernel_rfl) (by kernel_rfl) (fun _ _ _ h => h) (Or.inr ⟨rfl, rfl⟩) hHeld ?_
      try simp only [Act.put, List.setIfInBounds_toArray, List.set_cons_zero, List.set_cons_succ]
      refine take_at 39 (some 71) (v := undef) rfl rfl (by kernel_rfl) (by kernel_rfl) (by kernel_rfl) (fun _ _ _ h => h) (Or.inr ⟨rfl, rfl⟩) hHeld ?_
      try simp only [Act.put, List.setIfInBounds_toArray, List.set_cons_zero, List.set_cons_succ]
      refine take_at 40 (some 72) (v := undef) rfl rfl (by kernel_rfl) (by kernel_rfl) (by kernel_rfl) (fun _ _ _ h => h) (Or.inr ⟨rfl, rfl⟩) hHeld ?_
      try simp only [Act.put, List.setIfInBounds_toArray, List.set_cons_zero, List.set_cons_succ]
      refine take_at 41 (some 73) (v := undef) rfl rfl (by kernel_rfl) (by kernel_rfl) (by kernel_rfl) (fun _ _ _ h => h) (Or.inr ⟨rfl, rfl⟩) hHeld ?_
      try simp only [Act.put, List.setIfInBounds_toArray, List.set_cons_zero, List.set_cons_succ]
      refine take_at 42 (some 74) (v := undef) rfl rfl (by kernel_rfl) (by kernel_rfl) (by kernel_rfl) (fun _ _ _ h => h) (Or.inr ⟨rfl, rfl⟩) hHeld ?_
      try simp only [Act.put, List.setIfInBounds_toArray, List.set_cons_zero, List.set_cons_succ]
      refine take_at 43 (some 75) (v := undef) rfl rfl (by kernel_rfl) (by kernel_rfl) (by kernel_rfl) (fun _ _ _ h => h) (Or.inr ⟨rfl, rfl⟩) hHeld ?_
      try simp only [Act.put, List.setIfInBounds_toArray, List.set_cons_zero, List.set_cons_succ]
      refine take_at 44 (some 76) (v := undef) rfl rfl (by kernel_rfl) (by kernel_rfl) (by kernel_rfl) (fun _ _ _ h => h) (Or.inr ⟨rfl, rfl⟩) hHeld ?_
      try simp only [Act.put, List.setIfInBounds_toArray, List.set_cons_zero, List.set_cons_succ]
      refine take_at 45 (some 77) (v := ?v3145) rfl rfl (by kernel_rfl) (by kernel_rfl) (by kernel_rfl) (fun _ _ _ h => h) (Or.inl ⟨rfl, ?h3145⟩) hHeld ?r3145
      case h3145 => intro wq hSw; (try dsimp only at hSw); go_simp; all_goals (with_reducible rfl)
      try simp only [Act.put, List.setIfInBounds_toArray, List.set_cons_zero, List.set_cons_succ]
      refine wpAnyH_done (by kernel_rfl) ?_ _
      go_wp2_with fail
      go_meet
      case rel => exact RH.no HN.out BN
    have hd1 : decide (m1 < 0) = false := decide_eq_false hm1
    by_cases hm2 : 0 ≤ m2 ∧ m2 ≤ 1
    case neg =>
      have HN : Hid (¬ OKP) := fun h => hm2 (HO.out.1 h).2.2.2.2.2.1
      refine wp_region_held_drew (S := (fun w' => w'.cell? ⟨w.heap.size, 0, none⟩ = some (.slice sa ss.length sc) ∧ w'.cell? ⟨w.heap.size, 1, none⟩ = some vp ∧ w'.cell? ⟨w4.heap.size, 0, none⟩ = some (.int .i64 m1) ∧ w'.cell? ⟨w4.heap.size, 2, none⟩ = some (.int .i64 0) ∧ w'.cell? ⟨w5.heap.size, 0, none⟩ = some (.int .i64 m2) ∧ w'.cell? ⟨w5.heap.size, 2, none⟩ = some (.int .i64 0) ∧ w'.cell? ⟨w6.heap.size, 0, none⟩ = some (.int .i64 m3) ∧ w'.cell? ⟨w6.heap.size, 2, none⟩ = some (.int .i64 0))) (by kernel_rfl) (keepH k6 kG6 kE6 kZ (Below.refl _ _).drew) (fun hHeld => ?_)
      refine take_at 0 (some 32) (v := ?v3700) rfl rfl (by kernel_rfl) (by kernel_rfl) (by kernel_rfl) (fun _ _ _ h => h) (Or.inl ⟨rfl, ?h3700⟩) hHeld ?r3700
      case h3700 => intro wq hSw; (try dsimp only at hSw); go_simp; all_goals (with_reducible rfl)
      try simp only [Act.put, List.setIfInBounds_toArray, List.set_cons_zero, List.set_cons_succ]
      refine take_at 1 (some 33) (v := ?v3701) rfl rfl (by kernel_rfl) (by kernel_rfl) (by kernel_rfl) (fun _ _ _ h => h) (Or.inl ⟨rfl, ?h3701⟩) hHeld ?r3701
      case h3701 => intro wq hSw; (try dsimp only at hSw); go_simp; all_goals (with_reducible rfl)
      try simp only [Act.put, List.setIfInBounds_toArray, List.set_cons_zero, List.set_cons_succ]
      refine take_at 2 (some 34) (v := ?v3702) rfl rfl (by kernel_rfl) (by kernel_rfl) (by kernel_rfl) (fun _ _ _ h => h) (Or.inl ⟨rfl, ?h3702⟩) hHeld ?r3702
      case h3702 => intro wq hSw; (try dsimp only at hSw); go_simp; all_goals (with_reducible rfl)
      try simp only [Act.put, List.setIfInBounds_toArray, List.set_cons_zero, List.set_cons_succ]
      refine take_at 3 (some 35) (v := ?v3703) rfl rfl (by kernel_rfl) (by kernel_rfl) (by kernel_rfl) (fun _ _ _ h => h) (Or.inl ⟨rfl, ?h3703⟩) hHeld ?r3703
      case h3703 => intro wq hSw; (try dsimp only at hSw); go_simp; all_goals (with_reducible rfl)
      try simp only [Act.put, List.setIfInBounds_toArray, List.set_cons_zero, List.set_cons_succ]
      refine take_at 4 (some 36) (v := ?v3704) rfl rfl (by kernel_rfl) (by kernel_rfl) (by kernel_rfl) (fun _ _ _ h => h) (Or.inl ⟨rfl, ?h3704⟩) hHeld ?r3704
      case h3704 => intro wq hSw; (try dsimp only at hSw); go_simp; all_goals (with_reducible rfl)
      try simp only [Act.put, List.setIfInBounds_toArray, List.set_cons_zero, List.set_cons_succ]
      refine take_at 5 (some 37) (v := ?v3705) rfl rfl (by kernel_rfl) (by kernel_rfl) (by kernel_rfl) (fun _ _ _ h => h) (Or.inl ⟨rfl, ?h3705⟩) hHeld ?r3705
      case h3705 => intro wq hSw; (try dsimp only at hSw); go_simp; all_goals (with_reducible rfl)
      try simp only [Act.put, List.setIfInBounds_toArray, List.set_cons_zero, List.set_cons_succ]
      refine take_at 6 (some 38) (v := ?v3706) rfl rfl (by kernel_rfl) (by kernel_rfl) (by kernel_rfl) (fun _ _ _ h => h) (Or.inl ⟨rfl, ?h3706⟩) hHeld ?r3706
      case h3706 => intro wq hSw; (try dsimp only at hSw); go_simp; all_goals (with_reducible rfl)
      try simp only [Act.put, List.setIfInBounds_toArray, List.set_cons_zero, List.set_cons_succ]
      refine take_at 7 (some 39) (v := ?v3707) rfl rfl (by kernel_rfl) (by kernel_rfl) (by kernel_rfl) (fun _ _ _ h => h) (Or.inl ⟨rfl, ?h3707⟩) hHeld ?r3707
      case h3707 => intro wq hSw; (try dsimp only at hSw); go_simp; all_goals (with_reducible rfl)
      try simp only [Act.put, List.setIfInBounds_toArray, List.set_cons_zero, List.set_cons_succ]
      refine take_at 8 (some 40) (v := ?v3708) rfl rfl (by kernel_rfl) (by kernel_rfl) (by kernel_rfl) (fun _ _ _ h => h) (Or.inl ⟨rfl, ?h3708⟩) hHeld ?r3708
      case h3708 => intro wq hSw; (try dsimp only at hSw); go_simp; all_goals (with_reducible rfl)
      try simp only [Act.put, List.setIfInBounds_toArray, List.set_cons_zero, List.set_cons_succ]
      refine take_at 9 (some 41) (v := ?v3709) rfl rfl (by kernel_rfl) (by kernel_rfl) (by kernel_rfl) (fun _ _ _ h => h) (Or.inl ⟨rfl, ?h3709⟩) hHeld ?r3709
      case h3709 => intro wq hSw; (try dsimp only at hSw); go_simp; all_goals (with_reducible rfl)
      try simp only [Act.put, List.setIfInBounds_toArray, List.set_cons_zero, List.set_cons_succ]
      refine take_at 10 (some 42) (v := ?v3710) rfl rfl (by kernel_rfl) (by kernel_rfl) (by kernel_rfl) (fun _ _ _ h => h) (Or.inl ⟨rfl, ?h3710⟩) hHeld ?r3710
      case h3710 => intro wq hSw; (try dsimp only at hSw); go_simp; all_goals (with_reducible rfl)
      try simp only [Act.put, List.setIfInBounds_toArray, List.set_cons_zero, List.set_cons_succ]
      refine take_at 11 (some 43) (v := ?v3711) rfl rfl (by kernel_rfl) (by kernel_rfl) (by kernel_rfl) (fun _ _ _ h => h) (Or.inl ⟨rfl, ?h3711⟩) hHeld ?r3711
      case h3711 => intro wq hSw; (try dsimp only at hSw); go_simp; all_goals (with_reducible rfl)
      try simp only [Act.put, List.setIfInBounds_toArray, List.set_cons_zero, List.set_cons_succ]
      refine take_at 12 (some 44) (v := ?v3712) rfl rfl (by kernel_rfl) (by kernel_rfl) (by kernel_rfl) (fun _ _ _ h => h) (Or.inl ⟨rfl, ?h3712⟩) hHeld ?r3712
      case h3712 => intro wq hSw; (try dsimp only at hSw); go_simp; all_goals (with_reducible rfl)
      try simp only [Act.put, List.setIfInBounds_toArray, List.set_cons_zero, List.set_cons_succ]
      refine take_at 13 (some 45) (v := ?v3713) rfl rfl (by kernel_rfl) (by kernel_rfl) (by kernel_rfl) (fun _ _ _ h => h) (Or.inl ⟨rfl, ?h3713⟩) hHeld ?r3713
      case h3713 => intro wq hSw; (try dsimp only at hSw); go_simp; all_goals (with_reducible rfl)
      try simp only [Act.put, List.setIfInBounds_toArray, List.set_cons_zero, List.set_cons_succ]
      refine take_at 14 (some 46) (v := ?v3714) rfl rfl (by kernel_rfl) (by kernel_rfl) (by kernel_rfl) (fun _ _ _ h => h) (Or.inl ⟨rfl, ?h3714⟩) hHeld ?r3714
      case h3714 => intro wq hSw; (try dsimp only at hSw); go_simp; all_goals (with_reducible rfl)
      try simp only [Act.put, List.setIfInBounds_toArray, List.set_cons_zero, List.set_cons_succ]
      refine take_at 15 (some 47) (v := ?v3715) rfl rfl (by kernel_rfl) (by kernel_rfl) (by kernel_rfl) (fun _ _ _ h => h) (Or.inl ⟨rfl, ?h3715⟩) hHeld ?r3715
      case h3715 => intro wq hSw; (try dsimp only at hSw); go_simp; all_goals (with_reducible rfl)
      try simp only [Act.put, List.setIfInBounds_toArray, List.set_cons_zero, List.set_cons_succ]
      refine take_at 16 (some 48) (v := ?v3716) rfl rfl (by kernel_rfl) (by kernel_rfl) (by kernel_rfl) (fun _ _ _ h => h) (Or.inl ⟨rfl, ?h3716⟩) hHeld ?r3716
      case h3716 => intro wq hSw; (try dsimp only at hSw); go_simp; all_goals (with_reducible rfl)
      try simp only [Act.put, List.setIfInBounds_toArray, List.set_cons_zero, List.set_cons_succ]
      refine take_at 17 (some 49) (v := ?v3717) rfl rfl (by kernel_rfl) (by kernel_rfl) (by kernel_rfl) (fun _ _ _ h => h) (Or.inl ⟨rfl, ?h3717⟩) hHeld ?r3717
      case h3717 => intro wq hSw; (try dsimp only at hSw); go_simp; all_goals (with_reducible rfl)
      try simp only [Act.put, List.setIfInBounds_toArray, List.set_cons_zero, List.set_cons_succ]
      refine take_at 18 (some 50) (v := ?v3718) rfl rfl (by kernel_rfl) (by kernel_rfl) (by kernel_rfl) (fun _ _ _ h => h) (Or.inl ⟨rfl, ?h3718⟩) hHeld ?r3718
      case h3718 => intro wq hSw; (try dsimp only at hSw); go_simp; all_goals (with_reducible rfl)
      try simp only [Act.put, List.setIfInBounds_toArray, List.set_cons_zero, List.set_cons_succ]
      refine take_at 19 (some 51) (v := ?v3719) rfl rfl (by kernel_rfl) (by kernel_rfl) (by kernel_rfl) (fun _ _ _ h => h) (Or.inl ⟨rfl, ?h3719⟩) hHeld ?r3719
      case h3719 => intro wq hSw; (try dsimp only at hSw); go_simp; all_goals (with_reducible rfl)
      try simp only [Act.put, List.setIfInBounds_toArray, List.set_cons_zero, List.set_cons_succ]
      refine take_at 21 (some 53) (v := ?v3721) rfl rfl (by kernel_rfl) (by kernel_rfl) (by kernel_rfl) (fun _ _ _ h => h) (Or.inl ⟨rfl, ?h3721⟩) hHeld ?r3721
      case h3721 => intro wq hSw; (try dsimp only at hSw); go_simp; all_goals (with_reducible rfl)
      try simp only [Act.put, List.setIfInBounds_toArray, List.set_cons_zero, List.set_cons_succ]
      refine wpAnyH_ready (rs := [20]) (by kernel_rfl) (by simp) ?_
      refine AllReadyH.cons rfl (fun K hK => ?_) AllReadyH.nil
      go_simp
      (first
        | (go_at_call 48; refine (head_spec m1 m2 m3 _ o1 o2 o3).mono ?_; rintro e wn ⟨rfl, hbn⟩; have BN : Below W.heap.size W wn := undrew hbn)
        | (go_at_call 42; refine (hread _ (hs.below (bel2 B6 BN)) (hp.below (bel2 B6 BN))).mono ?_; rintro e wn ⟨ra, rm, ra', rm', rfl, -, hbn⟩; have BN : Below W.heap.size W wn := bel2 BN hbn)
        | (go_at_call 46; refine (half_spec _ _ _ _ _ n1 n2).mono ?_; rintro e wn ⟨rfl, hbn⟩; have BN : Below W.heap.size W wn := bel2 BN hbn)
        | (go_at_call 82; refine (is_yes _ _ _ _ (by omega) (by omega)).mono ?_; rintro e w9 ⟨rfl, rfl⟩)
        | (go_at_call 82; refine (is_no _ _ _ _ (by omega)).mono ?_; rintro e w9 ⟨rfl, rfl⟩))
      try (go_wp2_with fail)
      refine hK.out _ _ ?_ (fun hHeld => ?_)
      · exact (by first | exact hHeld | exact keepH k6 kG6 kE6 kZ BN)
      clear hK K
      try simp only [Act.put, List.setIfInBounds_toArray, List.set_cons_zero, List.set_cons_succ]
      refine wpAnyH_ready (rs := [22]) (by kernel_rfl) (by simp) ?_
      refine AllReadyH.cons rfl (fun K hK => ?_) AllReadyH.nil
      go_simp
      (first
        | (go_at_call 48; refine (head_spec m1 m2 m3 _ o1 o2 o3).mono ?_; rintro e wn ⟨rfl, hbn⟩; have BN : Below W.heap.size W wn := undrew hbn)
        | (go_at_call 42; refine (hread _ (hs.below (bel2 B6 BN)) (hp.below (bel2 B6 BN))).mono ?_; rintro e wn ⟨ra, rm, ra', rm', rfl, -, hbn⟩; have BN : Below W.heap.size W wn := bel2 BN hbn)
        | (go_at_call 46; refine (half_spec _ _ _ _ _ n1 n2).mono ?_; rintro e wn ⟨rfl, hbn⟩; have BN : Below W.heap.size W wn := bel2 BN hbn)
        | (go_at_call 82; refine (is_yes _ _ _ _ (by omega) (by omega)).mono ?_; rintro e w9 ⟨rfl, rfl⟩)
        | (go_at_call 82; refine (is_no _ _ _ _ (by omega)).mono ?_; rintro e w9 ⟨rfl, rfl⟩))
      try (go_wp2_with fail)
      refine hK.out _ _ ?_ (fun hHeld => ?_)
      · exact (by first | exact hHeld | exact keepH k6 kG6 kE6 kZ BN)
      clear hK K
      try simp only [Act.put, List.setIfInBounds_toArray, List.set_cons_zero, List.set_cons_succ]
      refine take_at 23 (some 55) (v := ?v3723) rfl rfl (by kernel_rfl) (by kernel_rfl) (by kernel_rfl) (fun _ _ _ h => h) (Or.inl ⟨rfl, ?h3723⟩) hHeld ?r3723
      case h3723 => intro wq hSw; (try dsimp only at hSw); go_simp; all_goals (with_reducible rfl)
      try simp only [Act.put, List.setIfInBounds_toArray, List.set_cons_zero, List.set_cons_succ]
      refine take_at 24 (some 56) (v := ?v3724) rfl rfl (by kernel_rfl) (by kernel_rfl) (by kernel_rfl) (fun _ _ _ h => h) (Or.inl ⟨rfl, ?h3724⟩) hHeld ?r3724
      case h3724 => intro wq hSw; (try dsimp only at hSw); go_simp; all_goals (with_reducible rfl)
      try simp only [Act.put, List.setIfInBounds_toArray, List.set_cons_zero, List.set_cons_succ]
      refine take_at 25 (some 57) (v := ?v3725) rfl rfl (by kernel_rfl) (by kernel_rfl) (by kernel_rfl) (fun _ _ _ h => h) (Or.inl ⟨rfl, ?h3725⟩) hHeld ?r3725
      case h3725 => intro wq hSw; (try dsimp only at hSw); go_simp; all_goals (with_reducible rfl)
      try simp only [Act.put, List.setIfInBounds_toArray, List.set_cons_zero, List.set_cons_succ]
      refine take_at 26 (some 58) (v := ?v3726) rfl rfl (by kernel_rfl) (by kernel_rfl) (by kernel_rfl) (fun _ _ _ h => h) (Or.inl ⟨rfl, ?h3726⟩) hHeld ?r3726
      case h3726 => intro wq hSw; (try dsimp only at hSw); go_simp; all_goals (with_reducible rfl)
      try simp only [Act.put, List.setIfInBounds_toArray, List.set_cons_zero, List.set_cons_succ]
      refine take_at 27 (some 59) (v := ?v3727) rfl rfl (by kernel_rfl) (by kernel_rfl) (by kernel_rfl) (fun _ _ _ h => h) (Or.inl ⟨rfl, ?h3727⟩) hHeld ?r3727
      case h3727 => intro wq hSw; (try dsimp only at hSw); go_simp; all_goals (with_reducible rfl)
      try simp only [Act.put, List.setIfInBounds_toArray, List.set_cons_zero, List.set_cons_succ]
      refine take_at 28 (some 60) (v := ?v3728) rfl rfl (by kernel_rfl) (by kernel_rfl) (by kernel_rfl) (fun _ _ _ h => h) (Or.inl ⟨rfl, ?h3728⟩) hHeld ?r3728
      case h3728 => intro wq hSw; (try dsimp only at hSw); go_simp; all_goals (with_reducible rfl)
      try simp only [Act.put, List.setIfInBounds_toArray, List.set_cons_zero, List.set_cons_succ]
      refine take_at 29 (some 61) (v := ?v3729) rfl rfl (by kernel_rfl) (by kernel_rfl) (by kernel_rfl) (fun _ _ _ h => h) (Or.inl ⟨rfl, ?h3729⟩) hHeld ?r3729
      case h3729 => intro wq hSw; (try dsimp only at hSw); go_simp; all_goals (with_reducible rfl)
      try simp only [Act.put, List.setIfInBounds_toArray, List.set_cons_zero, List.set_cons_succ]
      refine take_at 30 (some 62) (v := ?v3730) rfl rfl (by kernel_rfl) (by kernel_rfl) (by kernel_rfl) (fun _ _ _ h => h) (Or.inl ⟨rfl, ?h3730⟩) hHeld ?r3730
      case h3730 => intro wq hSw; (try dsimp only at hSw); go_simp; all_goals (with_reducible rfl)
      try simp only [Act.put, List.setIfInBounds_toArray, List.set_cons_zero, List.set_cons_succ]
      refine take_at 31 (some 63) (v := ?v3731) rfl rfl (by kernel_rfl) (by kernel_rfl) (by kernel_rfl) (fun _ _ _ h => h) (Or.inl ⟨rfl, ?h3731⟩) hHeld ?r3731
      case h3731 => intro wq hSw; (try dsimp only at hSw); go_simp; all_goals (with_reducible rfl)
      try simp only [Act.put, List.setIfInBounds_toArray, List.set_cons_zero, List.set_cons_succ]
      refine take_at 32 (some 64) (v := ?v3732) rfl rfl (by kernel_rfl) (by kernel_rfl) (by kernel_rfl) (fun _ _ _ h => h) (Or.inl ⟨rfl, ?h3732⟩) hHeld ?r3732
      case h3732 => intro wq hSw; (try dsimp only at hSw); go_simp; all_goals (with_reducible rfl)
      try simp only [Act.put, List.setIfInBounds_toArray, List.set_cons_zero, List.set_cons_succ]
      refine take_at 33 (some 65) (v := ?v3733) rfl rfl (by kernel_rfl) (by kernel_rfl) (by kernel_rfl) (fun _ _ _ h => h) (Or.inl ⟨rfl, ?h3733⟩) hHeld ?r3733
      case h3733 => intro wq hSw; (try dsimp only at hSw); go_simp; all_goals (with_reducible rfl)
      try simp only [Act.put, List.setIfInBounds_toArray, List.set_cons_zero, List.set_cons_succ]
      refine wpAnyH_ready (rs := [34]) (by kernel_rfl) (by simp) ?_
      refine AllReadyH.cons rfl (fun K hK => ?_) AllReadyH.nil
      go_simp
      (first
        | (go_at_call 48; refine (head_spec m1 m2 m3 _ o1 o2 o3).mono ?_; rintro e wn ⟨rfl, hbn⟩; have BN : Below W.heap.size W wn := undrew hbn)
        | (go_at_call 42; refine (hread _ (hs.below (bel2 B6 BN)) (hp.below (bel2 B6 BN))).mono ?_; rintro e wn ⟨ra, rm, ra', rm', rfl, -, hbn⟩; have BN : Below W.heap.size W wn := bel2 BN hbn)
        | (go_at_call 46; refine (half_spec _ _ _ _ _ n1 n2).mono ?_; rintro e wn ⟨rfl, hbn⟩; have BN : Below W.heap.size W wn := bel2 BN hbn)
        | (go_at_call 82; refine (is_yes _ _ _ _ (by omega) (by omega)).mono ?_; rintro e w9 ⟨rfl, rfl⟩)
        | (go_at_call 82; refine (is_no _ _ _ _ (by omega)).mono ?_; rintro e w9 ⟨rfl, rfl⟩))
      try (go_wp2_with fail)
      refine hK.out _ _ ?_ (fun hHeld => ?_)
      · exact (by first | exact hHeld | exact keepH k6 kG6 kE6 kZ BN)
      clear hK K
      try simp only [Act.put, List.setIfInBounds_toArray, List.set_cons_zero, List.set_cons_succ]
      refine take_at 35 (some 67) (v := ?v3735) rfl rfl (by kernel_rfl) (by kernel_rfl) (by kernel_rfl) (fun _ _ _ h => h) (Or.inl ⟨rfl, ?h3735⟩) hHeld ?r3735
      case h3735 => intro wq hSw; (try dsimp only at hSw); go_simp; all_goals (with_reducible rfl)
      try simp only [Act.put, List.setIfInBounds_toArray, List.set_cons_zero, List.set_cons_succ]
      refine take_at 36 (some 68) (v := ?v3736) rfl rfl (by kernel_rfl) (by kernel_rfl) (by kernel_rfl) (fun _ _ _ h => h) (Or.inl ⟨rfl, ?h3736⟩) hHeld ?r3736
      case h3736 => intro wq hSw; (try dsimp only at hSw); go_simp; all_goals (with_reducible rfl)
      try simp only [Act.put, List.setIfInBounds_toArray, List.set_cons_zero, List.set_cons_succ]
      refine take_at 37 (some 69) (v := ?v3737) rfl rfl (by kernel_rfl) (by kernel_rfl) (by kernel_rfl) (fun _ _ _ h => h) (Or.inl ⟨rfl, ?h3737⟩) hHeld ?r3737
      case h3737 => intro wq hSw; (try dsimp only at hSw); go_simp; all_goals (with_reducible rfl)
      try simp only [Act.put, List.setIfInBounds_toArray, List.set_cons_zero, List.set_cons_succ]
      refine take_at 38 (some 70) (v := undef) rfl rfl (by kernel_rfl) (by kernel_rfl) (by kernel_rfl) (fun _ _ _ h => h) (Or.inr ⟨rfl, rfl⟩) hHeld ?_
      try simp only [Act.put, List.setIfInBounds_toArray, List.set_cons_zero, List.set_cons_succ]
      refine take_at 39 (some 71) (v := undef) rfl rfl (by kernel_rfl) (by kernel_rfl) (by kernel_rfl) (fun _ _ _ h => h) (Or.inr ⟨rfl, rfl⟩) hHeld ?_
      try simp only [Act.put, List.setIfInBounds_toArray, List.set_cons_zero, List.set_cons_succ]
      refine take_at 40 (some 72) (v := undef) rfl rfl (by kernel_rfl) (by kernel_rfl) (by kernel_rfl) (fun _ _ _ h => h) (Or.inr ⟨rfl, rfl⟩) hHeld ?_
      try simp only [Act.put, List.setIfInBounds_toArray, List.set_cons_zero, List.set_cons_succ]
      refine take_at 41 (some 73) (v := undef) rfl rfl (by kernel_rfl) (by kernel_rfl) (by kernel_rfl) (fun _ _ _ h => h) (Or.inr ⟨rfl, rfl⟩) hHeld ?_
      try simp only [Act.put, List.setIfInBounds_toArray, List.set_cons_zero, List.set_cons_succ]
      refine take_at 42 (some 74) (v := undef) rfl rfl (by kernel_rfl) (by kernel_rfl) (by kernel_rfl) (fun _ _ _ h => h) (Or.inr ⟨rfl, rfl⟩) hHeld ?_
      try simp only [Act.put, List.setIfInBounds_toArray, List.set_cons_zero, List.set_cons_succ]
      refine take_at 43 (some 75) (v := undef) rfl rfl (by kernel_rfl) (by kernel_rfl) (by kernel_rfl) (fun _ _ _ h => h) (Or.inr ⟨rfl, rfl⟩) hHeld ?_
      try simp only [Act.put, List.setIfInBounds_toArray, List.set_cons_zero, List.set_cons_succ]
      refine take_at 44 (some 76) (v := undef) rfl rfl (by kernel_rfl) (by kernel_rfl) (by kernel_rfl) (fun _ _ _ h => h) (Or.inr ⟨rfl, rfl⟩) hHeld ?_
      try simp only [Act.put, List.setIfInBounds_toArray, List.set_cons_zero, List.set_cons_succ]
      refine take_at 45 (some 77) (v := ?v3745) rfl rfl (by kernel_rfl) (by kernel_rfl) (by kernel_rfl) (fun _ _ _ h => h) (Or.inl ⟨rfl, ?h3745⟩) hHeld ?r3745
      case h3745 => intro wq hSw; (try dsimp only at hSw); go_simp; all_goals (with_reducible rfl)
      try simp only [Act.put, List.setIfInBounds_toArray, List.set_cons_zero, List.set_cons_succ]
      refine wpAnyH_done (by kernel_rfl) ?_ _
      go_wp2_with fail
      go_meet
      case rel => exact RH.no HN.out BN
    obtain ⟨j1, j2⟩ := hm2
    by_cases hm3 : 0 ≤ m3 ∧ m3 ≤ (halfN ss.length * 64 : Nat)
    case neg =>
      have HN : Hid (¬ OKP) := fun h => hm3 (HO.out.1 h).2.2.2.2.2.2
      go_region_held3 (fun w' => w'.cell? ⟨w.heap.size, 0, none⟩ = some (.slice sa ss.length sc) ∧ w'.cell? ⟨w.heap.size, 1, none⟩ = some vp ∧ w'.cell? ⟨w4.heap.size, 0, none⟩ = some (.int .i64 m1) ∧ w'.cell? ⟨w4.heap.size, 2, none⟩ = some (.int .i64 0) ∧ w'.cell? ⟨w5.heap.size, 0, none⟩ = some (.int .i64 m2) ∧ w'.cell? ⟨w5.heap.size, 2, none⟩ = some (.int .i64 0) ∧ w'.cell? ⟨w6.heap.size, 0, none⟩ = some (.int .i64 m3) ∧ w'.cell? ⟨w6.heap.size, 2, none⟩ = some (.int .i64 0))
        (first
          | (with_reducible exact keepH k6 kG6 kE6 kZ BN)
          | (with_reducible exact keepH k6 kG6 kE6 kZ (Below.refl _ _).drew)
          | go_keep)
        (first
          | (go_at_call 48; refine (head_spec m1 m2 m3 _ o1 o2 o3).mono ?_; rintro e wn ⟨rfl, hbn⟩; have BN : Below W.heap.size W wn := undrew hbn)
          | (go_at_call 42; refine (hread _ (hs.below (bel2 B6 BN)) (hp.below (bel2 B6 BN))).mono ?_; rintro e wn ⟨ra, rm, ra', rm', rfl, -, hbn⟩; have BN : Below W.heap.size W wn := bel2 BN hbn)
          | (go_at_call 46; refine (half_spec _ _ _ _ _ n1 n2).mono ?_; rintro e wn ⟨rfl, hbn⟩; have BN : Below W.heap.size W wn := bel2 BN hbn)
          | (go_at_call 82; refine (is_yes _ _ _ _ (by omega) (by omega)).mono ?_; rintro e w9 ⟨rfl, rfl⟩)
          | (go_at_call 82; refine (is_no _ _ _ _ (by omega)).mono ?_; rintro e w9 ⟨rfl, rfl⟩))
      go_wp2_with fail
      go_meet
      case rel => exact RH.no HN.out BN
    obtain ⟨j3, j4⟩ := hm3
    have HN : Hid OKP := HO.out.2 ⟨rfl, rfl, rfl, HQ.out, by omega, ⟨j1, j2⟩, j3, j4⟩
    go_region_held3 (fun w' => w'.cell? ⟨w.heap.size, 0, none⟩ = some (.slice sa ss.length sc) ∧ w'.cell? ⟨w.heap.size, 1, none⟩ = some vp ∧ w'.cell? ⟨w4.heap.size, 0, none⟩ = some (.int .i64 m1) ∧ w'.cell? ⟨w4.heap.size, 2, none⟩ = some (.int .i64 0) ∧ w'.cell? ⟨w5.heap.size, 0, none⟩ = some (.int .i64 m2) ∧ w'.cell? ⟨w5.heap.size, 2, none⟩ = some (.int .i64 0) ∧ w'.cell? ⟨w6.heap.size, 0, none⟩ = some (.int .i64 m3) ∧ w'.cell? ⟨w6.heap.size, 2, none⟩ = some (.int .i64 0))
      (first
        | (with_reducible exact keepH k6 kG6 kE6 kZ BN)
        | (with_reducible exact keepH k6 kG6 kE6 kZ (Below.refl _ _).drew)
        | go_keep)
      (first
        | (go_at_call 48; refine (head_spec m1 m2 m3 _ o1 o2 o3).mono ?_; rintro e wn ⟨rfl, hbn⟩; have BN : Below W.heap.size W wn := undrew hbn)
        | (go_at_call 42; refine (hread _ (hs.below (bel2 B6 BN)) (hp.below (bel2 B6 BN))).mono ?_; rintro e wn ⟨ra, rm, ra', rm', rfl, -, hbn⟩; have BN : Below W.heap.size W wn := bel2 BN hbn)
        | (go_at_call 46; refine (half_spec _ _ _ _ _ n1 n2).mono ?_; rintro e wn ⟨rfl, hbn⟩; have BN : Below W.heap.size W wn := bel2 BN hbn)
        | (go_at_call 82; refine (is_yes _ _ _ _ (by omega) (by omega)).mono ?_; rintro e w9 ⟨rfl, rfl⟩)
        | (go_at_call 82; refine (is_no _ _ _ _ (by omega)).mono ?_; rintro e w9 ⟨rfl, rfl⟩))
    go_wp2_with fail
    go_meet
    case rel => exact RH.yes HN.out BN
  case rest =>
    obtain ⟨b, rfl, hno, hyes, hbc⟩ := hcut
    have B7 := bel2 B6 hbc
    cases b
    · have HR : Hid (SR = (m1, m2, m3, 0)) := HY.out (hyes rfl)
      obtain ⟨g0, g1, g2, -, -⟩ := blk3 (carry kG6 hbc)
      obtain ⟨e0, e1, e2, -, -⟩ := blk3 (carry kE6 hbc)
      obtain ⟨z0, z1, z2, -, -⟩ := blk3 (carry kZ hbc)
      clear hno hyes HO HY HB
      go_wp2
      go_quiet (fail)
      go_wp2
      exact bodyPost_ret (v := .tuple #[.int .i64 m1, .int .i64 m2, .int .i64 m3, .int .i64 0]) (by simp [results, Tryz.results41, go_sem]) rfl ⟨by rw [HR.out]; rfl, drewN_below B7 _⟩
    · have HR : Hid (SR = (0, 0, 0, 3)) := HB.out (hno rfl)
      clear hno hyes HO HY HB
      go_wp2
      exact bodyPost_ret (v := .tuple #[.int .i64 0, .int .i64 0, .int .i64 0, .int .i64 3]) (by simp [results, Tryz.results41, go_sem]) rfl ⟨by rw [HR.out]; rfl, B7⟩
end Go.Proofs.YtfiabbfdnmldjaaGreatDoor.U9
