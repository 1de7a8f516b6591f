/-
  The program's reading of a head and its text, whatever its reading of a side answers as it should.
-/
import Derived.Test.YtfiabbfdnmldjaaGreatDoorV0
import Derived.Test.YtfiabbfdnmldjaaGreatDoorV2
import Derived.Test.YtfiabbfdnmldjaaGreatDoorPE
namespace Go.Proofs.YtfiabbfdnmldjaaGreatDoor.V3
open Go.RowKit
open Go.Proofs.YtfiabbfdnmldjaaGreatDoor.C0 Go.Proofs.YtfiabbfdnmldjaaGreatDoor.C7 Go.Proofs.YtfiabbfdnmldjaaGreatDoor.S0 Go.Proofs.YtfiabbfdnmldjaaGreatDoor.S1 Go.Proofs.YtfiabbfdnmldjaaGreatDoor.S3 Go.Proofs.YtfiabbfdnmldjaaGreatDoor.O1 Go.Proofs.YtfiabbfdnmldjaaGreatDoor.T0 Go.Proofs.YtfiabbfdnmldjaaGreatDoor.T1 Go.Proofs.YtfiabbfdnmldjaaGreatDoor.T4 Go.Proofs.YtfiabbfdnmldjaaGreatDoor.T5 Go.Proofs.YtfiabbfdnmldjaaGreatDoor.U0 Go.Proofs.YtfiabbfdnmldjaaGreatDoor.U1 Go.Proofs.YtfiabbfdnmldjaaGreatDoor.U2 Go.Proofs.YtfiabbfdnmldjaaGreatDoor.U4 Go.Proofs.YtfiabbfdnmldjaaGreatDoor.U5 Go.Proofs.YtfiabbfdnmldjaaGreatDoor.U8 Go.Proofs.YtfiabbfdnmldjaaGreatDoor.U9 Go.Proofs.YtfiabbfdnmldjaaGreatDoor.V0 Go.Proofs.YtfiabbfdnmldjaaGreatDoor.V2
open Go.Proofs.YtfiabbfdnmldjaaGreatDoor.Dk (rightB right_iff readR sect want gath SideOk)
theorem hr_iff (g s z : Int) : hrB g s z = true ↔ 0 ≤ g ∧ (0 ≤ s ∧ s ≤ 1) ∧ 0 ≤ z := by
  simp only [hrB, Bool.and_eq_true, Bool.or_eq_true, decide_eq_true_eq, beq_iff_eq]
  omega
theorem ok_iff {x : ByteArray} {room : Nat} (hx : codeU x = 0) : HeadOk x room ↔ HeadAt (body x) ∧ nOf (R3 (body x)) ≤ room := by
  unfold HeadOk HeadAt
  constructor
  · rintro ⟨h1, h2, h3, h4, h5, h6, h7, h8⟩
    exact ⟨⟨h1, h2, h3, (head_end hx h1 h2 h3).1 h4, (hr_iff _ _ _).2 ⟨h5, h6, h7⟩⟩, h8⟩
  · rintro ⟨⟨h1, h2, h3, h4, h5⟩, h8⟩
    obtain ⟨k1, k2, k3⟩ := (hr_iff _ _ _).1 h5
    exact ⟨h1, h2, h3, (head_end hx h1 h2 h3).2 h4, k1, k2, k3, h8⟩
/-- What is told of a head and a text, and why not. -/
def HTold (a1 a3 a5 a9 : Addr) (w : World) (g s z : Int) (t : ByteArray) (k : Int) (e : Ending) (w' : World) : Prop :=
  ∃ (g' s' z' : Int) (t' : ByteArray) (err : Value), e = .returned (.tuple #[.agg #[.int .i64 g', .int .i64 s', .int .i64 z'], .string t', err]) ∧ IsErr a1 a3 a5 a9 err k ∧ (k = 0 → g' = g ∧ s' = s ∧ z' = z ∧ t' = t) ∧ Below w.heap.size w w'
/-- What is to be told of a disk. -/
def seenD (ss : List ByteArray) (ps : List Pend) : Int × Int × Int × Int := seenR (zeroth ss ps) (halfN ss.length * 64)
abbrev textD (ss : List ByteArray) (ps : List Pend) : ByteArray := ⟨(gath ss ps (firstN ss.length (seenD ss ps).2.1.toNat) (seenD ss ps).2.2.1.toNat 32).toArray⟩
def codeD (ss : List ByteArray) (ps : List Pend) : Int :=
  if rightB ss ps = false then 1 else if (seenD ss ps).2.2.2 = 0 then (if SideOk ss ps (firstN ss.length (seenD ss ps).2.1.toNat) (seenD ss ps).2.2.1.toNat then 0 else 5) else (seenD ss ps).2.2.2
/-- What the reading of a side owes. -/
def SideTold (a1 a3 a5 a9 : Addr) (ss : List ByteArray) (ps : List Pend) : Prop :=
  ∀ (g : Int) (s z : Nat) (vs vp : Value) (W : World), Sents W a1 a3 a5 a9 → Strs W vs ss → Pends W vp ps → s ≤ 1 → z ≤ halfN ss.length * 64 →
    Calls Tryz.prog 72 #[.agg #[vs, vp], .agg #[.int .i64 g, .int .i64 (s : Nat), .int .i64 (z : Nat)]] W fun e w' =>
      (∃ t err, e = .returned (.tuple #[.string t, err]) ∧ IsErr a1 a3 a5 a9 err (if SideOk ss ps (firstN ss.length s) z then 0 else 5) ∧ (SideOk ss ps (firstN ss.length s) z → t = ⟨(gath ss ps (firstN ss.length s) z 32).toArray⟩)) ∧ Below W.heap.size W w'
abbrev set3 (w : World) (g : Nat) (a b c : Value) : World := ((w.setCell ⟨g, 0, none⟩ a).setCell ⟨g, 1, none⟩ b).setCell ⟨g, 2, none⟩ c
theorem set3_below {B g : Nat} {a0 w : World} (h : Below B a0 w) (hg : B ≤ g) (a b c : Value) : Below B a0 (set3 w g a b c) :=
  ((h.setCell (p := ⟨g, 0, none⟩) hg _).setCell (p := ⟨g, 1, none⟩) hg _).setCell (p := ⟨g, 2, none⟩) hg _
theorem set3_at {w : World} {g : Nat} {x y z : Value} {T : TypeId} (h : w.heap[g]? = some (.cells #[x, y, z] T (0, 0))) (a b c : Value) : (set3 w g a b c).heap[g]? = some (.cells #[a, b, c] T (0, 0)) := by
  have h1 := heap_setCell_same w g 0 _ _ a h
  have h2 := heap_setCell_same _ g 1 _ _ b h1
  have h3 := heap_setCell_same _ g 2 _ _ c h2
  simpa using h3
theorem set3_read {w : World} {g : Nat} {x y z : Value} {T : TypeId} (h : w.heap[g]? = some (.cells #[x, y, z] T (0, 0))) (a b c : Value) (X : Obj) : ((set3 w g a b c).alloc X).cell? ⟨g, 0, none⟩ = some a ∧ ((set3 w g a b c).alloc X).cell? ⟨g, 1, none⟩ = some b ∧ ((set3 w g a b c).alloc X).cell? ⟨g, 2, none⟩ = some c := by
  obtain ⟨h0, h1, h2, -, -⟩ := blk3 (carryA (set3_at h a b c) X)
  exact ⟨h0, h1, h2⟩
theorem fin_err {a1 a3 a5 a9 : Addr} {w X : World} {g s z k : Int} {t : ByteArray} {err : Value} {R : Nat} (he : IsErr a1 a3 a5 a9 err k) (hk : ¬ k = 0) (h : Below w.heap.size w X) (hR : w.heap.size ≤ R) (p q r : Value) :
    HTold a1 a3 a5 a9 w g s z t k (.returned (.tuple #[.agg #[.int .i64 0, .int .i64 0, .int .i64 0], .string ⟨#[]⟩, err])) (set3 X R p q r) :=
  ⟨0, 0, 0, ⟨#[]⟩, err, rfl, he, fun e => absurd e hk, set3_below h hR p q r⟩
theorem codes {ss : List ByteArray} {ps : List Pend} (hR : rightB ss ps = true) :
    (¬ codeU (zeroth ss ps) = 0 → codeD ss ps = codeU (zeroth ss ps)) ∧
    (codeU (zeroth ss ps) = 0 → ¬ HeadAt (body (zeroth ss ps)) → codeD ss ps = 3) ∧
    (codeU (zeroth ss ps) = 0 → ¬ nOf (R3 (body (zeroth ss ps))) ≤ (halfN ss.length * 64 : Nat) → codeD ss ps = 3) ∧
    (codeU (zeroth ss ps) = 0 → HeadAt (body (zeroth ss ps)) → nOf (R3 (body (zeroth ss ps))) ≤ (halfN ss.length * 64 : Nat) →
      seenD ss ps = (nOf (R1 (body (zeroth ss ps))), nOf (R2 (body (zeroth ss ps))), nOf (R3 (body (zeroth ss ps))), 0) ∧
      codeD ss ps = if SideOk ss ps (firstN ss.length (seenD ss ps).2.1.toNat) (seenD ss ps).2.2.1.toNat then 0 else 5) := by
  have hn : ¬ rightB ss ps = false := by rw [hR]; simp
  refine ⟨fun h => ?_, fun h h2 => ?_, fun h h2 => ?_, fun h h2 h3 => ?_⟩
  · have e : seenD ss ps = (0, 0, 0, codeU (zeroth ss ps)) := seen_no h
    unfold codeD
    rw [if_neg hn, e]
    exact if_neg h
  · have e : seenD ss ps = (0, 0, 0, 3) := seen_bad h (fun q => h2 ((ok_iff h).1 q).1)
    unfold codeD
    rw [if_neg hn, e]
    exact if_neg (by decide)
  · have e : seenD ss ps = (0, 0, 0, 3) := seen_bad h (fun q => h2 ((ok_iff h).1 q).2)
    unfold codeD
    rw [if_neg hn, e]
    exact if_neg (by decide)
  · have e : seenD ss ps = (nOf (R1 (body (zeroth ss ps))), nOf (R2 (body (zeroth ss ps))), nOf (R3 (body (zeroth ss ps))), 0) := seen_yes h ((ok_iff h).2 ⟨h2, h3⟩)
    refine ⟨e, ?_⟩
    unfold codeD
    rw [if_neg hn, if_pos (by rw [e])]
theorem keepDH {W w' : World} {g h : Nat} {a b c d f : Value} {T U : TypeId} (k : W.heap[g]? = some (.cells #[a, b] T)) (l : W.heap[h]? = some (.cells #[c, d, f] U)) (hb : Below W.heap.size W w') : w'.cell? ⟨g, 0, none⟩ = some a ∧ w'.cell? ⟨g, 1, none⟩ = some b ∧ w'.cell? ⟨h, 2, none⟩ = some f :=
  ⟨(blk2 (carry k hb)).1, (blk2 (carry k hb)).2.1, (blk3 (carry l hb)).2.2.1⟩
set_option maxRecDepth 100000 in
set_option maxHeartbeats 3200000 in
theorem readArea_any (a1 a3 a5 a9 : Addr) (vs vp : Value) (ss : List ByteArray) (ps : List Pend) (w : World) (hS : Sents w a1 a3 a5 a9) (hs : Strs w vs ss) (hp : Pends w vp ps) (hz : ∀ s ∈ ss, s.size ≤ maxLen) (hzp : ∀ p ∈ ps, p.2.size ≤ maxLen) (hside : rightB ss ps = true → SideTold a1 a3 a5 a9 ss ps) :
    Calls Tryz.prog 34 #[.agg #[vs, vp]] w fun e w' => HTold a1 a3 a5 a9 w (seenD ss ps).1 (seenD ss ps).2.1 (seenD ss ps).2.2.1 (textD ss ps) (codeD ss ps) e w' := by
  obtain ⟨sa, sc, rfl⟩ : ∃ a c, vs = .slice a ss.length c := hs.len
  obtain ⟨k0, k1, b0, z0⟩ := T5.k_box w (.cells #[.slice sa ss.length sc, vp] 26) (.cells #[.int .i64 0, .int .i64 0, .int .i64 0] 57)
  cases hR : rightB ss ps
  · have hO : codeD ss ps = 1 := by unfold codeD; rw [if_pos hR]
    rw [hO]
    generalize (seenD ss ps).1 = G
    generalize textD ss ps = TX
    generalize (seenD ss ps).2.2.1 = Z
    generalize (seenD ss ps).2.1 = SD
    go_enter Tryz.func34, Tryz.ntmps34
    go_wp2_with fail
    refine (right_impl _ _ ss ps _ (hs.below b0) (hp.below b0) hz hzp).mono ?_
    rintro e w1 ⟨rfl, hb1⟩
    have B1 := bel2 b0 hb1
    have c1 := (hS.below B1).c1
    have c1' : ∀ u, (w1.setCell ⟨w.heap.size + 1, 0, none⟩ u).cell? ⟨0, 0, none⟩ = some (sent a1) := fun u => by rw [World.cell?_of_block (w := w1) (Below.heap_setCell _ _ _ _ (by have := lt_cell hS.c1; show 0 ≠ w.heap.size + 1; omega))]; exact c1
    obtain ⟨x0, x1, x2, xf, x9⟩ := blk3 (carry k1 hb1)
    obtain ⟨q0, q1, -, -⟩ := blk2 (carry k0 hb1)
    clear k0 k1 hb1 b0
    rw [hR]
    have HF : Hid (∀ p q r, HTold a1 a3 a5 a9 w G SD Z TX 1 (.returned (.tuple #[.agg #[.int .i64 0, .int .i64 0, .int .i64 0], .string ⟨#[]⟩, sent a1])) (set3 w1.drew (w.heap.size + 1) p q r)) := fin_err .form (by omega) B1.drew (by omega)
    go_wp2
    go_region
    all_goals
      go_wp2
      exact bodyPost_ret (v := .tuple #[.agg #[.int .i64 0, .int .i64 0, .int .i64 0], .string ⟨#[]⟩, sent a1]) (by simp [results, Tryz.results34, go_sem, x0, x1, x2]) rfl (HF.out _ _ _)
  have hside := hside hR
  obtain ⟨n1, n2, n3, n4, n5⟩ := (right_iff ss ps).1 hR
  have hh31 := half_le _ n2
  have hX := zeroth_size hR
  have hread : ∀ W, Strs W (.slice sa ss.length sc) ss → Pends W vp ps → Calls Tryz.prog 70 #[.agg #[.slice sa ss.length sc, vp], .int .i64 0] W fun e w' => OTold W ss ps (zeroth ss ps) 0 e w' := fun W h1 h2 => by
    have := T9.read_impl (.slice sa ss.length sc) vp ss ps 0 W h1 h2 hz hzp
    rw [zeroth_read hR] at this
    exact this
  have hroom : ∀ W, Strs W (.slice sa ss.length sc) ss → Pends W vp ps → Calls Tryz.prog 16 #[.agg #[.slice sa ss.length sc, vp]] W fun e w' => e = .returned (.int .i64 (halfN ss.length * 64 : Nat)) ∧ Below W.heap.size W w' := fun W h1 h2 => by
    have := room_impl (.slice sa ss.length sc) vp ss ps W h1 h2 hz hzp
    rw [room_yes hR] at this
    exact this
  obtain ⟨f1, f2, f3, f4⟩ := codes hR
  have F1 : Hid _ := f1
  have F2 : Hid _ := f2
  have F3 : Hid _ := f3
  have F4 : Hid _ := f4
  have HTX : Hid (textD ss ps = ⟨(gath ss ps (firstN ss.length (seenD ss ps).2.1.toNat) (seenD ss ps).2.2.1.toNat 32).toArray⟩) := rfl
  clear f1 f2 f3 f4
  generalize textD ss ps = TX at HTX ⊢
  generalize seenD ss ps = SN at F4 HTX ⊢
  generalize codeD ss ps = KD at F1 F2 F3 F4 ⊢
  generalize zeroth ss ps = X at hX hread F1 F2 F3 F4
  have hun := opened_eq X
  have hfd := field_data
  go_enter Tryz.func34, Tryz.ntmps34
  go_wp2_with fail
  refine (right_impl _ _ ss ps _ (hs.below b0) (hp.below b0) hz hzp).mono ?_
  rintro e w1 ⟨rfl, hb1⟩
  have B1 := bel2 b0 hb1
  have k01 := carry k0 hb1
  have k11 := carry k1 hb1
  obtain ⟨q0, q1, -, -⟩ := blk2 k01
  clear k0 k1 hb1 b0
  rw [hR]
  go_wp2_with fail
  refine (hread _ (hs.below B1) (hp.below B1)).mono ?_
  rintro e w2 ⟨fa, fm, fa', fm', rfl, -, hb2⟩
  have B2 := bel2 B1 hb2
  have k02 := carry k01 hb2
  have k12 := carry k11 hb2
  clear q0 q1 k01 k11 hb2 B1
  go_wp2_with fail
  refine (C7.impl_any X _ (by unfold maxLen; omega)).mono ?_
  rintro e w3 ⟨rfl, hb3⟩
  have B3 := bel2 B2 hb3
  have k03 := carry k02 hb3
  have k13 := carry k12 hb3
  clear k02 k12 hb3 B2
  rw [hun]
  unfold out
  by_cases hc : codeU X = 0
  case neg =>
    have HK : Hid (KD = codeU X) := F1.out hc
    have hc' : (codeU X == 0) = false := by simpa using hc
    obtain ⟨x0, x1, x2, xf, x9⟩ := blk3 k13
    have HF : ∀ o : Obj, Hid (∀ p q r, HTold a1 a3 a5 a9 w SN.1 SN.2.1 SN.2.2.1 TX KD (.returned (.tuple #[.agg #[.int .i64 0, .int .i64 0, .int .i64 0], .string ⟨#[]⟩, CF.fault (codeU X)])) ((set3 w3 (w.heap.size + 1) p q r).alloc o).drew) := fun o p q r => by
      rw [HK.out]
      exact ⟨0, 0, 0, ⟨#[]⟩, _, rfl, .fault _ hc, fun e => absurd e hc, (bel2 (set3_below B3 (by omega) p q r) (albel _ _)).drew⟩
    have HY : ∀ X', Hid (_ ∧ _ ∧ _) := fun X' => set3_read k13 (.int .i64 0) (.int .i64 0) (.int .i64 0) X'
    clear F1 F2 F3 F4 HTX hun
    generalize codeU X = cu at *
    clear hc
    go_wp2
    go_region
    all_goals
      go_wp2
      exact bodyPost_ret (v := .tuple #[.agg #[.int .i64 0, .int .i64 0, .int .i64 0], .string ⟨#[]⟩, CF.fault cu]) (by simp [results, Tryz.results34, go_sem, (HY _).out.1, (HY _).out.2.1, (HY _).out.2.2, CF.fault]) rfl ((HF _).out _ _ _)
  have htx : textU X = body X := by unfold textU; rw [if_pos hc]
  rw [htx, hc]
  have hbs : (body X).size ≤ 64 := Nat.le_trans (body_size X) hX
  have G2 : Hid _ := F2.out hc
  have G3 : Hid _ := F3.out hc
  have G4 : Hid _ := F4.out hc
  clear F1 F2 F3 F4 htx hun hc
  have hhead : ∀ W, Sents W a1 a3 a5 a9 → Calls Tryz.prog 71 #[.string (body X)] W fun e w' => ((HeadAt (body X) ∧ e = .returned (.tuple #[.agg #[.int .i64 (nOf (R1 (body X))), .int .i64 (nOf (R2 (body X))), .int .i64 (nOf (R3 (body X)))], .nilIface])) ∨ (¬ HeadAt (body X) ∧ e = .returned (.tuple #[.agg #[.int .i64 0, .int .i64 0, .int .i64 0], sent a3]))) ∧ Below W.heap.size W w' := fun W h => head_any a1 a3 a5 a9 (body X) W h (by omega)
  have hrange : Hid (HeadAt (body X) → (0 ≤ nOf (R2 (body X)) ∧ nOf (R2 (body X)) ≤ 1) ∧ 0 ≤ nOf (R3 (body X))) := fun h => ((hr_iff _ _ _).1 h.2.2.2.2).2
  generalize nOf (R1 (body X)) = m1 at *
  generalize nOf (R2 (body X)) = m2 at *
  generalize nOf (R3 (body X)) = m3 at *
  generalize HeadAt (body X) = HP at *
  generalize body X = t at *
  have k04 := carryA k03 (.cells #[.string t, .int .i64 0, .int .i64 0] 101)
  have k14 := carryA k13 (.cells #[.string t, .int .i64 0, .int .i64 0] 101)
  have B4 := bel2 B3 (albel w3 (.cells #[.string t, .int .i64 0, .int .i64 0] 101))
  clear k03 k13 B3
  go_wp2_with fail
  refine (hhead _ (hS.below B4)).mono ?_
  rintro e w5 ⟨hcase, hb5⟩
  have B5 := bel2 B4 hb5
  have k05 := carry k04 hb5
  have k15 := carry k14 hb5
  clear k04 k14 hb5 hhead B4
  rcases hcase with ⟨hAt, rfl⟩ | ⟨hNo, rfl⟩
  case inr =>
    have HK : Hid (KD = 3) := G2.out hNo
    obtain ⟨x0, x1, x2, xf, x9⟩ := blk3 k15
    have HF : ∀ o : Obj, Hid (∀ p q r, HTold a1 a3 a5 a9 w SN.1 SN.2.1 SN.2.2.1 TX KD (.returned (.tuple #[.agg #[.int .i64 0, .int .i64 0, .int .i64 0], .string ⟨#[]⟩, sent a3])) ((set3 w5 (w.heap.size + 1) p q r).alloc o)) := fun o p q r => by
      rw [HK.out]
      exact ⟨0, 0, 0, ⟨#[]⟩, _, rfl, .head, fun e => absurd e (by decide), bel2 (set3_below B5 (by omega) p q r) (albel _ _)⟩
    have HY : ∀ X', Hid (_ ∧ _ ∧ _) := fun X' => set3_read k15 (.int .i64 0) (.int .i64 0) (.int .i64 0) X'
    clear G2 G3 G4 HTX hrange hNo
    go_wp2
    exact bodyPost_ret (v := .tuple #[.agg #[.int .i64 0, .int .i64 0, .int .i64 0], .string ⟨#[]⟩, sent a3]) (by simp [results, Tryz.results34, go_sem, (HY _).out.1, (HY _).out.2.1, (HY _).out.2.2]) rfl ((HF _).out _ _ _)
  obtain ⟨⟨j1, j2⟩, j3⟩ := hrange.out hAt
  obtain ⟨s, rfl⟩ : ∃ s : Nat, m2 = s := ⟨m2.toNat, by omega⟩
  obtain ⟨z, rfl⟩ : ∃ z : Nat, m3 = z := ⟨m3.toNat, by omega⟩
  have k06 := carryA k05 (.cells #[.int .i64 m1, .int .i64 (s : Nat), .int .i64 (z : Nat)] 57)
  have k16 := carryA k15 (.cells #[.int .i64 m1, .int .i64 (s : Nat), .int .i64 (z : Nat)] 57)
  have kH := heap_alloc_new w5 (.cells #[.int .i64 m1, .int .i64 (s : Nat), .int .i64 (z : Nat)] 57)
  have B6 := bel2 B5 (albel w5 (.cells #[.int .i64 m1, .int .i64 (s : Nat), .int .i64 (z : Nat)] 57))
  clear k05 k15 B5
  go_wp2_with fail
  obtain ⟨W, hW⟩ : ∃ W, w5.alloc (.cells #[.int .i64 m1, .int .i64 (s : Nat), .int .i64 (z : Nat)] 57) = W := ⟨_, rfl⟩
  rw [hW] at k06 k16 kH B6 ⊢
  clear hW
  obtain ⟨q0, q1, -, -⟩ := blk2 k06
  obtain ⟨y0, y1, y2, -, -⟩ := blk3 kH
  go_region_held3 (fun w' => w'.cell? ⟨w.heap.size, 0, none⟩ = some (.slice sa ss.length sc) ∧ w'.cell? ⟨w.heap.size, 1, none⟩ = some vp ∧ w'.cell? ⟨w5.heap.size, 2, none⟩ = some (.int .i64 (z : Nat)))
    (first
      | (with_reducible exact keepDH k06 kH BN)
      | (with_reducible exact keepDH k06 kH (Below.refl _ _).drew)
      | go_keep)
    (first
      | (go_at_call 16; refine (hroom _ (hs.below B6.drew) (hp.below B6.drew)).mono ?_; rintro e wn ⟨rfl, hbn⟩; have BN : Below W.heap.size W wn := undrew hbn))
  have B7 := bel2 B6 BN
  have k07 := carry k06 BN
  have k17 := carry k16 BN
  have kH7 := carry kH BN
  clear q0 q1 y0 y1 y2 k06 k16 kH B6 BN hbn
  obtain ⟨x0, x1, x2, xf, x9⟩ := blk3 k17
  by_cases hgt : (z : Int) ≤ ((halfN ss.length * 64 : Nat) : Int)
  case neg =>
    have hgt' : ((halfN ss.length * 64 : Nat) : Int) < (z : Int) := by omega
    have hgn : halfN ss.length * 64 < z := by omega
    have HK : Hid (KD = 3) := G3.out (by omega)
    have c3 := (hS.below B7).c3
    have c3' : ∀ u, (wn.setCell ⟨w.heap.size + 1, 0, none⟩ u).cell? ⟨1, 0, none⟩ = some (sent a3) := fun u => by rw [World.cell?_of_block (w := wn) (Below.heap_setCell _ _ _ _ (by have := lt_cell hS.c3; show 1 ≠ w.heap.size + 1; omega))]; exact c3
    have HF : Hid (∀ p q r, HTold a1 a3 a5 a9 w SN.1 SN.2.1 SN.2.2.1 TX KD (.returned (.tuple #[.agg #[.int .i64 0, .int .i64 0, .int .i64 0], .string ⟨#[]⟩, sent a3])) (set3 wn (w.heap.size + 1) p q r).drew) := fun p q r => by
      rw [HK.out]
      exact ⟨0, 0, 0, ⟨#[]⟩, _, rfl, .head, fun e => absurd e (by decide), (set3_below B7 (by omega) p q r).drew⟩
    clear G2 G3 G4 HTX hrange hgt
    go_wp2
    go_region
    all_goals
      go_wp2
      exact bodyPost_ret (v := .tuple #[.agg #[.int .i64 0, .int .i64 0, .int .i64 0], .string ⟨#[]⟩, sent a3]) (by simp [results, Tryz.results34, go_sem, x0, x1, x2]) rfl (HF.out _ _ _)
  have hgt' : ¬ ((halfN ss.length * 64 : Nat) : Int) < (z : Int) := by omega
  have hgn : ¬ halfN ss.length * 64 < z := by omega
  obtain ⟨hSN, hKD⟩ := G4.out hAt hgt
  have HSN : Hid (SN = (m1, (s : Int), (z : Int), 0)) := hSN
  have HKD : Hid (KD = if SideOk ss ps (firstN ss.length s) z then 0 else 5) := by rw [hSN] at hKD; exact hKD
  have HT2 : Hid (TX = ⟨(gath ss ps (firstN ss.length s) z 32).toArray⟩) := by have := HTX.out; rw [hSN] at this; exact this
  clear hSN hKD G2 G3 G4 HTX hrange hgt
  obtain ⟨q0, q1, -, -⟩ := blk2 k07
  obtain ⟨y0, y1, y2, -, -⟩ := blk3 kH7
  go_wp2_with fail
  refine (hside m1 s z _ _ _ (hS.below B7) (hs.below B7) (hp.below B7) (by omega) (by omega)).mono ?_
  rintro e w8 ⟨⟨t8, err, rfl, herr, ht8⟩, hb8⟩
  have B8 := bel2 B7 hb8
  obtain ⟨r0, r1, r2, rf, r9⟩ := blk3 (carry k17 hb8)
  clear x0 x1 x2 xf x9 q0 q1 y0 y1 y2
  obtain ⟨y0, y1, y2, -, -⟩ := blk3 (carry kH7 hb8)
  have HF : Hid (∀ p q r, HTold a1 a3 a5 a9 w SN.1 SN.2.1 SN.2.2.1 TX KD (.returned (.tuple #[.agg #[.int .i64 m1, .int .i64 (s : Nat), .int .i64 (z : Nat)], .string t8, err])) (set3 w8 (w.heap.size + 1) p q r)) := fun p q r => by
    rw [HSN.out]
    refine ⟨m1, s, z, t8, err, rfl, by rw [HKD.out]; exact herr, fun e => ⟨rfl, rfl, rfl, ?_⟩, set3_below B8 (by omega) p q r⟩
    rw [HT2.out]
    refine ht8 ?_
    have e2 := HKD.out
    rw [e] at e2
    by_cases hq : SideOk ss ps (firstN ss.length s) z
    · exact hq
    · rw [if_neg hq] at e2; cases e2
  clear herr ht8
  go_wp2
  exact bodyPost_ret (v := .tuple #[.agg #[.int .i64 m1, .int .i64 (s : Nat), .int .i64 (z : Nat)], .string t8, err]) (by simp [results, Tryz.results34, go_sem, r0, r1, r2]) rfl (HF.out _ _ _)
end Go.Proofs.YtfiabbfdnmldjaaGreatDoor.V3
