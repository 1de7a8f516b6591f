/-
  A card read, in the program.
-/
import Derived.Test.YteehgicnfageiaaDoorQ5
namespace Go.Proofs.YteehgicnfageiaaDoor.Q6
open Go.RowKit
open Go.Proofs.YteehgicnfageiaaDoor.C0 Go.Proofs.YteehgicnfageiaaDoor.HB
open Go.Proofs.YteehgicnfageiaaDoor.N0 (Cd cdV cardB pinB)
open Go.Proofs.YteehgicnfageiaaDoor.P1 (CO coV ill coV_ill)
open Go.Proofs.YteehgicnfageiaaDoor.PX
open Go.Proofs.YteehgicnfageiaaDoor.N2 (cardBytes)
open Go.Proofs.YteehgicnfageiaaDoor.N3 Go.Proofs.YteehgicnfageiaaDoor.N4 Go.Proofs.YteehgicnfageiaaDoor.Q3 Go.Proofs.YteehgicnfageiaaDoor.Q4 Go.Proofs.YteehgicnfageiaaDoor.Q5

theorem grown_by {w W x : World} {g : Nat} (h : w.grownBy W (some g)) (hx : W.grownBy x (some g)) : w.grownBy x (some g) := by
  refine ⟨hx.1.trans h.1, hx.2.trans h.2, hx.3.trans h.3, Nat.le_trans h.4 hx.4, fun k hk hne => ?_⟩
  rw [hx.5 k (Nat.lt_of_lt_of_le hk h.4) hne, h.5 k hk hne]
/-- Where it is all read, and a right card, it is the card. -/
theorem read_ways {a : ByteArray} (h : opK a = 0) :
    readR a = if (decide ((i6 (C7.body a)).2.2 = 0 ∧ (i6 (C7.body a)).2.1 = ((C7.body a).size : Int)) && cardB (rdC (C7.body a))) = true then ⟨rdC (C7.body a), ⟨#[]⟩, 0⟩ else ill 3 := by
  obtain ⟨h4, h8, hok⟩ := opK_zero h
  have hsm := (same6 (C7.body a)).2.2.2.2.2.2
  have hi : (r6 (C7.body a)).2.2 = false → _ := read_iff h4 h8 hok
  have hR : readR a = if (r6 (C7.body a)).2.2 = false ∧ cardBytes (rdC (C7.body a)) = a then ⟨rdC (C7.body a), ⟨#[]⟩, 0⟩ else ill 3 := by unfold readR; rw [if_pos h]
  rw [hR]
  clear hR h4 h8 hok h
  generalize ((C7.body a).size : Int) = z at *
  generalize (r6 (C7.body a)).2 = p at *
  generalize (i6 (C7.body a)).2 = q at *
  generalize rdC (C7.body a) = c at *
  generalize cardBytes c = b at *
  rcases hsm with ⟨h1, h2⟩ | ⟨h1, h2⟩
  · have hi := hi h1
    subst h2
    by_cases hc : b = a
    · have hm := hi.2 hc
      rw [if_pos ⟨h1, hc⟩, if_pos (by rw [hm.2, decide_eq_true ⟨rfl, hm.1⟩]; rfl)]
    · rw [if_neg (fun x => hc x.2)]
      refine (if_neg (fun hx => ?_)).symm
      obtain ⟨hx1, hx2⟩ := Bool.and_eq_true_iff.1 hx
      exact hc (hi.1 ⟨(of_decide_eq_true hx1).2, hx2⟩)
  · rw [if_neg (fun x => by rw [x.1] at h1; exact Bool.noConfusion h1)]
    refine (if_neg (fun hx => ?_)).symm
    obtain ⟨hx1, _⟩ := Bool.and_eq_true_iff.1 hx
    exact h2 (of_decide_eq_true hx1).1
theorem rdC_same (s : ByteArray) : (⟨(i1 s).1, (i2 s).1, (i3 s).1, (i4 s).1, (i5 s).1, (i6 s).1⟩ : Cd) = rdC s := by
  obtain ⟨e1, e2, e3, e4, e5, e6, _⟩ := same6 s
  unfold rdC; rw [e1, e2, e3, e4, e5, e6]
def IdN (s : ByteArray) (q q' : Int × Nat) (n : Int) : Prop := ∀ (g : Nat) W, W.heap[g]? = some (irB s q) → Calls Tryd.prog 89 #[.pointer (some ⟨g, 0, none⟩)] W fun e w' => e = .returned (.int .i64 n) ∧ w'.heap[g]? = some (irB s q') ∧ W.grownBy w' (some g)
def IdT (s : ByteArray) (q q' : Int × Nat) (t : ByteArray) : Prop := ∀ (g : Nat) W, W.heap[g]? = some (irB s q) → Calls Tryd.prog 90 #[.pointer (some ⟨g, 0, none⟩)] W fun e w' => e = .returned (.string t) ∧ w'.heap[g]? = some (irB s q') ∧ W.grownBy w' (some g)
theorem idN (s : ByteArray) (q : Int × Nat) (hs : s.size ≤ 8000) (h : atOk q) : IdN s q (iN s q).2 (iN s q).1 := fun g W k => num_impl g s q W k hs h
theorem idT (s : ByteArray) (q : Int × Nat) (hs : s.size ≤ 8000) (h : atOk q) : IdT s q (iT s q).2 (iT s q).1 := fun g W k => text_impl g s q W k hs h
set_option maxRecDepth 100000 in
set_option maxHeartbeats 6400000 in
theorem card_impl (g : Nat) (s : ByteArray) (w : World) (k : w.heap[g]? = some (irB s (0, 0))) (hs : s.size ≤ 8000) :
    Calls Tryd.prog 58 #[.pointer (some ⟨g, 0, none⟩)] w fun e w' => e = .returned (cdV ⟨(i1 s).1, (i2 s).1, (i3 s).1, (i4 s).1, (i5 s).1, (i6 s).1⟩) ∧ w'.heap[g]? = some (irB s (i6 s).2) ∧ w.grownBy w' (some g) := by
  have a0 : atOk (0, 0) := by unfold atOk; dsimp only; omega
  have a1 : atOk (i1 s).2 := iN_at a0 hs
  have a2 : atOk (i2 s).2 := iN_at a1 hs
  have a3 : atOk (i3 s).2 := iT_at a2 hs
  have a4 : atOk (i4 s).2 := iN_at a3 hs
  have a5 : atOk (i5 s).2 := iN_at a4 hs
  have H1 : Hid (IdN s (0, 0) (i1 s).2 (i1 s).1) := idN s _ hs a0
  have H2 : Hid (IdN s (i1 s).2 (i2 s).2 (i2 s).1) := idN s _ hs a1
  have H3 : Hid (IdT s (i2 s).2 (i3 s).2 (i3 s).1) := idT s _ hs a2
  have H4 : Hid (IdN s (i3 s).2 (i4 s).2 (i4 s).1) := idN s _ hs a3
  have H5 : Hid (IdN s (i4 s).2 (i5 s).2 (i5 s).1) := idN s _ hs a4
  have H6 : Hid (IdT s (i5 s).2 (i6 s).2 (i6 s).1) := idT s _ hs a5
  clear a0 a1 a2 a3 a4 a5
  unfold cdV
  dsimp only
  generalize (i1 s).1 = n1 at *
  generalize (i2 s).1 = n2 at *
  generalize (i3 s).1 = n3 at *
  generalize (i4 s).1 = n4 at *
  generalize (i5 s).1 = n5 at *
  generalize (i6 s).1 = n6 at *
  generalize (i1 s).2 = q1 at *
  generalize (i2 s).2 = q2 at *
  generalize (i3 s).2 = q3 at *
  generalize (i4 s).2 = q4 at *
  generalize (i5 s).2 = q5 at *
  generalize (i6 s).2 = q6 at *
  have hlt := lt_some k
  have hn := two_new w (.cells #[.int .i64 0, .int .i64 0, .string ⟨#[]⟩, .int .i64 0, .int .i64 0, .string ⟨#[]⟩] 26) (.cells #[.int .i64 0, .int .i64 0, .string ⟨#[]⟩, .int .i64 0, .int .i64 0, .string ⟨#[]⟩] 26)
  have kG := carry k hn.2.2
  have kR := hn.1
  have kC := hn.2.1
  have bb : w.grownBy ((w.alloc (.cells #[.int .i64 0, .int .i64 0, .string ⟨#[]⟩, .int .i64 0, .int .i64 0, .string ⟨#[]⟩] 26)).alloc (.cells #[.int .i64 0, .int .i64 0, .string ⟨#[]⟩, .int .i64 0, .int .i64 0, .string ⟨#[]⟩] 26)) (some g) := PX.grown_of hn.2.2
  clear hn k
  go_enter Tryd.func58, Tryd.ntmps58
  go_upto_region 2 with fail
  generalize (w.alloc (.cells #[.int .i64 0, .int .i64 0, .string ⟨#[]⟩, .int .i64 0, .int .i64 0, .string ⟨#[]⟩] 26)).alloc (.cells #[.int .i64 0, .int .i64 0, .string ⟨#[]⟩, .int .i64 0, .int .i64 0, .string ⟨#[]⟩] 26) = x1 at *
  obtain ⟨c, hc⟩ : ∃ c, w.heap.size + 1 = c := ⟨_, rfl⟩
  rw [hc] at kC
  rw [hc]
  have hgc : g < c := by omega
  have hwc : w.heap.size < c := by omega
  clear hc
  go_wp2_with fail
  refine (H1.out g _ kG).mono ?_
  rintro e v1 ⟨rfl, kG2, hgr⟩
  have bb2 : w.grownBy v1 (some g) := grown_by bb hgr
  have kR2 := PX.carryG kR hgr (by omega)
  have kC2 := PX.carryG kC hgr (by omega)
  obtain ⟨c0, c1, c2, c3, c4, c5, cf⟩ := blk6 kC2
  have kC3 : (v1.setCell ⟨c, 0, none⟩ (.int .i64 n1)).heap[c]? = some (.cells #[.int .i64 n1, .int .i64 0, .string ⟨#[]⟩, .int .i64 0, .int .i64 0, .string ⟨#[]⟩] 26 (0, 0)) := heap_set kC2 (by simp)
  have kR3 : (v1.setCell ⟨c, 0, none⟩ (.int .i64 n1)).heap[w.heap.size]? = _ := (heap_setCell_other _ _ _ _ (by show w.heap.size ≠ c; omega)).trans kR2
  have kG3 : (v1.setCell ⟨c, 0, none⟩ (.int .i64 n1)).heap[g]? = _ := (heap_setCell_other _ _ _ _ (by show g ≠ c; omega)).trans kG2
  have bb3 : w.grownBy (v1.setCell ⟨c, 0, none⟩ (.int .i64 n1)) (some g) := PX.grown_new bb2 (by omega) _
  clear kG2 kR2 kC2 bb2 hgr bb kC kR kG
  have kC := kC3
  have kR := kR3
  have kG := kG3
  have bb := bb3
  clear kC3 kR3 kG3 bb3
  go_upto_region 3 with fail
  clear c0 c1 c2 c3 c4 c5 cf
  generalize (v1.setCell ⟨c, 0, none⟩ (.int .i64 n1)) = x2 at *
  go_wp2_with fail
  refine (H2.out g _ kG).mono ?_
  rintro e v2 ⟨rfl, kG2, hgr⟩
  have bb2 : w.grownBy v2 (some g) := grown_by bb hgr
  have kR2 := PX.carryG kR hgr (by omega)
  have kC2 := PX.carryG kC hgr (by omega)
  obtain ⟨c0, c1, c2, c3, c4, c5, cf⟩ := blk6 kC2
  have kC3 : (v2.setCell ⟨c, 1, none⟩ (.int .i64 n2)).heap[c]? = some (.cells #[.int .i64 n1, .int .i64 n2, .string ⟨#[]⟩, .int .i64 0, .int .i64 0, .string ⟨#[]⟩] 26 (0, 0)) := heap_set kC2 (by simp)
  have kR3 : (v2.setCell ⟨c, 1, none⟩ (.int .i64 n2)).heap[w.heap.size]? = _ := (heap_setCell_other _ _ _ _ (by show w.heap.size ≠ c; omega)).trans kR2
  have kG3 : (v2.setCell ⟨c, 1, none⟩ (.int .i64 n2)).heap[g]? = _ := (heap_setCell_other _ _ _ _ (by show g ≠ c; omega)).trans kG2
  have bb3 : w.grownBy (v2.setCell ⟨c, 1, none⟩ (.int .i64 n2)) (some g) := PX.grown_new bb2 (by omega) _
  clear kG2 kR2 kC2 bb2 hgr bb kC kR kG
  have kC := kC3
  have kR := kR3
  have kG := kG3
  have bb := bb3
  clear kC3 kR3 kG3 bb3
  go_upto_region 4 with fail
  clear c0 c1 c2 c3 c4 c5 cf
  generalize (v2.setCell ⟨c, 1, none⟩ (.int .i64 n2)) = x3 at *
  go_wp2_with fail
  refine (H3.out g _ kG).mono ?_
  rintro e v3 ⟨rfl, kG2, hgr⟩
  have bb2 : w.grownBy v3 (some g) := grown_by bb hgr
  have kR2 := PX.carryG kR hgr (by omega)
  have kC2 := PX.carryG kC hgr (by omega)
  obtain ⟨c0, c1, c2, c3, c4, c5, cf⟩ := blk6 kC2
  have kC3 : (v3.setCell ⟨c, 2, none⟩ (.string n3)).heap[c]? = some (.cells #[.int .i64 n1, .int .i64 n2, .string n3, .int .i64 0, .int .i64 0, .string ⟨#[]⟩] 26 (0, 0)) := heap_set kC2 (by simp)
  have kR3 : (v3.setCell ⟨c, 2, none⟩ (.string n3)).heap[w.heap.size]? = _ := (heap_setCell_other _ _ _ _ (by show w.heap.size ≠ c; omega)).trans kR2
  have kG3 : (v3.setCell ⟨c, 2, none⟩ (.string n3)).heap[g]? = _ := (heap_setCell_other _ _ _ _ (by show g ≠ c; omega)).trans kG2
  have bb3 : w.grownBy (v3.setCell ⟨c, 2, none⟩ (.string n3)) (some g) := PX.grown_new bb2 (by omega) _
  clear kG2 kR2 kC2 bb2 hgr bb kC kR kG
  have kC := kC3
  have kR := kR3
  have kG := kG3
  have bb := bb3
  clear kC3 kR3 kG3 bb3
  go_upto_region 5 with fail
  clear c0 c1 c2 c3 c4 c5 cf
  generalize (v3.setCell ⟨c, 2, none⟩ (.string n3)) = x4 at *
  go_wp2_with fail
  refine (H4.out g _ kG).mono ?_
  rintro e v4 ⟨rfl, kG2, hgr⟩
  have bb2 : w.grownBy v4 (some g) := grown_by bb hgr
  have kR2 := PX.carryG kR hgr (by omega)
  have kC2 := PX.carryG kC hgr (by omega)
  obtain ⟨c0, c1, c2, c3, c4, c5, cf⟩ := blk6 kC2
  have kC3 : (v4.setCell ⟨c, 3, none⟩ (.int .i64 n4)).heap[c]? = some (.cells #[.int .i64 n1, .int .i64 n2, .string n3, .int .i64 n4, .int .i64 0, .string ⟨#[]⟩] 26 (0, 0)) := heap_set kC2 (by simp)
  have kR3 : (v4.setCell ⟨c, 3, none⟩ (.int .i64 n4)).heap[w.heap.size]? = _ := (heap_setCell_other _ _ _ _ (by show w.heap.size ≠ c; omega)).trans kR2
  have kG3 : (v4.setCell ⟨c, 3, none⟩ (.int .i64 n4)).heap[g]? = _ := (heap_setCell_other _ _ _ _ (by show g ≠ c; omega)).trans kG2
  have bb3 : w.grownBy (v4.setCell ⟨c, 3, none⟩ (.int .i64 n4)) (some g) := PX.grown_new bb2 (by omega) _
  clear kG2 kR2 kC2 bb2 hgr bb kC kR kG
  have kC := kC3
  have kR := kR3
  have kG := kG3
  have bb := bb3
  clear kC3 kR3 kG3 bb3
  go_upto_region 6 with fail
  clear c0 c1 c2 c3 c4 c5 cf
  generalize (v4.setCell ⟨c, 3, none⟩ (.int .i64 n4)) = x5 at *
  go_wp2_with fail
  refine (H5.out g _ kG).mono ?_
  rintro e v5 ⟨rfl, kG2, hgr⟩
  have bb2 : w.grownBy v5 (some g) := grown_by bb hgr
  have kR2 := PX.carryG kR hgr (by omega)
  have kC2 := PX.carryG kC hgr (by omega)
  obtain ⟨c0, c1, c2, c3, c4, c5, cf⟩ := blk6 kC2
  have kC3 : (v5.setCell ⟨c, 4, none⟩ (.int .i64 n5)).heap[c]? = some (.cells #[.int .i64 n1, .int .i64 n2, .string n3, .int .i64 n4, .int .i64 n5, .string ⟨#[]⟩] 26 (0, 0)) := heap_set kC2 (by simp)
  have kR3 : (v5.setCell ⟨c, 4, none⟩ (.int .i64 n5)).heap[w.heap.size]? = _ := (heap_setCell_other _ _ _ _ (by show w.heap.size ≠ c; omega)).trans kR2
  have kG3 : (v5.setCell ⟨c, 4, none⟩ (.int .i64 n5)).heap[g]? = _ := (heap_setCell_other _ _ _ _ (by show g ≠ c; omega)).trans kG2
  have bb3 : w.grownBy (v5.setCell ⟨c, 4, none⟩ (.int .i64 n5)) (some g) := PX.grown_new bb2 (by omega) _
  clear kG2 kR2 kC2 bb2 hgr bb kC kR kG
  have kC := kC3
  have kR := kR3
  have kG := kG3
  have bb := bb3
  clear kC3 kR3 kG3 bb3
  go_upto_region 7 with fail
  clear c0 c1 c2 c3 c4 c5 cf
  generalize (v5.setCell ⟨c, 4, none⟩ (.int .i64 n5)) = x6 at *
  go_wp2_with fail
  refine (H6.out g _ kG).mono ?_
  rintro e v6 ⟨rfl, kG2, hgr⟩
  have bb2 : w.grownBy v6 (some g) := grown_by bb hgr
  have kR2 := PX.carryG kR hgr (by omega)
  have kC2 := PX.carryG kC hgr (by omega)
  obtain ⟨c0, c1, c2, c3, c4, c5, cf⟩ := blk6 kC2
  have kC3 : (v6.setCell ⟨c, 5, none⟩ (.string n6)).heap[c]? = some (.cells #[.int .i64 n1, .int .i64 n2, .string n3, .int .i64 n4, .int .i64 n5, .string n6] 26 (0, 0)) := heap_set kC2 (by simp)
  have kR3 : (v6.setCell ⟨c, 5, none⟩ (.string n6)).heap[w.heap.size]? = _ := (heap_setCell_other _ _ _ _ (by show w.heap.size ≠ c; omega)).trans kR2
  have kG3 : (v6.setCell ⟨c, 5, none⟩ (.string n6)).heap[g]? = _ := (heap_setCell_other _ _ _ _ (by show g ≠ c; omega)).trans kG2
  have bb3 : w.grownBy (v6.setCell ⟨c, 5, none⟩ (.string n6)) (some g) := PX.grown_new bb2 (by omega) _
  clear kG2 kR2 kC2 bb2 hgr bb kC kR kG
  have kC := kC3
  have kR := kR3
  have kG := kG3
  have bb := bb3
  clear kC3 kR3 kG3 bb3
  go_upto_region 8 with fail
  clear c0 c1 c2 c3 c4 c5 cf
  generalize (v6.setCell ⟨c, 5, none⟩ (.string n6)) = x7 at *
  obtain ⟨r0, r1, r2, r3, r4, r5, rf⟩ := blk6 kR
  obtain ⟨c0, c1, c2, c3, c4, c5, cf⟩ := blk6 kC
  have KGH : Hid (∀ a b d e f i, ((((((x7.setCell ⟨w.heap.size, 0, none⟩ a).setCell ⟨w.heap.size, 1, none⟩ b).setCell ⟨w.heap.size, 2, none⟩ d).setCell ⟨w.heap.size, 3, none⟩ e).setCell ⟨w.heap.size, 4, none⟩ f).setCell ⟨w.heap.size, 5, none⟩ i).heap[g]? = some (irB s q6)) := fun a b d e f i => by
    have h : g ≠ w.heap.size := by omega
    rw [heap_setCell_other _ _ _ _ h, heap_setCell_other _ _ _ _ h, heap_setCell_other _ _ _ _ h, heap_setCell_other _ _ _ _ h, heap_setCell_other _ _ _ _ h, heap_setCell_other _ _ _ _ h]
    exact kG
  have BH : Hid (∀ a b d e f i, w.grownBy ((((((x7.setCell ⟨w.heap.size, 0, none⟩ a).setCell ⟨w.heap.size, 1, none⟩ b).setCell ⟨w.heap.size, 2, none⟩ d).setCell ⟨w.heap.size, 3, none⟩ e).setCell ⟨w.heap.size, 4, none⟩ f).setCell ⟨w.heap.size, 5, none⟩ i) (some g)) := fun a b d e f i =>
    PX.grown_new (PX.grown_new (PX.grown_new (PX.grown_new (PX.grown_new (PX.grown_new bb (Nat.le_refl _) _) (Nat.le_refl _) _) (Nat.le_refl _) _) (Nat.le_refl _) _) (Nat.le_refl _) _) (Nat.le_refl _) _
  clear kR kC kG bb H1 H2 H3 H4 H5 H6
  go_wp2
  exact bodyPost_ret (v := .agg #[.int .i64 n1, .int .i64 n2, .string n3, .int .i64 n4, .int .i64 n5, .string n6]) (by simp [results, Tryd.results58, go_sem, r0, r1, r2, r3, r4, r5]) rfl ⟨rfl, KGH.out _ _ _ _ _ _, BH.out _ _ _ _ _ _⟩
set_option maxRecDepth 100000 in
set_option maxHeartbeats 6400000 in
theorem read_impl (a : ByteArray) (w : World) (ha : a.size ≤ maxLen) :
    Calls Tryd.prog 17 #[.string a] w fun e w' => e = .returned (coV (readR a)) ∧ Below w.heap.size w w' := by
  have KR : Hid _ := heap_alloc_new w (.cells #[.int .i64 0, .int .i64 0, .string ⟨#[]⟩, .int .i64 0, .int .i64 0, .string ⟨#[]⟩, .string ⟨#[]⟩, .int .i64 0] 30)
  have B0 : Hid _ := albel w (.cells #[.int .i64 0, .int .i64 0, .string ⟨#[]⟩, .int .i64 0, .int .i64 0, .string ⟨#[]⟩, .string ⟨#[]⟩, .int .i64 0] 30)
  have HU : Hid (∀ W, Calls Tryd.prog 57 #[.string a] W fun e w' => e = .returned (.agg #[.string (if opK a = 0 then C7.body a else ⟨#[]⟩), .int .i64 0, .int .i64 (opK a)]) ∧ Below W.heap.size W w') := fun W => by
    have h := C7.impl_any a W ha
    rw [opened_eq] at h
    exact h
  by_cases hk : opK a = 0
  · have HRR : Hid _ := read_ways hk
    obtain ⟨hz4, hz8, hok⟩ := opK_zero hk
    rw [if_pos hk, hk] at HU
    have hbz := body_size a hz8
    have hats := ats (C7.body a)
    have HB : Hid (∀ W, Calls Tryd.prog 26 #[cdV (rdC (C7.body a))] W fun e w' => e = .returned (.bool (cardB (rdC (C7.body a)))) ∧ Below W.heap.size W w') := fun W => P0.card_impl _ W (by unfold maxLen rdC; dsimp only; omega) (by unfold maxLen rdC; dsimp only; omega)
    generalize C7.body a = s at *
    have HC : Hid (∀ (g : Nat) W, W.heap[g]? = some (irB s (0, 0)) → Calls Tryd.prog 58 #[.pointer (some ⟨g, 0, none⟩)] W fun e w' => e = .returned (cdV (rdC s)) ∧ w'.heap[g]? = some (irB s (i6 s).2) ∧ W.grownBy w' (some g)) := fun g W k => by
      have h := card_impl g s W k hbz
      rw [rdC_same] at h
      exact h
    have HD : Hid (∀ (g : Nat) W, W.heap[g]? = some (irB s (i6 s).2) → Calls Tryd.prog 59 #[.pointer (some ⟨g, 0, none⟩)] W fun e w' => e = .returned (.bool (decide ((i6 s).2.2 = 0 ∧ (i6 s).2.1 = (s.size : Int)))) ∧ Below W.heap.size W w') := fun g W k => done_impl g s (i6 s).2 W k
    clear hats hz4 hz8 hok hk hbz
    generalize (i6 s).2 = q6 at *
    generalize decide (q6.2 = 0 ∧ q6.1 = (s.size : Int)) = d at *
    generalize rdC s = cc at *
    obtain ⟨n1, n2, n3, n4, n5, n6⟩ := cc
    unfold cdV at HB HC
    dsimp only at HB HC
    generalize cardB ⟨n1, n2, n3, n4, n5, n6⟩ = cb at *
    go_enter Tryd.func17, Tryd.ntmps17
    go_wp2_with fail
    refine (HU.out _).mono ?_
    rintro e w1 ⟨rfl, hb⟩
    have kR := carryA (carryA (carry KR.out hb) (.cells #[.string s, .int .i64 0, .int .i64 0] 77)) (.cells #[.string s, .int .i64 0, .nilIface] 82)
    have kG := (two_new w1 (.cells #[.string s, .int .i64 0, .int .i64 0] 77) (.cells #[.string s, .int .i64 0, .nilIface] 82)).2.1
    have bb : Below w.heap.size w ((w1.alloc (.cells #[.string s, .int .i64 0, .int .i64 0] 77)).alloc (.cells #[.string s, .int .i64 0, .nilIface] 82)) := bel2 (bel2 B0.out hb) (two_new w1 _ _).2.2
    have hgw : w.heap.size < w1.heap.size := lt_some (carry KR.out hb)
    clear hb
    go_upto_region 5 with fail
    generalize (w1.alloc (.cells #[.string s, .int .i64 0, .int .i64 0] 77)).alloc (.cells #[.string s, .int .i64 0, .nilIface] 82) = x1 at *
    obtain ⟨g, hg⟩ : ∃ g, w1.heap.size + 1 = g := ⟨_, rfl⟩
    rw [hg] at kG
    rw [hg]
    have hwg : w.heap.size < g := by omega
    clear hg hgw KR B0
    go_wp2_with fail
    refine (HC.out g _ kG).mono ?_
    rintro e v1 ⟨rfl, kG2, hgr⟩
    have bb2 : Below w.heap.size w v1 := below_grown bb hgr (by omega) bb.size
    have kR2 := carryA (PX.carryG kR hgr (by omega)) (.cells #[.int .i64 n1, .int .i64 n2, .string n3, .int .i64 n4, .int .i64 n5, .string n6] 26)
    have kC := heap_alloc_new v1 (.cells #[.int .i64 n1, .int .i64 n2, .string n3, .int .i64 n4, .int .i64 n5, .string n6] 26)
    have kG3 := carryA kG2 (.cells #[.int .i64 n1, .int .i64 n2, .string n3, .int .i64 n4, .int .i64 n5, .string n6] 26)
    have bb3 : Below w.heap.size w (v1.alloc (.cells #[.int .i64 n1, .int .i64 n2, .string n3, .int .i64 n4, .int .i64 n5, .string n6] 26)) := bel2 bb2 (albel _ _)
    clear kG2 kR bb bb2 hgr kG
    go_upto_region 6 with fail
    generalize v1.alloc (.cells #[.int .i64 n1, .int .i64 n2, .string n3, .int .i64 n4, .int .i64 n5, .string n6] 26) = x2 at *
    obtain ⟨c, hc⟩ : ∃ c, v1.heap.size = c := ⟨_, rfl⟩
    rw [hc] at kC
    rw [hc]
    clear hc
    go_wp2_with fail
    refine (HD.out g _ kG3).mono ?_
    rintro e v2 ⟨rfl, hb⟩
    have KRH : Hid _ := carry kR2 hb
    have KCH : Hid _ := carry kC hb
    have BH : Hid (Below w.heap.size w v2) := bel2 bb3 hb
    clear kR2 kC kG3 bb3 hb HC HD HU
    obtain ⟨r0, r1, r2, r3, r4, r5, r6, r7, rf⟩ := blk8 KRH.out
    obtain ⟨c0, c1, c2, c3, c4, c5, cf⟩ := blk6 KCH.out
    cases d with
    | false =>
      have HX : Hid (readR a = ill 3) := by unfold Hid; rw [HRR.out]; rfl
      clear HRR
      go_wp2
      exact bodyPost_ret (v := .agg #[.int .i64 0, .int .i64 0, .string ⟨#[]⟩, .int .i64 0, .int .i64 0, .string ⟨#[]⟩, .string ⟨#[]⟩, .int .i64 3]) (by simp [results, Tryd.results17, go_sem, r0, r1, r2, r3, r4, r5, r6, r7]) rfl ⟨by rw [HX.out]; rfl, set8 BH.out (by omega) _ _ _ _ _ _ _ _⟩
    | true =>
      go_wp2_with fail
      refine (HB.out _).mono ?_
      rintro e v3 ⟨rfl, hb⟩
      clear r0 r1 r2 r3 r4 r5 r6 r7 rf c0 c1 c2 c3 c4 c5 cf
      obtain ⟨r0, r1, r2, r3, r4, r5, r6, r7, rf⟩ := blk8 (carry KRH.out hb)
      obtain ⟨c0, c1, c2, c3, c4, c5, cf⟩ := blk6 (carry KCH.out hb)
      have B9 : Hid (Below w.heap.size w v3) := bel2 BH.out hb
      clear hb
      cases cb with
      | false =>
        have HX : Hid (readR a = ill 3) := by unfold Hid; rw [HRR.out]; rfl
        clear HRR
        go_wp2
        exact bodyPost_ret (v := .agg #[.int .i64 0, .int .i64 0, .string ⟨#[]⟩, .int .i64 0, .int .i64 0, .string ⟨#[]⟩, .string ⟨#[]⟩, .int .i64 3]) (by simp [results, Tryd.results17, go_sem, r0, r1, r2, r3, r4, r5, r6, r7]) rfl ⟨by rw [HX.out]; rfl, set8 B9.out (by omega) _ _ _ _ _ _ _ _⟩
      | true =>
        have HX : Hid (readR a = ⟨⟨n1, n2, n3, n4, n5, n6⟩, ⟨#[]⟩, 0⟩) := by unfold Hid; rw [HRR.out]; rfl
        clear HRR
        go_wp2
        exact bodyPost_ret (v := .agg #[.int .i64 n1, .int .i64 n2, .string n3, .int .i64 n4, .int .i64 n5, .string n6, .string ⟨#[]⟩, .int .i64 0]) (by simp [results, Tryd.results17, go_sem, r0, r1, r2, r3, r4, r5, r6, r7]) rfl ⟨by rw [HX.out]; rfl, set8 B9.out (by omega) _ _ _ _ _ _ _ _⟩
  · have HX : Hid (readR a = ill (opK a)) := by unfold Hid readR; rw [if_neg hk]
    rw [HX.out, coV_ill]
    rw [if_neg hk] at HU
    have t0 : (opK a != 0) = true := by simp [hk]
    clear HX
    generalize opK a = k at *
    go_enter Tryd.func17, Tryd.ntmps17
    go_wp2_with fail
    refine (HU.out _).mono ?_
    rintro e w1 ⟨rfl, hb⟩
    have kR := carryA (carry KR.out hb) (.cells #[.string ⟨#[]⟩, .int .i64 0, .int .i64 k] 77)
    have bb : Below w.heap.size w (w1.alloc (.cells #[.string ⟨#[]⟩, .int .i64 0, .int .i64 k] 77)) := bel2 (bel2 B0.out hb) (albel _ _)
    have kX := heap_alloc_new w1 (.cells #[.string ⟨#[]⟩, .int .i64 0, .int .i64 k] 77)
    clear hb
    go_upto_region 2 with fail
    generalize w1.alloc (.cells #[.string ⟨#[]⟩, .int .i64 0, .int .i64 k] 77) = x1 at *
    obtain ⟨r0, r1, r2, r3, r4, r5, r6, r7, rf⟩ := blk8 kR
    obtain ⟨y0, y1, y2, yf⟩ := blk3f kX
    have BZ : Hid (Below w.heap.size w x1) := bb
    clear kR kX bb
    go_wp2
    exact bodyPost_ret (v := .agg #[.int .i64 0, .int .i64 0, .string ⟨#[]⟩, .int .i64 0, .int .i64 0, .string ⟨#[]⟩, .string ⟨#[]⟩, .int .i64 k]) (by simp [results, Tryd.results17, go_sem, r0, r1, r2, r3, r4, r5, r6, r7]) rfl ⟨rfl, set8 BZ.out (by omega) _ _ _ _ _ _ _ _⟩
end Go.Proofs.YteehgicnfageiaaDoor.Q6
