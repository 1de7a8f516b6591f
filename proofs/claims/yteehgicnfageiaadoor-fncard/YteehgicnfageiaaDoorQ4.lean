/-
  A card read, in the specification.
-/
import Derived.Test.YteehgicnfageiaaDoorQ3
namespace Go.Proofs.YteehgicnfageiaaDoor.Q4
open Go.RowKit
open Go.Proofs.YteehgicnfageiaaDoor.C0 Go.Proofs.YteehgicnfageiaaDoor.HB
open Go.Proofs.YteehgicnfageiaaDoor.N0 (Cd cdV cardB pinB)
open Go.Proofs.YteehgicnfageiaaDoor.P1 (CO coV ill coV_ill)
open Go.Proofs.YteehgicnfageiaaDoor.PX
open Go.Proofs.YteehgicnfageiaaDoor.N2 (cardBytes)
open Go.Proofs.YteehgicnfageiaaDoor.N3 Go.Proofs.YteehgicnfageiaaDoor.N4 Go.Proofs.YteehgicnfageiaaDoor.Q3

theorem below_grown {B : Nat} {w W w' : World} {g : Nat} (h : Below B w W) (hg : W.grownBy w' (some g)) (hB : B ≤ g) (hW : B ≤ W.heap.size) : Below B w w' :=
  h.trans ⟨hg.1, hg.2, hg.3, hg.4, fun k hk => hg.5 k (by omega) (fun e => by cases e; omega)⟩
/-- A reader reads a number, a text. -/
def RdN (s : ByteArray) (q q' : Int × Bool) (n : Int) : Prop := ∀ (g : Nat) W, W.heap[g]? = some (rdB s q) → Calls Tryd.prog 68 #[.pointer (some ⟨g, 0, none⟩)] W fun e w' => e = .returned (.int .i64 n) ∧ w'.heap[g]? = some (rdB s q') ∧ W.grownBy w' (some g)
def RdT (s : ByteArray) (q q' : Int × Bool) (t : ByteArray) : Prop := ∀ (g : Nat) W, W.heap[g]? = some (rdB s q) → Calls Tryd.prog 69 #[.pointer (some ⟨g, 0, none⟩)] W fun e w' => e = .returned (.string t) ∧ w'.heap[g]? = some (rdB s q') ∧ W.grownBy w' (some g)
theorem rdN (s : ByteArray) (q : Int × Bool) (hs : s.size ≤ 8000) (h0 : 0 ≤ q.1) (h1 : q.1 ≤ s.size) : RdN s q (rdNum s q).2 (rdNum s q).1 := fun g W k => by
  obtain ⟨a, b⟩ := q
  exact num_spec g s a b W k hs h0 (by dsimp only at h1; omega)
theorem rdT (s : ByteArray) (q : Int × Bool) (hs : s.size ≤ 8000) (h0 : 0 ≤ q.1) (h1 : q.1 ≤ s.size) : RdT s q (rdText s q).2 (rdText s q).1 := fun g W k => by
  obtain ⟨a, b⟩ := q
  exact text_spec g s a b W k hs h0 (by dsimp only at h1; omega)
theorem body_size (a : ByteArray) (h : a.size ≤ 8000) : (C7.body a).size ≤ 8000 := by unfold C7.body; rw [ByteArray.size_extract]; omega
set_option maxRecDepth 100000 in
set_option maxHeartbeats 6400000 in
theorem read_spec (a : ByteArray) (w : World) (ha : a.size ≤ maxLen) :
    Calls Tryd.prog 23 #[.string a] w fun e w' => e = .returned (coV (readR a)) ∧ Below w.heap.size w w' := by
  have KR : Hid _ := heap_alloc_new w (.cells #[.int .i64 0, .int .i64 0, .string ⟨#[]⟩, .int .i64 0, .int .i64 0, .string ⟨#[]⟩, .string ⟨#[]⟩, .int .i64 0] 30)
  have B0 : Hid _ := albel w (.cells #[.int .i64 0, .int .i64 0, .string ⟨#[]⟩, .int .i64 0, .int .i64 0, .string ⟨#[]⟩, .string ⟨#[]⟩, .int .i64 0] 30)
  have HU : Hid (∀ W, Calls Tryd.prog 55 #[.string a] W fun e w' => e = .returned (.agg #[.string (if opK a = 0 then C7.body a else ⟨#[]⟩), .int .i64 0, .int .i64 (opK a)]) ∧ Below W.heap.size W w') := fun W => by
    have h := C7.spec_any a W ha
    rw [opened_eq] at h
    exact h
  by_cases hk : opK a = 0
  · obtain ⟨hz4, hz8, hok⟩ := opK_zero hk
    have HRR : Hid (readR a = if (r6 (C7.body a)).2.2 = false ∧ cardBytes (rdC (C7.body a)) = a then ⟨rdC (C7.body a), ⟨#[]⟩, 0⟩ else ill 3) := by unfold Hid readR; rw [if_pos hk]
    rw [if_pos hk, hk] at HU
    have hbz := body_size a hz8
    have hats := ats (C7.body a)
    have HB : Hid (∀ W, Calls Tryd.prog 22 #[cdV (rdC (C7.body a))] W fun e w' => e = .returned (.string (cardBytes (rdC (C7.body a)))) ∧ Below W.heap.size W w') := fun W => N2.bytes_spec _ W (by unfold maxLen rdC; dsimp only; omega) (by unfold maxLen rdC; dsimp only; omega) (num_range _ _)
    generalize C7.body a = s at *
    have H1 : Hid (RdN s (0, false) (r1 s).2 (r1 s).1) := rdN s _ hbz (Int.le_refl _) (by show (0 : Int) ≤ (s.size : Int); omega)
    have H2 : Hid (RdN s (r1 s).2 (r2 s).2 (r2 s).1) := rdN s _ hbz hats.1.1 hats.1.2
    have H3 : Hid (RdT s (r2 s).2 (r3 s).2 (r3 s).1) := rdT s _ hbz hats.2.1.1 hats.2.1.2
    have H4 : Hid (RdN s (r3 s).2 (r4 s).2 (r4 s).1) := rdN s _ hbz hats.2.2.1.1 hats.2.2.1.2
    have H5 : Hid (RdN s (r4 s).2 (r5 s).2 (r5 s).1) := rdN s _ hbz hats.2.2.2.1.1 hats.2.2.2.1.2
    have H6 : Hid (RdT s (r5 s).2 (r6 s).2 (r6 s).1) := rdT s _ hbz hats.2.2.2.2.1.1 hats.2.2.2.2.1.2
    unfold rdC cdV at HB
    unfold rdC at HRR
    dsimp only at HB
    clear hats hz4 hz8 hok hk
    generalize (r1 s).1 = n1 at *
    generalize (r2 s).1 = n2 at *
    generalize (r3 s).1 = n3 at *
    generalize (r4 s).1 = n4 at *
    generalize (r5 s).1 = n5 at *
    generalize (r6 s).1 = n6 at *
    generalize (r1 s).2 = q1 at *
    generalize (r2 s).2 = q2 at *
    generalize (r3 s).2 = q3 at *
    generalize (r4 s).2 = q4 at *
    generalize (r5 s).2 = q5 at *
    generalize (r6 s).2 = q6 at *
    generalize cardBytes ⟨n1, n2, n3, n4, n5, n6⟩ = cb at *
    go_enter Tryd.func23, Tryd.ntmps23
    go_wp2_with fail
    refine (HU.out _).mono ?_
    rintro e w1 ⟨rfl, hb⟩
    have kR := carryA (carryA (carry KR.out hb) (.cells #[.string s, .int .i64 0, .int .i64 0] 77)) (.cells #[.string s, .int .i64 0, .bool false] 92)
    have kG := (two_new w1 (.cells #[.string s, .int .i64 0, .int .i64 0] 77) (.cells #[.string s, .int .i64 0, .bool false] 92)).2.1
    have bb : Below w.heap.size w ((w1.alloc (.cells #[.string s, .int .i64 0, .int .i64 0] 77)).alloc (.cells #[.string s, .int .i64 0, .bool false] 92)) := bel2 (bel2 B0.out hb) (two_new w1 _ _).2.2
    have hgw : w.heap.size < w1.heap.size := lt_some (carry KR.out hb)
    clear hb
    go_upto_region 5 with fail
    generalize (w1.alloc (.cells #[.string s, .int .i64 0, .int .i64 0] 77)).alloc (.cells #[.string s, .int .i64 0, .bool false] 92) = x1 at *
    obtain ⟨g, hg⟩ : ∃ g, w1.heap.size + 1 = g := ⟨_, rfl⟩
    rw [hg] at kG
    rw [hg]
    have hwg : w.heap.size < g := by omega
    clear hg hgw KR B0
    go_wp2_with fail
    refine (H1.out g _ kG).mono ?_
    rintro e v1 ⟨rfl, kG2, hgr⟩
    have bb2 : Below w.heap.size w v1 := below_grown bb hgr (by omega) bb.size
    have kR2 := PX.carryG kR hgr (by omega)
    have sz := hgr.4
    have kC := heap_alloc_new v1 (.cells #[.int .i64 n1, .int .i64 0, .string ⟨#[]⟩, .int .i64 0, .int .i64 0, .string ⟨#[]⟩] 26)
    have kR := carryA kR2 (.cells #[.int .i64 n1, .int .i64 0, .string ⟨#[]⟩, .int .i64 0, .int .i64 0, .string ⟨#[]⟩] 26)
    have kG := carryA kG2 (.cells #[.int .i64 n1, .int .i64 0, .string ⟨#[]⟩, .int .i64 0, .int .i64 0, .string ⟨#[]⟩] 26)
    have bb3 : Below w.heap.size w (v1.alloc (.cells #[.int .i64 n1, .int .i64 0, .string ⟨#[]⟩, .int .i64 0, .int .i64 0, .string ⟨#[]⟩] 26)) := bel2 bb2 (albel _ _)
    have hCg : g < v1.heap.size := lt_some kG2
    have hcs : w.heap.size < v1.heap.size := lt_some kR2
    clear kG2 kR2 bb2 hgr sz bb
    have bb := bb3
    clear bb3
    go_upto_region 6 with fail
    generalize v1.alloc (.cells #[.int .i64 n1, .int .i64 0, .string ⟨#[]⟩, .int .i64 0, .int .i64 0, .string ⟨#[]⟩] 26) = x2 at *
    obtain ⟨c, hc⟩ : ∃ c, v1.heap.size = c := ⟨_, rfl⟩
    rw [hc] at kC hCg hcs
    rw [hc]
    clear hc
    go_wp2_with fail
    refine (H2.out g _ kG).mono ?_
    rintro e v2 ⟨rfl, kG2, hgr⟩
    have bb2 : Below w.heap.size w v2 := below_grown bb hgr (by omega) bb.size
    have kR2 := PX.carryG kR hgr (by omega)
    have kC2 := PX.carryG kC hgr (by omega)
    have sz := hgr.4
    obtain ⟨c0, c1, c2, c3, c4, c5, cf⟩ := blk6 kC2
    have kC3 : (v2.setCell ⟨c, 1, none⟩ (.int .i64 n2)).heap[c]? = some (.cells #[.int .i64 n1, .int .i64 n2, .string ⟨#[]⟩, .int .i64 0, .int .i64 0, .string ⟨#[]⟩] 26 (0, 0)) := heap_set kC2 (by simp)
    have kR3 : (v2.setCell ⟨c, 1, none⟩ (.int .i64 n2)).heap[w.heap.size]? = _ := (heap_setCell_other _ _ _ _ (by show w.heap.size ≠ c; omega)).trans kR2
    have kG3 : (v2.setCell ⟨c, 1, none⟩ (.int .i64 n2)).heap[g]? = _ := (heap_setCell_other _ _ _ _ (by show g ≠ c; omega)).trans kG2
    have bb3 : Below w.heap.size w (v2.setCell ⟨c, 1, none⟩ (.int .i64 n2)) := bb2.setCell (by show w.heap.size ≤ c; omega) _
    clear kG2 kR2 kC2 bb2 hgr sz bb kC kR kG
    have kC := kC3
    have kR := kR3
    have kG := kG3
    have bb := bb3
    clear kC3 kR3 kG3 bb3
    go_upto_region 7 with fail
    clear c0 c1 c2 c3 c4 c5 cf
    generalize (v2.setCell ⟨c, 1, none⟩ (.int .i64 n2)) = x3 at *
    go_wp2_with fail
    refine (H3.out g _ kG).mono ?_
    rintro e v3 ⟨rfl, kG2, hgr⟩
    have bb2 : Below w.heap.size w v3 := below_grown bb hgr (by omega) bb.size
    have kR2 := PX.carryG kR hgr (by omega)
    have kC2 := PX.carryG kC hgr (by omega)
    have sz := hgr.4
    obtain ⟨c0, c1, c2, c3, c4, c5, cf⟩ := blk6 kC2
    have kC3 : (v3.setCell ⟨c, 2, none⟩ (.string n3)).heap[c]? = some (.cells #[.int .i64 n1, .int .i64 n2, .string n3, .int .i64 0, .int .i64 0, .string ⟨#[]⟩] 26 (0, 0)) := heap_set kC2 (by simp)
    have kR3 : (v3.setCell ⟨c, 2, none⟩ (.string n3)).heap[w.heap.size]? = _ := (heap_setCell_other _ _ _ _ (by show w.heap.size ≠ c; omega)).trans kR2
    have kG3 : (v3.setCell ⟨c, 2, none⟩ (.string n3)).heap[g]? = _ := (heap_setCell_other _ _ _ _ (by show g ≠ c; omega)).trans kG2
    have bb3 : Below w.heap.size w (v3.setCell ⟨c, 2, none⟩ (.string n3)) := bb2.setCell (by show w.heap.size ≤ c; omega) _
    clear kG2 kR2 kC2 bb2 hgr sz bb kC kR kG
    have kC := kC3
    have kR := kR3
    have kG := kG3
    have bb := bb3
    clear kC3 kR3 kG3 bb3
    go_upto_region 8 with fail
    clear c0 c1 c2 c3 c4 c5 cf
    generalize (v3.setCell ⟨c, 2, none⟩ (.string n3)) = x4 at *
    go_wp2_with fail
    refine (H4.out g _ kG).mono ?_
    rintro e v4 ⟨rfl, kG2, hgr⟩
    have bb2 : Below w.heap.size w v4 := below_grown bb hgr (by omega) bb.size
    have kR2 := PX.carryG kR hgr (by omega)
    have kC2 := PX.carryG kC hgr (by omega)
    have sz := hgr.4
    obtain ⟨c0, c1, c2, c3, c4, c5, cf⟩ := blk6 kC2
    have kC3 : (v4.setCell ⟨c, 3, none⟩ (.int .i64 n4)).heap[c]? = some (.cells #[.int .i64 n1, .int .i64 n2, .string n3, .int .i64 n4, .int .i64 0, .string ⟨#[]⟩] 26 (0, 0)) := heap_set kC2 (by simp)
    have kR3 : (v4.setCell ⟨c, 3, none⟩ (.int .i64 n4)).heap[w.heap.size]? = _ := (heap_setCell_other _ _ _ _ (by show w.heap.size ≠ c; omega)).trans kR2
    have kG3 : (v4.setCell ⟨c, 3, none⟩ (.int .i64 n4)).heap[g]? = _ := (heap_setCell_other _ _ _ _ (by show g ≠ c; omega)).trans kG2
    have bb3 : Below w.heap.size w (v4.setCell ⟨c, 3, none⟩ (.int .i64 n4)) := bb2.setCell (by show w.heap.size ≤ c; omega) _
    clear kG2 kR2 kC2 bb2 hgr sz bb kC kR kG
    have kC := kC3
    have kR := kR3
    have kG := kG3
    have bb := bb3
    clear kC3 kR3 kG3 bb3
    go_upto_region 9 with fail
    clear c0 c1 c2 c3 c4 c5 cf
    generalize (v4.setCell ⟨c, 3, none⟩ (.int .i64 n4)) = x5 at *
    go_wp2_with fail
    refine (H5.out g _ kG).mono ?_
    rintro e v5 ⟨rfl, kG2, hgr⟩
    have bb2 : Below w.heap.size w v5 := below_grown bb hgr (by omega) bb.size
    have kR2 := PX.carryG kR hgr (by omega)
    have kC2 := PX.carryG kC hgr (by omega)
    have sz := hgr.4
    obtain ⟨c0, c1, c2, c3, c4, c5, cf⟩ := blk6 kC2
    have kC3 : (v5.setCell ⟨c, 4, none⟩ (.int .i64 n5)).heap[c]? = some (.cells #[.int .i64 n1, .int .i64 n2, .string n3, .int .i64 n4, .int .i64 n5, .string ⟨#[]⟩] 26 (0, 0)) := heap_set kC2 (by simp)
    have kR3 : (v5.setCell ⟨c, 4, none⟩ (.int .i64 n5)).heap[w.heap.size]? = _ := (heap_setCell_other _ _ _ _ (by show w.heap.size ≠ c; omega)).trans kR2
    have kG3 : (v5.setCell ⟨c, 4, none⟩ (.int .i64 n5)).heap[g]? = _ := (heap_setCell_other _ _ _ _ (by show g ≠ c; omega)).trans kG2
    have bb3 : Below w.heap.size w (v5.setCell ⟨c, 4, none⟩ (.int .i64 n5)) := bb2.setCell (by show w.heap.size ≤ c; omega) _
    clear kG2 kR2 kC2 bb2 hgr sz bb kC kR kG
    have kC := kC3
    have kR := kR3
    have kG := kG3
    have bb := bb3
    clear kC3 kR3 kG3 bb3
    go_upto_region 10 with fail
    clear c0 c1 c2 c3 c4 c5 cf
    generalize (v5.setCell ⟨c, 4, none⟩ (.int .i64 n5)) = x6 at *
    go_wp2_with fail
    refine (H6.out g _ kG).mono ?_
    rintro e v6 ⟨rfl, kG2, hgr⟩
    have bb2 : Below w.heap.size w v6 := below_grown bb hgr (by omega) bb.size
    have kR2 := PX.carryG kR hgr (by omega)
    have kC2 := PX.carryG kC hgr (by omega)
    have sz := hgr.4
    obtain ⟨c0, c1, c2, c3, c4, c5, cf⟩ := blk6 kC2
    have kC3 : (v6.setCell ⟨c, 5, none⟩ (.string n6)).heap[c]? = some (.cells #[.int .i64 n1, .int .i64 n2, .string n3, .int .i64 n4, .int .i64 n5, .string n6] 26 (0, 0)) := heap_set kC2 (by simp)
    have kR3 : (v6.setCell ⟨c, 5, none⟩ (.string n6)).heap[w.heap.size]? = _ := (heap_setCell_other _ _ _ _ (by show w.heap.size ≠ c; omega)).trans kR2
    have kG3 : (v6.setCell ⟨c, 5, none⟩ (.string n6)).heap[g]? = _ := (heap_setCell_other _ _ _ _ (by show g ≠ c; omega)).trans kG2
    have bb3 : Below w.heap.size w (v6.setCell ⟨c, 5, none⟩ (.string n6)) := bb2.setCell (by show w.heap.size ≤ c; omega) _
    clear kG2 kR2 kC2 bb2 hgr sz bb kC kR kG
    have kC := kC3
    have kR := kR3
    have kG := kG3
    have bb := bb3
    clear kC3 kR3 kG3 bb3
    go_upto_region 11 with fail
    clear c0 c1 c2 c3 c4 c5 cf
    generalize (v6.setCell ⟨c, 5, none⟩ (.string n6)) = x7 at *
    have KRH : Hid _ := kR
    have KCH : Hid _ := kC
    have BH : Hid _ := bb
    obtain ⟨r0, r1, r2, r3, r4, r5, r6, r7, rf⟩ := blk8 kR
    obtain ⟨c0, c1, c2, c3, c4, c5, cf⟩ := blk6 kC
    unfold rdB at kG
    obtain ⟨y0, y1, y2, yf⟩ := blk3f kG
    clear kR kC kG bb
    cases hb6 : q6.2 with
    | true =>
      have HX : Hid (readR a = ill 3) := by unfold Hid; rw [HRR.out, if_neg (by rw [hb6]; simp)]
      rw [hb6] at y2
      clear HRR
      go_wp2_with fail
      refine (PX.ill_spec 3 _).mono ?_
      rintro e wz ⟨rfl, hbz⟩
      rw [coV_ill]
      clear r0 r1 r2 r3 r4 r5 r6 r7 rf
      obtain ⟨r0, r1, r2, r3, r4, r5, r6, r7, rf⟩ := blk8 (carry KRH.out hbz)
      have BZ : Hid (Below w.heap.size w wz) := bel2 BH.out hbz
      clear hbz
      go_wp2
      exact bodyPost_ret (v := .agg #[.int .i64 0, .int .i64 0, .string ⟨#[]⟩, .int .i64 0, .int .i64 0, .string ⟨#[]⟩, .string ⟨#[]⟩, .int .i64 3]) (by simp [results, Tryd.results23, go_sem, r0, r1, r2, r3, r4, r5, r6, r7]) rfl ⟨by rw [HX.out]; rfl, set8 BZ.out (by omega) _ _ _ _ _ _ _ _⟩
    | false =>
      rw [hb6] at y2
      have HRX : Hid (readR a = if cb = a then ⟨⟨n1, n2, n3, n4, n5, n6⟩, ⟨#[]⟩, 0⟩ else ill 3) := by
        unfold Hid; rw [HRR.out]
        by_cases hq : cb = a
        · rw [if_pos ⟨hb6, hq⟩, if_pos hq]
        · rw [if_neg (fun h => hq h.2), if_neg hq]
      clear HRR
      go_wp2_with fail
      refine (HB.out _).mono ?_
      rintro e w8 ⟨rfl, hb⟩
      clear r0 r1 r2 r3 r4 r5 r6 r7 rf c0 c1 c2 c3 c4 c5 cf
      have KR9 : Hid _ := carry KRH.out hb
      have KC9 : Hid _ := carry KCH.out hb
      have B9 : Hid (Below w.heap.size w w8) := bel2 BH.out hb
      obtain ⟨r0, r1, r2, r3, r4, r5, r6, r7, rf⟩ := blk8 KR9.out
      obtain ⟨c0, c1, c2, c3, c4, c5, cf⟩ := blk6 KC9.out
      clear hb
      cases hq : same cb a with
      | true =>
        have he : (cb.toList == a.toList) = true := hq
        have HX : Hid (readR a = ⟨⟨n1, n2, n3, n4, n5, n6⟩, ⟨#[]⟩, 0⟩) := by unfold Hid; rw [HRX.out, if_pos (same_eq.1 hq)]
        clear HRX
        go_wp2
        exact bodyPost_ret (v := .agg #[.int .i64 n1, .int .i64 n2, .string n3, .int .i64 n4, .int .i64 n5, .string n6, .string ⟨#[]⟩, .int .i64 0]) (by simp [results, Tryd.results23, go_sem, r0, r1, r2, r3, r4, r5, r6, r7]) rfl ⟨by rw [HX.out]; rfl, set8 B9.out (by omega) _ _ _ _ _ _ _ _⟩
      | false =>
        have he : (cb.toList == a.toList) = false := hq
        have HX : Hid (readR a = ill 3) := by unfold Hid; rw [HRX.out, if_neg (fun h => by rw [same_eq.2 h] at hq; simp at hq)]
        clear HRX
        go_wp2_with fail
        refine (PX.ill_spec 3 _).mono ?_
        rintro e wz ⟨rfl, hbz⟩
        rw [coV_ill]
        clear r0 r1 r2 r3 r4 r5 r6 r7 rf
        obtain ⟨r0, r1, r2, r3, r4, r5, r6, r7, rf⟩ := blk8 (carry KR9.out hbz)
        have BZ : Hid (Below w.heap.size w wz) := bel2 B9.out hbz
        clear hbz
        go_wp2
        exact bodyPost_ret (v := .agg #[.int .i64 0, .int .i64 0, .string ⟨#[]⟩, .int .i64 0, .int .i64 0, .string ⟨#[]⟩, .string ⟨#[]⟩, .int .i64 3]) (by simp [results, Tryd.results23, go_sem, r0, r1, r2, r3, r4, r5, r6, r7]) rfl ⟨by rw [HX.out]; rfl, set8 BZ.out (by omega) _ _ _ _ _ _ _ _⟩
  · have HX : Hid (readR a = ill (opK a)) := by unfold Hid readR; rw [if_neg hk]
    rw [HX.out, coV_ill]
    rw [if_neg hk] at HU
    have t0 : (opK a != 0) = true := by simp [hk]
    clear HX
    generalize opK a = k at *
    go_enter Tryd.func23, Tryd.ntmps23
    go_wp2_with fail
    refine (HU.out _).mono ?_
    rintro e w1 ⟨rfl, hb⟩
    have kR := carryA (carry KR.out hb) (.cells #[.string ⟨#[]⟩, .int .i64 0, .int .i64 k] 77)
    have bb : Below w.heap.size w (w1.alloc (.cells #[.string ⟨#[]⟩, .int .i64 0, .int .i64 k] 77)) := bel2 (bel2 B0.out hb) (albel _ _)
    clear hb
    go_wp2_with fail
    refine (PX.ill_spec k _).mono ?_
    rintro e wz ⟨rfl, hbz⟩
    rw [coV_ill]
    obtain ⟨r0, r1, r2, r3, r4, r5, r6, r7, rf⟩ := blk8 (carry kR hbz)
    have BZ : Hid (Below w.heap.size w wz) := bel2 bb hbz
    clear hbz kR bb
    go_wp2
    exact bodyPost_ret (v := .agg #[.int .i64 0, .int .i64 0, .string ⟨#[]⟩, .int .i64 0, .int .i64 0, .string ⟨#[]⟩, .string ⟨#[]⟩, .int .i64 k]) (by simp [results, Tryd.results23, go_sem, r0, r1, r2, r3, r4, r5, r6, r7]) rfl ⟨rfl, set8 BZ.out (by omega) _ _ _ _ _ _ _ _⟩
end Go.Proofs.YteehgicnfageiaaDoor.Q4
