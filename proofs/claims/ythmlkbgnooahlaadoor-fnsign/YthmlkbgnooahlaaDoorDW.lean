/-
  The draw of what is to be verified.
-/
import Derived.Test.YthmlkbgnooahlaaDoorDV
namespace Go.Proofs.YthmlkbgnooahlaaDoor.DW
open Go.RowKit
open Go.Proofs.YthmlkbgnooahlaaDoor.C0 Go.Proofs.YthmlkbgnooahlaaDoor.D0 Go.Proofs.YthmlkbgnooahlaaDoor.HB Go.Proofs.YthmlkbgnooahlaaDoor.DS Go.Proofs.YthmlkbgnooahlaaDoor.DT Go.Proofs.YthmlkbgnooahlaaDoor.DU
open Go.Proofs.YthmlkbgnooahlaaDoor.G3 (sig)

/-- A signature in a block of the call's own, behind the source; the result's block ahead of both. -/
structure SV (w : World) (n : Nat) (v : Value) (g : Nat) (e s : Int) (x : World) : Prop where
  dr : Dr (w.heap.size + 1) (w.heap.size + 1) n v x
  bl : Below w.heap.size w x
  res : x.heap[w.heap.size]? = some (.cells #[.int .i64 0, .int .i64 0] 30)
  loc : x.heap[g]? = some (.cells #[.int .i64 e, .int .i64 s] 30)
  lg : w.heap.size + 1 < g
  be : ok64 e
  bs : ok64 s
section
variable {w x x' : World} {n g : Nat} {v : Value} {e s : Int}
theorem SV.step (h : SV w n v g e s x) (hd : Dr (w.heap.size + 1) (w.heap.size + 1) n v x') (hg : x.grownBy x' (some (w.heap.size + 1))) : SV w n v g e s x' :=
  ⟨hd, h.bl.trans (grown_below hg (by omega) h.bl.size), carryG h.res hg (by omega), carryG h.loc hg (by have := h.lg; omega), h.lg, h.be, h.bs⟩
theorem SV.below (h : SV w n v g e s x) (hb : Below x.heap.size x x') : SV w n v g e s x' := h.step (h.dr.below hb) (grown_of hb)
theorem SV.alloc (h : SV w n v g e s x) (o : Obj) : SV w n v g e s (x.alloc o) := h.below (albel x o)
theorem SV.put (h : SV w n v g e s x) (a b : Int) (ha : ok64 a) (hb : ok64 b) : SV w n v g a b ((x.setCell ⟨g, 0, none⟩ (.int .i64 a)).setCell ⟨g, 1, none⟩ (.int .i64 b)) := by
  have hl := h.lg
  refine ⟨(h.dr.set hl _).set hl _, (h.bl.setCell (by simp; omega) _).setCell (by simp; omega) _, ?_, ?_, h.lg, ha, hb⟩
  · rw [Below.heap_setCell _ _ _ _ (by simp; omega), Below.heap_setCell _ _ _ _ (by simp; omega)]; exact h.res
  · have h1 := heap_setCell_same x g 0 _ _ (.int .i64 a) h.loc
    have h2 := heap_setCell_same _ g 1 _ _ (.int .i64 b) h1
    simpa using h2
theorem SV.cells (h : SV w n v g e s x) : x.cell? ⟨g, 0, none⟩ = some (.int .i64 e) ∧ x.cell? ⟨g, 1, none⟩ = some (.int .i64 s) ∧ x.cell? ⟨w.heap.size, 0, none⟩ = some (.int .i64 0) ∧ x.cell? ⟨w.heap.size, 1, none⟩ = some (.int .i64 0) ∧ (∀ o, x.frozen? ⟨g, o, none⟩ = false) ∧ (∀ o, x.frozen? ⟨w.heap.size, o, none⟩ = false) :=
  ⟨block_cell h.loc 0, block_cell h.loc 1, block_cell h.res 0, block_cell h.res 1, fun o => frozen_of_block h.loc o, fun o => frozen_of_block h.res o⟩
end
def VerDrew (w : World) (e : Ending) (w' : World) : Prop :=
  ∃ (y : Int) (t : ByteArray) (a b : Int), e = .returned (.tuple #[.int .i64 y, .string t, sig a b]) ∧ ok64 y ∧ t.size ≤ 9 ∧ ok64 a ∧ ok64 b ∧ Below w.heap.size w w'
theorem five (y : Int) (hy : 0 ≤ y ∧ y ≤ 10007) (r : Nat) (hr : (r : Int) < 5) : ∃ z, (#[Value.int .i64 0, .int .i64 1, .int .i64 10006, .int .i64 10007, .int .i64 (y + 1)] : Array Value)[r]? = some (.int .i64 z) ∧ 0 ≤ z ∧ z ≤ 10008 := by
  have : r < 5 := by omega
  match r, this with
  | 0, _ => exact ⟨_, rfl, by omega, by omega⟩
  | 1, _ => exact ⟨_, rfl, by omega, by omega⟩
  | 2, _ => exact ⟨_, rfl, by omega, by omega⟩
  | 3, _ => exact ⟨_, rfl, by omega, by omega⟩
  | 4, _ => exact ⟨_, rfl, by omega, by omega⟩
theorem pubR_bound (x : Int) : Sg.pubR x ≤ 10006 := by
  unfold Sg.pubR; split
  · have := Sg.pub_lt x.toNat; omega
  · omega
set_option maxRecDepth 100000 in
set_option maxHeartbeats 1600000 in
theorem verify_draw (v : Value) (n : Nat) (w : World) (hc : IsCode w.heap.size w v n) :
    Calls Tryd.prog 10 #[v] w fun e w' => VerDrew w e w' := by
  have k0 := heap_alloc_new w (.cells #[.int .i64 0, .int .i64 0] 30)
  go_enter Tryd.func10, Tryd.ntmps10
  go_wp2_with fail
  refine (sourceA v n w _ hc).mono ?_
  rintro e w1 ⟨rfl, d1, b1⟩
  have k1 : w1.heap[w.heap.size]? = some (.cells #[.int .i64 0, .int .i64 0] 30) := (b1.block w.heap.size (Nat.lt_succ_self _)).trans k0
  have B1 : Below w.heap.size w w1 := (albel w _).trans (b1.mono (Nat.le_succ _))
  clear k0 b1
  go_wp2_with fail
  refine (drawN 5000 d1 (by omega) (by omega)).mono ?_
  rintro e w2 ⟨r, rfl, hr, d2, g2⟩
  go_wp2_with fail
  refine (text_draw d2).mono ?_
  rintro e w3 ⟨t, rfl, ht, d3, g3⟩
  have G3 := grown_trans g2 g3
  have k3 := carryG k1 G3 (by omega)
  have B3 : Below w.heap.size w w3 := B1.trans (grown_below G3 (by omega) B1.size)
  clear k1 B1 g2 g3 G3 d1 d2
  go_wp2_with fail
  refine (G4.sign_spec _ t _ (by unfold maxLen; omega)).mono ?_
  rintro e w4 ⟨rfl, hb4⟩
  obtain ⟨e0, s0, he, a1, a2, a3, a4⟩ := signV_get (1 + (r : Int)) t
  rw [he]
  have d4 := d3.below hb4
  have S : SV w n v w4.heap.size e0 s0 (w4.alloc (.cells #[.int .i64 e0, .int .i64 s0] 30)) :=
    ⟨d4.alloc _, (bel2 B3 hb4).alloc (bel2 B3 hb4).size _, carryA (carry k3 hb4) _, heap_alloc_new _ _, d4.lt, ⟨by omega, by omega⟩, ⟨by omega, by omega⟩⟩
  clear k3 B3 d3 d4 hb4 he
  unfold sig
  go_wp2_with fail
  generalize (w4.alloc (.cells #[.int .i64 e0, .int .i64 s0] 30)) = W at S ⊢
  generalize w4.heap.size = g at *
  clear a1 a2 a3 a4
  refine (drawOne 4 S.dr (by omega) (by omega)).mono ?_
  rintro e y1 ⟨b, rfl, d, j⟩
  replace S := S.step d j
  clear d j
  cases b with
  | true =>
    go_wp2_with fail
    refine (sig_draw S.dr).mono ?_
    rintro e x0 ⟨a, b, rfl, ha, hb, d, j⟩
    replace S := S.step d j
    obtain ⟨c0, c1, c2, c3, cf, cg⟩ := S.cells
    have T := S.put a b ha hb
    clear S d j ha hb
    unfold sig
    go_wp2_with fail
    replace S := T
    clear T c0 c1 c2 c3 cf cg
    generalize (x0.setCell ⟨g, 0, none⟩ (.int .i64 a)).setCell ⟨g, 1, none⟩ (.int .i64 b) = X0 at S ⊢
    refine (G2.public_spec _ _).mono ?_
    rintro e p10 ⟨rfl, rfl⟩
    have hpb := pubR_bound (1 + (r : Int))
    generalize Sg.pubR (1 + (r : Int)) = y at *
    go_wp2_with fail
    refine (drawOne 6 S.dr (by omega) (by omega)).mono ?_
    rintro e y10 ⟨b, rfl, d, j⟩
    replace S := S.step d j
    clear d j
    cases b with
    | true =>
      go_wp2_with fail
      refine (drawN 5 (S.alloc _).dr (by omega) (by omega)).mono ?_
      rintro e x10 ⟨q, rfl, hq, d, j⟩
      obtain ⟨z, hz, z1, z2⟩ := five y ⟨by omega, by omega⟩ q hq
      have hcell := (lit_kept j S.dr.lt q).trans hz
      replace S := (S.alloc _).step d j
      clear d j hz
      go_wp2_with fail
      clear hcell
      refine (drawOne 5 S.dr (by omega) (by omega)).mono ?_
      rintro e y11 ⟨b, rfl, d, j⟩
      replace S := S.step d j
      clear d j
      cases b with
      | true =>
        have hts : t.size + 1 ≤ 9223372036854775807 := by omega
        obtain ⟨c0, c1, c2, c3, cf, cg⟩ := S.cells
        have hLg := S.lg
        have HF : Hid (∀ p q, Below w.heap.size w (((y11.setCell ⟨w.heap.size, 0, none⟩ p).setCell ⟨w.heap.size, 1, none⟩ q).drew)) := fun p q => ((S.bl.setCell (by simp) _).setCell (by simp) _).drew
        have HB : Hid (ok64 a ∧ ok64 b) := ⟨S.be, S.bs⟩
        have HY : Hid (ok64 z ∧ ((t ++ ⟨#[120]⟩)).size ≤ 9) := ⟨⟨by omega, by omega⟩, by rw [ByteArray.size_append]; show t.size + 1 ≤ 9; omega⟩
        clear S
        go_wp2
        go_region
        go_wp2
        exact bodyPost_ret (v := .tuple #[.int .i64 z, .string (t ++ ⟨#[120]⟩), sig a b]) (by simp [results, Tryd.results10, go_sem, sig, c2, c3]) rfl ⟨_, _, _, _, rfl, HY.out.1, HY.out.2, HB.out.1, HB.out.2, HF.out _ _⟩
      | false =>
        obtain ⟨c0, c1, c2, c3, cf, cg⟩ := S.cells
        have hLg := S.lg
        have HF : Hid (∀ p q, Below w.heap.size w (((y11.setCell ⟨w.heap.size, 0, none⟩ p).setCell ⟨w.heap.size, 1, none⟩ q).drew)) := fun p q => ((S.bl.setCell (by simp) _).setCell (by simp) _).drew
        have HB : Hid (ok64 a ∧ ok64 b) := ⟨S.be, S.bs⟩
        have HY : Hid (ok64 z ∧ (t).size ≤ 9) := ⟨⟨by omega, by omega⟩, by omega⟩
        clear S
        go_wp2
        go_region
        go_wp2
        exact bodyPost_ret (v := .tuple #[.int .i64 z, .string t, sig a b]) (by simp [results, Tryd.results10, go_sem, sig, c2, c3]) rfl ⟨_, _, _, _, rfl, HY.out.1, HY.out.2, HB.out.1, HB.out.2, HF.out _ _⟩
    | false =>
      go_wp2_with fail
      refine (drawOne 5 S.dr (by omega) (by omega)).mono ?_
      rintro e y13 ⟨b, rfl, d, j⟩
      replace S := S.step d j
      clear d j
      cases b with
      | true =>
        have hts : t.size + 1 ≤ 9223372036854775807 := by omega
        obtain ⟨c0, c1, c2, c3, cf, cg⟩ := S.cells
        have hLg := S.lg
        have HF : Hid (∀ p q, Below w.heap.size w (((y13.setCell ⟨w.heap.size, 0, none⟩ p).setCell ⟨w.heap.size, 1, none⟩ q).drew)) := fun p q => ((S.bl.setCell (by simp) _).setCell (by simp) _).drew
        have HB : Hid (ok64 a ∧ ok64 b) := ⟨S.be, S.bs⟩
        have HY : Hid (ok64 y ∧ ((t ++ ⟨#[120]⟩)).size ≤ 9) := ⟨⟨by omega, by omega⟩, by rw [ByteArray.size_append]; show t.size + 1 ≤ 9; omega⟩
        clear S
        go_wp2
        go_region
        go_wp2
        exact bodyPost_ret (v := .tuple #[.int .i64 y, .string (t ++ ⟨#[120]⟩), sig a b]) (by simp [results, Tryd.results10, go_sem, sig, c2, c3]) rfl ⟨_, _, _, _, rfl, HY.out.1, HY.out.2, HB.out.1, HB.out.2, HF.out _ _⟩
      | false =>
        obtain ⟨c0, c1, c2, c3, cf, cg⟩ := S.cells
        have hLg := S.lg
        have HF : Hid (∀ p q, Below w.heap.size w (((y13.setCell ⟨w.heap.size, 0, none⟩ p).setCell ⟨w.heap.size, 1, none⟩ q).drew)) := fun p q => ((S.bl.setCell (by simp) _).setCell (by simp) _).drew
        have HB : Hid (ok64 a ∧ ok64 b) := ⟨S.be, S.bs⟩
        have HY : Hid (ok64 y ∧ (t).size ≤ 9) := ⟨⟨by omega, by omega⟩, by omega⟩
        clear S
        go_wp2
        go_region
        go_wp2
        exact bodyPost_ret (v := .tuple #[.int .i64 y, .string t, sig a b]) (by simp [results, Tryd.results10, go_sem, sig, c2, c3]) rfl ⟨_, _, _, _, rfl, HY.out.1, HY.out.2, HB.out.1, HB.out.2, HF.out _ _⟩
  | false =>
    go_wp2_with fail
    refine (G2.public_spec _ _).mono ?_
    rintro e p20 ⟨rfl, rfl⟩
    have hpb := pubR_bound (1 + (r : Int))
    generalize Sg.pubR (1 + (r : Int)) = y at *
    go_wp2_with fail
    refine (drawOne 6 S.dr (by omega) (by omega)).mono ?_
    rintro e y20 ⟨b, rfl, d, j⟩
    replace S := S.step d j
    clear d j
    cases b with
    | true =>
      go_wp2_with fail
      refine (drawN 5 (S.alloc _).dr (by omega) (by omega)).mono ?_
      rintro e x20 ⟨q, rfl, hq, d, j⟩
      obtain ⟨z, hz, z1, z2⟩ := five y ⟨by omega, by omega⟩ q hq
      have hcell := (lit_kept j S.dr.lt q).trans hz
      replace S := (S.alloc _).step d j
      clear d j hz
      go_wp2_with fail
      clear hcell
      refine (drawOne 5 S.dr (by omega) (by omega)).mono ?_
      rintro e y21 ⟨b, rfl, d, j⟩
      replace S := S.step d j
      clear d j
      cases b with
      | true =>
        have hts : t.size + 1 ≤ 9223372036854775807 := by omega
        obtain ⟨c0, c1, c2, c3, cf, cg⟩ := S.cells
        have hLg := S.lg
        have HF : Hid (∀ p q, Below w.heap.size w (((y21.setCell ⟨w.heap.size, 0, none⟩ p).setCell ⟨w.heap.size, 1, none⟩ q).drew)) := fun p q => ((S.bl.setCell (by simp) _).setCell (by simp) _).drew
        have HB : Hid (ok64 e0 ∧ ok64 s0) := ⟨S.be, S.bs⟩
        have HY : Hid (ok64 z ∧ ((t ++ ⟨#[120]⟩)).size ≤ 9) := ⟨⟨by omega, by omega⟩, by rw [ByteArray.size_append]; show t.size + 1 ≤ 9; omega⟩
        clear S
        go_wp2
        go_region
        go_wp2
        exact bodyPost_ret (v := .tuple #[.int .i64 z, .string (t ++ ⟨#[120]⟩), sig e0 s0]) (by simp [results, Tryd.results10, go_sem, sig, c2, c3]) rfl ⟨_, _, _, _, rfl, HY.out.1, HY.out.2, HB.out.1, HB.out.2, HF.out _ _⟩
      | false =>
        obtain ⟨c0, c1, c2, c3, cf, cg⟩ := S.cells
        have hLg := S.lg
        have HF : Hid (∀ p q, Below w.heap.size w (((y21.setCell ⟨w.heap.size, 0, none⟩ p).setCell ⟨w.heap.size, 1, none⟩ q).drew)) := fun p q => ((S.bl.setCell (by simp) _).setCell (by simp) _).drew
        have HB : Hid (ok64 e0 ∧ ok64 s0) := ⟨S.be, S.bs⟩
        have HY : Hid (ok64 z ∧ (t).size ≤ 9) := ⟨⟨by omega, by omega⟩, by omega⟩
        clear S
        go_wp2
        go_region
        go_wp2
        exact bodyPost_ret (v := .tuple #[.int .i64 z, .string t, sig e0 s0]) (by simp [results, Tryd.results10, go_sem, sig, c2, c3]) rfl ⟨_, _, _, _, rfl, HY.out.1, HY.out.2, HB.out.1, HB.out.2, HF.out _ _⟩
    | false =>
      go_wp2_with fail
      refine (drawOne 5 S.dr (by omega) (by omega)).mono ?_
      rintro e y23 ⟨b, rfl, d, j⟩
      replace S := S.step d j
      clear d j
      cases b with
      | true =>
        have hts : t.size + 1 ≤ 9223372036854775807 := by omega
        obtain ⟨c0, c1, c2, c3, cf, cg⟩ := S.cells
        have hLg := S.lg
        have HF : Hid (∀ p q, Below w.heap.size w (((y23.setCell ⟨w.heap.size, 0, none⟩ p).setCell ⟨w.heap.size, 1, none⟩ q).drew)) := fun p q => ((S.bl.setCell (by simp) _).setCell (by simp) _).drew
        have HB : Hid (ok64 e0 ∧ ok64 s0) := ⟨S.be, S.bs⟩
        have HY : Hid (ok64 y ∧ ((t ++ ⟨#[120]⟩)).size ≤ 9) := ⟨⟨by omega, by omega⟩, by rw [ByteArray.size_append]; show t.size + 1 ≤ 9; omega⟩
        clear S
        go_wp2
        go_region
        go_wp2
        exact bodyPost_ret (v := .tuple #[.int .i64 y, .string (t ++ ⟨#[120]⟩), sig e0 s0]) (by simp [results, Tryd.results10, go_sem, sig, c2, c3]) rfl ⟨_, _, _, _, rfl, HY.out.1, HY.out.2, HB.out.1, HB.out.2, HF.out _ _⟩
      | false =>
        obtain ⟨c0, c1, c2, c3, cf, cg⟩ := S.cells
        have hLg := S.lg
        have HF : Hid (∀ p q, Below w.heap.size w (((y23.setCell ⟨w.heap.size, 0, none⟩ p).setCell ⟨w.heap.size, 1, none⟩ q).drew)) := fun p q => ((S.bl.setCell (by simp) _).setCell (by simp) _).drew
        have HB : Hid (ok64 e0 ∧ ok64 s0) := ⟨S.be, S.bs⟩
        have HY : Hid (ok64 y ∧ (t).size ≤ 9) := ⟨⟨by omega, by omega⟩, by omega⟩
        clear S
        go_wp2
        go_region
        go_wp2
        exact bodyPost_ret (v := .tuple #[.int .i64 y, .string t, sig e0 s0]) (by simp [results, Tryd.results10, go_sem, sig, c2, c3]) rfl ⟨_, _, _, _, rfl, HY.out.1, HY.out.2, HB.out.1, HB.out.2, HF.out _ _⟩
end Go.Proofs.YthmlkbgnooahlaaDoor.DW
