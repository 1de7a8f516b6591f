/-
  A drawn signature.
-/
import Derived.Test.YthmlkbgnooahlaaDoorDT
namespace Go.Proofs.YthmlkbgnooahlaaDoor.DU
open Go.RowKit
open Go.Proofs.YthmlkbgnooahlaaDoor.C0 Go.Proofs.YthmlkbgnooahlaaDoor.D0 Go.Proofs.YthmlkbgnooahlaaDoor.HB Go.Proofs.YthmlkbgnooahlaaDoor.DS Go.Proofs.YthmlkbgnooahlaaDoor.DT
open Go.Proofs.YthmlkbgnooahlaaDoor.K3 (bytesOf)
open Go.Proofs.YthmlkbgnooahlaaDoor.G3 (sig)
open Go.Proofs.YthmlkbgnooahlaaDoor.G4 (signV)

theorem signV_get (x : Int) (t : ByteArray) : ∃ e s : Int, signV x t = sig e s ∧ 0 ≤ e ∧ e ≤ 5002 ∧ 0 ≤ s ∧ s ≤ 5002 := by
  have h := Sg.rightR_sign x (bytesOf t)
  have := of_decide_eq_true h
  exact ⟨_, _, rfl, this.1, this.2.1, this.2.2.1, this.2.2.2⟩
def ok64 (n : Int) : Prop := -9223372036854775808 ≤ n ∧ n ≤ 9223372036854775807
/-- A signature in a block of the call's own, another one for the result. -/
structure SG (w : World) (B p n : Nat) (v : Value) (L g : Nat) (e s : Int) (x : World) : Prop where
  dr : Dr B p n v x
  gr : w.grownBy x (some p)
  res : x.heap[L]? = some (.cells #[.int .i64 0, .int .i64 0] 30)
  loc : x.heap[g]? = some (.cells #[.int .i64 e, .int .i64 s] 30)
  pl : p < w.heap.size
  wl : w.heap.size ≤ L
  lg : L < g
  be : ok64 e
  bs : ok64 s
section
variable {w x x' : World} {B p n L g : Nat} {v : Value} {e s : Int}
theorem SG.step (h : SG w B p n v L g e s x) (hd : Dr B p n v x') (hg : x.grownBy x' (some p)) : SG w B p n v L g e s x' :=
  ⟨hd, grown_trans h.gr hg, carryG h.res hg (by have := h.pl; have := h.wl; omega), carryG h.loc hg (by have := h.pl; have := h.wl; have := h.lg; omega), h.pl, h.wl, h.lg, h.be, h.bs⟩
theorem SG.alloc (h : SG w B p n v L g e s x) (o : Obj) : SG w B p n v L g e s (x.alloc o) := h.step (h.dr.alloc o) (World.grownBy_alloc x o _)
theorem SG.drew (h : SG w B p n v L g e s x) : SG w B p n v L g e s x.drew := ⟨h.dr.drew, grown_drew h.gr, h.res, h.loc, h.pl, h.wl, h.lg, h.be, h.bs⟩
theorem SG.setE (h : SG w B p n v L g e s x) (z : Int) (hz : ok64 z) : SG w B p n v L g z s (x.setCell ⟨g, 0, none⟩ (.int .i64 z)) := by
  refine ⟨h.dr.set (by have := h.pl; have := h.wl; have := h.lg; omega) _, grown_new h.gr (by have := h.wl; have := h.lg; omega) _, ?_, ?_, h.pl, h.wl, h.lg, hz, h.bs⟩
  · rw [Below.heap_setCell _ _ _ _ (by have := h.lg; simp; omega)]; exact h.res
  · have := heap_setCell_same x g 0 _ _ (.int .i64 z) h.loc
    simpa using this
theorem SG.setS (h : SG w B p n v L g e s x) (z : Int) (hz : ok64 z) : SG w B p n v L g e z (x.setCell ⟨g, 1, none⟩ (.int .i64 z)) := by
  refine ⟨h.dr.set (by have := h.pl; have := h.wl; have := h.lg; omega) _, grown_new h.gr (by have := h.wl; have := h.lg; omega) _, ?_, ?_, h.pl, h.wl, h.lg, h.be, hz⟩
  · rw [Below.heap_setCell _ _ _ _ (by have := h.lg; simp; omega)]; exact h.res
  · have := heap_setCell_same x g 1 _ _ (.int .i64 z) h.loc
    simpa using this
theorem SG.cells (h : SG w B p n v L g e s x) : x.cell? ⟨g, 0, none⟩ = some (.int .i64 e) ∧ x.cell? ⟨g, 1, none⟩ = some (.int .i64 s) ∧ x.cell? ⟨L, 0, none⟩ = some (.int .i64 0) ∧ x.cell? ⟨L, 1, none⟩ = some (.int .i64 0) ∧ (∀ o, x.frozen? ⟨g, o, none⟩ = false) ∧ (∀ o, x.frozen? ⟨L, o, none⟩ = false) :=
  ⟨block_cell h.loc 0, block_cell h.loc 1, block_cell h.res 0, block_cell h.res 1, fun o => frozen_of_block h.loc o, fun o => frozen_of_block h.res o⟩
theorem SG.fill (h : SG w B p n v L g e s x) (y z : Value) : Dr B p n v ((x.setCell ⟨L, 0, none⟩ y).setCell ⟨L, 1, none⟩ z) ∧ w.grownBy ((x.setCell ⟨L, 0, none⟩ y).setCell ⟨L, 1, none⟩ z) (some p) :=
  ⟨(h.dr.set (by have := h.pl; have := h.wl; omega) _).set (by have := h.pl; have := h.wl; omega) _, grown_new (grown_new h.gr h.wl _) h.wl _⟩
end
def SigDrew (w : World) (B p n : Nat) (v : Value) (e : Ending) (w' : World) : Prop :=
  ∃ a b : Int, e = .returned (sig a b) ∧ ok64 a ∧ ok64 b ∧ Dr B p n v w' ∧ w.grownBy w' (some p)
set_option maxRecDepth 100000 in
set_option maxHeartbeats 1600000 in
theorem sig_draw {B p n : Nat} {v : Value} {w : World} (h : Dr B p n v w) :
    Calls Tryd.prog 34 #[.pointer (some ⟨p, 0, none⟩)] w fun e w' => SigDrew w B p n v e w' := by
  have hp := h.lt
  have k0 := heap_alloc_new w (.cells #[.int .i64 0, .int .i64 0] 30)
  have g0 := World.grownBy_alloc w (.cells #[.int .i64 0, .int .i64 0] 30) (some p)
  have h0 := h.alloc (.cells #[.int .i64 0, .int .i64 0] 30)
  go_enter Tryd.func34, Tryd.ntmps34
  go_wp2_with fail
  refine (drawN 5000 h0 (by omega) (by omega)).mono ?_
  rintro e w1 ⟨r, rfl, hr, h1, g1⟩
  have k1 := carryG k0 g1 (by omega)
  have G1 := grown_trans g0 g1
  clear g0 g1 k0 h0
  go_wp2_with fail
  refine (text_draw h1).mono ?_
  rintro e w2 ⟨t, rfl, ht, h2, g2⟩
  have k2 := carryG k1 g2 (by omega)
  have G2 := grown_trans G1 g2
  clear G1 g2 k1 h1
  go_wp2_with fail
  refine (G4.sign_spec _ t _ (by unfold maxLen; omega)).mono ?_
  rintro e w3 ⟨rfl, hb3⟩
  obtain ⟨e0, s0, he, a1, a2, a3, a4⟩ := signV_get (1 + (r : Int)) t
  rw [he]
  have k3 := carry k2 hb3
  have G3 := grown_trans G2 (grown_of hb3)
  have h3 := h2.below hb3
  have S : SG w B p n v w.heap.size w3.heap.size e0 s0 (w3.alloc (.cells #[.int .i64 e0, .int .i64 s0] 30)) :=
    ⟨h3.alloc _, grown_trans G3 (World.grownBy_alloc _ _ _), carryA k3 _, heap_alloc_new _ _, hp, Nat.le_refl _, lt_some k3, ⟨by omega, by omega⟩, ⟨by omega, by omega⟩⟩
  clear k3 G3 h3 k2 G2 h2 he hb3
  unfold sig
  go_wp2_with fail
  generalize (w3.alloc (.cells #[.int .i64 e0, .int .i64 s0] 30)) = W at S ⊢
  generalize w3.heap.size = g at *
  clear a1 a2 a3 a4
  refine (drawOne 4 S.dr (by omega) (by omega)).mono ?_
  rintro e w4 ⟨b, rfl, d, j⟩
  replace S := S.step d j
  clear d j
  cases b with
  | true =>
    go_wp2_with fail
    refine (drawN 4 (S.alloc _).dr (by omega) (by omega)).mono ?_
    rintro e x5 ⟨r5, rfl, hr5, d5, j5⟩
    obtain ⟨z5, hz, z1, z2⟩ := lit_get [-1, 0, 5002, 5003] (-1) 5003 (by decide) r5 (by simp; omega)
    have hcell := (lit_kept j5 S.dr.lt r5).trans hz
    replace S := (S.alloc _).step d5 j5
    obtain ⟨c0, c1, c2, c3, cf, cg⟩ := S.cells
    have hLg := S.lg
    have T := S.setE z5 ⟨by omega, by omega⟩
    clear S j5 d5 hz
    go_wp2_with fail
    replace S := T
    clear T hcell c0 c1 c2 c3 cf cg
    generalize x5.setCell ⟨g, 0, none⟩ (.int .i64 z5) = W5 at S ⊢
    refine (drawOne 8 S.dr (by omega) (by omega)).mono ?_
    rintro e y6 ⟨b, rfl, d, j⟩
    replace S := S.step d j
    clear d j
    cases b with
    | true =>
      go_wp2_with fail
      refine (drawN 4 (S.alloc _).dr (by omega) (by omega)).mono ?_
      rintro e x7 ⟨r7, rfl, hr7, d7, j7⟩
      obtain ⟨q6, hz, z1, z2⟩ := lit_get [-1, 0, 5002, 5003] (-1) 5003 (by decide) r7 (by simp; omega)
      have hcell := (lit_kept j7 S.dr.lt r7).trans hz
      replace S := (S.alloc _).step d7 j7
      obtain ⟨c0, c1, c2, c3, cf, cg⟩ := S.cells
      have hLg := S.lg
      have T := S.setS q6 ⟨by omega, by omega⟩
      clear S j7 d7 hz
      go_wp2_with fail
      obtain ⟨c0, c1, c2, c3, cf, cg⟩ := T.cells
      exact bodyPost_ret (v := sig z5 q6) (by simp [results, Tryd.results34, go_sem, sig, c2, c3]) rfl ⟨_, _, rfl, T.be, T.bs, (T.fill _ _).1, (T.fill _ _).2⟩
    | false =>
      obtain ⟨c0, c1, c2, c3, cf, cg⟩ := S.cells
      have HF : Hid (∀ y z, Dr B p n v ((y6.setCell ⟨w.heap.size, 0, none⟩ y).setCell ⟨w.heap.size, 1, none⟩ z) ∧ w.grownBy ((y6.setCell ⟨w.heap.size, 0, none⟩ y).setCell ⟨w.heap.size, 1, none⟩ z) (some p)) := fun y z => S.fill y z
      have hLg := S.lg
      have HB : Hid (ok64 z5 ∧ ok64 s0) := ⟨S.be, S.bs⟩
      clear S
      go_wp2
      exact bodyPost_ret (v := sig z5 s0) (by simp [results, Tryd.results34, go_sem, sig, c2, c3]) rfl ⟨_, _, rfl, HB.out.1, HB.out.2, (HF.out _ _).1, (HF.out _ _).2⟩
  | false =>
    go_wp2_with fail
    refine (drawOne 8 S.dr (by omega) (by omega)).mono ?_
    rintro e y8 ⟨b, rfl, d, j⟩
    replace S := S.step d j
    clear d j
    cases b with
    | true =>
      go_wp2_with fail
      refine (drawN 4 (S.alloc _).dr (by omega) (by omega)).mono ?_
      rintro e x9 ⟨r9, rfl, hr9, d9, j9⟩
      obtain ⟨q8, hz, z1, z2⟩ := lit_get [-1, 0, 5002, 5003] (-1) 5003 (by decide) r9 (by simp; omega)
      have hcell := (lit_kept j9 S.dr.lt r9).trans hz
      replace S := (S.alloc _).step d9 j9
      obtain ⟨c0, c1, c2, c3, cf, cg⟩ := S.cells
      have hLg := S.lg
      have T := S.setS q8 ⟨by omega, by omega⟩
      clear S j9 d9 hz
      go_wp2_with fail
      obtain ⟨c0, c1, c2, c3, cf, cg⟩ := T.cells
      exact bodyPost_ret (v := sig e0 q8) (by simp [results, Tryd.results34, go_sem, sig, c2, c3]) rfl ⟨_, _, rfl, T.be, T.bs, (T.fill _ _).1, (T.fill _ _).2⟩
    | false =>
      obtain ⟨c0, c1, c2, c3, cf, cg⟩ := S.cells
      have HF : Hid (∀ y z, Dr B p n v ((y8.setCell ⟨w.heap.size, 0, none⟩ y).setCell ⟨w.heap.size, 1, none⟩ z) ∧ w.grownBy ((y8.setCell ⟨w.heap.size, 0, none⟩ y).setCell ⟨w.heap.size, 1, none⟩ z) (some p)) := fun y z => S.fill y z
      have hLg := S.lg
      have HB : Hid (ok64 e0 ∧ ok64 s0) := ⟨S.be, S.bs⟩
      clear S
      go_wp2
      exact bodyPost_ret (v := sig e0 s0) (by simp [results, Tryd.results34, go_sem, sig, c2, c3]) rfl ⟨_, _, rfl, HB.out.1, HB.out.2, (HF.out _ _).1, (HF.out _ _).2⟩
end Go.Proofs.YthmlkbgnooahlaaDoor.DU
