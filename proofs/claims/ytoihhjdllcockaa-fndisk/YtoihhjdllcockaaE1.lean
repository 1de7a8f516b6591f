/-
  What the draws of stage 3 leave.
-/
import Derived.Test.YtoihhjdllcockaaD9
import Derived.Test.YtoihhjdllcockaaS7
namespace Go.Proofs.Ytoihhjdllcockaa.E1
open Go.RowKit
open Go.Proofs.Ytoihhjdllcockaa.C0 Go.Proofs.Ytoihhjdllcockaa.D0 Go.Proofs.Ytoihhjdllcockaa.D6 Go.Proofs.Ytoihhjdllcockaa.D7 Go.Proofs.Ytoihhjdllcockaa.D8 Go.Proofs.Ytoihhjdllcockaa.D9 Go.Proofs.Ytoihhjdllcockaa.E0 Go.Proofs.Ytoihhjdllcockaa.S0 Go.Proofs.Ytoihhjdllcockaa.S1 Go.Proofs.Ytoihhjdllcockaa.S2 Go.Proofs.Ytoihhjdllcockaa.S4 Go.Proofs.Ytoihhjdllcockaa.S7 Go.Proofs.Ytoihhjdllcockaa.O1 Go.Proofs.Ytoihhjdllcockaa.T2 Go.Proofs.Ytoihhjdllcockaa.T3 Go.Proofs.Ytoihhjdllcockaa.T4 Go.Proofs.Ytoihhjdllcockaa.T5 Go.Proofs.Ytoihhjdllcockaa.TC
/-- A disk drawn into new memory. -/
structure Got (w : World) (ss : List ByteArray) (ps : List Pend) (a : Option Addr) (c : Nat) (a' : Option Addr) (c' : Nat) (w' : World) : Prop where
  own : ODisk w.heap.size w' (.slice a ss.length c) (.slice a' ps.length c') ss ps
  l1 : ss.length ≤ 64
  l2 : ps.length ≤ 201
  z1 : ∀ s ∈ ss, s.size ≤ maxLen
  z2 : ∀ q ∈ ps, q.2.size ≤ maxLen
  bel : Below w.heap.size w w'
/-- What is there in a draw: the result's block R, the disk's variable L, the source p. -/
structure GS (w : World) (p n : Nat) (v : Value) (L : Nat) (ss : List ByteArray) (ps : List Pend) (a : Option Addr) (c : Nat) (a' : Option Addr) (c' : Nat) (wr : World) : Prop where
  got : Got w ss ps a c a' c' wr
  loc : wr.heap[L]? = some (.cells #[.slice a ss.length c, .slice a' ps.length c'] 26)
  res : wr.heap[w.heap.size]? = some (.cells #[.slice none 0 0, .slice none 0 0] 26)
  dr : Dr (w.heap.size + 1) p n v wr
  plt : w.heap.size < p
  lt : p < L
  low : ∀ g, ((Value.slice a ss.length c).ownBlock = some g ∨ (Value.slice a' ps.length c').ownBlock = some g) → p < g
section
variable {w wr w' : World} {p n L c c' : Nat} {v : Value} {ss : List ByteArray} {ps : List Pend} {a a' : Option Addr}
theorem wrote_bel {S : Nat → Prop} {B : Nat} {x y z : World} (h : Below B x y) (ht : Wrote S y z) (hB : B ≤ x.heap.size) (hS : ∀ g, S g → B ≤ g) : Below B x z :=
  ⟨ht.os.trans h.os, ht.tape.trans h.tape, ht.output.trans h.output, Nat.le_trans h.size ht.size, fun k hk => (ht.block k (by have := h.size; omega) (fun e => by have := hS k e; omega)).trans (h.block k hk)⟩
theorem GS.drawn (h : GS w p n v L ss ps a c a' c' wr) (hd : Dr (w.heap.size + 1) p n v w') (ht : Wrote (only p) wr w') : GS w p n v L ss ps a c a' c' w' := by
  have h1 := h.plt
  have h2 := h.lt
  exact ⟨⟨keep_blocks h.got.own fun g hg => ht.block g (h.got.own.rows g hg).2 (fun e => by have := h.low g hg; unfold only at e; omega), h.got.l1, h.got.l2, h.got.z1, h.got.z2, wrote_bel h.got.bel ht (Nat.le_refl _) (fun g e => by unfold only at e; omega)⟩,
    carryP h.loc ht (by omega), carryP h.res ht (by omega), hd, h1, h2, h.low⟩
theorem GS.drew (h : GS w p n v L ss ps a c a' c' wr) : GS w p n v L ss ps a c a' c' wr.drew := ⟨⟨h.got.own, h.got.l1, h.got.l2, h.got.z1, h.got.z2, h.got.bel.drew⟩, h.loc, h.res, h.dr.drew, h.plt, h.lt, h.low⟩
theorem GS.below (h : GS w p n v L ss ps a c a' c' wr) (hb : Below wr.heap.size wr w') : GS w p n v L ss ps a c a' c' w' :=
  ⟨⟨h.got.own.below hb, h.got.l1, h.got.l2, h.got.z1, h.got.z2, h.got.bel.trans (hb.mono h.got.bel.size)⟩, carry h.loc hb, carry h.res hb, h.dr.below hb, h.plt, h.lt, h.low⟩
/-- The result's block is filled. -/
theorem GS.fill (h : GS w p n v L ss ps a c a' c' wr) (x y : Value) : Got w ss ps a c a' c' ((wr.setCell ⟨w.heap.size, 0, none⟩ x).setCell ⟨w.heap.size, 1, none⟩ y) := by
  have ht := D7.set2_wrote wr w.heap.size x y
  have h1 := h.plt
  exact ⟨keep_blocks h.got.own fun g hg => ht.block g (h.got.own.rows g hg).2 (fun e => by have := h.low g hg; omega), h.got.l1, h.got.l2, h.got.z1, h.got.z2, wrote_bel h.got.bel ht (Nat.le_refl _) (fun g e => by omega)⟩
theorem gN (most : Int) (h : GS w p n v L ss ps a c a' c' wr) (l : 0 < most) (u : most ≤ 9223372036854775807) :
    Calls Try.prog 37 #[.pointer (some ⟨p, 0, none⟩), .int .i64 most] wr fun e w' => ∃ r : Nat, e = .returned (.int .i64 r) ∧ (r : Int) < most ∧ GS w p n v L ss ps a c a' c' w' :=
  (drawN most h.dr l u).mono (fun _ _ ⟨r, he, hr, hd, ht⟩ => ⟨r, he, hr, h.drawn hd ht⟩)
theorem gBytes (k : Nat) (h : GS w p n v L ss ps a c a' c' wr) (hk : k ≤ 1000000) :
    Calls Try.prog 39 #[.pointer (some ⟨p, 0, none⟩), .int .i64 k] wr fun e w' => ∃ t : ByteArray, e = .returned (.string t) ∧ t.size = k ∧ GS w p n v L ss ps a c a' c' w' :=
  (drawBytes k h.dr hk).mono (fun _ _ ⟨t, he, hr, hd, ht⟩ => ⟨t, he, hr, h.drawn hd ht⟩)
theorem gEdge (h : GS w p n v L ss ps a c a' c' wr) :
    Calls Try.prog 46 #[.pointer (some ⟨p, 0, none⟩)] wr fun e w' => ∃ z : Int, e = .returned (.int .i64 z) ∧ -9223372036854775808 ≤ z ∧ z ≤ 9223372036854775807 ∧ GS w p n v L ss ps a c a' c' w' :=
  (drawEdge h.dr).mono (fun _ _ ⟨z, he, h1, h2, hd, ht⟩ => ⟨z, he, h1, h2, h.drawn hd ht⟩)
theorem gOne (most : Int) (h : GS w p n v L ss ps a c a' c' wr) (l : 0 < most) (u : most ≤ 9223372036854775807) :
    Calls Try.prog 38 #[.pointer (some ⟨p, 0, none⟩), .int .i64 most] wr fun e w' => ∃ b : Bool, e = .returned (.bool b) ∧ GS w p n v L ss ps a c a' c' w' :=
  (drawOne most h.dr l u).mono (fun _ _ ⟨b, he, hd, ht⟩ => ⟨b, he, h.drawn hd ht⟩)
theorem keepG (h : GS w p n v L ss ps a c a' c' wr) : wr.cell? ⟨L, 0, none⟩ = some (.slice a ss.length c) ∧ wr.cell? ⟨L, 1, none⟩ = some (.slice a' ps.length c') := ⟨(blk2 h.loc).1, (blk2 h.loc).2.1⟩
end
theorem Got.below {w wr w' : World} {c c' : Nat} {ss : List ByteArray} {ps : List Pend} {a a' : Option Addr} (h : Got w ss ps a c a' c' wr) (hb : Below wr.heap.size wr w') : Got w ss ps a c a' c' w' :=
  ⟨h.own.below hb, h.l1, h.l2, h.z1, h.z2, h.bel.trans (hb.mono h.bel.size)⟩
/-- The source, then the disk, in new memory. -/
theorem GS.start {w w1 w2 : World} {n c c' : Nat} {v : Value} {ss : List ByteArray} {ps : List Pend} {a a' : Option Addr} (hb1 : Below (w.heap.size + 1) (w.alloc (.cells #[.slice none 0 0, .slice none 0 0] 26)) w1) (hp : w.heap.size + 1 < w1.heap.size)
    (ho : ODisk w1.heap.size w2 (.slice a ss.length c) (.slice a' ps.length c') ss ps) (l1 : ss.length ≤ 64) (l2 : ps.length ≤ 201) (z1 : ∀ s ∈ ss, s.size ≤ maxLen) (z2 : ∀ q ∈ ps, q.2.size ≤ maxLen) (hd : Dr (w.heap.size + 1) (w.heap.size + 1) n v w2) (ht : Wrote (only (w.heap.size + 1)) w1 w2) :
    GS w (w.heap.size + 1) n v w2.heap.size ss ps a c a' c' (w2.alloc (.cells #[.slice a ss.length c, .slice a' ps.length c'] 26)) := by
  have hz := ht.size
  have hb0 : Below w.heap.size w w1 := (albel w _).trans (hb1.mono (by omega))
  refine ⟨⟨(ho.mono (by omega)).below (albel _ _), l1, l2, z1, z2, (wrote_bel hb0 ht (Nat.le_refl _) (fun g e => by unfold only at e; omega)).alloc (by omega) _⟩, heap_alloc_new _ _, carryA (carryP ((hb1.block w.heap.size (by omega)).trans (heap_alloc_new _ _)) ht (by omega)) _, hd.below (albel _ _), by omega, by omega, fun g hg => ?_⟩
  have := (ho.rows g hg).1
  omega
end Go.Proofs.Ytoihhjdllcockaa.E1
