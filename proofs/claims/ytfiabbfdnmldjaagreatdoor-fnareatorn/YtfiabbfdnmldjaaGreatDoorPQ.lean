/-
  E1 E2 E3 E4: parts of the proof, one behind the other.
-/
import Derived.Test.YtfiabbfdnmldjaaGreatDoorPO
import Derived.Test.YtfiabbfdnmldjaaGreatDoorPN
/-
  What the draws of stage 3 leave.
-/
namespace Go.Proofs.YtfiabbfdnmldjaaGreatDoor.E1
open Go.RowKit
open Go.Proofs.YtfiabbfdnmldjaaGreatDoor.C0 Go.Proofs.YtfiabbfdnmldjaaGreatDoor.D0 Go.Proofs.YtfiabbfdnmldjaaGreatDoor.D6 Go.Proofs.YtfiabbfdnmldjaaGreatDoor.D7 Go.Proofs.YtfiabbfdnmldjaaGreatDoor.D8 Go.Proofs.YtfiabbfdnmldjaaGreatDoor.D9 Go.Proofs.YtfiabbfdnmldjaaGreatDoor.E0 Go.Proofs.YtfiabbfdnmldjaaGreatDoor.S0 Go.Proofs.YtfiabbfdnmldjaaGreatDoor.S1 Go.Proofs.YtfiabbfdnmldjaaGreatDoor.S2 Go.Proofs.YtfiabbfdnmldjaaGreatDoor.S4 Go.Proofs.YtfiabbfdnmldjaaGreatDoor.S7 Go.Proofs.YtfiabbfdnmldjaaGreatDoor.O1 Go.Proofs.YtfiabbfdnmldjaaGreatDoor.T2 Go.Proofs.YtfiabbfdnmldjaaGreatDoor.T3 Go.Proofs.YtfiabbfdnmldjaaGreatDoor.T4 Go.Proofs.YtfiabbfdnmldjaaGreatDoor.T5 Go.Proofs.YtfiabbfdnmldjaaGreatDoor.TC
/-- A disk drawn into new memory. -/
structure Got (w : World) (ss : List ByteArray) (ps : List Pend) (a : Option Addr) (c : Nat) (a' : Option Addr) (c' : Nat) (w' : World) : Prop where
  own : ODisk w.heap.size w' (.slice a ss.length c) (.slice a' ps.length c') ss ps
  l1 : ss.length ≤ 64
  l2 : ps.length ≤ 201
  z1 : ∀ s ∈ ss, s.size ≤ maxLen
  z2 : ∀ q ∈ ps, q.2.size ≤ maxLen
  bel : Below w.heap.size w w'
/-- What is there in a draw: the result's block R, the disk's variable L, the source p. -/
structure GS (w : World) (p n : Nat) (v : Value) (L : Nat) (ss : List ByteArray) (ps : List Pend) (a : Option Addr) (c : Nat) (a' : Option Addr) (c' : Nat) (wr : World) : Prop where
  got : Got w ss ps a c a' c' wr
  loc : wr.heap[L]? = some (.cells #[.slice a ss.length c, .slice a' ps.length c'] 26)
  res : wr.heap[w.heap.size]? = some (.cells #[.slice none 0 0, .slice none 0 0] 26)
  dr : Dr (w.heap.size + 1) p n v wr
  plt : w.heap.size < p
  lt : p < L
  low : ∀ g, ((Value.slice a ss.length c).ownBlock = some g ∨ (Value.slice a' ps.length c').ownBlock = some g) → p < g
section
variable {w wr w' : World} {p n L c c' : Nat} {v : Value} {ss : List ByteArray} {ps : List Pend} {a a' : Option Addr}
theorem wrote_bel {S : Nat → Prop} {B : Nat} {x y z : World} (h : Below B x y) (ht : Wrote S y z) (hB : B ≤ x.heap.size) (hS : ∀ g, S g → B ≤ g) : Below B x z :=
  ⟨ht.os.trans h.os, ht.tape.trans h.tape, ht.output.trans h.output, Nat.le_trans h.size ht.size, fun k hk => (ht.block k (by have := h.size; omega) (fun e => by have := hS k e; omega)).trans (h.block k hk)⟩
theorem GS.drawn (h : GS w p n v L ss ps a c a' c' wr) (hd : Dr (w.heap.size + 1) p n v w') (ht : Wrote (only p) wr w') : GS w p n v L ss ps a c a' c' w' := by
  have h1 := h.plt
  have h2 := h.lt
  exact ⟨⟨keep_blocks h.got.own fun g hg => ht.block g (h.got.own.rows g hg).2 (fun e => by have := h.low g hg; unfold only at e; omega), h.got.l1, h.got.l2, h.got.z1, h.got.z2, wrote_bel h.got.bel ht (Nat.le_refl _) (fun g e => by unfold only at e; omega)⟩,
    carryP h.loc ht (by omega), carryP h.res ht (by omega), hd, h1, h2, h.low⟩
theorem GS.drew (h : GS w p n v L ss ps a c a' c' wr) : GS w p n v L ss ps a c a' c' wr.drew := ⟨⟨h.got.own, h.got.l1, h.got.l2, h.got.z1, h.got.z2, h.got.bel.drew⟩, h.loc, h.res, h.dr.drew, h.plt, h.lt, h.low⟩
theorem GS.below (h : GS w p n v L ss ps a c a' c' wr) (hb : Below wr.heap.size wr w') : GS w p n v L ss ps a c a' c' w' :=
  ⟨⟨h.got.own.below hb, h.got.l1, h.got.l2, h.got.z1, h.got.z2, h.got.bel.trans (hb.mono h.got.bel.size)⟩, carry h.loc hb, carry h.res hb, h.dr.below hb, h.plt, h.lt, h.low⟩
/-- The result's block is filled. -/
theorem GS.fill (h : GS w p n v L ss ps a c a' c' wr) (x y : Value) : Got w ss ps a c a' c' ((wr.setCell ⟨w.heap.size, 0, none⟩ x).setCell ⟨w.heap.size, 1, none⟩ y) := by
  have ht := D7.set2_wrote wr w.heap.size x y
  have h1 := h.plt
  exact ⟨keep_blocks h.got.own fun g hg => ht.block g (h.got.own.rows g hg).2 (fun e => by have := h.low g hg; omega), h.got.l1, h.got.l2, h.got.z1, h.got.z2, wrote_bel h.got.bel ht (Nat.le_refl _) (fun g e => by omega)⟩
theorem gN (most : Int) (h : GS w p n v L ss ps a c a' c' wr) (l : 0 < most) (u : most ≤ 9223372036854775807) :
    Calls Tryz.prog 31 #[.pointer (some ⟨p, 0, none⟩), .int .i64 most] wr fun e w' => ∃ r : Nat, e = .returned (.int .i64 r) ∧ (r : Int) < most ∧ GS w p n v L ss ps a c a' c' w' :=
  (drawN most h.dr l u).mono (fun _ _ ⟨r, he, hr, hd, ht⟩ => ⟨r, he, hr, h.drawn hd ht⟩)
theorem gBytes (k : Nat) (h : GS w p n v L ss ps a c a' c' wr) (hk : k ≤ 1000000) :
    Calls Tryz.prog 30 #[.pointer (some ⟨p, 0, none⟩), .int .i64 k] wr fun e w' => ∃ t : ByteArray, e = .returned (.string t) ∧ t.size = k ∧ GS w p n v L ss ps a c a' c' w' :=
  (drawBytes k h.dr hk).mono (fun _ _ ⟨t, he, hr, hd, ht⟩ => ⟨t, he, hr, h.drawn hd ht⟩)
theorem gOne (most : Int) (h : GS w p n v L ss ps a c a' c' wr) (l : 0 < most) (u : most ≤ 9223372036854775807) :
    Calls Tryz.prog 32 #[.pointer (some ⟨p, 0, none⟩), .int .i64 most] wr fun e w' => ∃ b : Bool, e = .returned (.bool b) ∧ GS w p n v L ss ps a c a' c' w' :=
  (drawOne most h.dr l u).mono (fun _ _ ⟨b, he, hd, ht⟩ => ⟨b, he, h.drawn hd ht⟩)
theorem keepG (h : GS w p n v L ss ps a c a' c' wr) : wr.cell? ⟨L, 0, none⟩ = some (.slice a ss.length c) ∧ wr.cell? ⟨L, 1, none⟩ = some (.slice a' ps.length c') := ⟨(blk2 h.loc).1, (blk2 h.loc).2.1⟩
end
theorem Got.below {w wr w' : World} {c c' : Nat} {ss : List ByteArray} {ps : List Pend} {a a' : Option Addr} (h : Got w ss ps a c a' c' wr) (hb : Below wr.heap.size wr w') : Got w ss ps a c a' c' w' :=
  ⟨h.own.below hb, h.l1, h.l2, h.z1, h.z2, h.bel.trans (hb.mono h.bel.size)⟩
/-- The source, then the disk, in new memory. -/
theorem GS.start {w w1 w2 : World} {n c c' : Nat} {v : Value} {ss : List ByteArray} {ps : List Pend} {a a' : Option Addr} (hb1 : Below (w.heap.size + 1) (w.alloc (.cells #[.slice none 0 0, .slice none 0 0] 26)) w1) (hp : w.heap.size + 1 < w1.heap.size)
    (ho : ODisk w1.heap.size w2 (.slice a ss.length c) (.slice a' ps.length c') ss ps) (l1 : ss.length ≤ 64) (l2 : ps.length ≤ 201) (z1 : ∀ s ∈ ss, s.size ≤ maxLen) (z2 : ∀ q ∈ ps, q.2.size ≤ maxLen) (hd : Dr (w.heap.size + 1) (w.heap.size + 1) n v w2) (ht : Wrote (only (w.heap.size + 1)) w1 w2) :
    GS w (w.heap.size + 1) n v w2.heap.size ss ps a c a' c' (w2.alloc (.cells #[.slice a ss.length c, .slice a' ps.length c'] 26)) := by
  have hz := ht.size
  have hb0 : Below w.heap.size w w1 := (albel w _).trans (hb1.mono (by omega))
  refine ⟨⟨(ho.mono (by omega)).below (albel _ _), l1, l2, z1, z2, (wrote_bel hb0 ht (Nat.le_refl _) (fun g e => by unfold only at e; omega)).alloc (by omega) _⟩, heap_alloc_new _ _, carryA (carryP ((hb1.block w.heap.size (by omega)).trans (heap_alloc_new _ _)) ht (by omega)) _, hd.below (albel _ _), by omega, by omega, fun g hg => ?_⟩
  have := (ho.rows g hg).1
  omega
end Go.Proofs.YtfiabbfdnmldjaaGreatDoor.E1

/-
  The draws for DiskRead, DiskNew and DiskWrite.
-/
namespace Go.Proofs.YtfiabbfdnmldjaaGreatDoor.E2
open Go.RowKit
open Go.Proofs.YtfiabbfdnmldjaaGreatDoor.C0 Go.Proofs.YtfiabbfdnmldjaaGreatDoor.D0 Go.Proofs.YtfiabbfdnmldjaaGreatDoor.D6 Go.Proofs.YtfiabbfdnmldjaaGreatDoor.D7 Go.Proofs.YtfiabbfdnmldjaaGreatDoor.D8 Go.Proofs.YtfiabbfdnmldjaaGreatDoor.D9 Go.Proofs.YtfiabbfdnmldjaaGreatDoor.E0 Go.Proofs.YtfiabbfdnmldjaaGreatDoor.E1 Go.Proofs.YtfiabbfdnmldjaaGreatDoor.S0 Go.Proofs.YtfiabbfdnmldjaaGreatDoor.S1 Go.Proofs.YtfiabbfdnmldjaaGreatDoor.S2 Go.Proofs.YtfiabbfdnmldjaaGreatDoor.S4 Go.Proofs.YtfiabbfdnmldjaaGreatDoor.S7 Go.Proofs.YtfiabbfdnmldjaaGreatDoor.O1 Go.Proofs.YtfiabbfdnmldjaaGreatDoor.T2 Go.Proofs.YtfiabbfdnmldjaaGreatDoor.T3 Go.Proofs.YtfiabbfdnmldjaaGreatDoor.T4 Go.Proofs.YtfiabbfdnmldjaaGreatDoor.T5 Go.Proofs.YtfiabbfdnmldjaaGreatDoor.TC
theorem srcA (v : Value) (n : Nat) (w : World) (o : Obj) (hc : IsCode w.heap.size w v n) :
    Calls Tryz.prog 28 #[v] (w.alloc o) fun e w' => e = .returned (.pointer (some ⟨w.heap.size + 1, 0, none⟩)) ∧ Dr (w.heap.size + 1) (w.heap.size + 1) n v w' ∧ Below (w.heap.size + 1) (w.alloc o) w' := by
  have hz : (w.alloc o).heap.size = w.heap.size + 1 := by simp
  have h := drawSource v n (w.alloc o) (by rw [hz]; exact (hc.below (albel w o) (Nat.le_refl _)).up (by omega))
  rw [hz] at h
  exact h
theorem convX {x : World} {g r : Nat} (hn : x.heap[g]? = some (zer r)) : (convert 22 9 (.slice (some ⟨g, 0, none⟩) (64 + r) (64 + r))).run Tryz.prog x = .ok (.string (zt r)) x := by
  have := run_convert_bytes_back x 22 9 5 ⟨g, 0, none⟩ (64 + r) (List.replicate (64 + r) 0) Tryz.underlying22 Tryz.underlying5 Tryz.underlying9 ?_
  · simpa [zt] using this
  · intro j hj
    simp only [List.length_replicate] at hj
    unfold zer at hn
    rw [add0]
    simp [World.cell?, hn, hj]
theorem madeS (r : Nat) (h : (r : Int) < 2) (w : World) (g : Nat) (x y : Value) : (Instr.makeSlice 22 (.int .i64 (64 + (r : Int))) (.int .i64 (64 + (r : Int)))).run Tryz.prog ((w.setCell ⟨g, 0, none⟩ x).setCell ⟨g, 1, none⟩ y) = .ok (.slice (some ⟨w.heap.size, 0, none⟩) (64 + r) (64 + r)) (((w.setCell ⟨g, 0, none⟩ x).setCell ⟨g, 1, none⟩ y).alloc (zer r)) := by
  have h := madeZ r h ((w.setCell ⟨g, 0, none⟩ x).setCell ⟨g, 1, none⟩ y)
  have hz : ((w.setCell ⟨g, 0, none⟩ x).setCell ⟨g, 1, none⟩ y).heap.size = w.heap.size := by simp [World.setCell]
  rw [hz] at h
  exact h
theorem convS (r : Nat) (w : World) (g : Nat) (x y : Value) : (convert 22 9 (.slice (some ⟨w.heap.size, 0, none⟩) (64 + r) (64 + r))).run Tryz.prog (((w.setCell ⟨g, 0, none⟩ x).setCell ⟨g, 1, none⟩ y).alloc (zer r)) = .ok (.string (zt r)) (((w.setCell ⟨g, 0, none⟩ x).setCell ⟨g, 1, none⟩ y).alloc (zer r)) := by
  have hz : ((w.setCell ⟨g, 0, none⟩ x).setCell ⟨g, 1, none⟩ y).heap.size = w.heap.size := by simp [World.setCell]
  have h := convZ r ((w.setCell ⟨g, 0, none⟩ x).setCell ⟨g, 1, none⟩ y)
  rw [hz] at h
  exact h
section
variable {w wr : World} {p n L c c' : Nat} {v : Value} {ss : List ByteArray} {ps : List Pend} {a a' : Option Addr}
theorem keepR (h : GS w p n v L ss ps a c a' c' wr) (x y : Value) : ((wr.setCell ⟨w.heap.size, 0, none⟩ x).setCell ⟨w.heap.size, 1, none⟩ y).cell? ⟨L, 0, none⟩ = some (.slice a ss.length c) ∧ ((wr.setCell ⟨w.heap.size, 0, none⟩ x).setCell ⟨w.heap.size, 1, none⟩ y).cell? ⟨L, 1, none⟩ = some (.slice a' ps.length c') := by
  have k := carryW h.loc (D7.set2_wrote wr w.heap.size x y) (by have := h.plt; have := h.lt; omega)
  exact ⟨(blk2 k).1, (blk2 k).2.1⟩
end
def DrewRead (w : World) (e : Ending) (w' : World) : Prop :=
  ∃ (ss : List ByteArray) (ps : List Pend) (a : Option Addr) (c : Nat) (a' : Option Addr) (c' : Nat) (z : Int), e = .returned (.tuple #[.agg #[.slice a ss.length c, .slice a' ps.length c'], .int .i64 z]) ∧ -9223372036854775808 ≤ z ∧ z ≤ 9223372036854775807 ∧ Got w ss ps a c a' c' w'
def DrewWrite (w : World) (e : Ending) (w' : World) : Prop :=
  ∃ (ss : List ByteArray) (ps : List Pend) (a : Option Addr) (c : Nat) (a' : Option Addr) (c' : Nat) (i : Nat) (t : ByteArray), e = .returned (.tuple #[.agg #[.slice a ss.length c, .slice a' ps.length c'], .int .i64 (i : Int), .string t]) ∧ i < 9 ∧ t.size ≤ 65 ∧ Got w ss ps a c a' c' w'
end Go.Proofs.YtfiabbfdnmldjaaGreatDoor.E2

/-
  The draws for DiskNew and DiskCrash.
-/
namespace Go.Proofs.YtfiabbfdnmldjaaGreatDoor.E3
open Go.RowKit
open Go.Proofs.YtfiabbfdnmldjaaGreatDoor.C0 Go.Proofs.YtfiabbfdnmldjaaGreatDoor.D0 Go.Proofs.YtfiabbfdnmldjaaGreatDoor.D6 Go.Proofs.YtfiabbfdnmldjaaGreatDoor.D7 Go.Proofs.YtfiabbfdnmldjaaGreatDoor.D8 Go.Proofs.YtfiabbfdnmldjaaGreatDoor.D9 Go.Proofs.YtfiabbfdnmldjaaGreatDoor.E0 Go.Proofs.YtfiabbfdnmldjaaGreatDoor.E1 Go.Proofs.YtfiabbfdnmldjaaGreatDoor.E2 Go.Proofs.YtfiabbfdnmldjaaGreatDoor.S0 Go.Proofs.YtfiabbfdnmldjaaGreatDoor.S1 Go.Proofs.YtfiabbfdnmldjaaGreatDoor.S2 Go.Proofs.YtfiabbfdnmldjaaGreatDoor.S4 Go.Proofs.YtfiabbfdnmldjaaGreatDoor.S7 Go.Proofs.YtfiabbfdnmldjaaGreatDoor.O1 Go.Proofs.YtfiabbfdnmldjaaGreatDoor.T2 Go.Proofs.YtfiabbfdnmldjaaGreatDoor.T3 Go.Proofs.YtfiabbfdnmldjaaGreatDoor.T4 Go.Proofs.YtfiabbfdnmldjaaGreatDoor.T5 Go.Proofs.YtfiabbfdnmldjaaGreatDoor.TC
def DrewNew (w : World) (e : Ending) (w' : World) : Prop := ∃ z : Int, e = .returned (.int .i64 z) ∧ -9223372036854775808 ≤ z ∧ z ≤ 9223372036854775807 ∧ Below w.heap.size w w'
theorem blk5 {w : World} {g : Nat} {a b c d e : Value} {T : TypeId} (h : w.heap[g]? = some (.cells #[a, b, c, d, e] T (0, 0))) : w.cell? ⟨g, 0, none⟩ = some a ∧ w.cell? ⟨g, 1, none⟩ = some b ∧ w.cell? ⟨g, 2, none⟩ = some c ∧ w.cell? ⟨g, 3, none⟩ = some d ∧ w.cell? ⟨g, 4, none⟩ = some e :=
  ⟨by simp [World.cell?, h], by simp [World.cell?, h], by simp [World.cell?, h], by simp [World.cell?, h], by simp [World.cell?, h]⟩
theorem info_int : (Tryz.prog.info? 2).map (fun i => (i.zero, i.size, i.bytes)) = some (some (.int .i64 0), 1, 8) := by kernel_rfl
/-- A row of int of the call's own. -/
abbrev OK (B : Nat) (w : World) (v : Value) (l : List Int) : Prop := w.ownsRow B 2 1 v l.length (ci l)
theorem OK.ints {B : Nat} {w : World} {v : Value} {l : List Int} (h : OK B w v l) : Ints w v l := by
  have h' := h
  rcases h.2 with ⟨rfl, h0⟩ | ⟨g, cap, cur, rfl, hb, hg, hnc, hcm, hcs, htake⟩
  · exact ⟨none, 0, by rw [h0], by rw [h0]; exact Nat.zero_le _, fun q => by omega⟩
  · refine ⟨_, cap, rfl, by omega, fun _ => ⟨g, 0, rfl, (Array.getElem?_eq_some_iff.1 hg).1, fun i s hs => ?_⟩⟩
    have := World.ownsRow.cells h' rfl i (.int .i64 s) (by simp [ci, hs])
    rwa [add0] at this
theorem ci_snoc (l : List Int) (z : Int) : ci (l ++ [z]) = ci l ++ [.int .i64 z] := by simp [ci]
def RelK (B p n : Nat) (v : Value) (w : World) (x y : Value) (wr : World) : Prop :=
  ∃ (k : Nat) (l : List Int) (a : Option Addr) (cap : Nat), l.length + k ≤ 13 ∧ y = .int .i64 k ∧ x = .slice a l.length cap ∧ OK w.heap.size wr (.slice a l.length cap) l ∧ Dr B p n v wr ∧ Wrote (only p) w wr
def DrewKeep (B p n : Nat) (v : Value) (w : World) (e : Ending) (w' : World) : Prop :=
  ∃ (l : List Int) (a : Option Addr) (cap : Nat), e = .returned (.slice a l.length cap) ∧ l.length ≤ 13 ∧ OK w.heap.size w' (.slice a l.length cap) l ∧ Dr B p n v w' ∧ Wrote (only p) w w'
theorem RelK.more {B p n k g cap c : Nat} {v : Value} {w wr X w' : World} {l : List Int} {a : Option Addr} {z : Int} (hk : 0 < k) (hl : l.length + k ≤ 13) (ho : OK w.heap.size wr (.slice a l.length c) l) (hd : Dr B p n v wr) (ht : Wrote (only p) w wr) (hp : p < w.heap.size) (al : Below wr.heap.size wr X)
    (hown : w'.ownsRow w.heap.size 2 1 (.slice (some ⟨g, 0, none⟩) (l.length + 1) cap) (l.length + 1) (ci l ++ [.int .i64 z])) (hg : X.grownBy w' (Value.slice a l.length c).ownBlock) :
    RelK B p n v w (.slice (some ⟨g, 0, none⟩) (l.length + 1) cap) (.int .i64 ((k : Int) - 1)) w' := by
  have hll : (l ++ [z]).length = l.length + 1 := by simp
  have ht1 : Wrote (fun k => (Value.slice a l.length c).ownBlock = some k) X w' := Wrote.of_grown hg (fun k e => e)
  have hlo : ∀ k, (Value.slice a l.length c).ownBlock = some k → w.heap.size ≤ k := fun k e => (ho.lt k e).1
  have ht2 := (Wrote.of_below (S := fun k => (Value.slice a l.length c).ownBlock = some k) al).trans ht1
  refine ⟨k - 1, l ++ [z], some ⟨g, 0, none⟩, cap, by omega, by congr 1; omega, by rw [hll], ?_, hd.wrote ht2 (fun g e => by have := hlo g e; omega), ⟨ht2.os.trans ht.os, ht2.tape.trans ht.tape, ht2.output.trans ht.output, Nat.le_trans ht.size ht2.size, fun k hk hs => (ht2.block k (Nat.lt_of_lt_of_le hk ht.size) (fun e => by have := hlo k e; omega)).trans (ht.block k hk hs)⟩⟩
  unfold OK
  rw [hll, ci_snoc]
  exact hown
set_option maxRecDepth 100000 in
set_option maxHeartbeats 800000 in
theorem keep_any (B p n : Nat) (v : Value) (w : World) (h : Dr B p n v w) :
    Calls Tryz.prog 52 #[.pointer (some ⟨p, 0, none⟩)] w fun e w' => DrewKeep B p n v w e w' := by
  have hplt := h.lt
  obtain ⟨j0, hj, hy0, hy1, hy2⟩ := info_parts info_int
  go_enter Tryz.func52, Tryz.ntmps52
  go_wp2_with fail
  refine (drawN 14 (h.below (albel _ _)) (by omega) (by omega)).mono ?_
  rintro e w1 ⟨r, rfl, hr, d1, t1⟩
  have ho : OK w.heap.size (w.alloc (.cells #[] 2)) (.slice (some ⟨w.heap.size, 0, none⟩) 0 0) [] := World.ownsRow_lit w #[] 0 (Nat.le_refl _) (by decide) rfl
  have H0 : Hid (RelK B p n v w (.slice (some ⟨w.heap.size, 0, none⟩) 0 0) (.int .i64 (r : Int)) w1) :=
    ⟨r, [], _, 0, by simp; omega, rfl, rfl, own_keep ho fun g hg => t1.block g (ho.lt g hg).2 (fun e => by have := (ho.lt g hg).1; unfold only at e; omega), d1, (Wrote.of_below (albel _ _)).trans t1⟩
  clear ho d1 t1
  go_wp2
  go_loopw [3, 4] (fun x y wr => RelK B p n v w x y wr) (fun _ y _ => (intOf y).toNat)
  case atStart => exact H0.out
  case round =>
    clear H0
    obtain ⟨k, l, a, cap, hl, rfl, rfl, ho, hd, ht⟩ := hrel
    by_cases hk : 0 < k
    · have hk' : (0 : Int) < (k : Int) := by omega
      go_wp2_with fail
      refine (drawN 2 hd (by omega) (by omega)).mono ?_
      rintro e w2 ⟨z, rfl, hz, d2, t2⟩
      have o2 : OK w.heap.size w2 (.slice a l.length cap) l := own_keep ho fun g hg => t2.block g (ho.lt g hg).2 (fun e => by have := (ho.lt g hg).1; unfold only at e; omega)
      have ht2 := ht.trans t2
      have hown : OK w.heap.size (w2.alloc (.cells #[.int .i64 (z : Int)] 2)) (.slice a l.length cap) l := own_keep o2 fun g hg => (albel w2 _).block g (o2.lt g hg).2
      have HE : Hid ((w2.alloc (.cells #[.int .i64 (z : Int)] 2)).heap[w2.heap.size]? = some (.cells #[.int .i64 (z : Int)] 2)) := heap_alloc_new w2 _
      have hzw : Hid (w.heap.size ≤ w2.heap.size) := ht2.size
      clear ho hd ht t2
      go_wp2_with (first
        | (at_builtin; refine wpList_append_lies _ rfl _ _ 37 rfl w.heap.size 2 j0 (.int .i64 0) 1 8 Tryz.underlying37 hj hy0 hy1 hy2 rfl (by decide) _ l.length (ci l) rfl hown ⟨w2.heap.size, 0, none⟩ 1 1 [.int .i64 (z : Int)] rfl rfl (World.news_of_block HE.out) (by intro u hu; simp at hu; subst hu; rfl) (by decide) (by unfold maxLen; omega) (by omega) (by simp; have := hzw.out; omega) _ rfl ?_; intro g cap' w3 hown3 hg3 hat3 hlt3))
      have HN : Hid (RelK B p n v w (.slice (some ⟨g, 0, none⟩) (l.length + 1) cap') (.int .i64 ((k : Int) - 1)) w3) := RelK.more hk hl o2 d2 ht2 hplt (albel _ _) hown3 hg3
      go_roundw
      case rel => exact HN.out
      case measure => simp [intOf]; omega
    · obtain rfl : k = 0 := by omega
      have HF : Hid (DrewKeep B p n v w (.returned (.slice a l.length cap)) wr) := ⟨l, a, cap, rfl, by omega, ho, hd, ht⟩
      go_wp2
      go_ret
      exact HF.out
end Go.Proofs.YtfiabbfdnmldjaaGreatDoor.E3

/-
  The draw for DiskCrash.
-/
namespace Go.Proofs.YtfiabbfdnmldjaaGreatDoor.E4
open Go.RowKit
open Go.Proofs.YtfiabbfdnmldjaaGreatDoor.C0 Go.Proofs.YtfiabbfdnmldjaaGreatDoor.D0 Go.Proofs.YtfiabbfdnmldjaaGreatDoor.D6 Go.Proofs.YtfiabbfdnmldjaaGreatDoor.D7 Go.Proofs.YtfiabbfdnmldjaaGreatDoor.D8 Go.Proofs.YtfiabbfdnmldjaaGreatDoor.D9 Go.Proofs.YtfiabbfdnmldjaaGreatDoor.E0 Go.Proofs.YtfiabbfdnmldjaaGreatDoor.E1 Go.Proofs.YtfiabbfdnmldjaaGreatDoor.E2 Go.Proofs.YtfiabbfdnmldjaaGreatDoor.E3 Go.Proofs.YtfiabbfdnmldjaaGreatDoor.S0 Go.Proofs.YtfiabbfdnmldjaaGreatDoor.S1 Go.Proofs.YtfiabbfdnmldjaaGreatDoor.S2 Go.Proofs.YtfiabbfdnmldjaaGreatDoor.S4 Go.Proofs.YtfiabbfdnmldjaaGreatDoor.S7 Go.Proofs.YtfiabbfdnmldjaaGreatDoor.O1 Go.Proofs.YtfiabbfdnmldjaaGreatDoor.T2 Go.Proofs.YtfiabbfdnmldjaaGreatDoor.T3 Go.Proofs.YtfiabbfdnmldjaaGreatDoor.T4 Go.Proofs.YtfiabbfdnmldjaaGreatDoor.T5 Go.Proofs.YtfiabbfdnmldjaaGreatDoor.TC
theorem OK.mono {B C : Nat} {w : World} {v : Value} {l : List Int} (h : OK B w v l) (hC : C ≤ B) : OK C w v l := by
  refine ⟨h.1, ?_⟩
  rcases h.2 with hn | ⟨g, cap, cur, e, hb, rest⟩
  · exact .inl hn
  · exact .inr ⟨g, cap, cur, e, Nat.le_trans hC hb, rest⟩
theorem gKeep {w wr : World} {p n L c c' : Nat} {v : Value} {ss : List ByteArray} {ps : List Pend} {a a' : Option Addr} (h : GS w p n v L ss ps a c a' c' wr) :
    Calls Tryz.prog 52 #[.pointer (some ⟨p, 0, none⟩)] wr fun e w' => ∃ (l : List Int) (f : Option Addr) (cap : Nat), e = .returned (.slice f l.length cap) ∧ l.length ≤ 13 ∧ OK (w.heap.size + 1) w' (.slice f l.length cap) l ∧ GS w p n v L ss ps a c a' c' w' :=
  (keep_any _ p n v wr h.dr).mono (fun _ _ ⟨l, f, cap, he, hl, ho, hd, ht⟩ => ⟨l, f, cap, he, hl, OK.mono ho (by have := lt_some h.res; omega), h.drawn hd ht⟩)
def DrewCrash (w : World) (e : Ending) (w' : World) : Prop :=
  ∃ (ss : List ByteArray) (ps : List Pend) (a : Option Addr) (c : Nat) (a' : Option Addr) (c' : Nat) (l : List Int) (f : Option Addr) (cap : Nat), e = .returned (.tuple #[.agg #[.slice a ss.length c, .slice a' ps.length c'], .slice f l.length cap]) ∧ l.length ≤ 13 ∧ Ints w' (.slice f l.length cap) l ∧ Got w ss ps a c a' c' w'
set_option maxRecDepth 100000 in
set_option maxHeartbeats 1600000 in
theorem crash_draw (v : Value) (n : Nat) (w : World) (hc : IsCode w.heap.size w v n) :
    Calls Tryz.prog 18 #[v] w fun e w' => DrewCrash w e w' := by
  go_enter Tryz.func18, Tryz.ntmps18
  go_wp2_with fail
  refine (srcA v n w _ hc).mono ?_
  rintro e w1 ⟨rfl, d1, b1⟩
  go_wp2_with fail
  refine (l03Disk_any _ _ n v w1 d1).mono ?_
  rintro e w2 ⟨ss, ps, a, c, a', c', rfl, o2, l1, l2, z1, z2, d2, t2⟩
  have G := GS.start b1 d1.lt o2 l1 l2 z1 z2 d2 t2
  clear b1 d1 o2 l1 l2 z1 z2 d2 t2
  obtain ⟨W, hW⟩ : ∃ W, w2.alloc (.cells #[.slice a ss.length c, .slice a' ps.length c'] 26) = W := ⟨_, rfl⟩
  rw [hW] at G
  go_upto_region 3 with fail
  clear hW
  generalize w2.heap.size = L at *
  obtain ⟨q0, q1, qf, q9⟩ := blk2 G.loc
  go_region_held3 (fun w' => w'.cell? ⟨L, 0, none⟩ = some (.slice a ss.length c) ∧ w'.cell? ⟨L, 1, none⟩ = some (.slice a' ps.length c'))
    (first
      | with_reducible exact keepG G
      | with_reducible exact keepG G.drew
      | with_reducible exact keepR G _ _)
    (first
      | (go_at_call 52
         refine (gKeep (w := w) (p := w.heap.size + 1) (n := n) (v := v) (L := L) (ss := ss) (ps := ps) (a := a) (c := c) (a' := a') (c' := c') ?hE).mono ?_
         case hE => first | exact G | exact G.drew
         rintro e w4 ⟨l, f, cap, rfl, hl, ok, G⟩
         obtain ⟨r0, r1, rf, r9⟩ := blk2 G.res))
  have HK : Hid (Ints ((w4.setCell ⟨w.heap.size, 0, none⟩ (.slice a ss.length c)).setCell ⟨w.heap.size, 1, none⟩ (.slice a' ps.length c')) (.slice f l.length cap) l) :=
    OK.ints (B := w.heap.size + 1) (own_keep ok fun g hg => (D7.set2_wrote w4 w.heap.size _ _).block g (ok.lt g hg).2 (fun e => by have := (ok.lt g hg).1; omega))
  have HF : Hid (DrewCrash w (.returned (.tuple #[.agg #[.slice a ss.length c, .slice a' ps.length c'], .slice f l.length cap])) ((w4.setCell ⟨w.heap.size, 0, none⟩ (.slice a ss.length c)).setCell ⟨w.heap.size, 1, none⟩ (.slice a' ps.length c'))) := ⟨ss, ps, a, c, a', c', l, f, cap, rfl, hl, HK.out, G.fill _ _⟩
  go_wp2_with fail
  exact bodyPost_ret (v := .tuple #[.agg #[.slice a ss.length c, .slice a' ps.length c'], .slice f l.length cap]) (by simp [results, Tryz.results18, go_sem, r0, r1]) rfl HF.out
end Go.Proofs.YtfiabbfdnmldjaaGreatDoor.E4
