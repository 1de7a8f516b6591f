/-
  D7 D8 E0 D9: parts of the proof, one behind the other.
-/
import Derived.Test.YtfiabbfdnmldjaaGreatDoorPM
import Derived.Test.YtfiabbfdnmldjaaGreatDoorPF
import Derived.Test.YtfiabbfdnmldjaaGreatDoorPA
import Derived.Deep.DeepCutAuto
/-
  A drawn disk: what it is made of; its first part, writes and flushes.
-/
namespace Go.Proofs.YtfiabbfdnmldjaaGreatDoor.D7
open Go.RowKit
open Go.Proofs.YtfiabbfdnmldjaaGreatDoor.C0 Go.Proofs.YtfiabbfdnmldjaaGreatDoor.D6 Go.Proofs.YtfiabbfdnmldjaaGreatDoor.S0 Go.Proofs.YtfiabbfdnmldjaaGreatDoor.S1 Go.Proofs.YtfiabbfdnmldjaaGreatDoor.S2 Go.Proofs.YtfiabbfdnmldjaaGreatDoor.O1 Go.Proofs.YtfiabbfdnmldjaaGreatDoor.T2 Go.Proofs.YtfiabbfdnmldjaaGreatDoor.T3 Go.Proofs.YtfiabbfdnmldjaaGreatDoor.T4 Go.Proofs.YtfiabbfdnmldjaaGreatDoor.T5
open Go.Proofs.YtfiabbfdnmldjaaGreatDoor.Dk (Out writeR flushR rightB right_iff write_ok flush_ok)
/-- A disk's block is none of its rows. -/
theorem row_ne {B L : Nat} {w : World} {vs vp : Value} {ss : List ByteArray} {ps : List Pend} {arr : Array Value} {T : TypeId} {fr : Nat × Nat} (h : ODisk B w vs vp ss ps) (k : w.heap[L]? = some (.cells arr T fr)) (h1 : T ≠ 9) (h2 : T ≠ 82) : ∀ g, (vs.ownBlock = some g ∨ vp.ownBlock = some g) → g ≠ L := by
  intro g hg e
  subst e
  rcases hg with hg | hg
  · rcases h.1.2 with ⟨e, _⟩ | ⟨g', cap, cur, e, _, hg', _⟩
    · rw [e] at hg; simp [Value.ownBlock] at hg
    · rw [e] at hg; simp [Value.ownBlock] at hg; subst hg
      rw [k] at hg'; simp at hg'; exact h1 hg'.2.1
  · rcases h.2.2 with ⟨e, _⟩ | ⟨g', cap, cur, e, _, hg', _⟩
    · rw [e] at hg; simp [Value.ownBlock] at hg
    · rw [e] at hg; simp [Value.ownBlock] at hg; subst hg
      rw [k] at hg'; simp at hg'; exact h2 hg'.2.1
theorem keep_blocks {B : Nat} {w w' : World} {vs vp : Value} {ss : List ByteArray} {ps : List Pend} (h : ODisk B w vs vp ss ps) (hk : ∀ g, (vs.ownBlock = some g ∨ vp.ownBlock = some g) → w'.heap[g]? = w.heap[g]?) : ODisk B w' vs vp ss ps :=
  ⟨own_keep h.1 fun g hg => hk g (.inl hg), own_keep h.2 fun g hg => hk g (.inr hg)⟩
/-- What the drawn disk's variable holds, and what else stands. -/
structure DS (B p n : Nat) (v : Value) (w0 : World) (L : Nat) (ss : List ByteArray) (ps : List Pend) (a : Option Addr) (c : Nat) (a' : Option Addr) (c' : Nat) (wr : World) : Prop where
  loc : wr.heap[L]? = some (.cells #[.slice a ss.length c, .slice a' ps.length c'] 26)
  own : ODisk w0.heap.size wr (.slice a ss.length c) (.slice a' ps.length c') ss ps
  res : wr.heap[w0.heap.size]? = some (.cells #[.slice none 0 0, .slice none 0 0] 26)
  dr : Dr B p n v wr
  wr : Wrote (only p) w0 wr
  lt : w0.heap.size < L
  plt : p < w0.heap.size
theorem DS.below {B p n L c c' : Nat} {v : Value} {w0 wr w' : World} {ss : List ByteArray} {ps : List Pend} {a a' : Option Addr} (h : DS B p n v w0 L ss ps a c a' c' wr) (hb : Below wr.heap.size wr w') : DS B p n v w0 L ss ps a c a' c' w' :=
  ⟨carry h.loc hb, h.own.below hb, carry h.res hb, h.dr.below hb, trW h.wr hb, h.lt, h.plt⟩
theorem DS.drawn {B p n L c c' : Nat} {v : Value} {w0 wr w' : World} {ss : List ByteArray} {ps : List Pend} {a a' : Option Addr} (h : DS B p n v w0 L ss ps a c a' c' wr) (hd : Dr B p n v w') (ht : Wrote (only p) wr w') : DS B p n v w0 L ss ps a c a' c' w' :=
  ⟨carryP h.loc ht (by have := h.lt; have := h.plt; omega), diskP h.own ht h.plt, carryP h.res ht (by have := h.plt; omega), hd, h.wr.trans ht, h.lt, h.plt⟩
theorem DS.drew {B p n L c c' : Nat} {v : Value} {w0 wr : World} {ss : List ByteArray} {ps : List Pend} {a a' : Option Addr} (h : DS B p n v w0 L ss ps a c a' c' wr) : DS B p n v w0 L ss ps a c a' c' wr.drew :=
  ⟨h.loc, h.own, h.res, h.dr.drew, h.wr.drew, h.lt, h.plt⟩
/-- A store into a block of another kind. -/
theorem DS.elsewhere {B p n L c c' : Nat} {v : Value} {w0 wr w' : World} {ss : List ByteArray} {ps : List Pend} {a a' : Option Addr} {Y : Nat} {arr : Array Value} {T : TypeId} {fr : Nat × Nat} (h : DS B p n v w0 L ss ps a c a' c' wr) (kY : wr.heap[Y]? = some (.cells arr T fr)) (h1 : T ≠ 9) (h2 : T ≠ 82) (hY : w0.heap.size < Y) (hL : Y ≠ L)
    (ht : Wrote (fun g => g = Y) wr w') : DS B p n v w0 L ss ps a c a' c' w' := by
  have hlt := h.lt
  have hplt := h.plt
  refine ⟨carryW h.loc ht (fun e => hL e.symm), keep_blocks h.own fun g hg => ht.block g (h.own.rows g hg).2 (row_ne h.own kY h1 h2 g hg), carryW h.res ht (by omega), h.dr.wrote ht (fun g e => by omega), ⟨ht.os.trans h.wr.os, ht.tape.trans h.wr.tape, ht.output.trans h.wr.output, Nat.le_trans h.wr.size ht.size, fun k hk hs => (ht.block k (Nat.lt_of_lt_of_le hk h.wr.size) (by omega)).trans (h.wr.block k hk hs)⟩, hlt, hplt⟩
/-- A result held in a variable of its own. -/
structure YS (w0 : World) (Y : Nat) (o : Out) (a : Option Addr) (c : Nat) (a' : Option Addr) (c' : Nat) (wr : World) : Prop where
  loc : wr.heap[Y]? = some (.cells #[.slice a o.ss.length c, .slice a' o.ps.length c', .string o.d, .int .i64 o.k] 72)
  own : ODisk w0.heap.size wr (.slice a o.ss.length c) (.slice a' o.ps.length c') o.ss o.ps
  lt : w0.heap.size < Y
theorem YS.below {w0 wr w' : World} {Y : Nat} {o : Out} {a a' : Option Addr} {c c' : Nat} (h : YS w0 Y o a c a' c' wr) (hb : Below wr.heap.size wr w') : YS w0 Y o a c a' c' w' := ⟨carry h.loc hb, h.own.below hb, h.lt⟩
theorem YS.drawn {p : Nat} {w0 wr w' : World} {Y : Nat} {o : Out} {a a' : Option Addr} {c c' : Nat} (h : YS w0 Y o a c a' c' wr) (ht : Wrote (only p) wr w') (hp : p < w0.heap.size) : YS w0 Y o a c a' c' w' :=
  ⟨carryP h.loc ht (by have := h.lt; omega), diskP h.own ht hp, h.lt⟩
theorem set4_wrote (w : World) (g : Nat) (a b c d : Value) : Wrote (fun k => k = g) w (set4 w g a b c d) :=
  ((((Wrote.refl (fun k => k = g) w).setCell (p := ⟨g, 0, none⟩) (.inr rfl) a).setCell (p := ⟨g, 1, none⟩) (.inr rfl) b).setCell (p := ⟨g, 2, none⟩) (.inr rfl) c).setCell (p := ⟨g, 3, none⟩) (.inr rfl) d
theorem set4_at {w : World} {g : Nat} {x y z u : Value} {T : TypeId} (h : w.heap[g]? = some (.cells #[x, y, z, u] T (0, 0))) (a b c d : Value) : (set4 w g a b c d).heap[g]? = some (.cells #[a, b, c, d] T (0, 0)) := by
  have h1 := heap_setCell_same w g 0 _ _ a h
  have h2 := heap_setCell_same _ g 1 _ _ b h1
  have h3 := heap_setCell_same _ g 2 _ _ c h2
  have h4 := heap_setCell_same _ g 3 _ _ d h3
  simpa using h4
theorem set2_wrote (w : World) (g : Nat) (a b : Value) : Wrote (fun k => k = g) w ((w.setCell ⟨g, 0, none⟩ a).setCell ⟨g, 1, none⟩ b) :=
  ((Wrote.refl (fun k => k = g) w).setCell (p := ⟨g, 0, none⟩) (.inr rfl) a).setCell (p := ⟨g, 1, none⟩) (.inr rfl) b
theorem set2_at {w : World} {g : Nat} {x y : Value} {T : TypeId} (h : w.heap[g]? = some (.cells #[x, y] T (0, 0))) (a b : Value) : ((w.setCell ⟨g, 0, none⟩ a).setCell ⟨g, 1, none⟩ b).heap[g]? = some (.cells #[a, b] T (0, 0)) := by
  have h1 := heap_setCell_same w g 0 _ _ a h
  have h2 := heap_setCell_same _ g 1 _ _ b h1
  simpa using h2
/-- The result's disk becomes the disk. -/
theorem DS.take {B p n L c c' : Nat} {v : Value} {w0 wr : World} {ss : List ByteArray} {ps : List Pend} {a a' : Option Addr} {Y : Nat} {o : Out} {f f' : Option Addr} {d d' : Nat} (h : DS B p n v w0 L ss ps a c a' c' wr) (y : YS w0 Y o f d f' d' wr) :
    DS B p n v w0 L o.ss o.ps f d f' d' ((wr.setCell ⟨L, 0, none⟩ (.slice f o.ss.length d)).setCell ⟨L, 1, none⟩ (.slice f' o.ps.length d')) := by
  have ht := set2_wrote wr L (.slice f o.ss.length d) (.slice f' o.ps.length d')
  have hlt := h.lt
  have hplt := h.plt
  refine ⟨set2_at h.loc _ _, keep_blocks y.own fun g hg => ht.block g (y.own.rows g hg).2 (row_ne y.own h.loc (by decide) (by decide) g hg), carryW h.res ht (by omega), h.dr.wrote ht (fun g e => by omega), ⟨ht.os.trans h.wr.os, ht.tape.trans h.wr.tape, ht.output.trans h.wr.output, Nat.le_trans h.wr.size ht.size, fun k hk hs => (ht.block k (Nat.lt_of_lt_of_le hk h.wr.size) (by omega)).trans (h.wr.block k hk hs)⟩, hlt, hplt⟩
end Go.Proofs.YtfiabbfdnmldjaaGreatDoor.D7

/-
  A drawn disk: the walk.
-/
namespace Go.Proofs.YtfiabbfdnmldjaaGreatDoor.D8
open Go.RowKit
open Go.Proofs.YtfiabbfdnmldjaaGreatDoor.C0 Go.Proofs.YtfiabbfdnmldjaaGreatDoor.D6 Go.Proofs.YtfiabbfdnmldjaaGreatDoor.D7 Go.Proofs.YtfiabbfdnmldjaaGreatDoor.S0 Go.Proofs.YtfiabbfdnmldjaaGreatDoor.S1 Go.Proofs.YtfiabbfdnmldjaaGreatDoor.S2 Go.Proofs.YtfiabbfdnmldjaaGreatDoor.O1 Go.Proofs.YtfiabbfdnmldjaaGreatDoor.T2 Go.Proofs.YtfiabbfdnmldjaaGreatDoor.T3 Go.Proofs.YtfiabbfdnmldjaaGreatDoor.T4 Go.Proofs.YtfiabbfdnmldjaaGreatDoor.T5
open Go.Proofs.YtfiabbfdnmldjaaGreatDoor.Dk (Out writeR flushR rightB right_iff write_ok flush_ok new_right)
def RelD (B p n : Nat) (v : Value) (w0 : World) (L : Nat) (x : Value) (wr : World) : Prop :=
  ∃ (k : Nat) (ss : List ByteArray) (ps : List Pend) (a : Option Addr) (c : Nat) (a' : Option Addr) (c' : Nat), k ≤ 9 ∧ x = .int .i64 k ∧ rightB ss ps = true ∧ DS B p n v w0 L ss ps a c a' c' wr
/-- What is there when a write was tried. -/
def RY (B p n : Nat) (v : Value) (w0 : World) (L : Nat) (ss : List ByteArray) (ps : List Pend) (a : Option Addr) (c : Nat) (a' : Option Addr) (c' : Nat) (s : Value) (wx : World) : Prop :=
  ∃ (Y : Nat) (o : Out) (f : Option Addr) (d : Nat) (f' : Option Addr) (d' : Nat), s = .pointer (some ⟨Y, 0, none⟩) ∧ YS w0 Y o f d f' d' wx ∧ (o.k = 0 → rightB o.ss o.ps = true) ∧ DS B p n v w0 L ss ps a c a' c' wx ∧ Y ≠ L
theorem small_sizes {ss : List ByteArray} {ps : List Pend} (h : rightB ss ps = true) : (∀ s ∈ ss, s.size ≤ maxLen) ∧ ∀ q ∈ ps, q.2.size ≤ maxLen := by
  obtain ⟨_, _, _, h4, h5⟩ := (right_iff ss ps).1 h
  unfold maxLen
  exact ⟨fun s hs => by have := h4 s hs; omega, fun q hq => by have := (h5 q hq).2.2; omega⟩
theorem new_some (r : Nat) (h : r < 9) : ∃ (l : List ByteArray) (p : List Pend), rightB l p = true ∧ ∀ w, Calls Tryz.prog 66 #[.int .i64 (1 + (r : Int))] w fun e w' => DTold w l p e w' := by
  refine ⟨newOf (1 + (r : Int)), [], ?_, fun w => new_spec _ w⟩
  unfold newOf
  rw [if_pos (by omega)]
  exact new_right _ (by omega) (by omega)
theorem keepL {B p n L c c' : Nat} {v : Value} {w0 wr : World} {ss : List ByteArray} {ps : List Pend} {a a' : Option Addr} (h : DS B p n v w0 L ss ps a c a' c' wr) : wr.cell? ⟨L, 0, none⟩ = some (.slice a ss.length c) ∧ wr.cell? ⟨L, 1, none⟩ = some (.slice a' ps.length c') :=
  ⟨(blk2 h.loc).1, (blk2 h.loc).2.1⟩
abbrev zeroOut : Obj := .cells #[.slice none 0 0, .slice none 0 0, .string ⟨#[]⟩, .int .i64 0] 72
/-- The disk's variable, and, where it is laid already, the result's. -/
structure DY (B p n : Nat) (v : Value) (w0 : World) (L : Nat) (ss : List ByteArray) (ps : List Pend) (a : Option Addr) (c : Nat) (a' : Option Addr) (c' : Nat) (oy : Option Nat) (wr : World) : Prop where
  ds : DS B p n v w0 L ss ps a c a' c' wr
  ky : ∀ Y, oy = some Y → wr.heap[Y]? = some zeroOut ∧ w0.heap.size < Y ∧ Y ≠ L
section
variable {B p n L c c' : Nat} {v : Value} {w0 wr w' : World} {ss : List ByteArray} {ps : List Pend} {a a' : Option Addr} {oy : Option Nat}
theorem DY.of (h : DS B p n v w0 L ss ps a c a' c' wr) : DY B p n v w0 L ss ps a c a' c' none wr := ⟨h, fun Y e => by cases e⟩
theorem DY.lay (h : DY B p n v w0 L ss ps a c a' c' none wr) : DY B p n v w0 L ss ps a c a' c' (some wr.heap.size) (wr.alloc zeroOut) :=
  ⟨h.ds.below (albel _ _), fun Y e => by cases e; exact ⟨heap_alloc_new _ _, by have := h.ds.lt; have := lt_some h.ds.loc; omega, by have := lt_some h.ds.loc; omega⟩⟩
theorem DY.drew (h : DY B p n v w0 L ss ps a c a' c' oy wr) : DY B p n v w0 L ss ps a c a' c' oy wr.drew := ⟨h.ds.drew, h.ky⟩
theorem DY.below (h : DY B p n v w0 L ss ps a c a' c' oy wr) (hb : Below wr.heap.size wr w') : DY B p n v w0 L ss ps a c a' c' oy w' := ⟨h.ds.below hb, fun Y e => ⟨carry (h.ky Y e).1 hb, (h.ky Y e).2⟩⟩
theorem DY.drawn (h : DY B p n v w0 L ss ps a c a' c' oy wr) (hd : Dr B p n v w') (ht : Wrote (only p) wr w') : DY B p n v w0 L ss ps a c a' c' oy w' :=
  ⟨h.ds.drawn hd ht, fun Y e => ⟨carryP (h.ky Y e).1 ht (by have := (h.ky Y e).2.1; have := h.ds.plt; omega), (h.ky Y e).2⟩⟩
theorem yN (most : Int) (h : DY B p n v w0 L ss ps a c a' c' oy wr) (l : 0 < most) (u : most ≤ 9223372036854775807) :
    Calls Tryz.prog 31 #[.pointer (some ⟨p, 0, none⟩), .int .i64 most] wr fun e w' => ∃ r : Nat, e = .returned (.int .i64 r) ∧ (r : Int) < most ∧ DY B p n v w0 L ss ps a c a' c' oy w' :=
  (drawN most h.ds.dr l u).mono (fun _ _ ⟨r, he, hr, hd, ht⟩ => ⟨r, he, hr, h.drawn hd ht⟩)
theorem yOne (most : Int) (h : DY B p n v w0 L ss ps a c a' c' oy wr) (l : 0 < most) (u : most ≤ 9223372036854775807) :
    Calls Tryz.prog 32 #[.pointer (some ⟨p, 0, none⟩), .int .i64 most] wr fun e w' => ∃ b : Bool, e = .returned (.bool b) ∧ DY B p n v w0 L ss ps a c a' c' oy w' ∧ Wrote (only p) wr w' :=
  (drawOne most h.ds.dr l u).mono (fun _ _ ⟨b, he, hd, ht⟩ => ⟨b, he, h.drawn hd ht, ht⟩)
theorem yBytes (k : Nat) (h : DY B p n v w0 L ss ps a c a' c' oy wr) (hk : k ≤ 1000000) :
    Calls Tryz.prog 30 #[.pointer (some ⟨p, 0, none⟩), .int .i64 k] wr fun e w' => ∃ t : ByteArray, e = .returned (.string t) ∧ t.size = k ∧ DY B p n v w0 L ss ps a c a' c' oy w' :=
  (drawBytes k h.ds.dr hk).mono (fun _ _ ⟨t, he, hr, hd, ht⟩ => ⟨t, he, hr, h.drawn hd ht⟩)
theorem yWrite (i : Int) (t : ByteArray) (h : DY B p n v w0 L ss ps a c a' c' oy wr) (hR : rightB ss ps = true) (hi1 : -9223372036854775808 ≤ i) (hi2 : i ≤ 9223372036854775807) (ht : t.size ≤ 1000000) :
    Calls Tryz.prog 47 #[.agg #[.slice a ss.length c, .slice a' ps.length c'], .int .i64 i, .string t] wr fun e w' => ∃ (o : Out) (f : Option Addr) (d : Nat) (f' : Option Addr) (d' : Nat), e = .returned (.agg #[.slice f o.ss.length d, .slice f' o.ps.length d', .string o.d, .int .i64 o.k]) ∧ ODisk w0.heap.size w' (.slice f o.ss.length d) (.slice f' o.ps.length d') o.ss o.ps ∧ (o.k = 0 → rightB o.ss o.ps = true) ∧ DY B p n v w0 L ss ps a c a' c' oy w' :=
  (TA.write_spec _ _ ss ps i t wr h.ds.own.1.strs h.ds.own.2.pends (small_sizes hR).1 (small_sizes hR).2 hi1 hi2 (by unfold maxLen; omega)).mono
    (fun _ _ ⟨f, d, f', d', he, ho, hb⟩ => ⟨writeR ss ps i t, f, d, f', d', he, ho.mono h.ds.wr.size, fun hk => by have := write_ok hk; rw [this.2.2.2.2.2.1]; exact this.2.2.2.2.2.2, h.below hb⟩)
theorem DY.at {Y : Nat} (h : DY B p n v w0 L ss ps a c a' c' (some Y) wr) : wr.heap[Y]? = some zeroOut := (h.ky Y rfl).1
theorem keepA (h : DY B p n v w0 L ss ps a c a' c' oy wr) (o : Obj) : (wr.alloc o).cell? ⟨L, 0, none⟩ = some (.slice a ss.length c) ∧ (wr.alloc o).cell? ⟨L, 1, none⟩ = some (.slice a' ps.length c') := keepL (h.ds.below (albel _ _))
theorem keepS {Y : Nat} (h : DY B p n v w0 L ss ps a c a' c' (some Y) wr) (x y z u : Value) : (set4 wr Y x y z u).cell? ⟨L, 0, none⟩ = some (.slice a ss.length c) ∧ (set4 wr Y x y z u).cell? ⟨L, 1, none⟩ = some (.slice a' ps.length c') := by
  obtain ⟨k, h1, h2⟩ := h.ky Y rfl
  exact keepL (h.ds.elsewhere k (by decide) (by decide) h1 h2 (set4_wrote wr Y x y z u))
theorem RY.laid {Y : Nat} {o : Out} {f f' : Option Addr} {d d' : Nat} (h : DY B p n v w0 L ss ps a c a' c' (some Y) wr) (ho : ODisk w0.heap.size wr (.slice f o.ss.length d) (.slice f' o.ps.length d') o.ss o.ps) (hr : o.k = 0 → rightB o.ss o.ps = true) :
    RY B p n v w0 L ss ps a c a' c' (.pointer (some ⟨Y, 0, none⟩)) (set4 wr Y (.slice f o.ss.length d) (.slice f' o.ps.length d') (.string o.d) (.int .i64 o.k)) := by
  obtain ⟨k, h1, h2⟩ := h.ky Y rfl
  have ht := set4_wrote wr Y (.slice f o.ss.length d) (.slice f' o.ps.length d') (.string o.d) (.int .i64 o.k)
  exact ⟨Y, o, f, d, f', d', rfl, ⟨set4_at k _ _ _ _, keep_blocks ho fun g hg => ht.block g (ho.rows g hg).2 (row_ne ho k (by decide) (by decide) g hg), h1⟩, hr, h.ds.elsewhere k (by decide) (by decide) h1 h2 ht, h2⟩
theorem RY.fresh {o : Out} {f f' : Option Addr} {d d' : Nat} (h : DY B p n v w0 L ss ps a c a' c' oy wr) (ho : ODisk w0.heap.size wr (.slice f o.ss.length d) (.slice f' o.ps.length d') o.ss o.ps) (hr : o.k = 0 → rightB o.ss o.ps = true) :
    RY B p n v w0 L ss ps a c a' c' (.pointer (some ⟨wr.heap.size, 0, none⟩)) (wr.alloc (.cells #[.slice f o.ss.length d, .slice f' o.ps.length d', .string o.d, .int .i64 o.k] 72)) :=
  ⟨wr.heap.size, o, f, d, f', d', rfl, ⟨heap_alloc_new _ _, ho.below (albel _ _), by have := h.ds.lt; have := lt_some h.ds.loc; omega⟩, hr, h.ds.below (albel _ _), by have := lt_some h.ds.loc; omega⟩
/-- The disk's variable and the result's, Y, side by side. -/
structure YD (B p n : Nat) (v : Value) (w0 : World) (L Y : Nat) (ss : List ByteArray) (ps : List Pend) (a : Option Addr) (c : Nat) (a' : Option Addr) (c' : Nat) (o : Out) (f : Option Addr) (d : Nat) (f' : Option Addr) (d' : Nat) (wx : World) : Prop where
  ys : YS w0 Y o f d f' d' wx
  hr : o.k = 0 → rightB o.ss o.ps = true
  ds : DS B p n v w0 L ss ps a c a' c' wx
  ne : Y ≠ L
theorem YD.drawn {Y : Nat} {o : Out} {f f' : Option Addr} {d d' : Nat} (h : YD B p n v w0 L Y ss ps a c a' c' o f d f' d' wr) (hd : Dr B p n v w') (ht : Wrote (only p) wr w') : YD B p n v w0 L Y ss ps a c a' c' o f d f' d' w' :=
  ⟨h.ys.drawn ht h.ds.plt, h.hr, h.ds.drawn hd ht, h.ne⟩
theorem YD.put {Y : Nat} {o o2 : Out} {f f' g g' : Option Addr} {d d' e e' : Nat} (h : YD B p n v w0 L Y ss ps a c a' c' o f d f' d' wr) (hb : Below wr.heap.size wr w') (ho : ODisk wr.heap.size w' (.slice g o2.ss.length e) (.slice g' o2.ps.length e') o2.ss o2.ps) (h2 : o2.k = 0 → rightB o2.ss o2.ps = true) :
    YD B p n v w0 L Y ss ps a c a' c' o2 g e g' e' (set4 w' Y (.slice g o2.ss.length e) (.slice g' o2.ps.length e') (.string o2.d) (.int .i64 o2.k)) := by
  have k := carry h.ys.loc hb
  have ht := set4_wrote w' Y (.slice g o2.ss.length e) (.slice g' o2.ps.length e') (.string o2.d) (.int .i64 o2.k)
  have ho' := ho.mono h.ds.wr.size
  exact ⟨⟨set4_at k _ _ _ _, keep_blocks ho' fun g hg => ht.block g (ho'.rows g hg).2 (row_ne ho' k (by decide) (by decide) g hg), h.ys.lt⟩, h2, (h.ds.below hb).elsewhere k (by decide) (by decide) h.ys.lt h.ne ht, h.ne⟩
theorem flush_right (h : (flushR ss ps).k = 0) : rightB (flushR ss ps).ss (flushR ss ps).ps = true := by
  have := flush_ok h
  rw [this.2.1]
  exact this.2.2
theorem RelD.same (k : Nat) (hk : k ≤ 9) (hR : rightB ss ps = true) (h : DS B p n v w0 L ss ps a c a' c' wr) : RelD B p n v w0 L (.int .i64 k) wr := ⟨k, ss, ps, a, c, a', c', hk, rfl, hR, h⟩
end
end Go.Proofs.YtfiabbfdnmldjaaGreatDoor.D8

/-
  A drawn disk: its last part, disks that are none of those that Right takes.
-/
namespace Go.Proofs.YtfiabbfdnmldjaaGreatDoor.E0
open Go.RowKit
open Go.Proofs.YtfiabbfdnmldjaaGreatDoor.C0 Go.Proofs.YtfiabbfdnmldjaaGreatDoor.D6 Go.Proofs.YtfiabbfdnmldjaaGreatDoor.D7 Go.Proofs.YtfiabbfdnmldjaaGreatDoor.D8 Go.Proofs.YtfiabbfdnmldjaaGreatDoor.S0 Go.Proofs.YtfiabbfdnmldjaaGreatDoor.S1 Go.Proofs.YtfiabbfdnmldjaaGreatDoor.S2 Go.Proofs.YtfiabbfdnmldjaaGreatDoor.S4 Go.Proofs.YtfiabbfdnmldjaaGreatDoor.O1 Go.Proofs.YtfiabbfdnmldjaaGreatDoor.T2 Go.Proofs.YtfiabbfdnmldjaaGreatDoor.T3 Go.Proofs.YtfiabbfdnmldjaaGreatDoor.T4 Go.Proofs.YtfiabbfdnmldjaaGreatDoor.T5
open Go.Proofs.YtfiabbfdnmldjaaGreatDoor.Dk (Out rightB right_iff)
def zer (r : Nat) : Obj := .cells (Array.replicate (64 + r) (.int .u8 0)) 5
def zt (r : Nat) : ByteArray := ⟨Array.replicate (64 + r) 0⟩
theorem madeZ (r : Nat) (h : (r : Int) < 2) (w : World) : (Instr.makeSlice 22 (.int .i64 (64 + (r : Int))) (.int .i64 (64 + (r : Int)))).run Tryz.prog w = .ok (.slice (some ⟨w.heap.size, 0, none⟩) (64 + r) (64 + r)) (w.alloc (zer r)) := by
  obtain rfl | rfl : r = 0 ∨ r = 1 := by omega
  · kernel_rfl
  · kernel_rfl
theorem convZ (r : Nat) (w : World) : (convert 22 9 (.slice (some ⟨w.heap.size, 0, none⟩) (64 + r) (64 + r))).run Tryz.prog (w.alloc (zer r)) = .ok (.string (zt r)) (w.alloc (zer r)) := by
  have := run_convert_bytes_back (w.alloc (zer r)) 22 9 5 ⟨w.heap.size, 0, none⟩ (64 + r) (List.replicate (64 + r) 0) Tryz.underlying22 Tryz.underlying5 Tryz.underlying9 ?_
  · simpa [zt] using this
  · intro j hj
    simp only [List.length_replicate] at hj
    have hn : (w.alloc (zer r)).heap[w.heap.size]? = some (.cells (Array.replicate (64 + r) (.int .u8 0)) 5) := heap_alloc_new w _
    generalize w.alloc (zer r) = x at hn ⊢
    rw [add0]
    simp [World.cell?, hn, hj]
theorem wrap64 (r : Nat) (h : (r : Int) < 2) : IntKind.i64.wrap (64 + (r : Int)) = 64 + (r : Int) := by
  obtain rfl | rfl : r = 0 ∨ r = 1 := by omega
  · decide
  · decide
theorem wrap199 (r : Nat) (h : (r : Int) < 3) : IntKind.i64.wrap (199 + (r : Int)) = 199 + (r : Int) := by
  obtain rfl | rfl | rfl : r = 0 ∨ r = 1 ∨ r = 2 := by omega
  · decide
  · decide
  · decide
/-- How many are pending, as the variable says. -/
def lenAt (w : World) (L : Nat) : Nat := match w.cell? ⟨L, 1, none⟩ with | some (.slice _ n _) => n | _ => 0
theorem lenAt_of {w : World} {L n c : Nat} {a : Option Addr} (h : w.cell? ⟨L, 1, none⟩ = some (.slice a n c)) : lenAt w L = n := by unfold lenAt; rw [h]
theorem zt_size (r : Nat) : (zt r).size = 64 + r := by simp [zt, ByteArray.size]
section
variable {B p n L c c' : Nat} {v : Value} {w0 wr w' : World} {ss : List ByteArray} {ps : List Pend} {a a' : Option Addr}
theorem next_round (k : Nat) (h0 : 0 < k) (hk : k ≤ 9) (hR : rightB ss ps = true) (h : DS B p n v w0 L ss ps a c a' c' wr) : RelD B p n v w0 L (.int .i64 ((k : Int) - 1)) wr := by
  have e : (k : Int) - 1 = ((k - 1 : Nat) : Int) := by omega
  rw [e]
  exact RelD.same (k - 1) (by omega) hR h
/-- A drawn disk's bounds. -/
structure FD (B p n : Nat) (v : Value) (w0 : World) (L : Nat) (ss : List ByteArray) (ps : List Pend) (a : Option Addr) (c : Nat) (a' : Option Addr) (c' : Nat) (wr : World) : Prop where
  ds : DS B p n v w0 L ss ps a c a' c' wr
  l1 : ss.length ≤ 64
  l2 : ps.length ≤ 201
  z1 : ∀ s ∈ ss, s.size ≤ maxLen
  z2 : ∀ q ∈ ps, q.2.size ≤ maxLen
def RF (B p n : Nat) (v : Value) (w0 : World) (L : Nat) (wr : World) : Prop :=
  ∃ (ss : List ByteArray) (ps : List Pend) (a : Option Addr) (c : Nat) (a' : Option Addr) (c' : Nat), FD B p n v w0 L ss ps a c a' c' wr
theorem FD.of (h : DS B p n v w0 L ss ps a c a' c' wr) (hR : rightB ss ps = true) : FD B p n v w0 L ss ps a c a' c' wr :=
  ⟨h, ((right_iff ss ps).1 hR).2.1, by have := ((right_iff ss ps).1 hR).2.2.1; omega, (small_sizes hR).1, (small_sizes hR).2⟩
theorem FD.rf (h : FD B p n v w0 L ss ps a c a' c' wr) : RF B p n v w0 L wr := ⟨ss, ps, a, c, a', c', h⟩
theorem FD.drawn (h : FD B p n v w0 L ss ps a c a' c' wr) (hd : Dr B p n v w') (ht : Wrote (only p) wr w') : FD B p n v w0 L ss ps a c a' c' w' := ⟨h.ds.drawn hd ht, h.l1, h.l2, h.z1, h.z2⟩
theorem FD.below (h : FD B p n v w0 L ss ps a c a' c' wr) (hb : Below wr.heap.size wr w') : FD B p n v w0 L ss ps a c a' c' w' := ⟨h.ds.below hb, h.l1, h.l2, h.z1, h.z2⟩
theorem FD.drew (h : FD B p n v w0 L ss ps a c a' c' wr) : FD B p n v w0 L ss ps a c a' c' wr.drew := ⟨h.ds.drew, h.l1, h.l2, h.z1, h.z2⟩
theorem fN (most : Int) (h : FD B p n v w0 L ss ps a c a' c' wr) (l : 0 < most) (u : most ≤ 9223372036854775807) :
    Calls Tryz.prog 31 #[.pointer (some ⟨p, 0, none⟩), .int .i64 most] wr fun e w' => ∃ r : Nat, e = .returned (.int .i64 r) ∧ (r : Int) < most ∧ FD B p n v w0 L ss ps a c a' c' w' :=
  (drawN most h.ds.dr l u).mono (fun _ _ ⟨r, he, hr, hd, ht⟩ => ⟨r, he, hr, h.drawn hd ht⟩)
/-- Writing into blocks that are neither the source's, the result's nor older. -/
theorem wrote_on {S : Nat → Prop} (h : DS B p n v w0 L ss ps a c a' c' wr) (ht : Wrote S wr w') (hS : ∀ g, S g → w0.heap.size < g) : w'.heap[w0.heap.size]? = some (.cells #[.slice none 0 0, .slice none 0 0] 26) ∧ Dr B p n v w' ∧ Wrote (only p) w0 w' := by
  have hplt := h.plt
  exact ⟨carryW h.res ht (fun e => by have := hS _ e; omega), h.dr.wrote ht (fun g e => by have := hS g e; omega), ⟨ht.os.trans h.wr.os, ht.tape.trans h.wr.tape, ht.output.trans h.wr.output, Nat.le_trans h.wr.size ht.size, fun k hk hs => (ht.block k (Nat.lt_of_lt_of_le hk h.wr.size) (fun e => by have := hS k e; omega)).trans (h.wr.block k hk hs)⟩⟩
theorem set1_wrote (w : World) (g i : Nat) (u : Value) : Wrote (fun k => k = g) w (w.setCell ⟨g, i, none⟩ u) := (Wrote.refl (fun k => k = g) w).setCell (p := ⟨g, i, none⟩) (.inr rfl) u
/-- Its sectors are struck. -/
theorem FD.strike (h : FD B p n v w0 L ss ps a c a' c' wr) : FD B p n v w0 L [] ps none 0 a' c' (wr.setCell ⟨L, 0, none⟩ (.slice none 0 0)) := by
  have ht := set1_wrote wr L 0 (.slice none 0 0)
  obtain ⟨x1, x2, x3⟩ := wrote_on h.ds ht (fun g e => by have := h.ds.lt; omega)
  refine ⟨⟨?_, ⟨World.ownsRow_nil _ _ _ _, own_keep h.ds.own.2 fun g hg => ht.block g (h.ds.own.rows g (.inr hg)).2 (row_ne h.ds.own h.ds.loc (by decide) (by decide) g (.inr hg))⟩, x1, x2, x3, h.ds.lt, h.ds.plt⟩, by simp, h.l2, by simp, h.z2⟩
  have := heap_setCell_same wr L 0 _ _ (.slice none 0 0) h.ds.loc
  simpa using this
theorem FD.at {X : World} (h : FD B p n v w0 L ss ps a c a' c' wr) (al : Below wr.heap.size wr X) (hg : X.grownBy w' (Value.slice a' ps.length c').ownBlock) : w'.heap[L]? = some (.cells #[.slice a ss.length c, .slice a' ps.length c'] 26) :=
  (hg.block L (by have := lt_some h.ds.loc; have := al.size; omega) (fun e => row_ne h.ds.own h.ds.loc (by decide) (by decide) L (.inr e.symm) rfl)).trans (carry h.ds.loc al)
/-- One more is pending. -/
theorem FD.more {X : World} {g cap : Nat} {i : Int} {d : ByteArray} (h : FD B p n v w0 L ss ps a c a' c' wr) (al : Below wr.heap.size wr X)
    (hown : w'.ownsRow w0.heap.size 82 2 (.slice (some ⟨g, 0, none⟩) (ps.length + 1) cap) (ps.length + 1) (cp ps ++ [.int .i64 i, .string d])) (hg : X.grownBy w' (Value.slice a' ps.length c').ownBlock)
    (hat : (Value.slice a' ps.length c').ownBlock = some g ∨ g = X.heap.size) (hl : ps.length < 201) (hd : d.size ≤ maxLen) :
    FD B p n v w0 L ss (ps ++ [(i, d)]) a c (some ⟨g, 0, none⟩) cap (w'.setCell ⟨L, 1, none⟩ (.slice (some ⟨g, 0, none⟩) (ps.length + 1) cap)) := by
  have hll : (ps ++ [(i, d)]).length = ps.length + 1 := by simp
  have RFs := h.ds.own.rows
  have hLz := lt_some h.ds.loc
  have hls := h.ds.lt
  have hxs := al.size
  have hLn : (Value.slice a' ps.length c').ownBlock ≠ some L := fun e => row_ne h.ds.own h.ds.loc (by decide) (by decide) L (.inr e) rfl
  have hgL : g ≠ L := by
    rcases hat with e | e
    · exact fun q => hLn (q ▸ e)
    · omega
  have kL : w'.heap[L]? = some (.cells #[.slice a ss.length c, .slice a' ps.length c'] 26) := (hg.block L (by omega) (fun e => hLn e.symm)).trans (carry h.ds.loc al)
  have hS3 := h.ds.own.1.below al
  have hS4 : OStrs w0.heap.size w' (.slice a ss.length c) ss := own_keep hS3 fun k hk => hg.block k (hS3.lt k hk).2 (fun e => own_apart h.ds.own.1 h.ds.own.2 k hk e.symm)
  have hP4 : OPends w0.heap.size w' (.slice (some ⟨g, 0, none⟩) (ps.length + 1) cap) (ps ++ [(i, d)]) := by unfold OPends; rw [hll, TA.cp_snoc]; exact hown
  have hne : w0.heap.size ≠ L := by omega
  have ht1 : Wrote (fun k => (Value.slice a' ps.length c').ownBlock = some k) X w' := Wrote.of_grown hg (fun k e => e)
  have ht2 : Wrote (fun k => k = L ∨ (Value.slice a' ps.length c').ownBlock = some k) wr (w'.setCell ⟨L, 1, none⟩ (.slice (some ⟨g, 0, none⟩) (ps.length + 1) cap)) :=
    ((Wrote.of_below al).trans (ht1.mono (fun k e => .inr e))).setCell (p := ⟨L, 1, none⟩) (.inr (.inl rfl)) _
  have hres : ∀ k, (k = L ∨ (Value.slice a' ps.length c').ownBlock = some k) → w0.heap.size < k := by
    intro k hk
    rcases hk with rfl | e
    · exact hls
    · have h1 := (RFs k (.inr e)).1
      have h2 : k ≠ w0.heap.size := row_ne h.ds.own h.ds.res (by decide) (by decide) k (.inr e)
      omega
  obtain ⟨x1, x2, x3⟩ := wrote_on h.ds ht2 hres
  refine ⟨⟨?_, ⟨?_, ?_⟩, x1, x2, x3, hls, h.ds.plt⟩, h.l1, by omega, h.z1, fun q hq => ?_⟩
  · have := heap_setCell_same w' L 1 _ _ (.slice (some ⟨g, 0, none⟩) (ps.length + 1) cap) kL
    rw [hll]
    simpa using this
  · exact own_keep hS4 fun k hk => Below.heap_setCell _ _ _ _ (row_ne h.ds.own h.ds.loc (by decide) (by decide) k (.inl hk))
  · rw [hll]
    exact own_keep hP4 fun k hk => Below.heap_setCell _ _ _ _ (by simp [Value.ownBlock] at hk; subst hk; exact hgL)
  · rcases List.mem_append.1 hq with hq | hq
    · exact h.z2 q hq
    · simp at hq; subst hq; exact hd
/-- Its first sector is another. -/
theorem FD.other {g : Nat} (t : ByteArray) (h : FD B p n v w0 L ss ps (some ⟨g, 0, none⟩) c a' c' wr) (ht : t.size ≤ maxLen) : FD B p n v w0 L (ss.set 0 t) ps (some ⟨g, 0, none⟩) c a' c' (wr.setCell ⟨g, 0, none⟩ (.string t)) := by
  have hw := set1_wrote wr g 0 (.string t)
  have hgL : g ≠ L := row_ne h.ds.own h.ds.loc (by decide) (by decide) g (.inl rfl)
  have hgR : g ≠ w0.heap.size := row_ne h.ds.own h.ds.res (by decide) (by decide) g (.inl rfl)
  have hgz := (h.ds.own.rows g (.inl rfl)).1
  obtain ⟨x1, x2, x3⟩ := wrote_on h.ds hw (fun k e => by omega)
  refine ⟨⟨?_, ⟨?_, own_keep h.ds.own.2 fun k hk => Below.heap_setCell _ _ _ _ (fun e => own_apart h.ds.own.1 h.ds.own.2 g rfl (by rw [← (show k = g from e)]; exact hk))⟩, x1, x2, x3, h.ds.lt, h.ds.plt⟩, by simpa using h.l1, h.l2, fun s hs => ?_, h.z2⟩
  · rw [List.length_set]; exact (Below.heap_setCell _ _ _ _ (fun e => hgL e.symm)).trans h.ds.loc
  · rw [List.length_set]; exact stored_strs h.ds.own.1 rfl 0 t
  · rcases List.mem_or_eq_of_mem_set hs with hs | rfl
    · exact h.z1 s hs
    · exact ht
theorem keepO {g : Nat} (o : Obj) (t : ByteArray) (h : FD B p n v w0 L ss ps (some ⟨g, 0, none⟩) c a' c' wr) : ((wr.alloc o).setCell ⟨g, 0, none⟩ (.string t)).cell? ⟨L, 0, none⟩ = some (.slice (some ⟨g, 0, none⟩) ss.length c) ∧ ((wr.alloc o).setCell ⟨g, 0, none⟩ (.string t)).cell? ⟨L, 1, none⟩ = some (.slice a' ps.length c') := by
  have hgL : g ≠ L := row_ne h.ds.own h.ds.loc (by decide) (by decide) g (.inl rfl)
  have k : ((wr.alloc o).setCell ⟨g, 0, none⟩ (.string t)).heap[L]? = some (.cells #[.slice (some ⟨g, 0, none⟩) ss.length c, .slice a' ps.length c'] 26) := (Below.heap_setCell _ _ _ _ (fun e => hgL e.symm)).trans (carryA h.ds.loc o)
  exact ⟨(blk2 k).1, (blk2 k).2.1⟩
/-- What the drawn disk is told to be. -/
def Drawn (B p n : Nat) (v : Value) (w : World) (e : Ending) (w' : World) : Prop :=
  ∃ (ss : List ByteArray) (ps : List Pend) (a : Option Addr) (c : Nat) (a' : Option Addr) (c' : Nat), e = .returned (.agg #[.slice a ss.length c, .slice a' ps.length c']) ∧ ODisk w.heap.size w' (.slice a ss.length c) (.slice a' ps.length c') ss ps ∧ ss.length ≤ 64 ∧ ps.length ≤ 201 ∧ (∀ s ∈ ss, s.size ≤ maxLen) ∧ (∀ q ∈ ps, q.2.size ≤ maxLen) ∧ Dr B p n v w' ∧ Wrote (only p) w w'
theorem FD.told (h : FD B p n v w0 L ss ps a c a' c' wr) : Drawn B p n v w0 (.returned (.agg #[.slice a ss.length c, .slice a' ps.length c'])) ((wr.setCell ⟨w0.heap.size, 0, none⟩ (.slice a ss.length c)).setCell ⟨w0.heap.size, 1, none⟩ (.slice a' ps.length c')) := by
  have ht := set2_wrote wr w0.heap.size (.slice a ss.length c) (.slice a' ps.length c')
  have hplt := h.ds.plt
  refine ⟨ss, ps, a, c, a', c', rfl, keep_blocks h.ds.own fun g hg => ht.block g (h.ds.own.rows g hg).2 (row_ne h.ds.own h.ds.res (by decide) (by decide) g hg), h.l1, h.l2, h.z1, h.z2, h.ds.dr.wrote ht (fun g e => by omega), ⟨ht.os.trans h.ds.wr.os, ht.tape.trans h.ds.wr.tape, ht.output.trans h.ds.wr.output, Nat.le_trans h.ds.wr.size ht.size, fun k hk hs => (ht.block k (Nat.lt_of_lt_of_le hk h.ds.wr.size) (by omega)).trans (h.ds.wr.block k hk hs)⟩⟩
end
end Go.Proofs.YtfiabbfdnmldjaaGreatDoor.E0

/-
  A drawn disk: the walk.
-/
namespace Go.Proofs.YtfiabbfdnmldjaaGreatDoor.D9
open Go.RowKit
open Go.Proofs.YtfiabbfdnmldjaaGreatDoor.C0 Go.Proofs.YtfiabbfdnmldjaaGreatDoor.D6 Go.Proofs.YtfiabbfdnmldjaaGreatDoor.D7 Go.Proofs.YtfiabbfdnmldjaaGreatDoor.D8 Go.Proofs.YtfiabbfdnmldjaaGreatDoor.E0 Go.Proofs.YtfiabbfdnmldjaaGreatDoor.S0 Go.Proofs.YtfiabbfdnmldjaaGreatDoor.S1 Go.Proofs.YtfiabbfdnmldjaaGreatDoor.S2 Go.Proofs.YtfiabbfdnmldjaaGreatDoor.S4 Go.Proofs.YtfiabbfdnmldjaaGreatDoor.O1 Go.Proofs.YtfiabbfdnmldjaaGreatDoor.T2 Go.Proofs.YtfiabbfdnmldjaaGreatDoor.T3 Go.Proofs.YtfiabbfdnmldjaaGreatDoor.T4 Go.Proofs.YtfiabbfdnmldjaaGreatDoor.T5
open Go.Proofs.YtfiabbfdnmldjaaGreatDoor.Dk (Out writeR flushR rightB right_iff write_ok flush_ok new_right)
set_option maxRecDepth 100000 in
set_option maxHeartbeats 4000000 in
theorem l03Disk_any (B p n : Nat) (v : Value) (w : World) (h : Dr B p n v w) :
    Calls Tryz.prog 33 #[.pointer (some ⟨p, 0, none⟩)] w fun e w' => Drawn B p n v w e w' := by
  have hplt := h.lt
  go_enter Tryz.func33, Tryz.ntmps33
  go_wp2_with fail
  refine (drawN 9 (h.below (albel _ _)) (by omega) (by omega)).mono ?_
  rintro e w1 ⟨r1, rfl, hr1, h1, t1⟩
  have k1 := carryP (heap_alloc_new w _) t1 (by omega)
  have u1 : Wrote (only p) w w1 := (Wrote.of_below (albel _ _)).trans t1
  have hr1' : r1 < 9 := by omega
  obtain ⟨ss0, ps0, HR, hnew⟩ := new_some r1 hr1'
  clear t1
  go_wp2_with fail
  refine (hnew _).mono ?_
  rintro e w2 ⟨a, c, a', c', rfl, o2, hb2⟩
  have hz1 := lt_some k1
  have D2 : DS B p n v w w2.heap.size ss0 ps0 a c a' c' (w2.alloc (.cells #[.slice a ss0.length c, .slice a' ps0.length c'] 26)) :=
    ⟨heap_alloc_new _ _, (o2.mono (by omega)).below (albel _ _), carryA (carry k1 hb2) _, (h1.below hb2).below (albel _ _), trW (trW u1 hb2) (albel _ _), by have := hb2.size; omega, hplt⟩
  clear o2 hb2 h1 u1 k1 hz1 hnew
  go_wp2_with fail
  refine (drawN 9 D2.dr (by omega) (by omega)).mono ?_
  rintro e w3 ⟨r2, rfl, hr2, h3, t3⟩
  have H0 : Hid (RelD B p n v w w2.heap.size (.int .i64 (r2 : Nat)) w3) := ⟨r2, ss0, ps0, a, c, a', c', by omega, rfl, HR, D2.drawn h3 t3⟩
  clear D2 h3 t3 HR
  generalize w2.heap.size = L at *
  go_wp2
  go_loopw [4] (fun x wr => RelD B p n v w L x wr) (fun x _ => (intOf x).toNat)
  case atStart => exact H0.out
  case round =>
    clear H0
    obtain ⟨k, ss, ps, a, c, a', c', hk, rfl, HR, D⟩ := hrel
    by_cases hlt : 0 < k
    · have hlt' : (0 : Int) < (k : Int) := by omega
      obtain ⟨hz, hzp⟩ := small_sizes HR
      obtain ⟨q0, q1, -, q9⟩ := blk2 D.loc
      go_wp2
      go_cut [5] (fun s5 wx => RY B p n v w L ss ps a c a' c' s5 wx)
      case first =>
        have Y := DY.of D
        go_region_held3 (fun w' => w'.cell? ⟨L, 0, none⟩ = some (.slice a ss.length c) ∧ w'.cell? ⟨L, 1, none⟩ = some (.slice a' ps.length c'))
          (first
            | with_reducible exact keepL Y.ds
            | with_reducible exact keepL Y.ds.drew
            | with_reducible exact keepA Y _
            | with_reducible exact keepA Y.drew _
            | with_reducible exact keepL Y.lay.ds.drew
            | with_reducible exact keepS Y _ _ _ _
            | go_keep)
          (first
            | (go_at_call 31
               refine (yN (B := B) (p := p) (n := n) (v := v) (w0 := w) (L := L) (ss := ss) (ps := ps) (a := a) (c := c) (a' := a') (c' := c') (oy := ?_) _ ?hE (by omega) (by omega)).mono ?_
               case hE => first | exact Y | exact Y.lay | exact Y.drew | exact Y.lay.drew
               rintro e xn ⟨i, rfl, hi, Y⟩)
            | (go_at_call 30
               refine (yBytes (B := B) (p := p) (n := n) (v := v) (w0 := w) (L := L) (ss := ss) (ps := ps) (a := a) (c := c) (a' := a') (c' := c') (oy := ?_) _ ?hE (by omega)).mono ?_
               case hE => first | exact Y | exact Y.lay
               rintro e xb ⟨t, rfl, ht, Y⟩)
            | (go_at_call 47
               refine (yWrite (B := B) (p := p) (n := n) (v := v) (w0 := w) (L := L) (ss := ss) (ps := ps) (a := a) (c := c) (a' := a') (c' := c') (oy := ?_) _ _ ?hE HR (by omega) (by omega) (by omega)).mono ?_
               case hE => first | exact Y | exact Y.lay
               rintro e x4 ⟨o, f, d, f', d', rfl, o4, hr4, Y⟩
               first
                 | (obtain ⟨y0, y1, y2, y3, yf, y9⟩ := blk4 (DY.at Y))
                 | skip))
        · go_wp2_with fail
          go_meet
          case rel => exact RY.fresh Y o4 hr4
        · go_wp2_with fail
          go_meet
          case rel => exact RY.laid Y o4 hr4
        · go_wp2_with fail
          go_meet
          case rel => exact RY.laid Y o4 hr4
        · go_wp2_with fail
          go_meet
          case rel => exact RY.laid Y o4 hr4
        · go_wp2_with fail
          go_meet
          case rel => exact RY.laid Y o4 hr4
      case rest =>
        obtain ⟨Y, o, f, d, f', d', rfl, hY, hr, D', hne⟩ := hcut
        have Z : YD B p n v w L Y ss ps a c a' c' o f d f' d' wc := ⟨hY, hr, D', hne⟩
        clear q0 q1 q9 D hY hr D'
        go_wp2_with fail
        refine (drawOne 5 Z.ds.dr (by omega) (by omega)).mono ?_
        rintro e w5 ⟨bo, rfl, h5, t5⟩
        have Z5 := Z.drawn h5 t5
        clear Z h5 t5
        cases bo
        · by_cases hk0 : o.k = 0
          · have HN : Hid (RelD B p n v w L (.int .i64 ((k : Int) - 1)) ((w5.setCell ⟨L, 0, none⟩ (.slice f o.ss.length d)).setCell ⟨L, 1, none⟩ (.slice f' o.ps.length d'))) := next_round k hlt hk (Z5.hr hk0) (Z5.ds.take Z5.ys)
            obtain ⟨y0, y1, y2, y3, yf, y9⟩ := blk4 Z5.ys.loc
            obtain ⟨q0, q1, qf, q9⟩ := blk2 Z5.ds.loc
            go_wp2
            go_roundw
            case rel => exact HN.out
            case measure => simp [intOf]; omega
          · have HN : Hid (RelD B p n v w L (.int .i64 ((k : Int) - 1)) w5) := next_round k hlt hk HR Z5.ds
            obtain ⟨y0, y1, y2, y3, yf, y9⟩ := blk4 Z5.ys.loc
            obtain ⟨q0, q1, qf, q9⟩ := blk2 Z5.ds.loc
            go_wp2
            go_roundw
            case rel => exact HN.out
            case measure => simp [intOf]; omega
        · obtain ⟨q0, q1, qf, q9⟩ := blk2 Z5.ds.loc
          go_wp2_with fail
          refine (TB.flush_spec _ _ ss ps w5 Z5.ds.own.1.strs Z5.ds.own.2.pends hz hzp).mono ?_
          have hfr := flush_right (ss := ss) (ps := ps)
          generalize flushR ss ps = o2 at hfr ⊢
          rintro e w6 ⟨g, e1, g', e1', rfl, o6, hb6⟩
          have Z6 := Z5.put hb6 o6 hfr
          have kY := carry Z5.ys.loc hb6
          have kL := carry Z5.ds.loc hb6
          have hYL := Z5.ne
          clear q0 q1 qf q9 Z5 hfr hb6 o6
          by_cases hk0 : o2.k = 0
          · have HN : Hid (RelD B p n v w L (.int .i64 ((k : Int) - 1)) (((set4 w6 Y (.slice g o2.ss.length e1) (.slice g' o2.ps.length e1') (.string o2.d) (.int .i64 o2.k)).setCell ⟨L, 0, none⟩ (.slice g o2.ss.length e1)).setCell ⟨L, 1, none⟩ (.slice g' o2.ps.length e1'))) := next_round k hlt hk (Z6.hr hk0) (Z6.ds.take Z6.ys)
            obtain ⟨y0, y1, y2, y3, yf, y9⟩ := blk4 kY
            obtain ⟨q0, q1, qf, q9⟩ := blk2 kL
            clear Z6 kY kL
            go_wp2
            go_roundw
            case rel => simpa [hk0] using HN.out
            case measure => simp [intOf]; omega
          · have HN : Hid (RelD B p n v w L (.int .i64 ((k : Int) - 1)) (set4 w6 Y (.slice g o2.ss.length e1) (.slice g' o2.ps.length e1') (.string o2.d) (.int .i64 o2.k))) := next_round k hlt hk HR Z6.ds
            obtain ⟨y0, y1, y2, y3, yf, y9⟩ := blk4 kY
            obtain ⟨q0, q1, qf, q9⟩ := blk2 kL
            clear Z6 kY kL
            go_wp2
            go_roundw
            case rel => exact HN.out
            case measure => simp [intOf]; omega
    · obtain rfl : k = 0 := by omega
      have F0 : FD B p n v w L ss ps a c a' c' wr := FD.of D HR
      clear D hk hlt
      go_wp2_with fail
      refine (drawOne 15 F0.ds.dr (by omega) (by omega)).mono ?_
      rintro e w5 ⟨bo, rfl, h5, t5⟩
      have F5 := F0.drawn h5 t5
      clear F0 h5 t5
      go_upto_if 34 with fail
      go_cut [] (fun wx => RF B p n v w L wx)
      case first =>
        cases bo
        · go_wp2_with fail
          go_meet
          case rel => exact F5.rf
        · go_wp2_with fail
          refine (drawN 4 F5.ds.dr (by omega) (by omega)).mono ?_
          rintro e w7 ⟨r, rfl, hr, h7, t7⟩
          have F7 := F5.drawn h7 t7
          clear F5 h7 t7
          obtain ⟨q0, q1, qf, q9⟩ := blk2 F7.ds.loc
          obtain rfl | rfl | rfl | rfl : r = 0 ∨ r = 1 ∨ r = 2 ∨ r = 3 := by omega
          · have HN : Hid (RF B p n v w L (w7.setCell ⟨L, 0, none⟩ (.slice none 0 0))) := F7.strike.rf
            go_wp2
            go_meet
            case rel => exact HN.out
          · have HE : Hid ((w7.alloc (.cells #[.int .i64 (ss.length : Nat), .string ⟨#[]⟩] 82)).heap[w7.heap.size]? = some (.cells #[.int .i64 (ss.length : Nat), .string ⟨#[]⟩] 82)) := heap_alloc_new w7 _
            have hown := (F7.ds.own.below (albel w7 (.cells #[.int .i64 (ss.length : Nat), .string ⟨#[]⟩] 82))).2
            have hps : ps.length < 201 := by have := ((right_iff ss ps).1 HR).2.2.1; omega
            have hzw : Hid (w.heap.size ≤ w7.heap.size) := F7.ds.wr.size
            obtain ⟨j0, hj, hy0, hy1, hy2⟩ := info_parts info_pend
            go_wp2_with (first
              | (at_builtin; refine wpList_append_lies _ rfl _ _ 24 rfl w.heap.size 82 j0 (.agg #[.int .i64 0, .string ⟨#[]⟩]) 2 24 Tryz.underlying24 hj hy0 hy1 hy2 rfl (by decide) _ ps.length (cp ps) rfl hown ⟨w7.heap.size, 0, none⟩ 1 1 [.int .i64 (ss.length : Nat), .string ⟨#[]⟩] rfl rfl (World.news_of_block HE.out) (by intro u hu; simp at hu; rcases hu with rfl | rfl <;> rfl) (by decide) (by unfold maxLen; omega) (by omega) (by simp; have := hzw.out; omega) _ rfl ?_; intro g cap w8 hown8 hg8 hat8 hlt8
                 obtain ⟨t0, t1, tf, t9⟩ := blk2 (F7.at (albel w7 _) hg8)))
            have HN : Hid (RF B p n v w L (w8.setCell ⟨L, 1, none⟩ (.slice (some ⟨g, 0, none⟩) (ps.length + 1) cap))) := (F7.more (albel w7 _) hown8 hg8 hat8 hps (by decide)).rf
            go_meet
            case rel => exact HN.out
          · obtain ⟨g, rfl, -, hBg, hgz⟩ := form_strs F7.ds.own.1 (by have := ((right_iff ss ps).1 HR).1; omega)
            have h0 : 0 < ss.length := by have := ((right_iff ss ps).1 HR).1; omega
            go_upto_region 19 with fail
            go_region_with
              (first
                | (go_at_call 31
                   refine (fN (B := B) (p := p) (n := n) (v := v) (w0 := w) (L := L) (ss := ss) (ps := ps) (a := some ⟨g, 0, none⟩) (c := c) (a' := a') (c' := c') _ ?hE (by omega) (by omega)).mono ?_
                   case hE => first | exact F7 | exact F7.drew
                   rintro e w8 ⟨r4, rfl, hr4, F7⟩
                   have hw4 : IntKind.i64.wrap (64 + (r4 : Int)) = 64 + (r4 : Int) := wrap64 r4 hr4
                   obtain ⟨t0, t1, tf, t9⟩ := blk2 F7.ds.loc
                   obtain ⟨v0, v1, vf, v9⟩ := blk2 (carryA F7.ds.loc (zer r4))
                   have hm4 := madeZ r4 hr4 w8
                   have hc4 := convZ r4 w8
                   obtain ⟨⟨o4, ho4⟩, hf4⟩ := own_cell_s (F7.ds.own.below (albel w8 (zer r4))).1 0 h0))
            all_goals
              have HN : Hid (RF B p n v w L ((w8.alloc (zer r4)).setCell ⟨g, 0, none⟩ (.string (zt r4)))) := (FD.other _ (F7.below (albel _ _)) (by rw [zt_size]; unfold maxLen; omega)).rf
              go_wp2_with fail
              go_meet
              exact HN.out
          · have H0 : Hid (RF B p n v w L w7) := F7.rf
            clear F7 q0 q1 qf q9 HR
            go_wp2_with fail
            go_loopw [] (fun wr => RF B p n v w L wr) (fun wr => 201 - lenAt wr L)
            case atStart => exact H0.out
            case round =>
              clear H0
              obtain ⟨ss, ps, a, c, a', c', F⟩ := hrel
              have hm0 : Hid (lenAt wr L = ps.length) := lenAt_of (keepL F.ds).2
              go_wp2_with fail
              go_region_held3 (fun w' => w'.cell? ⟨L, 0, none⟩ = some (.slice a ss.length c) ∧ w'.cell? ⟨L, 1, none⟩ = some (.slice a' ps.length c'))
                (first
                  | with_reducible exact keepL F.ds
                  | with_reducible exact keepL F.ds.drew)
                (first
                  | (go_at_call 31
                     refine (fN (B := B) (p := p) (n := n) (v := v) (w0 := w) (L := L) (ss := ss) (ps := ps) (a := a) (c := c) (a' := a') (c' := c') _ ?hE (by omega) (by omega)).mono ?_
                     case hE => first | exact F | exact F.drew
                     rintro e w8 ⟨r4, rfl, hr4, F⟩
                     have hw4 := wrap199 r4 hr4))
              by_cases hl : (ps.length : Int) < 199 + (r4 : Int)
              · have HE : Hid ((w8.alloc (.cells #[.int .i64 0, .string ⟨#[]⟩] 82)).heap[w8.heap.size]? = some (.cells #[.int .i64 0, .string ⟨#[]⟩] 82)) := heap_alloc_new w8 _
                have hown := (F.ds.own.below (albel w8 (.cells #[.int .i64 0, .string ⟨#[]⟩] 82))).2
                have hps : ps.length < 201 := by omega
                have hzw : Hid (w.heap.size ≤ w8.heap.size) := F.ds.wr.size
                obtain ⟨q0, q1, qf, q9⟩ := blk2 F.ds.loc
                obtain ⟨j0, hj, hy0, hy1, hy2⟩ := info_parts info_pend
                go_wp2_with (first
                  | (at_builtin; refine wpList_append_lies _ rfl _ _ 24 rfl w.heap.size 82 j0 (.agg #[.int .i64 0, .string ⟨#[]⟩]) 2 24 Tryz.underlying24 hj hy0 hy1 hy2 rfl (by decide) _ ps.length (cp ps) rfl hown ⟨w8.heap.size, 0, none⟩ 1 1 [.int .i64 0, .string ⟨#[]⟩] rfl rfl (World.news_of_block HE.out) (by intro u hu; simp at hu; rcases hu with rfl | rfl <;> rfl) (by decide) (by unfold maxLen; omega) (by omega) (by simp; have := hzw.out; omega) _ rfl ?_; intro g cap w9 hown9 hg9 hat9 hlt9
                     obtain ⟨t0, t1, tf, t9⟩ := blk2 (F.at (albel w8 _) hg9)))
                have F9 := F.more (albel w8 _) hown9 hg9 hat9 hps (by decide)
                have HN : Hid (RF B p n v w L (w9.setCell ⟨L, 1, none⟩ (.slice (some ⟨g, 0, none⟩) (ps.length + 1) cap))) := F9.rf
                have hm1 : lenAt (w9.setCell ⟨L, 1, none⟩ (.slice (some ⟨g, 0, none⟩) (ps.length + 1) cap)) L = ps.length + 1 := by
                  rw [lenAt_of (keepL F9.ds).2]; simp
                go_roundw
                case rel => exact HN.out
                case measure => rw [hm1, hm0.out]; omega
              · have HN : Hid (RF B p n v w L w8) := F.rf
                go_wp2
                go_meet
                case rel => exact HN.out
      case rest =>
        obtain ⟨ss, ps, a, c, a', c', F⟩ := hcut
        have HF : Hid (Drawn B p n v w (.returned (.agg #[.slice a ss.length c, .slice a' ps.length c'])) ((wc.setCell ⟨w.heap.size, 0, none⟩ (.slice a ss.length c)).setCell ⟨w.heap.size, 1, none⟩ (.slice a' ps.length c'))) := F.told
        obtain ⟨q0, q1, qf, q9⟩ := blk2 F.ds.loc
        obtain ⟨r0, r1, rf, r9⟩ := blk2 F.ds.res
        go_wp2
        exact bodyPost_ret (v := .agg #[.slice a ss.length c, .slice a' ps.length c']) (by simp [results, Tryz.results33, go_sem, r0, r1]) rfl HF.out
end Go.Proofs.YtfiabbfdnmldjaaGreatDoor.D9
