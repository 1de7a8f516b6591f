/-
  A drawn disk: the walk.
-/
import Derived.Test.YtoihhjdllcockaaD7
namespace Go.Proofs.Ytoihhjdllcockaa.D8
open Go.RowKit
open Go.Proofs.Ytoihhjdllcockaa.C0 Go.Proofs.Ytoihhjdllcockaa.D6 Go.Proofs.Ytoihhjdllcockaa.D7 Go.Proofs.Ytoihhjdllcockaa.S0 Go.Proofs.Ytoihhjdllcockaa.S1 Go.Proofs.Ytoihhjdllcockaa.S2 Go.Proofs.Ytoihhjdllcockaa.O1 Go.Proofs.Ytoihhjdllcockaa.T2 Go.Proofs.Ytoihhjdllcockaa.T3 Go.Proofs.Ytoihhjdllcockaa.T4 Go.Proofs.Ytoihhjdllcockaa.T5
open Go.Proofs.Ytoihhjdllcockaa.Dk (Out writeR flushR rightB right_iff write_ok flush_ok new_right)
def RelD (B p n : Nat) (v : Value) (w0 : World) (L : Nat) (x : Value) (wr : World) : Prop :=
  ∃ (k : Nat) (ss : List ByteArray) (ps : List Pend) (a : Option Addr) (c : Nat) (a' : Option Addr) (c' : Nat), k ≤ 9 ∧ x = .int .i64 k ∧ rightB ss ps = true ∧ DS B p n v w0 L ss ps a c a' c' wr
/-- What is there when a write was tried. -/
def RY (B p n : Nat) (v : Value) (w0 : World) (L : Nat) (ss : List ByteArray) (ps : List Pend) (a : Option Addr) (c : Nat) (a' : Option Addr) (c' : Nat) (s : Value) (wx : World) : Prop :=
  ∃ (Y : Nat) (o : Out) (f : Option Addr) (d : Nat) (f' : Option Addr) (d' : Nat), s = .pointer (some ⟨Y, 0, none⟩) ∧ YS w0 Y o f d f' d' wx ∧ (o.k = 0 → rightB o.ss o.ps = true) ∧ DS B p n v w0 L ss ps a c a' c' wx ∧ Y ≠ L
theorem small_sizes {ss : List ByteArray} {ps : List Pend} (h : rightB ss ps = true) : (∀ s ∈ ss, s.size ≤ maxLen) ∧ ∀ q ∈ ps, q.2.size ≤ maxLen := by
  obtain ⟨_, _, _, h4, h5⟩ := (right_iff ss ps).1 h
  unfold maxLen
  exact ⟨fun s hs => by have := h4 s hs; omega, fun q hq => by have := (h5 q hq).2.2; omega⟩
theorem new_some (r : Nat) (h : r < 9) : ∃ (l : List ByteArray) (p : List Pend), rightB l p = true ∧ ∀ w, Calls Try.prog 22 #[.int .i64 (1 + (r : Int))] w fun e w' => DTold w l p e w' := by
  refine ⟨newOf (1 + (r : Int)), [], ?_, fun w => new_spec _ w⟩
  unfold newOf
  rw [if_pos (by omega)]
  exact new_right _ (by omega) (by omega)
theorem keepL {B p n L c c' : Nat} {v : Value} {w0 wr : World} {ss : List ByteArray} {ps : List Pend} {a a' : Option Addr} (h : DS B p n v w0 L ss ps a c a' c' wr) : wr.cell? ⟨L, 0, none⟩ = some (.slice a ss.length c) ∧ wr.cell? ⟨L, 1, none⟩ = some (.slice a' ps.length c') :=
  ⟨(blk2 h.loc).1, (blk2 h.loc).2.1⟩
abbrev zeroOut : Obj := .cells #[.slice none 0 0, .slice none 0 0, .string ⟨#[]⟩, .int .i64 0] 30
/-- The disk's variable, and, where it is laid already, the result's. -/
structure DY (B p n : Nat) (v : Value) (w0 : World) (L : Nat) (ss : List ByteArray) (ps : List Pend) (a : Option Addr) (c : Nat) (a' : Option Addr) (c' : Nat) (oy : Option Nat) (wr : World) : Prop where
  ds : DS B p n v w0 L ss ps a c a' c' wr
  ky : ∀ Y, oy = some Y → wr.heap[Y]? = some zeroOut ∧ w0.heap.size < Y ∧ Y ≠ L
section
variable {B p n L c c' : Nat} {v : Value} {w0 wr w' : World} {ss : List ByteArray} {ps : List Pend} {a a' : Option Addr} {oy : Option Nat}
theorem DY.of (h : DS B p n v w0 L ss ps a c a' c' wr) : DY B p n v w0 L ss ps a c a' c' none wr := ⟨h, fun Y e => by cases e⟩
theorem DY.lay (h : DY B p n v w0 L ss ps a c a' c' none wr) : DY B p n v w0 L ss ps a c a' c' (some wr.heap.size) (wr.alloc zeroOut) :=
  ⟨h.ds.below (albel _ _), fun Y e => by cases e; exact ⟨heap_alloc_new _ _, by have := h.ds.lt; have := lt_some h.ds.loc; omega, by have := lt_some h.ds.loc; omega⟩⟩
theorem DY.drew (h : DY B p n v w0 L ss ps a c a' c' oy wr) : DY B p n v w0 L ss ps a c a' c' oy wr.drew := ⟨h.ds.drew, h.ky⟩
theorem DY.below (h : DY B p n v w0 L ss ps a c a' c' oy wr) (hb : Below wr.heap.size wr w') : DY B p n v w0 L ss ps a c a' c' oy w' := ⟨h.ds.below hb, fun Y e => ⟨carry (h.ky Y e).1 hb, (h.ky Y e).2⟩⟩
theorem DY.drawn (h : DY B p n v w0 L ss ps a c a' c' oy wr) (hd : Dr B p n v w') (ht : Wrote (only p) wr w') : DY B p n v w0 L ss ps a c a' c' oy w' :=
  ⟨h.ds.drawn hd ht, fun Y e => ⟨carryP (h.ky Y e).1 ht (by have := (h.ky Y e).2.1; have := h.ds.plt; omega), (h.ky Y e).2⟩⟩
theorem yN (most : Int) (h : DY B p n v w0 L ss ps a c a' c' oy wr) (l : 0 < most) (u : most ≤ 9223372036854775807) :
    Calls Try.prog 37 #[.pointer (some ⟨p, 0, none⟩), .int .i64 most] wr fun e w' => ∃ r : Nat, e = .returned (.int .i64 r) ∧ (r : Int) < most ∧ DY B p n v w0 L ss ps a c a' c' oy w' :=
  (drawN most h.ds.dr l u).mono (fun _ _ ⟨r, he, hr, hd, ht⟩ => ⟨r, he, hr, h.drawn hd ht⟩)
theorem yOne (most : Int) (h : DY B p n v w0 L ss ps a c a' c' oy wr) (l : 0 < most) (u : most ≤ 9223372036854775807) :
    Calls Try.prog 38 #[.pointer (some ⟨p, 0, none⟩), .int .i64 most] wr fun e w' => ∃ b : Bool, e = .returned (.bool b) ∧ DY B p n v w0 L ss ps a c a' c' oy w' ∧ Wrote (only p) wr w' :=
  (drawOne most h.ds.dr l u).mono (fun _ _ ⟨b, he, hd, ht⟩ => ⟨b, he, h.drawn hd ht, ht⟩)
theorem yBytes (k : Nat) (h : DY B p n v w0 L ss ps a c a' c' oy wr) (hk : k ≤ 1000000) :
    Calls Try.prog 39 #[.pointer (some ⟨p, 0, none⟩), .int .i64 k] wr fun e w' => ∃ t : ByteArray, e = .returned (.string t) ∧ t.size = k ∧ DY B p n v w0 L ss ps a c a' c' oy w' :=
  (drawBytes k h.ds.dr hk).mono (fun _ _ ⟨t, he, hr, hd, ht⟩ => ⟨t, he, hr, h.drawn hd ht⟩)
theorem yWrite (i : Int) (t : ByteArray) (h : DY B p n v w0 L ss ps a c a' c' oy wr) (hR : rightB ss ps = true) (hi1 : -9223372036854775808 ≤ i) (hi2 : i ≤ 9223372036854775807) (ht : t.size ≤ 1000000) :
    Calls Try.prog 17 #[.agg #[.slice a ss.length c, .slice a' ps.length c'], .int .i64 i, .string t] wr fun e w' => ∃ (o : Out) (f : Option Addr) (d : Nat) (f' : Option Addr) (d' : Nat), e = .returned (.agg #[.slice f o.ss.length d, .slice f' o.ps.length d', .string o.d, .int .i64 o.k]) ∧ ODisk w0.heap.size w' (.slice f o.ss.length d) (.slice f' o.ps.length d') o.ss o.ps ∧ (o.k = 0 → rightB o.ss o.ps = true) ∧ DY B p n v w0 L ss ps a c a' c' oy w' :=
  (TA.write_spec _ _ ss ps i t wr h.ds.own.1.strs h.ds.own.2.pends (small_sizes hR).1 (small_sizes hR).2 hi1 hi2 (by unfold maxLen; omega)).mono
    (fun _ _ ⟨f, d, f', d', he, ho, hb⟩ => ⟨writeR ss ps i t, f, d, f', d', he, ho.mono h.ds.wr.size, fun hk => by have := write_ok hk; rw [this.2.2.2.2.2.1]; exact this.2.2.2.2.2.2, h.below hb⟩)
theorem DY.at {Y : Nat} (h : DY B p n v w0 L ss ps a c a' c' (some Y) wr) : wr.heap[Y]? = some zeroOut := (h.ky Y rfl).1
theorem keepA (h : DY B p n v w0 L ss ps a c a' c' oy wr) (o : Obj) : (wr.alloc o).cell? ⟨L, 0, none⟩ = some (.slice a ss.length c) ∧ (wr.alloc o).cell? ⟨L, 1, none⟩ = some (.slice a' ps.length c') := keepL (h.ds.below (albel _ _))
theorem keepS {Y : Nat} (h : DY B p n v w0 L ss ps a c a' c' (some Y) wr) (x y z u : Value) : (set4 wr Y x y z u).cell? ⟨L, 0, none⟩ = some (.slice a ss.length c) ∧ (set4 wr Y x y z u).cell? ⟨L, 1, none⟩ = some (.slice a' ps.length c') := by
  obtain ⟨k, h1, h2⟩ := h.ky Y rfl
  exact keepL (h.ds.elsewhere k (by decide) (by decide) h1 h2 (set4_wrote wr Y x y z u))
theorem RY.laid {Y : Nat} {o : Out} {f f' : Option Addr} {d d' : Nat} (h : DY B p n v w0 L ss ps a c a' c' (some Y) wr) (ho : ODisk w0.heap.size wr (.slice f o.ss.length d) (.slice f' o.ps.length d') o.ss o.ps) (hr : o.k = 0 → rightB o.ss o.ps = true) :
    RY B p n v w0 L ss ps a c a' c' (.pointer (some ⟨Y, 0, none⟩)) (set4 wr Y (.slice f o.ss.length d) (.slice f' o.ps.length d') (.string o.d) (.int .i64 o.k)) := by
  obtain ⟨k, h1, h2⟩ := h.ky Y rfl
  have ht := set4_wrote wr Y (.slice f o.ss.length d) (.slice f' o.ps.length d') (.string o.d) (.int .i64 o.k)
  exact ⟨Y, o, f, d, f', d', rfl, ⟨set4_at k _ _ _ _, keep_blocks ho fun g hg => ht.block g (ho.rows g hg).2 (row_ne ho k (by decide) (by decide) g hg), h1⟩, hr, h.ds.elsewhere k (by decide) (by decide) h1 h2 ht, h2⟩
theorem RY.fresh {o : Out} {f f' : Option Addr} {d d' : Nat} (h : DY B p n v w0 L ss ps a c a' c' oy wr) (ho : ODisk w0.heap.size wr (.slice f o.ss.length d) (.slice f' o.ps.length d') o.ss o.ps) (hr : o.k = 0 → rightB o.ss o.ps = true) :
    RY B p n v w0 L ss ps a c a' c' (.pointer (some ⟨wr.heap.size, 0, none⟩)) (wr.alloc (.cells #[.slice f o.ss.length d, .slice f' o.ps.length d', .string o.d, .int .i64 o.k] 30)) :=
  ⟨wr.heap.size, o, f, d, f', d', rfl, ⟨heap_alloc_new _ _, ho.below (albel _ _), by have := h.ds.lt; have := lt_some h.ds.loc; omega⟩, hr, h.ds.below (albel _ _), by have := lt_some h.ds.loc; omega⟩
/-- The disk's variable and the result's, Y, side by side. -/
structure YD (B p n : Nat) (v : Value) (w0 : World) (L Y : Nat) (ss : List ByteArray) (ps : List Pend) (a : Option Addr) (c : Nat) (a' : Option Addr) (c' : Nat) (o : Out) (f : Option Addr) (d : Nat) (f' : Option Addr) (d' : Nat) (wx : World) : Prop where
  ys : YS w0 Y o f d f' d' wx
  hr : o.k = 0 → rightB o.ss o.ps = true
  ds : DS B p n v w0 L ss ps a c a' c' wx
  ne : Y ≠ L
theorem YD.drawn {Y : Nat} {o : Out} {f f' : Option Addr} {d d' : Nat} (h : YD B p n v w0 L Y ss ps a c a' c' o f d f' d' wr) (hd : Dr B p n v w') (ht : Wrote (only p) wr w') : YD B p n v w0 L Y ss ps a c a' c' o f d f' d' w' :=
  ⟨h.ys.drawn ht h.ds.plt, h.hr, h.ds.drawn hd ht, h.ne⟩
theorem YD.put {Y : Nat} {o o2 : Out} {f f' g g' : Option Addr} {d d' e e' : Nat} (h : YD B p n v w0 L Y ss ps a c a' c' o f d f' d' wr) (hb : Below wr.heap.size wr w') (ho : ODisk wr.heap.size w' (.slice g o2.ss.length e) (.slice g' o2.ps.length e') o2.ss o2.ps) (h2 : o2.k = 0 → rightB o2.ss o2.ps = true) :
    YD B p n v w0 L Y ss ps a c a' c' o2 g e g' e' (set4 w' Y (.slice g o2.ss.length e) (.slice g' o2.ps.length e') (.string o2.d) (.int .i64 o2.k)) := by
  have k := carry h.ys.loc hb
  have ht := set4_wrote w' Y (.slice g o2.ss.length e) (.slice g' o2.ps.length e') (.string o2.d) (.int .i64 o2.k)
  have ho' := ho.mono h.ds.wr.size
  exact ⟨⟨set4_at k _ _ _ _, keep_blocks ho' fun g hg => ht.block g (ho'.rows g hg).2 (row_ne ho' k (by decide) (by decide) g hg), h.ys.lt⟩, h2, (h.ds.below hb).elsewhere k (by decide) (by decide) h.ys.lt h.ne ht, h.ne⟩
theorem flush_right (h : (flushR ss ps).k = 0) : rightB (flushR ss ps).ss (flushR ss ps).ps = true := by
  have := flush_ok h
  rw [this.2.1]
  exact this.2.2
theorem RelD.same (k : Nat) (hk : k ≤ 9) (hR : rightB ss ps = true) (h : DS B p n v w0 L ss ps a c a' c' wr) : RelD B p n v w0 L (.int .i64 k) wr := ⟨k, ss, ps, a, c, a', c', hk, rfl, hR, h⟩
end
end Go.Proofs.Ytoihhjdllcockaa.D8
