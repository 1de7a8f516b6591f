/-
  A drawn disk: what it is made of; its first part, writes and flushes.
-/
import Derived.Test.YtoihhjdllcockaaD6
import Derived.Test.YtoihhjdllcockaaTA
import Derived.Test.YtoihhjdllcockaaTB
import Derived.Test.YtoihhjdllcockaaMA
import Derived.Deep.DeepCutAuto
namespace Go.Proofs.Ytoihhjdllcockaa.D7
open Go.RowKit
open Go.Proofs.Ytoihhjdllcockaa.C0 Go.Proofs.Ytoihhjdllcockaa.D6 Go.Proofs.Ytoihhjdllcockaa.S0 Go.Proofs.Ytoihhjdllcockaa.S1 Go.Proofs.Ytoihhjdllcockaa.S2 Go.Proofs.Ytoihhjdllcockaa.O1 Go.Proofs.Ytoihhjdllcockaa.T2 Go.Proofs.Ytoihhjdllcockaa.T3 Go.Proofs.Ytoihhjdllcockaa.T4 Go.Proofs.Ytoihhjdllcockaa.T5
open Go.Proofs.Ytoihhjdllcockaa.Dk (Out writeR flushR rightB right_iff write_ok flush_ok)
/-- A disk's block is none of its rows. -/
theorem row_ne {B L : Nat} {w : World} {vs vp : Value} {ss : List ByteArray} {ps : List Pend} {arr : Array Value} {T : TypeId} {fr : Nat × Nat} (h : ODisk B w vs vp ss ps) (k : w.heap[L]? = some (.cells arr T fr)) (h1 : T ≠ 9) (h2 : T ≠ 46) : ∀ g, (vs.ownBlock = some g ∨ vp.ownBlock = some g) → g ≠ L := by
  intro g hg e
  subst e
  rcases hg with hg | hg
  · rcases h.1.2 with ⟨e, _⟩ | ⟨g', cap, cur, e, _, hg', _⟩
    · rw [e] at hg; simp [Value.ownBlock] at hg
    · rw [e] at hg; simp [Value.ownBlock] at hg; subst hg
      rw [k] at hg'; simp at hg'; exact h1 hg'.2.1
  · rcases h.2.2 with ⟨e, _⟩ | ⟨g', cap, cur, e, _, hg', _⟩
    · rw [e] at hg; simp [Value.ownBlock] at hg
    · rw [e] at hg; simp [Value.ownBlock] at hg; subst hg
      rw [k] at hg'; simp at hg'; exact h2 hg'.2.1
theorem keep_blocks {B : Nat} {w w' : World} {vs vp : Value} {ss : List ByteArray} {ps : List Pend} (h : ODisk B w vs vp ss ps) (hk : ∀ g, (vs.ownBlock = some g ∨ vp.ownBlock = some g) → w'.heap[g]? = w.heap[g]?) : ODisk B w' vs vp ss ps :=
  ⟨own_keep h.1 fun g hg => hk g (.inl hg), own_keep h.2 fun g hg => hk g (.inr hg)⟩
/-- What the drawn disk's variable holds, and what else stands. -/
structure DS (B p n : Nat) (v : Value) (w0 : World) (L : Nat) (ss : List ByteArray) (ps : List Pend) (a : Option Addr) (c : Nat) (a' : Option Addr) (c' : Nat) (wr : World) : Prop where
  loc : wr.heap[L]? = some (.cells #[.slice a ss.length c, .slice a' ps.length c'] 26)
  own : ODisk w0.heap.size wr (.slice a ss.length c) (.slice a' ps.length c') ss ps
  res : wr.heap[w0.heap.size]? = some (.cells #[.slice none 0 0, .slice none 0 0] 26)
  dr : Dr B p n v wr
  wr : Wrote (only p) w0 wr
  lt : w0.heap.size < L
  plt : p < w0.heap.size
theorem DS.below {B p n L c c' : Nat} {v : Value} {w0 wr w' : World} {ss : List ByteArray} {ps : List Pend} {a a' : Option Addr} (h : DS B p n v w0 L ss ps a c a' c' wr) (hb : Below wr.heap.size wr w') : DS B p n v w0 L ss ps a c a' c' w' :=
  ⟨carry h.loc hb, h.own.below hb, carry h.res hb, h.dr.below hb, trW h.wr hb, h.lt, h.plt⟩
theorem DS.drawn {B p n L c c' : Nat} {v : Value} {w0 wr w' : World} {ss : List ByteArray} {ps : List Pend} {a a' : Option Addr} (h : DS B p n v w0 L ss ps a c a' c' wr) (hd : Dr B p n v w') (ht : Wrote (only p) wr w') : DS B p n v w0 L ss ps a c a' c' w' :=
  ⟨carryP h.loc ht (by have := h.lt; have := h.plt; omega), diskP h.own ht h.plt, carryP h.res ht (by have := h.plt; omega), hd, h.wr.trans ht, h.lt, h.plt⟩
theorem DS.drew {B p n L c c' : Nat} {v : Value} {w0 wr : World} {ss : List ByteArray} {ps : List Pend} {a a' : Option Addr} (h : DS B p n v w0 L ss ps a c a' c' wr) : DS B p n v w0 L ss ps a c a' c' wr.drew :=
  ⟨h.loc, h.own, h.res, h.dr.drew, h.wr.drew, h.lt, h.plt⟩
/-- A store into a block of another kind. -/
theorem DS.elsewhere {B p n L c c' : Nat} {v : Value} {w0 wr w' : World} {ss : List ByteArray} {ps : List Pend} {a a' : Option Addr} {Y : Nat} {arr : Array Value} {T : TypeId} {fr : Nat × Nat} (h : DS B p n v w0 L ss ps a c a' c' wr) (kY : wr.heap[Y]? = some (.cells arr T fr)) (h1 : T ≠ 9) (h2 : T ≠ 46) (hY : w0.heap.size < Y) (hL : Y ≠ L)
    (ht : Wrote (fun g => g = Y) wr w') : DS B p n v w0 L ss ps a c a' c' w' := by
  have hlt := h.lt
  have hplt := h.plt
  refine ⟨carryW h.loc ht (fun e => hL e.symm), keep_blocks h.own fun g hg => ht.block g (h.own.rows g hg).2 (row_ne h.own kY h1 h2 g hg), carryW h.res ht (by omega), h.dr.wrote ht (fun g e => by omega), ⟨ht.os.trans h.wr.os, ht.tape.trans h.wr.tape, ht.output.trans h.wr.output, Nat.le_trans h.wr.size ht.size, fun k hk hs => (ht.block k (Nat.lt_of_lt_of_le hk h.wr.size) (by omega)).trans (h.wr.block k hk hs)⟩, hlt, hplt⟩
/-- A result held in a variable of its own. -/
structure YS (w0 : World) (Y : Nat) (o : Out) (a : Option Addr) (c : Nat) (a' : Option Addr) (c' : Nat) (wr : World) : Prop where
  loc : wr.heap[Y]? = some (.cells #[.slice a o.ss.length c, .slice a' o.ps.length c', .string o.d, .int .i64 o.k] 30)
  own : ODisk w0.heap.size wr (.slice a o.ss.length c) (.slice a' o.ps.length c') o.ss o.ps
  lt : w0.heap.size < Y
theorem YS.below {w0 wr w' : World} {Y : Nat} {o : Out} {a a' : Option Addr} {c c' : Nat} (h : YS w0 Y o a c a' c' wr) (hb : Below wr.heap.size wr w') : YS w0 Y o a c a' c' w' := ⟨carry h.loc hb, h.own.below hb, h.lt⟩
theorem YS.drawn {p : Nat} {w0 wr w' : World} {Y : Nat} {o : Out} {a a' : Option Addr} {c c' : Nat} (h : YS w0 Y o a c a' c' wr) (ht : Wrote (only p) wr w') (hp : p < w0.heap.size) : YS w0 Y o a c a' c' w' :=
  ⟨carryP h.loc ht (by have := h.lt; omega), diskP h.own ht hp, h.lt⟩
theorem set4_wrote (w : World) (g : Nat) (a b c d : Value) : Wrote (fun k => k = g) w (set4 w g a b c d) :=
  ((((Wrote.refl (fun k => k = g) w).setCell (p := ⟨g, 0, none⟩) (.inr rfl) a).setCell (p := ⟨g, 1, none⟩) (.inr rfl) b).setCell (p := ⟨g, 2, none⟩) (.inr rfl) c).setCell (p := ⟨g, 3, none⟩) (.inr rfl) d
theorem set4_at {w : World} {g : Nat} {x y z u : Value} {T : TypeId} (h : w.heap[g]? = some (.cells #[x, y, z, u] T (0, 0))) (a b c d : Value) : (set4 w g a b c d).heap[g]? = some (.cells #[a, b, c, d] T (0, 0)) := by
  have h1 := heap_setCell_same w g 0 _ _ a h
  have h2 := heap_setCell_same _ g 1 _ _ b h1
  have h3 := heap_setCell_same _ g 2 _ _ c h2
  have h4 := heap_setCell_same _ g 3 _ _ d h3
  simpa using h4
theorem set2_wrote (w : World) (g : Nat) (a b : Value) : Wrote (fun k => k = g) w ((w.setCell ⟨g, 0, none⟩ a).setCell ⟨g, 1, none⟩ b) :=
  ((Wrote.refl (fun k => k = g) w).setCell (p := ⟨g, 0, none⟩) (.inr rfl) a).setCell (p := ⟨g, 1, none⟩) (.inr rfl) b
theorem set2_at {w : World} {g : Nat} {x y : Value} {T : TypeId} (h : w.heap[g]? = some (.cells #[x, y] T (0, 0))) (a b : Value) : ((w.setCell ⟨g, 0, none⟩ a).setCell ⟨g, 1, none⟩ b).heap[g]? = some (.cells #[a, b] T (0, 0)) := by
  have h1 := heap_setCell_same w g 0 _ _ a h
  have h2 := heap_setCell_same _ g 1 _ _ b h1
  simpa using h2
/-- The result's disk becomes the disk. -/
theorem DS.take {B p n L c c' : Nat} {v : Value} {w0 wr : World} {ss : List ByteArray} {ps : List Pend} {a a' : Option Addr} {Y : Nat} {o : Out} {f f' : Option Addr} {d d' : Nat} (h : DS B p n v w0 L ss ps a c a' c' wr) (y : YS w0 Y o f d f' d' wr) :
    DS B p n v w0 L o.ss o.ps f d f' d' ((wr.setCell ⟨L, 0, none⟩ (.slice f o.ss.length d)).setCell ⟨L, 1, none⟩ (.slice f' o.ps.length d')) := by
  have ht := set2_wrote wr L (.slice f o.ss.length d) (.slice f' o.ps.length d')
  have hlt := h.lt
  have hplt := h.plt
  refine ⟨set2_at h.loc _ _, keep_blocks y.own fun g hg => ht.block g (y.own.rows g hg).2 (row_ne y.own h.loc (by decide) (by decide) g hg), carryW h.res ht (by omega), h.dr.wrote ht (fun g e => by omega), ⟨ht.os.trans h.wr.os, ht.tape.trans h.wr.tape, ht.output.trans h.wr.output, Nat.le_trans h.wr.size ht.size, fun k hk hs => (ht.block k (Nat.lt_of_lt_of_le hk h.wr.size) (by omega)).trans (h.wr.block k hk hs)⟩, hlt, hplt⟩
end Go.Proofs.Ytoihhjdllcockaa.D7
