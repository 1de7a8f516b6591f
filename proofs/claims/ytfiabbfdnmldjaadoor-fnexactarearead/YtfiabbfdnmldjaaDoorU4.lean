/-
  What a call of this layer tells: a disk, a text, a number, a code; the laws' own comparing and marks of it; a refusal.
-/
import Derived.Test.YtfiabbfdnmldjaaDoorS6
import Derived.Test.YtfiabbfdnmldjaaDoorT5
namespace Go.Proofs.YtfiabbfdnmldjaaDoor.U4
open Go.RowKit
open Go.Proofs.YtfiabbfdnmldjaaDoor.C0 Go.Proofs.YtfiabbfdnmldjaaDoor.S0 Go.Proofs.YtfiabbfdnmldjaaDoor.S1 Go.Proofs.YtfiabbfdnmldjaaDoor.S2 Go.Proofs.YtfiabbfdnmldjaaDoor.S3 Go.Proofs.YtfiabbfdnmldjaaDoor.S4 Go.Proofs.YtfiabbfdnmldjaaDoor.S6 Go.Proofs.YtfiabbfdnmldjaaDoor.Mk Go.Proofs.YtfiabbfdnmldjaaDoor.O1 Go.Proofs.YtfiabbfdnmldjaaDoor.T2 Go.Proofs.YtfiabbfdnmldjaaDoor.T4 Go.Proofs.YtfiabbfdnmldjaaDoor.T5
structure AOut where
  ss : List ByteArray
  ps : List Pend
  t : ByteArray
  g : Int
  k : Int
def illA (k : Int) : AOut := ⟨[], [], ⟨#[]⟩, 0, k⟩
abbrev ATold (w : World) (ss : List ByteArray) (ps : List Pend) (t : ByteArray) (g k : Int) (e : Ending) (w' : World) : Prop :=
  ∃ a c a' c', e = .returned (.agg #[.slice a ss.length c, .slice a' ps.length c', .string t, .int .i64 g, .int .i64 k]) ∧ ODisk w.heap.size w' (.slice a ss.length c) (.slice a' ps.length c') ss ps ∧ Below w.heap.size w w'
abbrev AT (w : World) (o : AOut) (e : Ending) (w' : World) : Prop := ATold w o.ss o.ps o.t o.g o.k e w'
theorem atold_alloc {w w' : World} {ss : List ByteArray} {ps : List Pend} {t : ByteArray} {g k : Int} {e : Ending} (h : ATold w ss ps t g k e w') (X : Obj) : ATold w ss ps t g k e (w'.alloc X) := by
  obtain ⟨a, c, a', c', e, ho, hb⟩ := h
  exact ⟨a, c, a', c', e, ho.below (albel _ _), bel2 hb (albel _ _)⟩
/-- Five cells of one block, stored one by one. -/
abbrev set5 (w : World) (g : Nat) (a b c d e : Value) : World := ((((w.setCell ⟨g, 0, none⟩ a).setCell ⟨g, 1, none⟩ b).setCell ⟨g, 2, none⟩ c).setCell ⟨g, 3, none⟩ d).setCell ⟨g, 4, none⟩ e
theorem set5_wrote (w : World) (g : Nat) (a b c d e : Value) : Wrote (fun k => k = g) w (set5 w g a b c d e) :=
  (((((Wrote.refl (fun k => k = g) w).setCell (p := ⟨g, 0, none⟩) (.inr rfl) a).setCell (p := ⟨g, 1, none⟩) (.inr rfl) b).setCell (p := ⟨g, 2, none⟩) (.inr rfl) c).setCell (p := ⟨g, 3, none⟩) (.inr rfl) d).setCell (p := ⟨g, 4, none⟩) (.inr rfl) e
theorem blk5 {w : World} {g : Nat} {a b c d f : Value} {T : TypeId} (h : w.heap[g]? = some (.cells #[a, b, c, d, f] T (0, 0))) : w.cell? ⟨g, 0, none⟩ = some a ∧ w.cell? ⟨g, 1, none⟩ = some b ∧ w.cell? ⟨g, 2, none⟩ = some c ∧ w.cell? ⟨g, 3, none⟩ = some d ∧ w.cell? ⟨g, 4, none⟩ = some f ∧ (∀ o, w.frozen? ⟨g, o, none⟩ = false) ∧ g < w.heap.size :=
  ⟨by simp [World.cell?, h], by simp [World.cell?, h], by simp [World.cell?, h], by simp [World.cell?, h], by simp [World.cell?, h], fun o => by simp [World.frozen?, h], (Array.getElem?_eq_some_iff.1 h).1⟩
theorem set5_at {w : World} {g : Nat} {x y z u v : Value} {T : TypeId} (h : w.heap[g]? = some (.cells #[x, y, z, u, v] T (0, 0))) (a b c d e : Value) : (set5 w g a b c d e).heap[g]? = some (.cells #[a, b, c, d, e] T (0, 0)) := by
  have h1 := heap_setCell_same w g 0 _ _ a h
  have h2 := heap_setCell_same _ g 1 _ _ b h1
  have h3 := heap_setCell_same _ g 2 _ _ c h2
  have h4 := heap_setCell_same _ g 3 _ _ d h3
  have h5 := heap_setCell_same _ g 4 _ _ e h4
  simpa using h5
theorem set5_read {w : World} {g : Nat} {x y z u v : Value} {T : TypeId} (h : w.heap[g]? = some (.cells #[x, y, z, u, v] T (0, 0))) (a b c d e : Value) (X : Obj) : ((set5 w g a b c d e).alloc X).cell? ⟨g, 0, none⟩ = some a ∧ ((set5 w g a b c d e).alloc X).cell? ⟨g, 1, none⟩ = some b ∧ ((set5 w g a b c d e).alloc X).cell? ⟨g, 2, none⟩ = some c ∧ ((set5 w g a b c d e).alloc X).cell? ⟨g, 3, none⟩ = some d ∧ ((set5 w g a b c d e).alloc X).cell? ⟨g, 4, none⟩ = some e := by
  obtain ⟨h0, h1, h2, h3, h4, -, -⟩ := blk5 (carryA (set5_at h a b c d e) X)
  exact ⟨h0, h1, h2, h3, h4⟩
/-- A disk that is told, the result's block below it. -/
theorem fin_area {w X : World} {a a' : Option Addr} {c c' B R : Nat} {ss : List ByteArray} {ps : List Pend} {t : ByteArray} {g k : Int} (h : Below w.heap.size w X) (ho : ODisk B X (.slice a ss.length c) (.slice a' ps.length c') ss ps) (hR : w.heap.size ≤ R) (hB : R < B) (p q r s u : Value) :
    ATold w ss ps t g k (.returned (.agg #[.slice a ss.length c, .slice a' ps.length c', .string t, .int .i64 g, .int .i64 k])) (set5 X R p q r s u) :=
  ⟨a, c, a', c', rfl, (ho.wrote (set5_wrote X R p q r s u) (fun x e h' => by have := (ho.rows x h').1; omega)).mono (by omega), belW h (set5_wrote X R p q r s u) (fun x e => by omega)⟩
theorem fin_illA {w X : World} {R : Nat} {k : Int} (h : Below w.heap.size w X) (hR : w.heap.size ≤ R) (p q r s u : Value) :
    AT w (illA k) (.returned (.agg #[.slice none 0 0, .slice none 0 0, .string ⟨#[]⟩, .int .i64 0, .int .i64 k])) (set5 X R p q r s u) :=
  ⟨none, 0, none, 0, rfl, ⟨World.ownsRow_nil _ _ _ _, World.ownsRow_nil _ _ _ _⟩, belW h (set5_wrote X R p q r s u) (fun x e => by omega)⟩
set_option maxRecDepth 100000 in
theorem ill_spec (k : Int) (w : World) : Calls Tryd.prog 19 #[.int .i64 k] w fun e w' => e = .returned (.agg #[.slice none 0 0, .slice none 0 0, .string ⟨#[]⟩, .int .i64 0, .int .i64 k]) ∧ Below w.heap.size w w' := by
  go_enter Tryd.func19, Tryd.ntmps19
  go_wp2
  exact bodyPost_ret (v := .agg #[.slice none 0 0, .slice none 0 0, .string ⟨#[]⟩, .int .i64 0, .int .i64 k]) (by simp [results, Tryd.results19, go_sem]) rfl ⟨rfl, albel _ _⟩
set_option maxRecDepth 100000 in
set_option maxHeartbeats 800000 in
theorem eqArea_any (vs vp us up : Value) (t : ByteArray) (g c : Int) (ss : List ByteArray) (ps : List Pend) (w : World) (h1 : Strs w vs ss) (h2 : Pends w vp ps) (h3 : Strs w us ss) (h4 : Pends w up ps) :
    Calls Tryd.prog 9 #[.agg #[vs, vp, .string t, .int .i64 g, .int .i64 c], .agg #[us, up, .string t, .int .i64 g, .int .i64 c]] w fun e w' => e = .returned (.bool true) ∧ Below w.heap.size w w' := by
  have hal : ∀ o1 o2 : Obj, Below w.heap.size w ((w.alloc o1).alloc o2) := fun o1 o2 => ((Below.refl _ _).alloc (Nat.le_refl _) _).alloc (by simp) _
  go_enter Tryd.func9, Tryd.ntmps9
  go_wp2_with (first
    | (go_at_call 10; refine (eqDisk_any _ _ _ _ ss ps _ (h1.below (hal _ _)) (h2.below (hal _ _)) (h3.below (hal _ _)) (h4.below (hal _ _))).mono ?_; rintro e w1 ⟨rfl, hb1⟩; obtain ⟨hc1, hf1⟩ := bcell hb1; have hB1 : Below w.heap.size w w1 := (hal _ _).trans (hb1.mono (hal _ _).size)))
  go_ret
  exact ⟨rfl, hB1⟩
set_option maxRecDepth 100000 in
set_option maxHeartbeats 800000 in
theorem heldArea_any (k n m : Nat) (vs vp : Value) (t : ByteArray) (g c : Int) (w : World) (hs : Strs w vs (marksS k n)) (hp : Pends w vp (marksP (k + n) m)) (h1 : 0 < k) (h2 : k + n + m * 2 < 10000000) :
    Calls Tryd.prog 13 #[.agg #[vs, vp, .string t, .int .i64 g, .int .i64 c], .int .i64 k] w fun e w' => e = .returned (.int .i64 ((k + n + m * 2 : Nat) : Int)) ∧ Below w.heap.size w w' := by
  have hal : ∀ o : Obj, Below w.heap.size w (w.alloc o) := fun o => (Below.refl _ _).alloc (Nat.le_refl _) _
  go_enter Tryd.func13, Tryd.ntmps13
  go_wp2_with (first
    | (go_at_call 31; refine (heldDisk_any k n m _ _ _ (hs.below (hal _)) (hp.below (hal _)) h1 h2).mono ?_; rintro e w1 ⟨rfl, hb1⟩; have hd2 : ¬ ((k + n + m * 2 : Nat) : Int) < 0 := (by omega)))
  go_ret
  exact ⟨rfl, (hal _).trans (hb1.mono (hal _).size)⟩
set_option maxRecDepth 100000 in
set_option maxHeartbeats 800000 in
theorem markArea_any (B k : Nat) (a a' : Option Addr) (cap cap' : Nat) (t : ByteArray) (g c : Int) (ss : List ByteArray) (ps : List Pend) (w : World) (hv : ODisk B w (.slice a ss.length cap) (.slice a' ps.length cap') ss ps) (h1 : 0 < k) (h2 : k + ss.length + ps.length * 2 < 10000000) :
    Calls Tryd.prog 12 #[.agg #[.slice a ss.length cap, .slice a' ps.length cap', .string t, .int .i64 g, .int .i64 c], .int .i64 k] w fun e w' => e = .returned (.int .i64 ((k + ss.length + ps.length * 2 : Nat) : Int)) ∧
      ODisk B w' (.slice a ss.length cap) (.slice a' ps.length cap') (marksS k ss.length) (marksP (k + ss.length) ps.length) ∧ Wrote (mines (.slice a ss.length cap) (.slice a' ps.length cap')) w w' := by
  have hal : ∀ o : Obj, Below w.heap.size w (w.alloc o) := fun o => (Below.refl _ _).alloc (Nat.le_refl _) _
  go_enter Tryd.func12, Tryd.ntmps12
  go_wp2_with (first
    | (go_at_call 11; refine (markDisk_any B k _ _ _ _ ss ps _ (hv.below (hal _)) h1 h2).mono ?_; rintro e w1 ⟨rfl, ho1, ht1⟩))
  go_ret
  exact ⟨rfl, ho1, (Wrote.of_below (hal _)).trans ht1⟩
end Go.Proofs.YtfiabbfdnmldjaaDoor.U4
