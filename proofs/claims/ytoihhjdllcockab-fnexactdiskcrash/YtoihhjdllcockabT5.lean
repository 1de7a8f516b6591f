/-
  The specification's reading of a sector.
-/
import Derived.Test.YtoihhjdllcockabT4
namespace Go.Proofs.Ytoihhjdllcockab.T5
open Go.RowKit
open Go.Proofs.Ytoihhjdllcockab.C0 Go.Proofs.Ytoihhjdllcockab.S0 Go.Proofs.Ytoihhjdllcockab.S1 Go.Proofs.Ytoihhjdllcockab.S2 Go.Proofs.Ytoihhjdllcockab.S3 Go.Proofs.Ytoihhjdllcockab.O1 Go.Proofs.Ytoihhjdllcockab.T0 Go.Proofs.Ytoihhjdllcockab.T2 Go.Proofs.Ytoihhjdllcockab.T3 Go.Proofs.Ytoihhjdllcockab.T4
open Go.Proofs.Ytoihhjdllcockab.Dk (Out ill readR readOf readOf_snoc rightB right_iff)
abbrev OT (w : World) (o : Out) (e : Ending) (w' : World) : Prop := OTold w o.ss o.ps o.d o.k e w'
/-- Four cells of one block, stored one by one. -/
abbrev set4 (w : World) (g : Nat) (a b c d : Value) : World := (((w.setCell ⟨g, 0, none⟩ a).setCell ⟨g, 1, none⟩ b).setCell ⟨g, 2, none⟩ c).setCell ⟨g, 3, none⟩ d
theorem odisk_set {B : Nat} {w : World} {vs vp : Value} {ss : List ByteArray} {ps : List Pend} (h : ODisk B w vs vp ss ps) {p : Addr} (hp : p.block < B) (u : Value) : ODisk B (w.setCell p u) vs vp ss ps := ⟨h.1.set hp u, h.2.set hp u⟩
theorem set4_disk {B g : Nat} {w : World} {vs vp : Value} {ss : List ByteArray} {ps : List Pend} (h : ODisk B w vs vp ss ps) (hg : g < B) (a b c d : Value) : ODisk B (set4 w g a b c d) vs vp ss ps :=
  odisk_set (odisk_set (odisk_set (odisk_set h hg _) hg _) hg _) hg _
theorem set4_below {B g : Nat} {a0 w : World} (h : Below B a0 w) (hg : B ≤ g) (a b c d : Value) : Below B a0 (set4 w g a b c d) :=
  (((h.setCell (p := ⟨g, 0, none⟩) hg _).setCell (p := ⟨g, 1, none⟩) hg _).setCell (p := ⟨g, 2, none⟩) hg _).setCell (p := ⟨g, 3, none⟩) hg _
/-- A disk that is told behind a box and a result's block. -/
theorem fin_out {w X : World} {a a' : Option Addr} {c c' B : Nat} {ss : List ByteArray} {ps : List Pend} {d : ByteArray} {k : Int} (h : Below w.heap.size w X) (ho : ODisk B X (.slice a ss.length c) (.slice a' ps.length c') ss ps) (hB : w.heap.size + 2 ≤ B) (p q r s : Value) :
    OTold w ss ps d k (.returned (.agg #[.slice a ss.length c, .slice a' ps.length c', .string d, .int .i64 k])) (set4 X (w.heap.size + 1) p q r s) :=
  ⟨a, c, a', c', rfl, (set4_disk ho (by omega) _ _ _ _).mono (by omega), set4_below h (by omega) _ _ _ _⟩
theorem fin_ill {w X : World} {k : Int} (h : Below w.heap.size w X) (p q r s : Value) :
    OT w (ill k) (.returned (.agg #[.slice none 0 0, .slice none 0 0, .string ⟨#[]⟩, .int .i64 k])) (set4 X (w.heap.size + 1) p q r s) :=
  none_otold w _ k (set4_below h (by omega) _ _ _ _)
theorem k_box (w : World) (x y : Obj) : ((w.alloc x).alloc y).heap[w.heap.size]? = some x ∧ ((w.alloc x).alloc y).heap[w.heap.size + 1]? = some y ∧ Below w.heap.size w ((w.alloc x).alloc y) ∧ ((w.alloc x).alloc y).heap.size = w.heap.size + 2 :=
  ⟨carryA (heap_alloc_new w x) y, by have := heap_alloc_new (w.alloc x) y; rwa [asz] at this, ((Below.refl _ _).alloc (Nat.le_refl _) _).alloc (by simp) _, by simp⟩
end Go.Proofs.Ytoihhjdllcockab.T5
