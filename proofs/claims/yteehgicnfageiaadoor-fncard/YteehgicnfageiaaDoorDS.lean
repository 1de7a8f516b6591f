/-
  Drawing: the source stays one, and only its own block is written. Literals of numbers.
-/
import Derived.Test.YteehgicnfageiaaDoorD2
import Derived.Test.YteehgicnfageiaaDoorHB
namespace Go.Proofs.YteehgicnfageiaaDoor.DS
open Go.RowKit
open Go.Proofs.YteehgicnfageiaaDoor.C0 Go.Proofs.YteehgicnfageiaaDoor.D0 Go.Proofs.YteehgicnfageiaaDoor.D1 Go.Proofs.YteehgicnfageiaaDoor.D2 Go.Proofs.YteehgicnfageiaaDoor.HB
/-- A source in block p over n bytes that lie below B. -/
structure Dr (B p n : Nat) (v : Value) (w : World) : Prop where
  src : IsSrc w p v n
  code : IsCode B w v n
  le : B ≤ p
theorem Dr.lt {B p n : Nat} {v : Value} {w : World} (h : Dr B p n v w) : p < w.heap.size := h.src.lt
theorem Dr.below {B p n : Nat} {v : Value} {w w' : World} (h : Dr B p n v w) (hb : Below w.heap.size w w') : Dr B p n v w' :=
  ⟨h.src.kept (hb.block p h.lt), h.code.below hb (Nat.le_of_lt (Nat.lt_of_le_of_lt h.le h.lt)), h.le⟩
theorem Dr.grown {B p n : Nat} {v : Value} {w w' : World} (h : Dr B p n v w) (hs : IsSrc w' p v n) (hg : w.grownBy w' (some p)) : Dr B p n v w' :=
  ⟨hs, h.code.grown hg h.le (Nat.le_of_lt (Nat.lt_of_le_of_lt h.le h.lt)), h.le⟩
theorem Dr.drew {B p n : Nat} {v : Value} {w : World} (h : Dr B p n v w) : Dr B p n v w.drew := ⟨h.src.drew, h.code, h.le⟩
theorem Dr.alloc {B p n : Nat} {v : Value} {w : World} (h : Dr B p n v w) (o : Obj) : Dr B p n v (w.alloc o) := h.below (albel w o)
theorem Dr.set {B p n g j : Nat} {v : Value} {w : World} (h : Dr B p n v w) (hg : p < g) (x : Value) : Dr B p n v (w.setCell ⟨g, j, none⟩ x) :=
  ⟨h.src.kept (Below.heap_setCell _ _ _ _ (by simp; omega)), h.code.kept (fun k hk => Below.heap_setCell _ _ _ _ (by have := h.le; simp; omega)), h.le⟩
theorem drawN {B p n : Nat} {v : Value} {w : World} (most : Int) (h : Dr B p n v w) (l : 0 < most) (u : most ≤ 9223372036854775807) :
    Calls Tryd.prog 49 #[.pointer (some ⟨p, 0, none⟩), .int .i64 most] w fun e w' => ∃ r : Nat, e = .returned (.int .i64 r) ∧ (r : Int) < most ∧ Dr B p n v w' ∧ w.grownBy w' (some p) :=
  (n_any B p n v most w h.src h.code (by omega) u).mono (fun e w' ⟨r, he, hr, hs, hg⟩ => ⟨r, he, by omega, h.grown hs hg, hg⟩)
theorem drawOne {B p n : Nat} {v : Value} {w : World} (most : Int) (h : Dr B p n v w) (l : 0 < most) (u : most ≤ 9223372036854775807) :
    Calls Tryd.prog 44 #[.pointer (some ⟨p, 0, none⟩), .int .i64 most] w fun e w' => ∃ b : Bool, e = .returned (.bool b) ∧ Dr B p n v w' ∧ w.grownBy w' (some p) :=
  (one_any B p n v most w h.src h.code (by omega) u).mono (fun e w' ⟨b, he, hs, hg⟩ => ⟨b, he, h.grown hs hg, hg⟩)
theorem drawBytes {B p n : Nat} {v : Value} {w : World} (k : Nat) (h : Dr B p n v w) (hk : k ≤ 1000000) :
    Calls Tryd.prog 77 #[.pointer (some ⟨p, 0, none⟩), .int .i64 k] w fun e w' => ∃ t : ByteArray, e = .returned (.string t) ∧ t.size = k ∧ Dr B p n v w' ∧ w.grownBy w' (some p) :=
  (bytes_any B p n k v w h.src h.code h.le hk).mono (fun _ _ ⟨t, he, hr, hs, hg⟩ => ⟨t, he, hr, h.grown hs hg, hg⟩)
theorem drawSource (v : Value) (n : Nat) (w : World) (hc : IsCode w.heap.size w v n) :
    Calls Tryd.prog 42 #[v] w fun e w' => e = .returned (.pointer (some ⟨w.heap.size, 0, none⟩)) ∧ Dr w.heap.size w.heap.size n v w' ∧ Below w.heap.size w w' :=
  (source_any v n w hc).mono (fun _ _ ⟨he, hs, hc', hb⟩ => ⟨he, ⟨hs, hc', Nat.le_refl _⟩, hb⟩)
/-- A new source where a block of the call's own lies already. -/
theorem sourceA (v : Value) (n : Nat) (w : World) (o : Obj) (hc : IsCode w.heap.size w v n) :
    Calls Tryd.prog 42 #[v] (w.alloc o) fun e w' => e = .returned (.pointer (some ⟨w.heap.size + 1, 0, none⟩)) ∧ Dr (w.heap.size + 1) (w.heap.size + 1) n v w' ∧ Below (w.heap.size + 1) (w.alloc o) w' := by
  have h := drawSource v n (w.alloc o) (by rw [asz]; exact (hc.below (albel w o) (Nat.le_refl _)).up (by omega))
  rw [asz] at h
  exact h
theorem grown_of {w w' : World} {p : Nat} (h : Below w.heap.size w w') : w.grownBy w' (some p) := ⟨h.os, h.tape, h.output, h.size, fun k hk _ => h.block k hk⟩
theorem grown_new {w x : World} {p g j : Nat} (h : w.grownBy x (some p)) (hg : w.heap.size ≤ g) (y : Value) : w.grownBy (x.setCell ⟨g, j, none⟩ y) (some p) :=
  ⟨h.os, h.tape, h.output, by simpa [World.setCell] using h.size, fun k hk hne => (Below.heap_setCell _ _ _ _ (by simp; omega)).trans (h.block k hk hne)⟩
theorem carryG {w w' : World} {p g : Nat} {x : Obj} (k : w.heap[g]? = some x) (h : w.grownBy w' (some p)) (hne : g ≠ p) : w'.heap[g]? = some x :=
  (h.block g (lt_some k) (by simpa using hne)).trans k
/-- A number out of a literal. -/
theorem lit_get (zs : List Int) (lo hi : Int) (h : zs.all (fun z => decide (lo ≤ z ∧ z ≤ hi)) = true) (r : Nat) (hr : r < zs.length) :
    ∃ z, ((zs.map (Value.int .i64)).toArray)[r]? = some (.int .i64 z) ∧ lo ≤ z ∧ z ≤ hi := by
  have hm := List.all_eq_true.1 h zs[r] (List.getElem_mem _)
  have := of_decide_eq_true hm
  exact ⟨zs[r], by simp [hr], this.1, this.2⟩
theorem lit_kept {w w1 : World} {p : Nat} {cs : Array Value} {T : TypeId} (hg : (w.alloc (.cells cs T)).grownBy w1 (some p)) (hp : p < w.heap.size) (r : Nat) : w1.cell? ⟨w.heap.size, r, none⟩ = cs[r]? :=
  block_cell (carryG (heap_alloc_new w (.cells cs T)) hg (by omega)) r

/-- A text out of a literal. -/
theorem pick_any {B p n : Nat} {v : Value} {w : World} (ts : List ByteArray) (m g : Nat) (hm : ts.length = m) (h0 : 0 < m) (h1 : m ≤ 1000) (h : Dr B p n v w) (k : w.heap[g]? = some (.cells (ts.map Value.string).toArray 9)) (hne : g ≠ p) :
    Calls Tryd.prog 73 #[.pointer (some ⟨p, 0, none⟩), .slice (some ⟨g, 0, none⟩) m m] w fun e w' => ∃ t, t ∈ ts ∧ e = .returned (.string t) ∧ Dr B p n v w' ∧ w.grownBy w' (some p) := by
  subst hm
  go_enter Tryd.func73, Tryd.ntmps73
  go_wp2_with fail
  refine (drawN (ts.length : Nat) h (by omega) (by omega)).mono ?_
  rintro e w1 ⟨r, rfl, hr, h2, g1⟩
  have hrn : r < ts.length := by omega
  have hcell : w1.cell? ⟨g, r, none⟩ = some (.string ts[r]) := by
    rw [block_cell (carryG k g1 hne) r]; simp [hrn]
  have ht : ts[r] ∈ ts := List.getElem_mem _
  generalize ts[r] = t at *
  clear k
  go_wp2
  go_ret
  exact ⟨t, ht, rfl, h2, g1⟩
end Go.Proofs.YteehgicnfageiaaDoor.DS
