/-
  Drawing, with what it leaves of memory: only the source's own block is written.
-/
import Derived.Test.YtoihhjdllcockaaD2
import Derived.Test.YtoihhjdllcockaaD4
import Derived.Test.YtoihhjdllcockaaO1
namespace Go.Proofs.Ytoihhjdllcockaa.D6
open Go.RowKit
open Go.Proofs.Ytoihhjdllcockaa.C0 Go.Proofs.Ytoihhjdllcockaa.D0 Go.Proofs.Ytoihhjdllcockaa.D1 Go.Proofs.Ytoihhjdllcockaa.D2 Go.Proofs.Ytoihhjdllcockaa.S0 Go.Proofs.Ytoihhjdllcockaa.O1
/-- A source in block p over n bytes that lie below B. -/
structure Dr (B p n : Nat) (v : Value) (w : World) : Prop where
  src : IsSrc w p v n
  code : IsCode B w v n
  le : B ≤ p
abbrev only (p : Nat) : Nat → Prop := fun g => g = p
theorem Dr.lt {B p n : Nat} {v : Value} {w : World} (h : Dr B p n v w) : p < w.heap.size := h.src.lt
theorem Dr.below {B p n : Nat} {v : Value} {w w' : World} (h : Dr B p n v w) (hb : Below w.heap.size w w') : Dr B p n v w' :=
  ⟨h.src.kept (hb.block p h.lt), h.code.below hb (Nat.le_of_lt (Nat.lt_of_le_of_lt h.le h.lt)), h.le⟩
theorem Dr.grown {B p n : Nat} {v : Value} {w w' : World} (h : Dr B p n v w) (hs : IsSrc w' p v n) (hg : w.grownBy w' (some p)) : Dr B p n v w' :=
  ⟨hs, h.code.grown hg h.le (Nat.le_of_lt (Nat.lt_of_le_of_lt h.le h.lt)), h.le⟩
theorem Dr.wrote {S : Nat → Prop} {B p n : Nat} {v : Value} {w w' : World} (h : Dr B p n v w) (ht : Wrote S w w') (hS : ∀ g, S g → p < g) : Dr B p n v w' :=
  ⟨h.src.kept (ht.block p h.lt (fun q => by have := hS p q; omega)), h.code.kept (fun k hk => ht.block k (by have := h.lt; have := h.le; omega) (fun q => by have := hS k q; have := h.le; omega)), h.le⟩
theorem Dr.drew {B p n : Nat} {v : Value} {w : World} (h : Dr B p n v w) : Dr B p n v w.drew := ⟨h.src.drew, h.code, h.le⟩
theorem wr_of {p : Nat} {w w' : World} (hg : w.grownBy w' (some p)) : Wrote (only p) w w' := Wrote.of_grown hg (fun k e => by simpa using e.symm)
theorem drawN {B p n : Nat} {v : Value} {w : World} (most : Int) (h : Dr B p n v w) (l : 0 < most) (u : most ≤ 9223372036854775807) :
    Calls Try.prog 37 #[.pointer (some ⟨p, 0, none⟩), .int .i64 most] w fun e w' => ∃ r : Nat, e = .returned (.int .i64 r) ∧ (r : Int) < most ∧ Dr B p n v w' ∧ Wrote (only p) w w' :=
  (n_any B p n v most w h.src h.code (by omega) u).mono (fun e w' ⟨r, he, hr, hs, hg⟩ => ⟨r, he, by omega, h.grown hs hg, wr_of hg⟩)
theorem drawOne {B p n : Nat} {v : Value} {w : World} (most : Int) (h : Dr B p n v w) (l : 0 < most) (u : most ≤ 9223372036854775807) :
    Calls Try.prog 38 #[.pointer (some ⟨p, 0, none⟩), .int .i64 most] w fun e w' => ∃ b : Bool, e = .returned (.bool b) ∧ Dr B p n v w' ∧ Wrote (only p) w w' :=
  (one_any B p n v most w h.src h.code (by omega) u).mono (fun e w' ⟨b, he, hs, hg⟩ => ⟨b, he, h.grown hs hg, wr_of hg⟩)
theorem drawBytes {B p n : Nat} {v : Value} {w : World} (k : Nat) (h : Dr B p n v w) (hk : k ≤ 1000000) :
    Calls Try.prog 39 #[.pointer (some ⟨p, 0, none⟩), .int .i64 k] w fun e w' => ∃ t : ByteArray, e = .returned (.string t) ∧ t.size = k ∧ Dr B p n v w' ∧ Wrote (only p) w w' :=
  (bytes_any B p n k v w h.src h.code h.le hk).mono (fun _ _ ⟨t, he, hr, hs, hg⟩ => ⟨t, he, hr, h.grown hs hg, wr_of hg⟩)
theorem drawEdge {B p n : Nat} {v : Value} {w : World} (h : Dr B p n v w) :
    Calls Try.prog 46 #[.pointer (some ⟨p, 0, none⟩)] w fun e w' => ∃ z : Int, e = .returned (.int .i64 z) ∧ -9223372036854775808 ≤ z ∧ z ≤ 9223372036854775807 ∧ Dr B p n v w' ∧ Wrote (only p) w w' :=
  (edge_any B p n v w h.src h.code h.le).mono (fun _ _ ⟨z, he, h1, h2, hs, hg⟩ => ⟨z, he, h1, h2, h.grown hs hg, wr_of hg⟩)
theorem drawSource (v : Value) (n : Nat) (w : World) (hc : IsCode w.heap.size w v n) :
    Calls Try.prog 35 #[v] w fun e w' => e = .returned (.pointer (some ⟨w.heap.size, 0, none⟩)) ∧ Dr w.heap.size w.heap.size n v w' ∧ Below w.heap.size w w' :=
  (source_any v n w hc).mono (fun _ _ ⟨he, hs, hc', hb⟩ => ⟨he, ⟨hs, hc', Nat.le_refl _⟩, hb⟩)
/-- What only wrote the source's block keeps all else. -/
theorem carryP {p g : Nat} {x : Obj} {w w' : World} (k : w.heap[g]? = some x) (ht : Wrote (only p) w w') (hne : g ≠ p) : w'.heap[g]? = some x := carryW k ht hne
theorem diskP {p B : Nat} {w w' : World} {vs vp : Value} {ss : List ByteArray} {ps : List Pend} (h : ODisk B w vs vp ss ps) (ht : Wrote (only p) w w') (hp : p < B) : ODisk B w' vs vp ss ps :=
  h.wrote ht (fun g e hg => by have := h.rows g hg; unfold only at e; omega)
theorem trW {S : Nat → Prop} {a b c : World} (h : Wrote S a b) (k : Below b.heap.size b c) : Wrote S a c := h.trans (Wrote.of_below k)
end Go.Proofs.Ytoihhjdllcockaa.D6
