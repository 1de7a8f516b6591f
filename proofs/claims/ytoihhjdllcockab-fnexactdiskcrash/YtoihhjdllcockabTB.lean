/-
  Flushing a disk, as the specification and as the program have it.
-/
import Derived.Test.YtoihhjdllcockabT5
import Derived.Test.YtoihhjdllcockabT8
namespace Go.Proofs.Ytoihhjdllcockab.TB
open Go.RowKit
open Go.Proofs.Ytoihhjdllcockab.C0 Go.Proofs.Ytoihhjdllcockab.S0 Go.Proofs.Ytoihhjdllcockab.S1 Go.Proofs.Ytoihhjdllcockab.S2 Go.Proofs.Ytoihhjdllcockab.S3 Go.Proofs.Ytoihhjdllcockab.S4 Go.Proofs.Ytoihhjdllcockab.O1 Go.Proofs.Ytoihhjdllcockab.T0 Go.Proofs.Ytoihhjdllcockab.T1 Go.Proofs.Ytoihhjdllcockab.T2 Go.Proofs.Ytoihhjdllcockab.T3 Go.Proofs.Ytoihhjdllcockab.T4 Go.Proofs.Ytoihhjdllcockab.T5 Go.Proofs.Ytoihhjdllcockab.T6 Go.Proofs.Ytoihhjdllcockab.T8
open Go.Proofs.Ytoihhjdllcockab.Dk (Out ill flushR flushOf flushOf_length flushOf_snoc putOne putOne_length rightB right_iff)
/-- A row of sectors of the call's own, told with nothing pending. -/
theorem fin_fl {w X : World} {a : Option Addr} {c n B : Nat} {l : List ByteArray} (hl : l.length = n) (h : Below w.heap.size w X) (ho : OStrs B X (.slice a n c) l) (hB : w.heap.size + 2 ≤ B) (p q r s : Value) :
    OTold w l [] ⟨#[]⟩ 0 (.returned (.agg #[.slice a n c, .slice none 0 0, .string ⟨#[]⟩, .int .i64 0])) (set4 X (w.heap.size + 1) p q r s) := by
  subst hl
  exact fin_out (a' := none) (c' := 0) (ps := []) h ⟨ho, World.ownsRow_nil _ _ _ _⟩ hB p q r s

theorem keepR {w : World} {g q b0 b1 b2 o0 o1 o2 o3 : Nat} {v0 v1 v2 v3 u : Value} (m1 : b0 ≠ g) (m2 : b1 ≠ g) (m3 : b2 ≠ g) (h0 : w.cell? ⟨b0, o0, none⟩ = some v0) (h1 : w.cell? ⟨b1, o1, none⟩ = some v1) (h2 : w.cell? ⟨b2, o2, none⟩ = some v2) (h3 : w.cell? ⟨b2, o3, none⟩ = some v3) :
    (w.setCell ⟨g, q, none⟩ u).drew.cell? ⟨b0, o0, none⟩ = some v0 ∧ (w.setCell ⟨g, q, none⟩ u).drew.cell? ⟨b1, o1, none⟩ = some v1 ∧ (w.setCell ⟨g, q, none⟩ u).drew.cell? ⟨b2, o2, none⟩ = some v2 ∧ (w.setCell ⟨g, q, none⟩ u).drew.cell? ⟨b2, o3, none⟩ = some v3 := by
  have f : ∀ b o, b ≠ g → (w.setCell ⟨g, q, none⟩ u).drew.cell? ⟨b, o, none⟩ = w.cell? ⟨b, o, none⟩ := fun b o hb => World.cell?_of_block (w := w) (Below.heap_setCell w ⟨g, q, none⟩ u b hb)
  rw [f _ _ m1, f _ _ m2, f _ _ m3, f _ _ m3]
  exact ⟨h0, h1, h2, h3⟩
theorem flush_len (B : Nat) (a : Option Addr) (c m n k N : Nat) (f : Nat → Option Pend) (l : List ByteArray) (p : Pend) (x : Value) (w : World) (hN : l.length = N) (hs : OStrs B w (.slice a N c) l) (hm : MapIs w m n f) (hf : f k = some p) (hk : k < 1000) (hp0 : 0 ≤ p.1) (hp1 : p.1 < N) (hz : N ≤ 64) :
    Calls Try.prog 23 #[.agg #[.slice a N c, .map (some m), x], .int .i64 k] w fun e w' => e = .returned (.tuple #[]) ∧ OStrs B w' (.slice a N c) (putOne l p) ∧ MapIs w' m n (upd f k none) ∧ Wrote (fun g => g = m ∨ mine (.slice a N c) g) w w' := by
  subst hN
  exact flush_any B a c m n k f l p x w hs hm hf hk hp0 hp1 hz
abbrev two (m : Nat) (v : Value) : Nat → Prop := fun g => g = m ∨ mine v g
end Go.Proofs.Ytoihhjdllcockab.TB
