/-
  What a call on cards answers: a card, a text, a code; compared with itself.
-/
import Derived.Test.YtgmejbnolfmcdabN1
namespace Go.Proofs.Ytgmejbnolfmcdab.P1
open Go.RowKit
open Go.Proofs.Ytgmejbnolfmcdab.C0 Go.Proofs.Ytgmejbnolfmcdab.HB
open Go.Proofs.Ytgmejbnolfmcdab.N0 (Cd cdV cardB)

/-- An answer. -/
structure CO where
  c : Cd
  t : ByteArray
  k : Int
def coV (o : CO) : Value := .agg #[.int .i64 o.c.id, .int .i64 o.c.ep, .string o.c.pin, .int .i64 o.c.tr, .int .i64 o.c.ix, .string o.c.dt, .string o.t, .int .i64 o.k]
/-- An answer that tells a code alone. -/
def ill (k : Int) : CO := ⟨⟨0, 0, ⟨#[]⟩, 0, 0, ⟨#[]⟩⟩, ⟨#[]⟩, k⟩
theorem coV_ill (k : Int) : coV (ill k) = .agg #[.int .i64 0, .int .i64 0, .string ⟨#[]⟩, .int .i64 0, .int .i64 0, .string ⟨#[]⟩, .string ⟨#[]⟩, .int .i64 k] := rfl

set_option maxRecDepth 100000 in
set_option maxHeartbeats 800000 in
theorem eqCard_same (c : Cd) (w : World) :
    Calls Try.prog 30 #[cdV c, cdV c] w fun e w' => e = .returned (.bool true) ∧ Below w.heap.size w w' := by
  obtain ⟨id, ep, pin, tr, ix, dt⟩ := c
  unfold cdV
  dsimp only
  have hp : (pin.toList == pin.toList) = true := by simp
  go_enter Try.func30, Try.ntmps30
  go_wp2_with fail
  refine (SI.eqShare_any ix dt _).mono ?_
  rintro e w1 ⟨rfl, hb1⟩
  have HB : Hid (Below w.heap.size w w1) := ((((Below.refl _ _).alloc (Nat.le_refl _) _).alloc (by simp) _)).trans (hb1.mono (by simp; omega))
  clear hb1
  go_wp2
  go_ret
  exact ⟨rfl, HB.out⟩
set_option maxRecDepth 100000 in
set_option maxHeartbeats 800000 in
theorem eqOut_same (o : CO) (w : World) :
    Calls Try.prog 11 #[coV o, coV o] w fun e w' => e = .returned (.bool true) ∧ Below w.heap.size w w' := by
  obtain ⟨⟨id, ep, pin, tr, ix, dt⟩, t, k⟩ := o
  unfold coV
  dsimp only
  have ht : (t.toList == t.toList) = true := by simp
  have HE : Hid (∀ W, Calls Try.prog 30 #[.agg #[.int .i64 id, .int .i64 ep, .string pin, .int .i64 tr, .int .i64 ix, .string dt], .agg #[.int .i64 id, .int .i64 ep, .string pin, .int .i64 tr, .int .i64 ix, .string dt]] W fun e w' => e = .returned (.bool true) ∧ Below W.heap.size W w') := fun W => eqCard_same ⟨id, ep, pin, tr, ix, dt⟩ W
  have k0 := heap_alloc_new w (.cells #[.int .i64 id, .int .i64 ep, .string pin, .int .i64 tr, .int .i64 ix, .string dt, .string t, .int .i64 k] 34)
  go_enter Try.func11, Try.ntmps11
  go_wp2_with fail
  refine (HE.out _).mono ?_
  rintro e w1 ⟨rfl, hb1⟩
  have HB : Hid (Below w.heap.size w w1) := ((((Below.refl _ _).alloc (Nat.le_refl _) _).alloc (by simp) _)).trans (hb1.mono (by simp; omega))
  have a6 : w1.cell? ⟨w.heap.size, 6, none⟩ = some (.string t) := by rw [hb1.cell (p := ⟨w.heap.size, 6, none⟩) (by simp; omega)]; simp [go_sem]
  have a7 : w1.cell? ⟨w.heap.size, 7, none⟩ = some (.int .i64 k) := by rw [hb1.cell (p := ⟨w.heap.size, 7, none⟩) (by simp; omega)]; simp [go_sem]
  have b6 : w1.cell? ⟨w.heap.size + 1, 6, none⟩ = some (.string t) := by rw [hb1.cell (p := ⟨w.heap.size + 1, 6, none⟩) (by simp)]; simp [go_sem]
  have b7 : w1.cell? ⟨w.heap.size + 1, 7, none⟩ = some (.int .i64 k) := by rw [hb1.cell (p := ⟨w.heap.size + 1, 7, none⟩) (by simp)]; simp [go_sem]
  clear hb1
  go_wp2
  go_ret
  exact ⟨rfl, HB.out⟩
end Go.Proofs.Ytgmejbnolfmcdab.P1
