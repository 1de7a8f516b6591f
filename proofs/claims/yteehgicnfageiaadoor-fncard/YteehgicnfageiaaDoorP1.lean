/-
  What a call on cards answers: a card, a text, a code; compared with itself.
-/
import Derived.Test.YteehgicnfageiaaDoorN1
namespace Go.Proofs.YteehgicnfageiaaDoor.P1
open Go.RowKit
open Go.Proofs.YteehgicnfageiaaDoor.C0 Go.Proofs.YteehgicnfageiaaDoor.HB
open Go.Proofs.YteehgicnfageiaaDoor.N0 (Cd cdV cardB)

/-- An answer. -/
structure CO where
  c : Cd
  t : ByteArray
  k : Int
def coV (o : CO) : Value := .agg #[.int .i64 o.c.id, .int .i64 o.c.ep, .string o.c.pin, .int .i64 o.c.tr, .int .i64 o.c.ix, .string o.c.dt, .string o.t, .int .i64 o.k]
/-- An answer that tells a code alone. -/
def ill (k : Int) : CO := ⟨⟨0, 0, ⟨#[]⟩, 0, 0, ⟨#[]⟩⟩, ⟨#[]⟩, k⟩
theorem coV_ill (k : Int) : coV (ill k) = .agg #[.int .i64 0, .int .i64 0, .string ⟨#[]⟩, .int .i64 0, .int .i64 0, .string ⟨#[]⟩, .string ⟨#[]⟩, .int .i64 k] := rfl

set_option maxRecDepth 100000 in
set_option maxHeartbeats 800000 in
theorem lw_same (o : CO) (w : World) (hp : o.c.pin.size ≤ maxLen) (hd : o.c.dt.size ≤ maxLen) (ho : o.k = 0 → cardB o.c = true) :
    Calls Tryd.prog 18 #[coV o, coV o] w fun e w' => e = .returned (.bool true) ∧ Below w.heap.size w w' := by
  obtain ⟨⟨id, ep, pin, tr, ix, dt⟩, t, k⟩ := o
  dsimp only at hp hd ho
  unfold coV
  dsimp only
  have ht : (t.toList == t.toList) = true := by simp
  have hp' : (pin.toList == pin.toList) = true := by simp
  have hd' : (dt.toList == dt.toList) = true := by simp
  have HB : Hid (Below w.heap.size w (((w.alloc (.cells #[.int .i64 id, .int .i64 ep, .string pin, .int .i64 tr, .int .i64 ix, .string dt, .string t, .int .i64 k] 30)).alloc (.cells #[.int .i64 id, .int .i64 ep, .string pin, .int .i64 tr, .int .i64 ix, .string dt, .string t, .int .i64 k] 30)))) := ((Below.refl _ _).alloc (Nat.le_refl _) _).alloc (by simp) _
  by_cases hk : k = 0
  · have HC : Hid (∀ W, Calls Tryd.prog 27 #[.agg #[.int .i64 id, .int .i64 ep, .string pin, .int .i64 tr, .int .i64 ix, .string dt]] W fun e w' => e = .returned (.bool true) ∧ Below W.heap.size W w') := fun W => by
      have := N0.card_spec ⟨id, ep, pin, tr, ix, dt⟩ W hp hd
      rw [ho hk] at this
      exact this
    have t1 : (k != 0) = false := by simp [hk]
    have t2 : decide (k = 0) = true := by simp [hk]
    clear hp hd ho
    subst hk
    go_enter Tryd.func18, Tryd.ntmps18
    go_wp2_with fail
    refine (HC.out _).mono ?_
    rintro e w1 ⟨rfl, hb1⟩
    have HB2 : Hid (Below w.heap.size w w1) := HB.out.trans (hb1.mono (by simp; omega))
    clear hb1
    go_wp2
    go_ret
    exact ⟨rfl, HB2.out⟩
  · have t1 : (k != 0) = true := by simp [hk]
    have t2 : decide (k = 0) = false := by simp [hk]
    go_enter Tryd.func18, Tryd.ntmps18
    go_wp2
    go_ret
    exact ⟨rfl, HB.out⟩
end Go.Proofs.YteehgicnfageiaaDoor.P1
