/-
  The laws' own measure and copies of Channels; an answer compared with itself; a Channel that came in, opened.
-/
import Derived.Test.YteehgicnfageiaaDoorR0
import Derived.Lib.SmallJoins
import Derived.ProofKit
import Derived.OpenShut
namespace Go.Proofs.YteehgicnfageiaaDoor.R1
open Go.RowKit Go.WideShapes Go.Joins Go.ChangeShapes
open Go.Proofs.YteehgicnfageiaaDoor.C0 Go.Proofs.YteehgicnfageiaaDoor.HB
open Go.Proofs.YteehgicnfageiaaDoor.R0
theorem blk3f {w : World} {g : Nat} {a b c : Value} {T : TypeId} (h : w.heap[g]? = some (.cells #[a, b, c] T (0, 0))) : w.cell? ⟨g, 0, none⟩ = some a ∧ w.cell? ⟨g, 1, none⟩ = some b ∧ w.cell? ⟨g, 2, none⟩ = some c ∧ (∀ o, w.frozen? ⟨g, o, none⟩ = false) :=
  ⟨by simp [World.cell?, h], by simp [World.cell?, h], by simp [World.cell?, h], fun o => by simp [World.frozen?, h]⟩
theorem blk5f {w : World} {g : Nat} {a b c d e : Value} {T : TypeId} (h : w.heap[g]? = some (.cells #[a, b, c, d, e] T (0, 0))) : w.cell? ⟨g, 0, none⟩ = some a ∧ w.cell? ⟨g, 1, none⟩ = some b ∧ w.cell? ⟨g, 2, none⟩ = some c ∧ w.cell? ⟨g, 3, none⟩ = some d ∧ w.cell? ⟨g, 4, none⟩ = some e ∧ (∀ o, w.frozen? ⟨g, o, none⟩ = false) :=
  ⟨by simp [World.cell?, h], by simp [World.cell?, h], by simp [World.cell?, h], by simp [World.cell?, h], by simp [World.cell?, h], fun o => by simp [World.frozen?, h]⟩
def okC (c : Ch) (left r : Int) : Prop := r < 0 ∨ (0 ≤ r ∧ r ≤ left ∧ (c.key.size : Int) ≤ left)
set_option maxRecDepth 100000 in
theorem sz_any (c : Ch) (left : Int) (w : World) (hz : c.key.size ≤ maxLen) (h0 : 0 ≤ left) (h1 : left ≤ 1048576) :
    Calls Tryd.prog 40 #[chV c, .int .i64 left] w fun e w' => ∃ r, e = .returned (.int .i64 r) ∧ okC c left r ∧ Below w.heap.size w w' := by
  obtain ⟨key, sent, seen⟩ := c
  unfold maxLen at hz
  unfold chV
  dsimp only at hz ⊢
  by_cases hb : left < key.size
  · go_enter Tryd.func40, Tryd.ntmps40
    go_wp2
    go_ret
    exact ⟨_, rfl, by unfold okC; dsimp only; omega, (Below.refl _ _).alloc (Nat.le_refl _) _⟩
  · go_enter Tryd.func40, Tryd.ntmps40
    go_wp2
    go_ret
    exact ⟨_, rfl, by unfold okC; dsimp only; omega, (Below.refl _ _).alloc (Nat.le_refl _) _⟩
set_option maxRecDepth 100000 in
theorem to_any (c : Ch) (w : World) :
    Calls Tryd.prog 41 #[chV c] w fun e w' => e = .returned (chV c) ∧ Below w.heap.size w w' := by
  obtain ⟨key, sent, seen⟩ := c
  unfold chV
  dsimp only
  go_enter Tryd.func41, Tryd.ntmps41
  go_wp2
  refine bodyPost_ret (v := .agg #[.string key, .int .i64 sent, .int .i64 seen]) (by simp [results, Tryd.results41, go_sem]) rfl ⟨rfl, ?_⟩
  exact (((Below.refl _ _).alloc (Nat.le_refl _) _).alloc (by simp) _).alloc (by simp; omega) _
/-- An answer. -/
structure HO where
  c : Ch
  t : ByteArray
  k : Int
def hoV (o : HO) : Value := .agg #[.string o.c.key, .int .i64 o.c.sent, .int .i64 o.c.seen, .string o.t, .int .i64 o.k]
def ill (k : Int) : HO := ⟨⟨⟨#[]⟩, 0, 0⟩, ⟨#[]⟩, k⟩
theorem hoV_ill (k : Int) : hoV (ill k) = .agg #[.string ⟨#[]⟩, .int .i64 0, .int .i64 0, .string ⟨#[]⟩, .int .i64 k] := rfl
set_option maxRecDepth 100000 in
theorem eqCh_same (c : Ch) (w : World) :
    Calls Tryd.prog 84 #[chV c, chV c] w fun e w' => e = .returned (.bool true) ∧ Below w.heap.size w w' := by
  obtain ⟨key, sent, seen⟩ := c
  unfold chV
  dsimp only
  have hk : (key.toList == key.toList) = true := by simp
  go_enter Tryd.func84, Tryd.ntmps84
  go_wp2
  go_ret
  exact ⟨rfl, ((Below.refl _ _).alloc (Nat.le_refl _) _).alloc (by simp) _⟩
set_option maxRecDepth 100000 in
set_option maxHeartbeats 800000 in
theorem eqOut_same (o : HO) (w : World) :
    Calls Tryd.prog 39 #[hoV o, hoV o] w fun e w' => e = .returned (.bool true) ∧ Below w.heap.size w w' := by
  obtain ⟨⟨key, sent, seen⟩, t, k⟩ := o
  unfold hoV
  dsimp only
  have ht : (t.toList == t.toList) = true := by simp
  have HE : Hid (∀ W, Calls Tryd.prog 84 #[.agg #[.string key, .int .i64 sent, .int .i64 seen], .agg #[.string key, .int .i64 sent, .int .i64 seen]] W fun e w' => e = .returned (.bool true) ∧ Below W.heap.size W w') := fun W => eqCh_same ⟨key, sent, seen⟩ W
  go_enter Tryd.func39, Tryd.ntmps39
  go_wp2_with fail
  refine (HE.out _).mono ?_
  rintro e w1 ⟨rfl, hb1⟩
  have HB : Hid (Below w.heap.size w w1) := ((((Below.refl _ _).alloc (Nat.le_refl _) _).alloc (by simp) _)).trans (hb1.mono (by simp; omega))
  have a3 : w1.cell? ⟨w.heap.size, 3, none⟩ = some (.string t) := by rw [hb1.cell (p := ⟨w.heap.size, 3, none⟩) (by simp; omega)]; simp [go_sem]
  have a4 : w1.cell? ⟨w.heap.size, 4, none⟩ = some (.int .i64 k) := by rw [hb1.cell (p := ⟨w.heap.size, 4, none⟩) (by simp; omega)]; simp [go_sem]
  have b3 : w1.cell? ⟨w.heap.size + 1, 3, none⟩ = some (.string t) := by rw [hb1.cell (p := ⟨w.heap.size + 1, 3, none⟩) (by simp)]; simp [go_sem]
  have b4 : w1.cell? ⟨w.heap.size + 1, 4, none⟩ = some (.int .i64 k) := by rw [hb1.cell (p := ⟨w.heap.size + 1, 4, none⟩) (by simp)]; simp [go_sem]
  clear hb1
  go_wp2
  go_ret
  exact ⟨rfl, HB.out⟩
section
variable {P : Program} {w : World} {H : Type} {enc : TypeId × Value → H} {base : Nat} {spare : Nat → Bool} {held : Bool}
theorem trod_three {t : TypeId} {f0 f1 f2 : Field} {fuel : Nat} {cs : List Value} {x : DataW H × List MemPlace} (ht : P.underlying t = some (.struct #[f0, f1, f2])) (h : DataW.trod enc P w base spare held fuel t cs = some x) :
    ∃ y0 y1 y2 n, cs.length = P.cellsOf t ∧ DataW.trod enc P w base spare held n f0.type ((cs.drop f0.offset).take (P.cellsOf f0.type)) = some y0 ∧
      DataW.trod enc P w base spare held n f1.type ((cs.drop f1.offset).take (P.cellsOf f1.type)) = some y1 ∧ DataW.trod enc P w base spare held n f2.type ((cs.drop f2.offset).take (P.cellsOf f2.type)) = some y2 := by
  obtain ⟨xs, n, _, rfl, hl, hlen, hf⟩ := DataW.trod_struct ht h
  match xs, hlen with
  | [y0, y1, y2], _ => exact ⟨y0, y1, y2, n, hl, by simpa using hf 0 f0 rfl, by simpa using hf 1 f1 rfl, by simpa using hf 2 f2 rfl⟩
theorem array_three {α : Type} {cs : Array α} (h : cs.size = 3) : ∃ a b c, cs = #[a, b, c] := by
  obtain ⟨l⟩ := cs
  match l, h with
  | [a, b, c], _ => exact ⟨a, b, c, rfl⟩
theorem open_three {r : Reach} {b0 : Nat} {t : TypeId} {f0 f1 f2 : Field} {v : Value} {d : DataW H} {p : List MemPlace} (hs : P.underlying t = some (.struct #[f0, f1, f2])) (hC : P.cellsOf t = 3)
    (ho : (f0.offset, f1.offset, f2.offset) = (0, 1, 2)) (hk : (P.cellsOf f0.type, P.cellsOf f1.type, P.cellsOf f2.type) = (1, 1, 1))
    (hv : Value.okWide P w r b0 t v) (h : DataW.Trod enc P w base spare held t v d p) :
    ∃ (v0 v1 v2 : Value) (y0 y1 y2 : DataW H × List MemPlace) (n : Nat), v = .agg #[v0, v1, v2] ∧
      DataW.trod enc P w base spare held n f0.type [v0] = some y0 ∧ DataW.trod enc P w base spare held n f1.type [v1] = some y1 ∧ DataW.trod enc P w base spare held n f2.type [v2] = some y2 := by
  obtain ⟨cs, rfl, hsz⟩ := okWide_struct hs hv
  obtain ⟨c0, c1, c2, rfl⟩ := array_three (hsz.trans hC)
  obtain ⟨fuel, hf⟩ := h
  obtain ⟨y0, y1, y2, n, _, h0, h1, h2⟩ := trod_three hs hf
  simp only [Prod.mk.injEq] at ho hk
  obtain ⟨o0, o1, o2⟩ := ho
  obtain ⟨k0, k1, k2⟩ := hk
  exact ⟨c0, c1, c2, y0, y1, y2, n, rfl, by simpa [Value.cells, o0, k0] using h0, by simpa [Value.cells, o1, k1] using h1, by simpa [Value.cells, o2, k2] using h2⟩
end
section
variable {W : World} {H : Type} {enc : TypeId × Value → H}
set_option maxRecDepth 100000 in
theorem chan_of {r : Reach} {b0 : Nat} {v : Value} {d : DataW H} {p : List MemPlace} (hv : Value.okWide Tryd.prog W r b0 59 v) (h : DataW.Trod enc Tryd.prog W 0 (fun _ => true) true 59 v d p) :
    ∃ c : Ch, v = chV c ∧ c.key.size ≤ maxLen ∧ (-9223372036854775808 ≤ c.sent ∧ c.sent ≤ 9223372036854775807) ∧ (-9223372036854775808 ≤ c.seen ∧ c.seen ≤ 9223372036854775807) := by
  obtain ⟨v0, v1, v2, y0, y1, y2, n, rfl, h0, h1, h2⟩ := open_three Tryd.underlying59 (by kernel_rfl) (by kernel_rfl) (by kernel_rfl) hv h
  obtain ⟨s, e0, _, hz⟩ := DataW.trod_string Tryd.underlying9 h0
  obtain ⟨z1, e1, _, b1⟩ := DataW.trod_int Tryd.underlying2 h1
  obtain ⟨z2, e2, _, b2⟩ := DataW.trod_int Tryd.underlying2 h2
  obtain rfl : v0 = .string s := by simpa using e0
  obtain rfl : v1 = .int .i64 z1 := by simpa using e1
  obtain rfl : v2 = .int .i64 z2 := by simpa using e2
  have q1 := bounds_i64 b1
  have q2 := bounds_i64 b2
  exact ⟨⟨s, z1, z2⟩, rfl, hz, by dsimp only; omega, by dsimp only; omega⟩
end
end Go.Proofs.YteehgicnfageiaaDoor.R1
