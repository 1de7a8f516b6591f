/-
  The walk of the law on cards.
-/
import Derived.Test.YteehgicnfageiaaDoorDE
import Derived.Test.YteehgicnfageiaaDoorYP
import Derived.Test.YteehgicnfageiaaDoorQ1
import Derived.Test.YteehgicnfageiaaDoorQ2
import Derived.Test.YteehgicnfageiaaDoorQ6
import Derived.Test.YteehgicnfageiaaDoorP8
import Derived.Test.YteehgicnfageiaaDoorTK
import Derived.Deep.DeepCutAuto
namespace Go.Proofs.YteehgicnfageiaaDoor.YCard
open Go.RowKit
open Go.Proofs.YteehgicnfageiaaDoor.C0 Go.Proofs.YteehgicnfageiaaDoor.D0 Go.Proofs.YteehgicnfageiaaDoor.HB
open Go.Proofs.YteehgicnfageiaaDoor.N0 (Cd cdV cardB pinB)
open Go.Proofs.YteehgicnfageiaaDoor.N2 (cardBytes)
open Go.Proofs.YteehgicnfageiaaDoor.N4 (readR)
open Go.Proofs.YteehgicnfageiaaDoor.P1 (CO coV ill)
open Go.Proofs.YteehgicnfageiaaDoor.P2
theorem below_dn {a b : World} {B : Nat} (h : Below B a b) (n : Nat) : Below B a (b.drewN n) := ⟨h.os, h.tape, h.output, h.size, h.block⟩
theorem field_one (a b c d e f g h : Value) (W : World) : (Instr.field 30 (.agg #[a, b, c, d, e, f, g, h]) 1).run Tryd.prog W = .ok g W := by kernel_rfl
theorem field_two (a b c d e f g h : Value) (W : World) : (Instr.field 30 (.agg #[a, b, c, d, e, f, g, h]) 2).run Tryd.prog W = .ok h W := by kernel_rfl
theorem set_bel {W x : World} {g : Nat} {v0 v1 v2 v3 v4 v5 v6 v7 : Value} (h : Below W.heap.size W x) (hg : W.heap.size ≤ g) : Below W.heap.size W ((((((((x.setCell ⟨g, 0, none⟩ (v0)).setCell ⟨g, 1, none⟩ (v1)).setCell ⟨g, 2, none⟩ (v2)).setCell ⟨g, 3, none⟩ (v3)).setCell ⟨g, 4, none⟩ (v4)).setCell ⟨g, 5, none⟩ (v5)).setCell ⟨g, 6, none⟩ (v6)).setCell ⟨g, 7, none⟩ (v7)) :=
  ((((((((h.setCell hg _).setCell hg _).setCell hg _).setCell hg _).setCell hg _).setCell hg _).setCell hg _).setCell hg _)
theorem setC_bel {W x : World} {g : Nat} {v0 v1 v2 v3 v4 v5 : Value} (h : Below W.heap.size W x) (hg : W.heap.size ≤ g) : Below W.heap.size W ((((((x.setCell ⟨g, 0, none⟩ (v0)).setCell ⟨g, 1, none⟩ (v1)).setCell ⟨g, 2, none⟩ (v2)).setCell ⟨g, 3, none⟩ (v3)).setCell ⟨g, 4, none⟩ (v4)).setCell ⟨g, 5, none⟩ (v5)) :=
  ((((((h.setCell hg _).setCell hg _).setCell hg _).setCell hg _).setCell hg _).setCell hg _)
theorem set_new {x : World} {g : Nat} {v0 v1 v2 v3 v4 v5 v6 v7 : Value} {a b c d e f k l : Value} {T : TypeId} (h : x.heap[g]? = some (.cells #[a, b, c, d, e, f, k, l] T (0, 0))) :
    ((((((((x.setCell ⟨g, 0, none⟩ (v0)).setCell ⟨g, 1, none⟩ (v1)).setCell ⟨g, 2, none⟩ (v2)).setCell ⟨g, 3, none⟩ (v3)).setCell ⟨g, 4, none⟩ (v4)).setCell ⟨g, 5, none⟩ (v5)).setCell ⟨g, 6, none⟩ (v6)).setCell ⟨g, 7, none⟩ (v7)).heap[g]? = some (.cells #[v0, v1, v2, v3, v4, v5, v6, v7] T (0, 0)) := by
  have h0 : (x.setCell ⟨g, 0, none⟩ v0).heap[g]? = some (.cells #[v0, b, c, d, e, f, k, l] T (0, 0)) := Q3.heap_set h (by simp)
  have h1 : ((x.setCell ⟨g, 0, none⟩ v0).setCell ⟨g, 1, none⟩ v1).heap[g]? = some (.cells #[v0, v1, c, d, e, f, k, l] T (0, 0)) := Q3.heap_set h0 (by simp)
  have h2 : (((x.setCell ⟨g, 0, none⟩ v0).setCell ⟨g, 1, none⟩ v1).setCell ⟨g, 2, none⟩ v2).heap[g]? = some (.cells #[v0, v1, v2, d, e, f, k, l] T (0, 0)) := Q3.heap_set h1 (by simp)
  have h3 : ((((x.setCell ⟨g, 0, none⟩ v0).setCell ⟨g, 1, none⟩ v1).setCell ⟨g, 2, none⟩ v2).setCell ⟨g, 3, none⟩ v3).heap[g]? = some (.cells #[v0, v1, v2, v3, e, f, k, l] T (0, 0)) := Q3.heap_set h2 (by simp)
  have h4 : (((((x.setCell ⟨g, 0, none⟩ v0).setCell ⟨g, 1, none⟩ v1).setCell ⟨g, 2, none⟩ v2).setCell ⟨g, 3, none⟩ v3).setCell ⟨g, 4, none⟩ v4).heap[g]? = some (.cells #[v0, v1, v2, v3, v4, f, k, l] T (0, 0)) := Q3.heap_set h3 (by simp)
  have h5 : ((((((x.setCell ⟨g, 0, none⟩ v0).setCell ⟨g, 1, none⟩ v1).setCell ⟨g, 2, none⟩ v2).setCell ⟨g, 3, none⟩ v3).setCell ⟨g, 4, none⟩ v4).setCell ⟨g, 5, none⟩ v5).heap[g]? = some (.cells #[v0, v1, v2, v3, v4, v5, k, l] T (0, 0)) := Q3.heap_set h4 (by simp)
  have h6 : (((((((x.setCell ⟨g, 0, none⟩ v0).setCell ⟨g, 1, none⟩ v1).setCell ⟨g, 2, none⟩ v2).setCell ⟨g, 3, none⟩ v3).setCell ⟨g, 4, none⟩ v4).setCell ⟨g, 5, none⟩ v5).setCell ⟨g, 6, none⟩ v6).heap[g]? = some (.cells #[v0, v1, v2, v3, v4, v5, v6, l] T (0, 0)) := Q3.heap_set h5 (by simp)
  have h7 : ((((((((x.setCell ⟨g, 0, none⟩ v0).setCell ⟨g, 1, none⟩ v1).setCell ⟨g, 2, none⟩ v2).setCell ⟨g, 3, none⟩ v3).setCell ⟨g, 4, none⟩ v4).setCell ⟨g, 5, none⟩ v5).setCell ⟨g, 6, none⟩ v6).setCell ⟨g, 7, none⟩ v7).heap[g]? = some (.cells #[v0, v1, v2, v3, v4, v5, v6, v7] T (0, 0)) := Q3.heap_set h6 (by simp)
  exact h7
theorem setC_new {x : World} {g : Nat} {v0 v1 v2 v3 v4 v5 : Value} {a b c d e f : Value} {T : TypeId} (h : x.heap[g]? = some (.cells #[a, b, c, d, e, f] T (0, 0))) :
    ((((((x.setCell ⟨g, 0, none⟩ (v0)).setCell ⟨g, 1, none⟩ (v1)).setCell ⟨g, 2, none⟩ (v2)).setCell ⟨g, 3, none⟩ (v3)).setCell ⟨g, 4, none⟩ (v4)).setCell ⟨g, 5, none⟩ (v5)).heap[g]? = some (.cells #[v0, v1, v2, v3, v4, v5] T (0, 0)) := by
  have h0 : (x.setCell ⟨g, 0, none⟩ v0).heap[g]? = some (.cells #[v0, b, c, d, e, f] T (0, 0)) := Q3.heap_set h (by simp)
  have h1 : ((x.setCell ⟨g, 0, none⟩ v0).setCell ⟨g, 1, none⟩ v1).heap[g]? = some (.cells #[v0, v1, c, d, e, f] T (0, 0)) := Q3.heap_set h0 (by simp)
  have h2 : (((x.setCell ⟨g, 0, none⟩ v0).setCell ⟨g, 1, none⟩ v1).setCell ⟨g, 2, none⟩ v2).heap[g]? = some (.cells #[v0, v1, v2, d, e, f] T (0, 0)) := Q3.heap_set h1 (by simp)
  have h3 : ((((x.setCell ⟨g, 0, none⟩ v0).setCell ⟨g, 1, none⟩ v1).setCell ⟨g, 2, none⟩ v2).setCell ⟨g, 3, none⟩ v3).heap[g]? = some (.cells #[v0, v1, v2, v3, e, f] T (0, 0)) := Q3.heap_set h2 (by simp)
  have h4 : (((((x.setCell ⟨g, 0, none⟩ v0).setCell ⟨g, 1, none⟩ v1).setCell ⟨g, 2, none⟩ v2).setCell ⟨g, 3, none⟩ v3).setCell ⟨g, 4, none⟩ v4).heap[g]? = some (.cells #[v0, v1, v2, v3, v4, f] T (0, 0)) := Q3.heap_set h3 (by simp)
  have h5 : ((((((x.setCell ⟨g, 0, none⟩ v0).setCell ⟨g, 1, none⟩ v1).setCell ⟨g, 2, none⟩ v2).setCell ⟨g, 3, none⟩ v3).setCell ⟨g, 4, none⟩ v4).setCell ⟨g, 5, none⟩ v5).heap[g]? = some (.cells #[v0, v1, v2, v3, v4, v5] T (0, 0)) := Q3.heap_set h4 (by simp)
  exact h5
theorem set_other {x : World} {g k : Nat} {v0 v1 v2 v3 v4 v5 v6 v7 : Value} (h : k ≠ g) : ((((((((x.setCell ⟨g, 0, none⟩ (v0)).setCell ⟨g, 1, none⟩ (v1)).setCell ⟨g, 2, none⟩ (v2)).setCell ⟨g, 3, none⟩ (v3)).setCell ⟨g, 4, none⟩ (v4)).setCell ⟨g, 5, none⟩ (v5)).setCell ⟨g, 6, none⟩ (v6)).setCell ⟨g, 7, none⟩ (v7)).heap[k]? = x.heap[k]? := by
  iterate 8 rw [heap_setCell_other _ _ _ _ h]
theorem one8 (v0 v1 : Int) (v2 : ByteArray) (v3 v4 : Int) (v5 v6 : ByteArray) (v7 : Int) : (#[Value.int .i64 v0, .int .i64 v1, .string v2, .int .i64 v3, .int .i64 v4, .string v5, .string v6, .int .i64 v7].all (·.oneCell')) = true := by kernel_rfl
theorem mx {n : Nat} (k : Nat) (h : n ≤ k) (hk : k ≤ 8000) : n ≤ maxLen := by unfold maxLen; omega
theorem tk_ok {tk : Int} {k : Nat} (h : 3 - (k : Int) = tk) (hk : k ≤ 3) : 0 ≤ tk ∧ tk ≤ 3 := by omega
theorem tk_less {tk v3 : Int} {k : Nat} (h : 3 - (k : Int) = tk) (h2 : v3 = tk - 1) : v3 = 3 - ((k + 1 : Nat) : Int) := by omega
theorem tk_zero {tk : Int} {k : Nat} (h : 3 - (k : Int) = tk) (hk : k ≤ 3) (hl : ¬ k < 3) : tk = 0 := by omega
theorem meas {k : Nat} (h : k < 3) : 3 - (((k + 1 : Nat) : Int)).toNat < 3 - ((k : Int)).toNat := by omega
theorem newS {N : Nat} {W x : World} (_ : Below N W x) (o : Obj) : (x.alloc o).heap[x.heap.size]? = some o := heap_alloc_new x o
theorem built_one (a b c d e f : Value) : Tryd.prog.built 30 [(0, .agg #[a, b, c, d, e, f])] = some #[a, b, c, d, e, f, .string ⟨#[]⟩, .int .i64 0] := by kernel_rfl
def lwG (i f : Int) (p : ByteArray) (g k : Int) (d : ByteArray) (c : Int) : Prop := p.size ≤ maxLen ∧ d.size ≤ maxLen ∧ (c = 0 → cardB ⟨i, f, p, g, k, d⟩ = true)
set_option maxRecDepth 100000 in
set_option maxHeartbeats 6400000 in
theorem walk (s0 s1 : Option Addr) (n0 n1 c0 c1 : Nat) (w : World) (hL : K2.Laid w) (h0 : IsCode w.heap.size w (.slice s0 n0 c0) n0) (h1 : IsCode w.heap.size w (.slice s1 n1 c1) n1) :
    Calls Tryd.prog 3 #[.slice s0 n0 c0, .slice s1 n1 c1] w fun e w' => e = .returned (.bool true) ∧ Below w.heap.size w w' := by
  have m0 := h0.1
  have m1 := h1.1
  by_cases g0 : 1048576 < n0
  · have d0 : decide ((1048576 : Int) < (n0 : Int)) = true := by simp; omega
    go_enter Tryd.func3, Tryd.ntmps3
    go_wp2
    go_ret
    exact ⟨rfl, Below.refl _ _⟩
  have d0' : decide ((1048576 : Int) < (n0 : Int)) = false := by simp; omega
  by_cases g1 : 1048576 < n1
  · go_enter Tryd.func3, Tryd.ntmps3
    go_wp2
    go_ret
    exact ⟨rfl, Below.refl _ _⟩
  have d1' : decide ((1048576 : Int) < (n1 : Int)) = false := by simp; omega
  go_enter Tryd.func3, Tryd.ntmps3
  go_wp2_with fail
  have B := Below.refl w.heap.size w
  refine (DE.try_draw _ n0 _ h0).mono ?_
  rintro e v1 ⟨⟨a0, a1, a2, a3, a4, a5⟩, pin, rfl, hCa, hpin, hb⟩
  have B := bel2 B hb
  clear hb
  unfold cdV
  dsimp only
  go_wp2_with fail
  have lD1 := heap_alloc_new v1 (.cells #[.int .i64 a0, .int .i64 a1, .string a2, .int .i64 a3, .int .i64 a4, .string a5] 26)
  have B := bel2 B (albel v1 (.cells #[.int .i64 a0, .int .i64 a1, .string a2, .int .i64 a3, .int .i64 a4, .string a5] 26))
  generalize v1.heap.size = D1 at *
  generalize (v1.alloc (.cells #[.int .i64 a0, .int .i64 a1, .string a2, .int .i64 a3, .int .i64 a4, .string a5] 26)) = x1 at lD1 B ⊢
  obtain ⟨or, hOr⟩ : ∃ o, tryR ⟨a0, a1, a2, a3, a4, a5⟩ pin = o := ⟨_, rfl⟩
  have I1 : Hid (∀ W, K2.Laid W → Calls Tryd.prog 9 #[.agg #[.int .i64 a0, .int .i64 a1, .string a2, .int .i64 a3, .int .i64 a4, .string a5], .string pin] W fun e w' => e = .returned (coV or) ∧ Below W.heap.size W w') := fun W hW => by rw [← hOr]; exact Q0.try_impl ⟨a0, a1, a2, a3, a4, a5⟩ pin W hW (by unfold maxLen; omega) (by unfold maxLen; have := hCa.2.2.2.2.1; dsimp only at this ⊢; omega) (by unfold maxLen; have := hCa.2.2.2.2.2; dsimp only at this ⊢; omega)
  obtain ⟨⟨r0, r1, r2, r3, r4, r5⟩, r6, r7⟩ := or
  unfold coV at I1
  dsimp only at I1
  refine (I1.out _ (hL.below B)).mono ?_
  rintro e v2 ⟨rfl, hb⟩
  have B := bel2 B hb
  have lD1 := carry lD1 hb
  clear hb
  clear I1
  go_wp2_with fail
  have lD1 := carryA lD1 (.cells #[.int .i64 r0, .int .i64 r1, .string r2, .int .i64 r3, .int .i64 r4, .string r5, .string r6, .int .i64 r7] 30)
  have lE1 := heap_alloc_new v2 (.cells #[.int .i64 r0, .int .i64 r1, .string r2, .int .i64 r3, .int .i64 r4, .string r5, .string r6, .int .i64 r7] 30)
  have B := bel2 B (albel v2 (.cells #[.int .i64 r0, .int .i64 r1, .string r2, .int .i64 r3, .int .i64 r4, .string r5, .string r6, .int .i64 r7] 30))
  generalize v2.heap.size = E1 at *
  generalize (v2.alloc (.cells #[.int .i64 r0, .int .i64 r1, .string r2, .int .i64 r3, .int .i64 r4, .string r5, .string r6, .int .i64 r7] 30)) = x2 at lD1 lE1 B ⊢
  refine (DE.cp_draw _ n1 _ ((h1.below B (Nat.le_refl _)).up B.size)).mono ?_
  rintro e v3 ⟨⟨d0, d1, d2, d3, d4, d5⟩, old, fr, rfl, hCd, hold, hfr, hb⟩
  have B := bel2 B hb
  have lD1 := carry lD1 hb
  have lE1 := carry lE1 hb
  clear hb
  unfold cdV
  dsimp only
  go_wp2_with fail
  have lD1 := carryA lD1 (.cells #[.int .i64 d0, .int .i64 d1, .string d2, .int .i64 d3, .int .i64 d4, .string d5] 26)
  have lE1 := carryA lE1 (.cells #[.int .i64 d0, .int .i64 d1, .string d2, .int .i64 d3, .int .i64 d4, .string d5] 26)
  have lD2 := heap_alloc_new v3 (.cells #[.int .i64 d0, .int .i64 d1, .string d2, .int .i64 d3, .int .i64 d4, .string d5] 26)
  have B := bel2 B (albel v3 (.cells #[.int .i64 d0, .int .i64 d1, .string d2, .int .i64 d3, .int .i64 d4, .string d5] 26))
  generalize v3.heap.size = D2 at *
  generalize (v3.alloc (.cells #[.int .i64 d0, .int .i64 d1, .string d2, .int .i64 d3, .int .i64 d4, .string d5] 26)) = x3 at lD1 lE1 lD2 B ⊢
  obtain ⟨oy, hOy⟩ : ∃ o, cpR ⟨d0, d1, d2, d3, d4, d5⟩ old fr = o := ⟨_, rfl⟩
  have I2 : Hid (∀ W, K2.Laid W → Calls Tryd.prog 11 #[.agg #[.int .i64 d0, .int .i64 d1, .string d2, .int .i64 d3, .int .i64 d4, .string d5], .string old, .string fr] W fun e w' => e = .returned (coV oy) ∧ Below W.heap.size W w') := fun W hW => by rw [← hOy]; exact Q1.cp_impl ⟨d0, d1, d2, d3, d4, d5⟩ old fr W hW (by unfold maxLen; omega) (by unfold maxLen; omega) (by unfold maxLen; have := hCd.2.2.2.2.1; dsimp only at this ⊢; omega) (by unfold maxLen; have := hCd.2.2.2.2.2; dsimp only at this ⊢; omega) (by have := hCd.2.2.2.2.2; dsimp only at this ⊢; omega) hCd.1
  obtain ⟨⟨y0, y1, y2, y3, y4, y5⟩, y6, y7⟩ := oy
  unfold coV at I2
  dsimp only at I2
  refine (I2.out _ (hL.below B)).mono ?_
  rintro e v4 ⟨rfl, hb⟩
  have B := bel2 B hb
  have lD1 := carry lD1 hb
  have lE1 := carry lE1 hb
  have lD2 := carry lD2 hb
  clear hb
  clear I2
  go_wp2_with fail
  have lD1 := carryA lD1 (.cells #[.int .i64 y0, .int .i64 y1, .string y2, .int .i64 y3, .int .i64 y4, .string y5, .string y6, .int .i64 y7] 30)
  have lE1 := carryA lE1 (.cells #[.int .i64 y0, .int .i64 y1, .string y2, .int .i64 y3, .int .i64 y4, .string y5, .string y6, .int .i64 y7] 30)
  have lD2 := carryA lD2 (.cells #[.int .i64 y0, .int .i64 y1, .string y2, .int .i64 y3, .int .i64 y4, .string y5, .string y6, .int .i64 y7] 30)
  have lE2 := heap_alloc_new v4 (.cells #[.int .i64 y0, .int .i64 y1, .string y2, .int .i64 y3, .int .i64 y4, .string y5, .string y6, .int .i64 y7] 30)
  have B := bel2 B (albel v4 (.cells #[.int .i64 y0, .int .i64 y1, .string y2, .int .i64 y3, .int .i64 y4, .string y5, .string y6, .int .i64 y7] 30))
  generalize v4.heap.size = E2 at *
  generalize (v4.alloc (.cells #[.int .i64 y0, .int .i64 y1, .string y2, .int .i64 y3, .int .i64 y4, .string y5, .string y6, .int .i64 y7] 30)) = x4 at lD1 lE1 lD2 lE2 B ⊢
  refine (DD.new_draw _ n0 _ ((h0.below B (Nat.le_refl _)).up B.size)).mono ?_
  rintro e v5 ⟨id, ep, p, ix, dt, rfl, hid, hep, hp, hdt, hb⟩
  have B := bel2 B hb
  have lD1 := carry lD1 hb
  have lE1 := carry lE1 hb
  have lD2 := carry lD2 hb
  have lE2 := carry lE2 hb
  clear hb
  go_wp2_with fail
  have lD1 := carryA lD1 (.cells #[.int .i64 ix, .string dt] 24)
  have lE1 := carryA lE1 (.cells #[.int .i64 ix, .string dt] 24)
  have lD2 := carryA lD2 (.cells #[.int .i64 ix, .string dt] 24)
  have lE2 := carryA lE2 (.cells #[.int .i64 ix, .string dt] 24)
  have lD3 := heap_alloc_new v5 (.cells #[.int .i64 ix, .string dt] 24)
  have B := bel2 B (albel v5 (.cells #[.int .i64 ix, .string dt] 24))
  generalize v5.heap.size = D3 at *
  generalize (v5.alloc (.cells #[.int .i64 ix, .string dt] 24)) = x5 at lD1 lE1 lD2 lE2 lD3 B ⊢
  obtain ⟨oz, hOz⟩ : ∃ o, newR id ep p ix dt = o := ⟨_, rfl⟩
  have I3 : Hid (∀ W, K2.Laid W → Calls Tryd.prog 13 #[.int .i64 id, .int .i64 ep, .string p, .agg #[.int .i64 ix, .string dt]] W fun e w' => e = .returned (coV oz) ∧ Below W.heap.size W w') := fun W hW => by rw [← hOz]; exact P7.new_impl id ep p ix dt W hW hid.1 hid.2 (by unfold maxLen; omega) (by omega)
  obtain ⟨⟨z0, z1, z2, z3, z4, z5⟩, z6, z7⟩ := oz
  unfold coV at I3
  dsimp only at I3
  refine (I3.out _ (hL.below B)).mono ?_
  rintro e v6 ⟨rfl, hb⟩
  have B := bel2 B hb
  have lD1 := carry lD1 hb
  have lE1 := carry lE1 hb
  have lD2 := carry lD2 hb
  have lE2 := carry lE2 hb
  have lD3 := carry lD3 hb
  clear hb
  clear I3
  go_wp2_with fail
  have lD1 := carryA lD1 (.cells #[.int .i64 z0, .int .i64 z1, .string z2, .int .i64 z3, .int .i64 z4, .string z5, .string z6, .int .i64 z7] 30)
  have lE1 := carryA lE1 (.cells #[.int .i64 z0, .int .i64 z1, .string z2, .int .i64 z3, .int .i64 z4, .string z5, .string z6, .int .i64 z7] 30)
  have lD2 := carryA lD2 (.cells #[.int .i64 z0, .int .i64 z1, .string z2, .int .i64 z3, .int .i64 z4, .string z5, .string z6, .int .i64 z7] 30)
  have lE2 := carryA lE2 (.cells #[.int .i64 z0, .int .i64 z1, .string z2, .int .i64 z3, .int .i64 z4, .string z5, .string z6, .int .i64 z7] 30)
  have lD3 := carryA lD3 (.cells #[.int .i64 z0, .int .i64 z1, .string z2, .int .i64 z3, .int .i64 z4, .string z5, .string z6, .int .i64 z7] 30)
  have lE3 := heap_alloc_new v6 (.cells #[.int .i64 z0, .int .i64 z1, .string z2, .int .i64 z3, .int .i64 z4, .string z5, .string z6, .int .i64 z7] 30)
  have B := bel2 B (albel v6 (.cells #[.int .i64 z0, .int .i64 z1, .string z2, .int .i64 z3, .int .i64 z4, .string z5, .string z6, .int .i64 z7] 30))
  generalize v6.heap.size = E3 at *
  generalize (v6.alloc (.cells #[.int .i64 z0, .int .i64 z1, .string z2, .int .i64 z3, .int .i64 z4, .string z5, .string z6, .int .i64 z7] 30)) = x6 at lD1 lE1 lD2 lE2 lD3 lE3 B ⊢
  refine (DD.bytes_draw _ n1 _ ((h1.below B (Nat.le_refl _)).up B.size)).mono ?_
  rintro e v7 ⟨⟨b0, b1, b2, b3, b4, b5⟩, rfl, hCb, hb⟩
  have B := bel2 B hb
  have lD1 := carry lD1 hb
  have lE1 := carry lE1 hb
  have lD2 := carry lD2 hb
  have lE2 := carry lE2 hb
  have lD3 := carry lD3 hb
  have lE3 := carry lE3 hb
  clear hb
  unfold cdV
  dsimp only
  go_wp2_with fail
  have lD1 := carryA lD1 (.cells #[.int .i64 b0, .int .i64 b1, .string b2, .int .i64 b3, .int .i64 b4, .string b5] 26)
  have lE1 := carryA lE1 (.cells #[.int .i64 b0, .int .i64 b1, .string b2, .int .i64 b3, .int .i64 b4, .string b5] 26)
  have lD2 := carryA lD2 (.cells #[.int .i64 b0, .int .i64 b1, .string b2, .int .i64 b3, .int .i64 b4, .string b5] 26)
  have lE2 := carryA lE2 (.cells #[.int .i64 b0, .int .i64 b1, .string b2, .int .i64 b3, .int .i64 b4, .string b5] 26)
  have lD3 := carryA lD3 (.cells #[.int .i64 b0, .int .i64 b1, .string b2, .int .i64 b3, .int .i64 b4, .string b5] 26)
  have lE3 := carryA lE3 (.cells #[.int .i64 b0, .int .i64 b1, .string b2, .int .i64 b3, .int .i64 b4, .string b5] 26)
  have lD4 := heap_alloc_new v7 (.cells #[.int .i64 b0, .int .i64 b1, .string b2, .int .i64 b3, .int .i64 b4, .string b5] 26)
  have B := bel2 B (albel v7 (.cells #[.int .i64 b0, .int .i64 b1, .string b2, .int .i64 b3, .int .i64 b4, .string b5] 26))
  generalize v7.heap.size = D4 at *
  generalize (v7.alloc (.cells #[.int .i64 b0, .int .i64 b1, .string b2, .int .i64 b3, .int .i64 b4, .string b5] 26)) = x7 at lD1 lE1 lD2 lE2 lD3 lE3 lD4 B ⊢
  obtain ⟨t, hT⟩ : ∃ t, cardBytes ⟨b0, b1, b2, b3, b4, b5⟩ = t := ⟨_, rfl⟩
  have I4 : Hid (∀ W, Calls Tryd.prog 15 #[.agg #[.int .i64 b0, .int .i64 b1, .string b2, .int .i64 b3, .int .i64 b4, .string b5]] W fun e w' => e = .returned (.string t) ∧ Below W.heap.size W w') := fun W => by rw [← hT]; exact Q2.bytes_impl ⟨b0, b1, b2, b3, b4, b5⟩ W (by unfold maxLen; have := hCb.2.2.2.2.1; dsimp only at this ⊢; omega) (by unfold maxLen; have := hCb.2.2.2.2.2; dsimp only at this ⊢; omega) hCb.1
  refine (I4.out _).mono ?_
  rintro e v8 ⟨rfl, hb⟩
  have B := bel2 B hb
  have lD1 := carry lD1 hb
  have lE1 := carry lE1 hb
  have lD2 := carry lD2 hb
  have lE2 := carry lE2 hb
  have lD3 := carry lD3 hb
  have lE3 := carry lE3 hb
  have lD4 := carry lD4 hb
  clear hb
  clear I4
  go_wp2_with fail
  refine (DE.read_draw _ n0 _ ((h0.below B (Nat.le_refl _)).up B.size)).mono ?_
  rintro e v9 ⟨u, rfl, hu, hb⟩
  have B := bel2 B hb
  have lD1 := carry lD1 hb
  have lE1 := carry lE1 hb
  have lD2 := carry lD2 hb
  have lE2 := carry lE2 hb
  have lD3 := carry lD3 hb
  have lE3 := carry lE3 hb
  have lD4 := carry lD4 hb
  clear hb
  go_wp2_with fail
  obtain ⟨oq, hOq⟩ : ∃ o, readR u = o := ⟨_, rfl⟩
  have I5 : Hid (∀ W, Calls Tryd.prog 17 #[.string u] W fun e w' => e = .returned (coV oq) ∧ Below W.heap.size W w') := fun W => by rw [← hOq]; exact Q6.read_impl u W (by unfold maxLen; omega)
  obtain ⟨⟨q0, q1, q2, q3, q4, q5⟩, q6, q7⟩ := oq
  unfold coV at I5
  dsimp only at I5
  refine (I5.out _).mono ?_
  rintro e v10 ⟨rfl, hb⟩
  have B := bel2 B hb
  have lD1 := carry lD1 hb
  have lE1 := carry lE1 hb
  have lD2 := carry lD2 hb
  have lE2 := carry lE2 hb
  have lD3 := carry lD3 hb
  have lE3 := carry lE3 hb
  have lD4 := carry lD4 hb
  clear hb
  clear I5
  go_upto_region 13 with fail
  have lD1 := carryA lD1 (.cells #[.int .i64 q0, .int .i64 q1, .string q2, .int .i64 q3, .int .i64 q4, .string q5, .string q6, .int .i64 q7] 30)
  have lE1 := carryA lE1 (.cells #[.int .i64 q0, .int .i64 q1, .string q2, .int .i64 q3, .int .i64 q4, .string q5, .string q6, .int .i64 q7] 30)
  have lD2 := carryA lD2 (.cells #[.int .i64 q0, .int .i64 q1, .string q2, .int .i64 q3, .int .i64 q4, .string q5, .string q6, .int .i64 q7] 30)
  have lE2 := carryA lE2 (.cells #[.int .i64 q0, .int .i64 q1, .string q2, .int .i64 q3, .int .i64 q4, .string q5, .string q6, .int .i64 q7] 30)
  have lD3 := carryA lD3 (.cells #[.int .i64 q0, .int .i64 q1, .string q2, .int .i64 q3, .int .i64 q4, .string q5, .string q6, .int .i64 q7] 30)
  have lE3 := carryA lE3 (.cells #[.int .i64 q0, .int .i64 q1, .string q2, .int .i64 q3, .int .i64 q4, .string q5, .string q6, .int .i64 q7] 30)
  have lD4 := carryA lD4 (.cells #[.int .i64 q0, .int .i64 q1, .string q2, .int .i64 q3, .int .i64 q4, .string q5, .string q6, .int .i64 q7] 30)
  have lE5 := heap_alloc_new v10 (.cells #[.int .i64 q0, .int .i64 q1, .string q2, .int .i64 q3, .int .i64 q4, .string q5, .string q6, .int .i64 q7] 30)
  have B := bel2 B (albel v10 (.cells #[.int .i64 q0, .int .i64 q1, .string q2, .int .i64 q3, .int .i64 q4, .string q5, .string q6, .int .i64 q7] 30))
  generalize v10.heap.size = E5 at *
  generalize (v10.alloc (.cells #[.int .i64 q0, .int .i64 q1, .string q2, .int .i64 q3, .int .i64 q4, .string q5, .string q6, .int .i64 q7] 30)) = W at lD1 lE1 lD2 lE2 lD3 lE3 lD4 lE5 B ⊢
  have hLW := hL.below B
  have BW : Hid (Below w.heap.size w W) := B
  have KF : Hid (∀ x, Below W.heap.size W x → (x.cell? ⟨D1, 0, none⟩ = some (.int .i64 a0) ∧ x.cell? ⟨D1, 1, none⟩ = some (.int .i64 a1) ∧ x.cell? ⟨D1, 2, none⟩ = some (.string a2) ∧ x.cell? ⟨D1, 3, none⟩ = some (.int .i64 a3) ∧ x.cell? ⟨D1, 4, none⟩ = some (.int .i64 a4) ∧ x.cell? ⟨D1, 5, none⟩ = some (.string a5) ∧ x.cell? ⟨E1, 0, none⟩ = some (.int .i64 r0) ∧ x.cell? ⟨E1, 1, none⟩ = some (.int .i64 r1) ∧ x.cell? ⟨E1, 2, none⟩ = some (.string r2) ∧ x.cell? ⟨E1, 3, none⟩ = some (.int .i64 r3) ∧ x.cell? ⟨E1, 4, none⟩ = some (.int .i64 r4) ∧ x.cell? ⟨E1, 5, none⟩ = some (.string r5) ∧ x.cell? ⟨E1, 6, none⟩ = some (.string r6) ∧ x.cell? ⟨E1, 7, none⟩ = some (.int .i64 r7) ∧ x.cell? ⟨D2, 0, none⟩ = some (.int .i64 d0) ∧ x.cell? ⟨D2, 1, none⟩ = some (.int .i64 d1) ∧ x.cell? ⟨D2, 2, none⟩ = some (.string d2) ∧ x.cell? ⟨D2, 3, none⟩ = some (.int .i64 d3) ∧ x.cell? ⟨D2, 4, none⟩ = some (.int .i64 d4) ∧ x.cell? ⟨D2, 5, none⟩ = some (.string d5) ∧ x.cell? ⟨E2, 0, none⟩ = some (.int .i64 y0) ∧ x.cell? ⟨E2, 1, none⟩ = some (.int .i64 y1) ∧ x.cell? ⟨E2, 2, none⟩ = some (.string y2) ∧ x.cell? ⟨E2, 3, none⟩ = some (.int .i64 y3) ∧ x.cell? ⟨E2, 4, none⟩ = some (.int .i64 y4) ∧ x.cell? ⟨E2, 5, none⟩ = some (.string y5) ∧ x.cell? ⟨E2, 6, none⟩ = some (.string y6) ∧ x.cell? ⟨E2, 7, none⟩ = some (.int .i64 y7) ∧ x.cell? ⟨D3, 0, none⟩ = some (.int .i64 ix) ∧ x.cell? ⟨D3, 1, none⟩ = some (.string dt) ∧ x.cell? ⟨E3, 0, none⟩ = some (.int .i64 z0) ∧ x.cell? ⟨E3, 1, none⟩ = some (.int .i64 z1) ∧ x.cell? ⟨E3, 2, none⟩ = some (.string z2) ∧ x.cell? ⟨E3, 3, none⟩ = some (.int .i64 z3) ∧ x.cell? ⟨E3, 4, none⟩ = some (.int .i64 z4) ∧ x.cell? ⟨E3, 5, none⟩ = some (.string z5) ∧ x.cell? ⟨E3, 6, none⟩ = some (.string z6) ∧ x.cell? ⟨E3, 7, none⟩ = some (.int .i64 z7) ∧ x.cell? ⟨D4, 0, none⟩ = some (.int .i64 b0) ∧ x.cell? ⟨D4, 1, none⟩ = some (.int .i64 b1) ∧ x.cell? ⟨D4, 2, none⟩ = some (.string b2) ∧ x.cell? ⟨D4, 3, none⟩ = some (.int .i64 b3) ∧ x.cell? ⟨D4, 4, none⟩ = some (.int .i64 b4) ∧ x.cell? ⟨D4, 5, none⟩ = some (.string b5) ∧ x.cell? ⟨E5, 0, none⟩ = some (.int .i64 q0) ∧ x.cell? ⟨E5, 1, none⟩ = some (.int .i64 q1) ∧ x.cell? ⟨E5, 2, none⟩ = some (.string q2) ∧ x.cell? ⟨E5, 3, none⟩ = some (.int .i64 q3) ∧ x.cell? ⟨E5, 4, none⟩ = some (.int .i64 q4) ∧ x.cell? ⟨E5, 5, none⟩ = some (.string q5) ∧ x.cell? ⟨E5, 6, none⟩ = some (.string q6) ∧ x.cell? ⟨E5, 7, none⟩ = some (.int .i64 q7))) := fun x hx => ⟨block_cell (carry lD1 hx) 0, block_cell (carry lD1 hx) 1, block_cell (carry lD1 hx) 2, block_cell (carry lD1 hx) 3, block_cell (carry lD1 hx) 4, block_cell (carry lD1 hx) 5, block_cell (carry lE1 hx) 0, block_cell (carry lE1 hx) 1, block_cell (carry lE1 hx) 2, block_cell (carry lE1 hx) 3, block_cell (carry lE1 hx) 4, block_cell (carry lE1 hx) 5, block_cell (carry lE1 hx) 6, block_cell (carry lE1 hx) 7, block_cell (carry lD2 hx) 0, block_cell (carry lD2 hx) 1, block_cell (carry lD2 hx) 2, block_cell (carry lD2 hx) 3, block_cell (carry lD2 hx) 4, block_cell (carry lD2 hx) 5, block_cell (carry lE2 hx) 0, block_cell (carry lE2 hx) 1, block_cell (carry lE2 hx) 2, block_cell (carry lE2 hx) 3, block_cell (carry lE2 hx) 4, block_cell (carry lE2 hx) 5, block_cell (carry lE2 hx) 6, block_cell (carry lE2 hx) 7, block_cell (carry lD3 hx) 0, block_cell (carry lD3 hx) 1, block_cell (carry lE3 hx) 0, block_cell (carry lE3 hx) 1, block_cell (carry lE3 hx) 2, block_cell (carry lE3 hx) 3, block_cell (carry lE3 hx) 4, block_cell (carry lE3 hx) 5, block_cell (carry lE3 hx) 6, block_cell (carry lE3 hx) 7, block_cell (carry lD4 hx) 0, block_cell (carry lD4 hx) 1, block_cell (carry lD4 hx) 2, block_cell (carry lD4 hx) 3, block_cell (carry lD4 hx) 4, block_cell (carry lD4 hx) 5, block_cell (carry lE5 hx) 0, block_cell (carry lE5 hx) 1, block_cell (carry lE5 hx) 2, block_cell (carry lE5 hx) 3, block_cell (carry lE5 hx) 4, block_cell (carry lE5 hx) 5, block_cell (carry lE5 hx) 6, block_cell (carry lE5 hx) 7⟩
  clear B lD1 lE1 lD2 lE2 lD3 lE3 lD4 lE5
  have hzA : a2.size ≤ 100 ∧ a5.size ≤ 100 := ⟨hCa.2.2.2.2.1, hCa.2.2.2.2.2⟩
  have hzD : d2.size ≤ 100 ∧ d5.size ≤ 100 := ⟨hCd.2.2.2.2.1, hCd.2.2.2.2.2⟩
  have hzB : b2.size ≤ 100 ∧ b5.size ≤ 100 := ⟨hCb.2.2.2.2.1, hCb.2.2.2.2.2⟩
  have G1 : lwG r0 r1 r2 r3 r4 r5 r7 := by
    have h1 := YP.try_small (c := ⟨a0, a1, a2, a3, a4, a5⟩) (pin := pin) (by dsimp only; omega) (by dsimp only; omega)
    have h2 := YP.try_right (c := ⟨a0, a1, a2, a3, a4, a5⟩) (pin := pin)
    rw [hOr] at h1 h2
    exact ⟨by unfold maxLen; have := h1.1; dsimp only at this; omega, by unfold maxLen; have := h1.2.1; dsimp only at this; omega, h2⟩
  have G2 : lwG y0 y1 y2 y3 y4 y5 y7 := by
    have h1 := YP.cp_small (c := ⟨d0, d1, d2, d3, d4, d5⟩) (old := old) (pin := fr) (by dsimp only; omega) (by dsimp only; omega)
    have h2 := YP.cp_right (c := ⟨d0, d1, d2, d3, d4, d5⟩) (old := old) (pin := fr)
    rw [hOy] at h1 h2
    exact ⟨by unfold maxLen; have := h1.1; dsimp only at this; omega, by unfold maxLen; have := h1.2; dsimp only at this; omega, h2⟩
  have G3 : lwG z0 z1 z2 z3 z4 z5 z7 := by
    have h1 := YP.new_small (id := id) (ep := ep) (pin := p) (ix := ix) (dt := dt) (by omega)
    have h2 := YP.new_right (id := id) (ep := ep) (pin := p) (ix := ix) (dt := dt)
    rw [hOz] at h1 h2
    exact ⟨by unfold maxLen; have := h1.1; dsimp only at this; omega, by unfold maxLen; have := h1.2; dsimp only at this; omega, h2⟩
  have G5 : lwG q0 q1 q2 q3 q4 q5 q7 := by
    have h1 := YP.read_small (u := u)
    have h2 := fun h => (YP.read_zero (u := u) h).2
    rw [hOq] at h1 h2
    exact ⟨by unfold maxLen; have := h1.1; dsimp only at this; omega, by unfold maxLen; have := h1.2; dsimp only at this; omega, h2⟩
  have LW : Hid (∀ i f p g k d s c x, lwG i f p g k d c → Below W.heap.size W x → Calls Tryd.prog 18 #[.agg #[.int .i64 i, .int .i64 f, .string p, .int .i64 g, .int .i64 k, .string d, .string s, .int .i64 c], .agg #[.int .i64 i, .int .i64 f, .string p, .int .i64 g, .int .i64 k, .string d, .string s, .int .i64 c]] x fun e w' => e = .returned (.bool true) ∧ Below W.heap.size W w') := fun i f p g k d s c x hg hx => (P1.lw_same ⟨⟨i, f, p, g, k, d⟩, s, c⟩ x hg.1 hg.2.1 hg.2.2).mono fun e w' h => ⟨h.1, bel2 hx h.2⟩
  have S1 : Hid (∀ x, Below W.heap.size W x → Calls Tryd.prog 19 #[.agg #[.int .i64 a0, .int .i64 a1, .string a2, .int .i64 a3, .int .i64 a4, .string a5], .string pin] x fun e w' => e = .returned (.agg #[.int .i64 r0, .int .i64 r1, .string r2, .int .i64 r3, .int .i64 r4, .string r5, .string r6, .int .i64 r7]) ∧ Below W.heap.size W w') := fun x hx => by
    have h := P4.try_spec ⟨a0, a1, a2, a3, a4, a5⟩ pin x (by unfold maxLen; omega) (by unfold maxLen; dsimp only; omega) (by unfold maxLen; dsimp only; omega)
    rw [hOr] at h
    exact h.mono fun e w' h => ⟨h.1, bel2 hx h.2⟩
  have S2 : Hid (∀ x, Below W.heap.size W x → Calls Tryd.prog 20 #[.agg #[.int .i64 d0, .int .i64 d1, .string d2, .int .i64 d3, .int .i64 d4, .string d5], .string old, .string fr] x fun e w' => e = .returned (.agg #[.int .i64 y0, .int .i64 y1, .string y2, .int .i64 y3, .int .i64 y4, .string y5, .string y6, .int .i64 y7]) ∧ Below W.heap.size W w') := fun x hx => by
    have h := P8.cp_spec ⟨d0, d1, d2, d3, d4, d5⟩ old fr x (by unfold maxLen; omega) (by unfold maxLen; omega) (by unfold maxLen; dsimp only; omega) (by unfold maxLen; dsimp only; omega)
    rw [hOy] at h
    exact h.mono fun e w' h => ⟨h.1, bel2 hx h.2⟩
  have S3 : Hid (∀ x, Below W.heap.size W x → Calls Tryd.prog 21 #[.int .i64 id, .int .i64 ep, .string p, .agg #[.int .i64 ix, .string dt]] x fun e w' => e = .returned (.agg #[.int .i64 z0, .int .i64 z1, .string z2, .int .i64 z3, .int .i64 z4, .string z5, .string z6, .int .i64 z7]) ∧ Below W.heap.size W w') := fun x hx => by
    have h := P3.new_spec id ep p ix dt x (by unfold maxLen; omega) (by unfold maxLen; omega)
    rw [hOz] at h
    exact h.mono fun e w' h => ⟨h.1, bel2 hx h.2⟩
  have S4 : Hid (∀ x, Below W.heap.size W x → Calls Tryd.prog 22 #[.agg #[.int .i64 b0, .int .i64 b1, .string b2, .int .i64 b3, .int .i64 b4, .string b5]] x fun e w' => e = .returned (.string t) ∧ Below W.heap.size W w') := fun x hx => by
    have h := N2.bytes_spec ⟨b0, b1, b2, b3, b4, b5⟩ x (by unfold maxLen; dsimp only; omega) (by unfold maxLen; dsimp only; omega) hCb.1
    rw [hT] at h
    exact h.mono fun e w' h => ⟨h.1, bel2 hx h.2⟩
  have S5 : Hid (∀ x, Below W.heap.size W x → Calls Tryd.prog 23 #[.string u] x fun e w' => e = .returned (.agg #[.int .i64 q0, .int .i64 q1, .string q2, .int .i64 q3, .int .i64 q4, .string q5, .string q6, .int .i64 q7]) ∧ Below W.heap.size W w') := fun x hx => by
    have h := Q4.read_spec u x (by unfold maxLen; omega)
    rw [hOq] at h
    exact h.mono fun e w' h => ⟨h.1, bel2 hx h.2⟩
  obtain ⟨pb, hPb⟩ : ∃ b, pinB pin = b := ⟨_, rfl⟩
  obtain ⟨cb, hCb2⟩ : ∃ b, cardB ⟨a0, a1, a2, a3, a4, a5⟩ = b := ⟨_, rfl⟩
  have S6 : Hid (∀ x, Below W.heap.size W x → Calls Tryd.prog 24 #[.string pin] x fun e w' => e = .returned (.bool pb) ∧ Below W.heap.size W w') := fun x hx => by
    have h := P0.pin_impl pin x (by unfold maxLen; omega)
    rw [hPb] at h
    exact h.mono fun e w' h => ⟨h.1, bel2 hx h.2⟩
  have S7 : Hid (∀ x, Below W.heap.size W x → Calls Tryd.prog 25 #[.string pin] x fun e w' => e = .returned (.bool pb) ∧ Below W.heap.size W w') := fun x hx => by
    have h := N0.pin_spec pin x (by unfold maxLen; omega)
    rw [hPb] at h
    exact h.mono fun e w' h => ⟨h.1, bel2 hx h.2⟩
  have S8 : Hid (∀ x, Below W.heap.size W x → Calls Tryd.prog 26 #[.agg #[.int .i64 a0, .int .i64 a1, .string a2, .int .i64 a3, .int .i64 a4, .string a5]] x fun e w' => e = .returned (.bool cb) ∧ Below W.heap.size W w') := fun x hx => by
    have h := P0.card_impl ⟨a0, a1, a2, a3, a4, a5⟩ x (by unfold maxLen; dsimp only; omega) (by unfold maxLen; dsimp only; omega)
    rw [hCb2] at h
    exact h.mono fun e w' h => ⟨h.1, bel2 hx h.2⟩
  have S9 : Hid (∀ x, Below W.heap.size W x → Calls Tryd.prog 27 #[.agg #[.int .i64 a0, .int .i64 a1, .string a2, .int .i64 a3, .int .i64 a4, .string a5]] x fun e w' => e = .returned (.bool cb) ∧ Below W.heap.size W w') := fun x hx => by
    have h := N0.card_spec ⟨a0, a1, a2, a3, a4, a5⟩ x (by unfold maxLen; dsimp only; omega) (by unfold maxLen; dsimp only; omega)
    rw [hCb2] at h
    exact h.mono fun e w' h => ⟨h.1, bel2 hx h.2⟩
  clear hPb hCb2
  go_cut [122] (fun s x => s = .bool false ∧ Below W.heap.size W x)
  case first => as_aux_lemma =>
    have hb : Below W.heap.size W W := Below.refl _ _
    have htt : (t.toList == t.toList) = true := by simp
    clear hCa hCd hCb hzA hzD hzB hOr hOy hOz hOq hT hL hLW BW h0 h1
    go_region_held3 (fun x => x.cell? ⟨D1, 0, none⟩ = some (.int .i64 a0) ∧ x.cell? ⟨D1, 1, none⟩ = some (.int .i64 a1) ∧ x.cell? ⟨D1, 2, none⟩ = some (.string a2) ∧ x.cell? ⟨D1, 3, none⟩ = some (.int .i64 a3) ∧ x.cell? ⟨D1, 4, none⟩ = some (.int .i64 a4) ∧ x.cell? ⟨D1, 5, none⟩ = some (.string a5) ∧ x.cell? ⟨E1, 0, none⟩ = some (.int .i64 r0) ∧ x.cell? ⟨E1, 1, none⟩ = some (.int .i64 r1) ∧ x.cell? ⟨E1, 2, none⟩ = some (.string r2) ∧ x.cell? ⟨E1, 3, none⟩ = some (.int .i64 r3) ∧ x.cell? ⟨E1, 4, none⟩ = some (.int .i64 r4) ∧ x.cell? ⟨E1, 5, none⟩ = some (.string r5) ∧ x.cell? ⟨E1, 6, none⟩ = some (.string r6) ∧ x.cell? ⟨E1, 7, none⟩ = some (.int .i64 r7) ∧ x.cell? ⟨D2, 0, none⟩ = some (.int .i64 d0) ∧ x.cell? ⟨D2, 1, none⟩ = some (.int .i64 d1) ∧ x.cell? ⟨D2, 2, none⟩ = some (.string d2) ∧ x.cell? ⟨D2, 3, none⟩ = some (.int .i64 d3) ∧ x.cell? ⟨D2, 4, none⟩ = some (.int .i64 d4) ∧ x.cell? ⟨D2, 5, none⟩ = some (.string d5) ∧ x.cell? ⟨E2, 0, none⟩ = some (.int .i64 y0) ∧ x.cell? ⟨E2, 1, none⟩ = some (.int .i64 y1) ∧ x.cell? ⟨E2, 2, none⟩ = some (.string y2) ∧ x.cell? ⟨E2, 3, none⟩ = some (.int .i64 y3) ∧ x.cell? ⟨E2, 4, none⟩ = some (.int .i64 y4) ∧ x.cell? ⟨E2, 5, none⟩ = some (.string y5) ∧ x.cell? ⟨E2, 6, none⟩ = some (.string y6) ∧ x.cell? ⟨E2, 7, none⟩ = some (.int .i64 y7) ∧ x.cell? ⟨D3, 0, none⟩ = some (.int .i64 ix) ∧ x.cell? ⟨D3, 1, none⟩ = some (.string dt) ∧ x.cell? ⟨E3, 0, none⟩ = some (.int .i64 z0) ∧ x.cell? ⟨E3, 1, none⟩ = some (.int .i64 z1) ∧ x.cell? ⟨E3, 2, none⟩ = some (.string z2) ∧ x.cell? ⟨E3, 3, none⟩ = some (.int .i64 z3) ∧ x.cell? ⟨E3, 4, none⟩ = some (.int .i64 z4) ∧ x.cell? ⟨E3, 5, none⟩ = some (.string z5) ∧ x.cell? ⟨E3, 6, none⟩ = some (.string z6) ∧ x.cell? ⟨E3, 7, none⟩ = some (.int .i64 z7) ∧ x.cell? ⟨D4, 0, none⟩ = some (.int .i64 b0) ∧ x.cell? ⟨D4, 1, none⟩ = some (.int .i64 b1) ∧ x.cell? ⟨D4, 2, none⟩ = some (.string b2) ∧ x.cell? ⟨D4, 3, none⟩ = some (.int .i64 b3) ∧ x.cell? ⟨D4, 4, none⟩ = some (.int .i64 b4) ∧ x.cell? ⟨D4, 5, none⟩ = some (.string b5) ∧ x.cell? ⟨E5, 0, none⟩ = some (.int .i64 q0) ∧ x.cell? ⟨E5, 1, none⟩ = some (.int .i64 q1) ∧ x.cell? ⟨E5, 2, none⟩ = some (.string q2) ∧ x.cell? ⟨E5, 3, none⟩ = some (.int .i64 q3) ∧ x.cell? ⟨E5, 4, none⟩ = some (.int .i64 q4) ∧ x.cell? ⟨E5, 5, none⟩ = some (.string q5) ∧ x.cell? ⟨E5, 6, none⟩ = some (.string q6) ∧ x.cell? ⟨E5, 7, none⟩ = some (.int .i64 q7))
      (first
        | with_reducible exact KF.out _ hb
        | with_reducible exact KF.out _ hb.drew)
      (first
        | (go_at_call 19
           with_reducible refine (S1.out _ (by first | exact hb | exact hb.drew)).mono ?_
           rintro e xn ⟨rfl, hb⟩)
        | (go_at_call 18
           with_reducible refine (LW.out _ _ _ _ _ _ _ _ _ (by assumption) hb).mono ?_
           rintro e xn ⟨rfl, hb⟩)
        | (go_at_call 20
           with_reducible refine (S2.out _ hb).mono ?_
           rintro e xn ⟨rfl, hb⟩)
        | (go_at_call 21
           with_reducible refine (S3.out _ hb).mono ?_
           rintro e xn ⟨rfl, hb⟩)
        | (go_at_call 22
           with_reducible refine (S4.out _ hb).mono ?_
           rintro e xn ⟨rfl, hb⟩)
        | (go_at_call 23
           with_reducible refine (S5.out _ hb).mono ?_
           rintro e xn ⟨rfl, hb⟩)
        | (go_at_call 24
           with_reducible refine (S6.out _ hb).mono ?_
           rintro e xn ⟨rfl, hb⟩)
        | (go_at_call 25
           with_reducible refine (S7.out _ hb).mono ?_
           rintro e xn ⟨rfl, hb⟩)
        | (go_at_call 26
           with_reducible refine (S8.out _ hb).mono ?_
           rintro e xn ⟨rfl, hb⟩)
        | (go_at_call 27
           with_reducible refine (S9.out _ hb).mono ?_
           rintro e xn ⟨rfl, hb⟩))
    go_wp2_with fail
    go_meet
    case rel => exact ⟨rfl, hb⟩
  case rest =>
    obtain ⟨rfl, hb⟩ := hcut
    clear S1 S2 S3 S4 S5 S6 S7 S8 S9
    have KG : Hid (∀ x, Below W.heap.size W x → (x.cell? ⟨D4, 0, none⟩ = some (.int .i64 b0) ∧ x.cell? ⟨D4, 1, none⟩ = some (.int .i64 b1) ∧ x.cell? ⟨D4, 2, none⟩ = some (.string b2) ∧ x.cell? ⟨D4, 3, none⟩ = some (.int .i64 b3) ∧ x.cell? ⟨D4, 4, none⟩ = some (.int .i64 b4) ∧ x.cell? ⟨D4, 5, none⟩ = some (.string b5) ∧ x.cell? ⟨E5, 0, none⟩ = some (.int .i64 q0) ∧ x.cell? ⟨E5, 1, none⟩ = some (.int .i64 q1) ∧ x.cell? ⟨E5, 2, none⟩ = some (.string q2) ∧ x.cell? ⟨E5, 3, none⟩ = some (.int .i64 q3) ∧ x.cell? ⟨E5, 4, none⟩ = some (.int .i64 q4) ∧ x.cell? ⟨E5, 5, none⟩ = some (.string q5) ∧ x.cell? ⟨E5, 6, none⟩ = some (.string q6) ∧ x.cell? ⟨E5, 7, none⟩ = some (.int .i64 q7))) := fun x hx => by have h := KF.out x hx; exact ⟨h.2.2.2.2.2.2.2.2.2.2.2.2.2.2.2.2.2.2.2.2.2.2.2.2.2.2.2.2.2.2.2.2.2.2.2.2.2.2.1, h.2.2.2.2.2.2.2.2.2.2.2.2.2.2.2.2.2.2.2.2.2.2.2.2.2.2.2.2.2.2.2.2.2.2.2.2.2.2.2.1, h.2.2.2.2.2.2.2.2.2.2.2.2.2.2.2.2.2.2.2.2.2.2.2.2.2.2.2.2.2.2.2.2.2.2.2.2.2.2.2.2.1, h.2.2.2.2.2.2.2.2.2.2.2.2.2.2.2.2.2.2.2.2.2.2.2.2.2.2.2.2.2.2.2.2.2.2.2.2.2.2.2.2.2.1, h.2.2.2.2.2.2.2.2.2.2.2.2.2.2.2.2.2.2.2.2.2.2.2.2.2.2.2.2.2.2.2.2.2.2.2.2.2.2.2.2.2.2.1, h.2.2.2.2.2.2.2.2.2.2.2.2.2.2.2.2.2.2.2.2.2.2.2.2.2.2.2.2.2.2.2.2.2.2.2.2.2.2.2.2.2.2.2.1, h.2.2.2.2.2.2.2.2.2.2.2.2.2.2.2.2.2.2.2.2.2.2.2.2.2.2.2.2.2.2.2.2.2.2.2.2.2.2.2.2.2.2.2.2.1, h.2.2.2.2.2.2.2.2.2.2.2.2.2.2.2.2.2.2.2.2.2.2.2.2.2.2.2.2.2.2.2.2.2.2.2.2.2.2.2.2.2.2.2.2.2.1, h.2.2.2.2.2.2.2.2.2.2.2.2.2.2.2.2.2.2.2.2.2.2.2.2.2.2.2.2.2.2.2.2.2.2.2.2.2.2.2.2.2.2.2.2.2.2.1, h.2.2.2.2.2.2.2.2.2.2.2.2.2.2.2.2.2.2.2.2.2.2.2.2.2.2.2.2.2.2.2.2.2.2.2.2.2.2.2.2.2.2.2.2.2.2.2.1, h.2.2.2.2.2.2.2.2.2.2.2.2.2.2.2.2.2.2.2.2.2.2.2.2.2.2.2.2.2.2.2.2.2.2.2.2.2.2.2.2.2.2.2.2.2.2.2.2.1, h.2.2.2.2.2.2.2.2.2.2.2.2.2.2.2.2.2.2.2.2.2.2.2.2.2.2.2.2.2.2.2.2.2.2.2.2.2.2.2.2.2.2.2.2.2.2.2.2.2.1, h.2.2.2.2.2.2.2.2.2.2.2.2.2.2.2.2.2.2.2.2.2.2.2.2.2.2.2.2.2.2.2.2.2.2.2.2.2.2.2.2.2.2.2.2.2.2.2.2.2.2.1, h.2.2.2.2.2.2.2.2.2.2.2.2.2.2.2.2.2.2.2.2.2.2.2.2.2.2.2.2.2.2.2.2.2.2.2.2.2.2.2.2.2.2.2.2.2.2.2.2.2.2.2⟩
    have KH : Hid (∀ x, Below W.heap.size W x → (x.cell? ⟨D2, 0, none⟩ = some (.int .i64 d0) ∧ x.cell? ⟨D2, 1, none⟩ = some (.int .i64 d1) ∧ x.cell? ⟨D2, 2, none⟩ = some (.string d2) ∧ x.cell? ⟨D2, 3, none⟩ = some (.int .i64 d3) ∧ x.cell? ⟨D2, 4, none⟩ = some (.int .i64 d4) ∧ x.cell? ⟨D2, 5, none⟩ = some (.string d5) ∧ x.cell? ⟨E2, 0, none⟩ = some (.int .i64 y0) ∧ x.cell? ⟨E2, 1, none⟩ = some (.int .i64 y1) ∧ x.cell? ⟨E2, 2, none⟩ = some (.string y2) ∧ x.cell? ⟨E2, 3, none⟩ = some (.int .i64 y3) ∧ x.cell? ⟨E2, 4, none⟩ = some (.int .i64 y4) ∧ x.cell? ⟨E2, 5, none⟩ = some (.string y5) ∧ x.cell? ⟨E2, 6, none⟩ = some (.string y6) ∧ x.cell? ⟨E2, 7, none⟩ = some (.int .i64 y7))) := fun x hx => by have h := KF.out x hx; exact ⟨h.2.2.2.2.2.2.2.2.2.2.2.2.2.2.1, h.2.2.2.2.2.2.2.2.2.2.2.2.2.2.2.1, h.2.2.2.2.2.2.2.2.2.2.2.2.2.2.2.2.1, h.2.2.2.2.2.2.2.2.2.2.2.2.2.2.2.2.2.1, h.2.2.2.2.2.2.2.2.2.2.2.2.2.2.2.2.2.2.1, h.2.2.2.2.2.2.2.2.2.2.2.2.2.2.2.2.2.2.2.1, h.2.2.2.2.2.2.2.2.2.2.2.2.2.2.2.2.2.2.2.2.1, h.2.2.2.2.2.2.2.2.2.2.2.2.2.2.2.2.2.2.2.2.2.1, h.2.2.2.2.2.2.2.2.2.2.2.2.2.2.2.2.2.2.2.2.2.2.1, h.2.2.2.2.2.2.2.2.2.2.2.2.2.2.2.2.2.2.2.2.2.2.2.1, h.2.2.2.2.2.2.2.2.2.2.2.2.2.2.2.2.2.2.2.2.2.2.2.2.1, h.2.2.2.2.2.2.2.2.2.2.2.2.2.2.2.2.2.2.2.2.2.2.2.2.2.1, h.2.2.2.2.2.2.2.2.2.2.2.2.2.2.2.2.2.2.2.2.2.2.2.2.2.2.1, h.2.2.2.2.2.2.2.2.2.2.2.2.2.2.2.2.2.2.2.2.2.2.2.2.2.2.2.1⟩
    have KI : Hid (∀ x, Below W.heap.size W x → (x.cell? ⟨E3, 0, none⟩ = some (.int .i64 z0) ∧ x.cell? ⟨E3, 1, none⟩ = some (.int .i64 z1) ∧ x.cell? ⟨E3, 2, none⟩ = some (.string z2) ∧ x.cell? ⟨E3, 3, none⟩ = some (.int .i64 z3) ∧ x.cell? ⟨E3, 4, none⟩ = some (.int .i64 z4) ∧ x.cell? ⟨E3, 5, none⟩ = some (.string z5) ∧ x.cell? ⟨E3, 6, none⟩ = some (.string z6) ∧ x.cell? ⟨E3, 7, none⟩ = some (.int .i64 z7) ∧ x.cell? ⟨D3, 0, none⟩ = some (.int .i64 ix) ∧ x.cell? ⟨D3, 1, none⟩ = some (.string dt))) := fun x hx => by have h := KF.out x hx; exact ⟨h.2.2.2.2.2.2.2.2.2.2.2.2.2.2.2.2.2.2.2.2.2.2.2.2.2.2.2.2.2.2.1, h.2.2.2.2.2.2.2.2.2.2.2.2.2.2.2.2.2.2.2.2.2.2.2.2.2.2.2.2.2.2.2.1, h.2.2.2.2.2.2.2.2.2.2.2.2.2.2.2.2.2.2.2.2.2.2.2.2.2.2.2.2.2.2.2.2.1, h.2.2.2.2.2.2.2.2.2.2.2.2.2.2.2.2.2.2.2.2.2.2.2.2.2.2.2.2.2.2.2.2.2.1, h.2.2.2.2.2.2.2.2.2.2.2.2.2.2.2.2.2.2.2.2.2.2.2.2.2.2.2.2.2.2.2.2.2.2.1, h.2.2.2.2.2.2.2.2.2.2.2.2.2.2.2.2.2.2.2.2.2.2.2.2.2.2.2.2.2.2.2.2.2.2.2.1, h.2.2.2.2.2.2.2.2.2.2.2.2.2.2.2.2.2.2.2.2.2.2.2.2.2.2.2.2.2.2.2.2.2.2.2.2.1, h.2.2.2.2.2.2.2.2.2.2.2.2.2.2.2.2.2.2.2.2.2.2.2.2.2.2.2.2.2.2.2.2.2.2.2.2.2.1, h.2.2.2.2.2.2.2.2.2.2.2.2.2.2.2.2.2.2.2.2.2.2.2.2.2.2.2.2.1, h.2.2.2.2.2.2.2.2.2.2.2.2.2.2.2.2.2.2.2.2.2.2.2.2.2.2.2.2.2.1⟩
    go_upto_region 15 with fail
    go_cut [143] (fun s x => s = .bool false ∧ Below W.heap.size W x)
    case first => as_aux_lemma =>
      clear hCa hCd hzA hzD hOr hOy hOz hL hLW BW h0 h1 KF KH KI G1 G2 G3 G5 LW
      have hq2 : (q2.toList == q2.toList) = true := by simp
      have hb2' : (b2.toList == b2.toList) = true := by simp
      have hb5' : (b5.toList == b5.toList) = true := by simp
      have huu : (u.toList == u.toList) = true := by simp
      have hQR : q7 = 0 → cardBytes ⟨q0, q1, q2, q3, q4, q5⟩ = u := fun h => by have h2 := (YP.read_zero (u := u) (by rw [hOq]; exact h)).1; rw [hOq] at h2; exact h2
      have hQS : q2.size ≤ 8000 ∧ q5.size ≤ 8000 := by have h1 := YP.read_small (u := u); rw [hOq] at h1; exact h1
      have hQI : q7 = 0 → -9223372036854775808 ≤ q0 ∧ q0 ≤ 9223372036854775807 := fun h => by have h2 := (YP.read_zero (u := u) (by rw [hOq]; exact h)).2; rw [hOq] at h2; have := (cardB_parts h2).1; dsimp only at this; omega
      have CQ : Hid (q7 = 0 → ∀ x, Below W.heap.size W x → Calls Tryd.prog 15 #[.agg #[.int .i64 q0, .int .i64 q1, .string q2, .int .i64 q3, .int .i64 q4, .string q5]] x fun e w' => e = .returned (.string u) ∧ Below W.heap.size W w') := fun hq x hx => by
        have h := Q2.bytes_impl ⟨q0, q1, q2, q3, q4, q5⟩ x (by unfold maxLen; dsimp only; omega) (by unfold maxLen; dsimp only; omega) (hQI hq)
        rw [hQR hq] at h
        exact h.mono fun e w' h => ⟨h.1, bel2 hx h.2⟩
      clear hQR hQS hQI hOq
      cases hcb : cardB ⟨b0, b1, b2, b3, b4, b5⟩ with
      | false =>
        rw [YP.bytes_empty hcb] at hT
        subst hT
        clear hcb hCb hzB
        by_cases hq0 : q7 = 0
        · have hqt : (q7 == 0) = true := by simp [hq0]
          have hb := hb.drew
          refine wp_region_held_drew (S := (fun x => x.cell? ⟨D4, 0, none⟩ = some (.int .i64 b0) ∧ x.cell? ⟨D4, 1, none⟩ = some (.int .i64 b1) ∧ x.cell? ⟨D4, 2, none⟩ = some (.string b2) ∧ x.cell? ⟨D4, 3, none⟩ = some (.int .i64 b3) ∧ x.cell? ⟨D4, 4, none⟩ = some (.int .i64 b4) ∧ x.cell? ⟨D4, 5, none⟩ = some (.string b5) ∧ x.cell? ⟨E5, 0, none⟩ = some (.int .i64 q0) ∧ x.cell? ⟨E5, 1, none⟩ = some (.int .i64 q1) ∧ x.cell? ⟨E5, 2, none⟩ = some (.string q2) ∧ x.cell? ⟨E5, 3, none⟩ = some (.int .i64 q3) ∧ x.cell? ⟨E5, 4, none⟩ = some (.int .i64 q4) ∧ x.cell? ⟨E5, 5, none⟩ = some (.string q5) ∧ x.cell? ⟨E5, 6, none⟩ = some (.string q6) ∧ x.cell? ⟨E5, 7, none⟩ = some (.int .i64 q7))) (by kernel_rfl) (KG.out _ hb) (fun hHeld => ?_)
          refine TK.take_at 0 (some 123) (v := ?va0) rfl rfl (by kernel_rfl) (by kernel_rfl) (by kernel_rfl) (fun _ _ _ h => h) (Or.inl ⟨rfl, ?ha0⟩) hHeld ?ra0
          case ha0 => intro wq hSw; (try dsimp only at hSw); go_simp; all_goals (with_reducible rfl)
          try simp only [Act.put, List.setIfInBounds_toArray, List.set_cons_zero, List.set_cons_succ]
          refine TK.take_at 1 (some 124) (v := ?va1) rfl rfl (by kernel_rfl) (by kernel_rfl) (by kernel_rfl) (fun _ _ _ h => h) (Or.inl ⟨rfl, ?ha1⟩) hHeld ?ra1
          case ha1 => intro wq hSw; (try dsimp only at hSw); go_simp; all_goals (with_reducible rfl)
          try simp only [Act.put, List.setIfInBounds_toArray, List.set_cons_zero, List.set_cons_succ]
          refine TK.take_at 2 (some 125) (v := ?va2) rfl rfl (by kernel_rfl) (by kernel_rfl) (by kernel_rfl) (fun _ _ _ h => h) (Or.inl ⟨rfl, ?ha2⟩) hHeld ?ra2
          case ha2 => intro wq hSw; (try dsimp only at hSw); go_simp; all_goals (with_reducible rfl)
          try simp only [Act.put, List.setIfInBounds_toArray, List.set_cons_zero, List.set_cons_succ]
          refine TK.take_at 3 (some 126) (v := undef) rfl rfl (by kernel_rfl) (by kernel_rfl) (by kernel_rfl) (fun _ _ _ h => h) (Or.inr ⟨rfl, rfl⟩) hHeld ?_
          try simp only [Act.put, List.setIfInBounds_toArray, List.set_cons_zero, List.set_cons_succ]
          refine TK.take_at 4 (some 127) (v := undef) rfl rfl (by kernel_rfl) (by kernel_rfl) (by kernel_rfl) (fun _ _ _ h => h) (Or.inr ⟨rfl, rfl⟩) hHeld ?_
          try simp only [Act.put, List.setIfInBounds_toArray, List.set_cons_zero, List.set_cons_succ]
          refine TK.take_at 5 (some 128) (v := undef) rfl rfl (by kernel_rfl) (by kernel_rfl) (by kernel_rfl) (fun _ _ _ h => h) (Or.inr ⟨rfl, rfl⟩) hHeld ?_
          try simp only [Act.put, List.setIfInBounds_toArray, List.set_cons_zero, List.set_cons_succ]
          refine TK.take_at 6 (some 129) (v := undef) rfl rfl (by kernel_rfl) (by kernel_rfl) (by kernel_rfl) (fun _ _ _ h => h) (Or.inr ⟨rfl, rfl⟩) hHeld ?_
          try simp only [Act.put, List.setIfInBounds_toArray, List.set_cons_zero, List.set_cons_succ]
          refine TK.take_at 7 (some 130) (v := undef) rfl rfl (by kernel_rfl) (by kernel_rfl) (by kernel_rfl) (fun _ _ _ h => h) (Or.inr ⟨rfl, rfl⟩) hHeld ?_
          try simp only [Act.put, List.setIfInBounds_toArray, List.set_cons_zero, List.set_cons_succ]
          refine TK.take_at 8 (some 131) (v := ?va8) rfl rfl (by kernel_rfl) (by kernel_rfl) (by kernel_rfl) (fun _ _ _ h => h) (Or.inl ⟨rfl, ?ha8⟩) hHeld ?ra8
          case ha8 => intro wq hSw; (try dsimp only at hSw); go_simp; all_goals (with_reducible rfl)
          try simp only [Act.put, List.setIfInBounds_toArray, List.set_cons_zero, List.set_cons_succ]
          refine TK.take_at 9 (some 132) (v := ?va9) rfl rfl (by kernel_rfl) (by kernel_rfl) (by kernel_rfl) (fun _ _ _ h => h) (Or.inl ⟨rfl, ?ha9⟩) hHeld ?ra9
          case ha9 => intro wq hSw; (try dsimp only at hSw); go_simp; all_goals (with_reducible rfl)
          try simp only [Act.put, List.setIfInBounds_toArray, List.set_cons_zero, List.set_cons_succ]
          refine TK.take_at 10 (some 133) (v := ?va10) rfl rfl (by kernel_rfl) (by kernel_rfl) (by kernel_rfl) (fun _ _ _ h => h) (Or.inl ⟨rfl, ?ha10⟩) hHeld ?ra10
          case ha10 => intro wq hSw; (try dsimp only at hSw); go_simp; all_goals (with_reducible rfl)
          try simp only [Act.put, List.setIfInBounds_toArray, List.set_cons_zero, List.set_cons_succ]
          refine TK.take_at 11 (some 134) (v := ?va11) rfl rfl (by kernel_rfl) (by kernel_rfl) (by kernel_rfl) (fun _ _ _ h => h) (Or.inl ⟨rfl, ?ha11⟩) hHeld ?ra11
          case ha11 => intro wq hSw; (try dsimp only at hSw); go_simp; all_goals (with_reducible rfl)
          try simp only [Act.put, List.setIfInBounds_toArray, List.set_cons_zero, List.set_cons_succ]
          refine TK.take_at 12 (some 135) (v := ?va12) rfl rfl (by kernel_rfl) (by kernel_rfl) (by kernel_rfl) (fun _ _ _ h => h) (Or.inl ⟨rfl, ?ha12⟩) hHeld ?ra12
          case ha12 => intro wq hSw; (try dsimp only at hSw); go_simp; all_goals (with_reducible rfl)
          try simp only [Act.put, List.setIfInBounds_toArray, List.set_cons_zero, List.set_cons_succ]
          refine TK.take_at 13 (some 136) (v := ?va13) rfl rfl (by kernel_rfl) (by kernel_rfl) (by kernel_rfl) (fun _ _ _ h => h) (Or.inl ⟨rfl, ?ha13⟩) hHeld ?ra13
          case ha13 => intro wq hSw; (try dsimp only at hSw); go_simp; all_goals (with_reducible rfl)
          try simp only [Act.put, List.setIfInBounds_toArray, List.set_cons_zero, List.set_cons_succ]
          refine TK.take_at 14 (some 137) (v := ?va14) rfl rfl (by kernel_rfl) (by kernel_rfl) (by kernel_rfl) (fun _ _ _ h => h) (Or.inl ⟨rfl, ?ha14⟩) hHeld ?ra14
          case ha14 => intro wq hSw; (try dsimp only at hSw); go_simp; all_goals (with_reducible rfl)
          try simp only [Act.put, List.setIfInBounds_toArray, List.set_cons_zero, List.set_cons_succ]
          refine TK.take_at 15 (some 138) (v := ?va15) rfl rfl (by kernel_rfl) (by kernel_rfl) (by kernel_rfl) (fun _ _ _ h => h) (Or.inl ⟨rfl, ?ha15⟩) hHeld ?ra15
          case ha15 => intro wq hSw; (try dsimp only at hSw); go_simp; all_goals (with_reducible rfl)
          try simp only [Act.put, List.setIfInBounds_toArray, List.set_cons_zero, List.set_cons_succ]
          refine TK.take_at 17 (some 140) (v := ?va17) rfl rfl (by kernel_rfl) (by kernel_rfl) (by kernel_rfl) (fun _ _ _ h => h) (Or.inl ⟨rfl, ?ha17⟩) hHeld ?ra17
          case ha17 => intro wq hSw; (try dsimp only at hSw); go_simp; all_goals (with_reducible rfl)
          try simp only [Act.put, List.setIfInBounds_toArray, List.set_cons_zero, List.set_cons_succ]
          refine wpAnyH_ready (rs := [16]) (by kernel_rfl) (by simp) ?_
          refine AllReadyH.cons rfl (fun K hK => ?_) AllReadyH.nil
          go_simp
          (go_at_call 15; refine (CQ.out hq0 _ hb).mono ?_; rintro e xq ⟨rfl, hb⟩)
          try (go_wp2_with fail)
          refine hK.out _ _ ?_ (fun hHeld => ?_)
          · exact KG.out _ hb
          clear hK K
          try simp only [Act.put, List.setIfInBounds_toArray, List.set_cons_zero, List.set_cons_succ]
          refine TK.take_at 18 (some 141) (v := ?va18) rfl rfl (by kernel_rfl) (by kernel_rfl) (by kernel_rfl) (fun _ _ _ h => h) (Or.inl ⟨rfl, ?ha18⟩) hHeld ?ra18
          case ha18 => intro wq hSw; (try dsimp only at hSw); go_simp; all_goals (with_reducible rfl)
          try simp only [Act.put, List.setIfInBounds_toArray, List.set_cons_zero, List.set_cons_succ]
          refine TK.take_at 19 (some 142) (v := ?va19) rfl rfl (by kernel_rfl) (by kernel_rfl) (by kernel_rfl) (fun _ _ _ h => h) (Or.inl ⟨rfl, ?ha19⟩) hHeld ?ra19
          case ha19 => intro wq hSw; (try dsimp only at hSw); go_simp; all_goals (with_reducible rfl)
          try simp only [Act.put, List.setIfInBounds_toArray, List.set_cons_zero, List.set_cons_succ]
          refine TK.take_at 20 (some 143) (v := ?va20) rfl rfl (by kernel_rfl) (by kernel_rfl) (by kernel_rfl) (fun _ _ _ h => h) (Or.inl ⟨rfl, ?ha20⟩) hHeld ?ra20
          case ha20 => intro wq hSw; (try dsimp only at hSw); go_simp; all_goals (with_reducible rfl)
          try simp only [Act.put, List.setIfInBounds_toArray, List.set_cons_zero, List.set_cons_succ]
          refine wpAnyH_done (by kernel_rfl) ?_ _
          go_wp2_with fail
          go_meet
          case rel => exact ⟨rfl, hb⟩
        · have hqt : (q7 == 0) = false := by simp [hq0]
          have hb := hb.drew
          refine wp_region_held_drew (S := (fun x => x.cell? ⟨D4, 0, none⟩ = some (.int .i64 b0) ∧ x.cell? ⟨D4, 1, none⟩ = some (.int .i64 b1) ∧ x.cell? ⟨D4, 2, none⟩ = some (.string b2) ∧ x.cell? ⟨D4, 3, none⟩ = some (.int .i64 b3) ∧ x.cell? ⟨D4, 4, none⟩ = some (.int .i64 b4) ∧ x.cell? ⟨D4, 5, none⟩ = some (.string b5) ∧ x.cell? ⟨E5, 0, none⟩ = some (.int .i64 q0) ∧ x.cell? ⟨E5, 1, none⟩ = some (.int .i64 q1) ∧ x.cell? ⟨E5, 2, none⟩ = some (.string q2) ∧ x.cell? ⟨E5, 3, none⟩ = some (.int .i64 q3) ∧ x.cell? ⟨E5, 4, none⟩ = some (.int .i64 q4) ∧ x.cell? ⟨E5, 5, none⟩ = some (.string q5) ∧ x.cell? ⟨E5, 6, none⟩ = some (.string q6) ∧ x.cell? ⟨E5, 7, none⟩ = some (.int .i64 q7))) (by kernel_rfl) (KG.out _ hb) (fun hHeld => ?_)
          refine TK.take_at 0 (some 123) (v := ?vb0) rfl rfl (by kernel_rfl) (by kernel_rfl) (by kernel_rfl) (fun _ _ _ h => h) (Or.inl ⟨rfl, ?hb0⟩) hHeld ?rb0
          case hb0 => intro wq hSw; (try dsimp only at hSw); go_simp; all_goals (with_reducible rfl)
          try simp only [Act.put, List.setIfInBounds_toArray, List.set_cons_zero, List.set_cons_succ]
          refine TK.take_at 1 (some 124) (v := ?vb1) rfl rfl (by kernel_rfl) (by kernel_rfl) (by kernel_rfl) (fun _ _ _ h => h) (Or.inl ⟨rfl, ?hb1⟩) hHeld ?rb1
          case hb1 => intro wq hSw; (try dsimp only at hSw); go_simp; all_goals (with_reducible rfl)
          try simp only [Act.put, List.setIfInBounds_toArray, List.set_cons_zero, List.set_cons_succ]
          refine TK.take_at 2 (some 125) (v := ?vb2) rfl rfl (by kernel_rfl) (by kernel_rfl) (by kernel_rfl) (fun _ _ _ h => h) (Or.inl ⟨rfl, ?hb2⟩) hHeld ?rb2
          case hb2 => intro wq hSw; (try dsimp only at hSw); go_simp; all_goals (with_reducible rfl)
          try simp only [Act.put, List.setIfInBounds_toArray, List.set_cons_zero, List.set_cons_succ]
          refine TK.take_at 3 (some 126) (v := undef) rfl rfl (by kernel_rfl) (by kernel_rfl) (by kernel_rfl) (fun _ _ _ h => h) (Or.inr ⟨rfl, rfl⟩) hHeld ?_
          try simp only [Act.put, List.setIfInBounds_toArray, List.set_cons_zero, List.set_cons_succ]
          refine TK.take_at 4 (some 127) (v := undef) rfl rfl (by kernel_rfl) (by kernel_rfl) (by kernel_rfl) (fun _ _ _ h => h) (Or.inr ⟨rfl, rfl⟩) hHeld ?_
          try simp only [Act.put, List.setIfInBounds_toArray, List.set_cons_zero, List.set_cons_succ]
          refine TK.take_at 5 (some 128) (v := undef) rfl rfl (by kernel_rfl) (by kernel_rfl) (by kernel_rfl) (fun _ _ _ h => h) (Or.inr ⟨rfl, rfl⟩) hHeld ?_
          try simp only [Act.put, List.setIfInBounds_toArray, List.set_cons_zero, List.set_cons_succ]
          refine TK.take_at 6 (some 129) (v := undef) rfl rfl (by kernel_rfl) (by kernel_rfl) (by kernel_rfl) (fun _ _ _ h => h) (Or.inr ⟨rfl, rfl⟩) hHeld ?_
          try simp only [Act.put, List.setIfInBounds_toArray, List.set_cons_zero, List.set_cons_succ]
          refine TK.take_at 7 (some 130) (v := undef) rfl rfl (by kernel_rfl) (by kernel_rfl) (by kernel_rfl) (fun _ _ _ h => h) (Or.inr ⟨rfl, rfl⟩) hHeld ?_
          try simp only [Act.put, List.setIfInBounds_toArray, List.set_cons_zero, List.set_cons_succ]
          refine TK.take_at 8 (some 131) (v := ?vb8) rfl rfl (by kernel_rfl) (by kernel_rfl) (by kernel_rfl) (fun _ _ _ h => h) (Or.inl ⟨rfl, ?hb8⟩) hHeld ?rb8
          case hb8 => intro wq hSw; (try dsimp only at hSw); go_simp; all_goals (with_reducible rfl)
          try simp only [Act.put, List.setIfInBounds_toArray, List.set_cons_zero, List.set_cons_succ]
          refine TK.take_at 9 (some 132) (v := ?vb9) rfl rfl (by kernel_rfl) (by kernel_rfl) (by kernel_rfl) (fun _ _ _ h => h) (Or.inl ⟨rfl, ?hb9⟩) hHeld ?rb9
          case hb9 => intro wq hSw; (try dsimp only at hSw); go_simp; all_goals (with_reducible rfl)
          try simp only [Act.put, List.setIfInBounds_toArray, List.set_cons_zero, List.set_cons_succ]
          refine TK.take_at 10 (some 133) (v := ?vb10) rfl rfl (by kernel_rfl) (by kernel_rfl) (by kernel_rfl) (fun _ _ _ h => h) (Or.inl ⟨rfl, ?hb10⟩) hHeld ?rb10
          case hb10 => intro wq hSw; (try dsimp only at hSw); go_simp; all_goals (with_reducible rfl)
          try simp only [Act.put, List.setIfInBounds_toArray, List.set_cons_zero, List.set_cons_succ]
          refine TK.take_at 11 (some 134) (v := ?vb11) rfl rfl (by kernel_rfl) (by kernel_rfl) (by kernel_rfl) (fun _ _ _ h => h) (Or.inl ⟨rfl, ?hb11⟩) hHeld ?rb11
          case hb11 => intro wq hSw; (try dsimp only at hSw); go_simp; all_goals (with_reducible rfl)
          try simp only [Act.put, List.setIfInBounds_toArray, List.set_cons_zero, List.set_cons_succ]
          refine TK.take_at 12 (some 135) (v := ?vb12) rfl rfl (by kernel_rfl) (by kernel_rfl) (by kernel_rfl) (fun _ _ _ h => h) (Or.inl ⟨rfl, ?hb12⟩) hHeld ?rb12
          case hb12 => intro wq hSw; (try dsimp only at hSw); go_simp; all_goals (with_reducible rfl)
          try simp only [Act.put, List.setIfInBounds_toArray, List.set_cons_zero, List.set_cons_succ]
          refine TK.take_at 13 (some 136) (v := ?vb13) rfl rfl (by kernel_rfl) (by kernel_rfl) (by kernel_rfl) (fun _ _ _ h => h) (Or.inl ⟨rfl, ?hb13⟩) hHeld ?rb13
          case hb13 => intro wq hSw; (try dsimp only at hSw); go_simp; all_goals (with_reducible rfl)
          try simp only [Act.put, List.setIfInBounds_toArray, List.set_cons_zero, List.set_cons_succ]
          refine TK.take_at 14 (some 137) (v := undef) rfl rfl (by kernel_rfl) (by kernel_rfl) (by kernel_rfl) (fun _ _ _ h => h) (Or.inr ⟨rfl, rfl⟩) hHeld ?_
          try simp only [Act.put, List.setIfInBounds_toArray, List.set_cons_zero, List.set_cons_succ]
          refine TK.take_at 15 (some 138) (v := undef) rfl rfl (by kernel_rfl) (by kernel_rfl) (by kernel_rfl) (fun _ _ _ h => h) (Or.inr ⟨rfl, rfl⟩) hHeld ?_
          try simp only [Act.put, List.setIfInBounds_toArray, List.set_cons_zero, List.set_cons_succ]
          refine TK.take_at 16 (some 139) (v := undef) rfl rfl (by kernel_rfl) (by kernel_rfl) (by kernel_rfl) (fun _ _ _ h => h) (Or.inr ⟨rfl, rfl⟩) hHeld ?_
          try simp only [Act.put, List.setIfInBounds_toArray, List.set_cons_zero, List.set_cons_succ]
          refine TK.take_at 17 (some 140) (v := undef) rfl rfl (by kernel_rfl) (by kernel_rfl) (by kernel_rfl) (fun _ _ _ h => h) (Or.inr ⟨rfl, rfl⟩) hHeld ?_
          try simp only [Act.put, List.setIfInBounds_toArray, List.set_cons_zero, List.set_cons_succ]
          refine TK.take_at 18 (some 141) (v := undef) rfl rfl (by kernel_rfl) (by kernel_rfl) (by kernel_rfl) (fun _ _ _ h => h) (Or.inr ⟨rfl, rfl⟩) hHeld ?_
          try simp only [Act.put, List.setIfInBounds_toArray, List.set_cons_zero, List.set_cons_succ]
          refine TK.take_at 19 (some 142) (v := ?vb19) rfl rfl (by kernel_rfl) (by kernel_rfl) (by kernel_rfl) (fun _ _ _ h => h) (Or.inl ⟨rfl, ?hb19⟩) hHeld ?rb19
          case hb19 => intro wq hSw; (try dsimp only at hSw); go_simp; all_goals (with_reducible rfl)
          try simp only [Act.put, List.setIfInBounds_toArray, List.set_cons_zero, List.set_cons_succ]
          refine TK.take_at 20 (some 143) (v := ?vb20) rfl rfl (by kernel_rfl) (by kernel_rfl) (by kernel_rfl) (fun _ _ _ h => h) (Or.inl ⟨rfl, ?hb20⟩) hHeld ?rb20
          case hb20 => intro wq hSw; (try dsimp only at hSw); go_simp; all_goals (with_reducible rfl)
          try simp only [Act.put, List.setIfInBounds_toArray, List.set_cons_zero, List.set_cons_succ]
          refine wpAnyH_done (by kernel_rfl) ?_ _
          go_wp2_with fail
          go_meet
          case rel => exact ⟨rfl, hb⟩
      | true =>
        have hne : ¬ t = ⟨#[]⟩ := fun h => by have hk := YP.read_back hcb; rw [hT, h] at hk; exact absurd ((congrArg CO.k hk).symm.trans YP.read_empty) (by show ¬ (0 : Int) = 4; decide)
        have hte : (t.toList == []) = false := by rw [beq_eq_false_iff_ne, ByteArray.toList_eq]; intro h; exact hne (ByteArray.ext (Array.ext' h))
        have hts : t.size ≤ 1000 := by rw [← hT]; have := DE.bytes_small ⟨b0, b1, b2, b3, b4, b5⟩; omega
        have CR : Hid (∀ x, Below W.heap.size W x → Calls Tryd.prog 17 #[.string t] x fun e w' => e = .returned (.agg #[.int .i64 b0, .int .i64 b1, .string b2, .int .i64 b3, .int .i64 b4, .string b5, .string ⟨#[]⟩, .int .i64 0]) ∧ Below W.heap.size W w') := fun x hx => by
          have h := Q6.read_impl t x (by unfold maxLen; omega)
          rw [← hT, YP.read_back hcb, hT] at h
          exact h.mono fun e w' h => ⟨h.1, bel2 hx h.2⟩
        clear hcb hCb hzB hT hne hts
        by_cases hq0 : q7 = 0
        · have hqt : (q7 == 0) = true := by simp [hq0]
          have hb := hb.drew
          refine wp_region_held_drew (S := (fun x => x.cell? ⟨D4, 0, none⟩ = some (.int .i64 b0) ∧ x.cell? ⟨D4, 1, none⟩ = some (.int .i64 b1) ∧ x.cell? ⟨D4, 2, none⟩ = some (.string b2) ∧ x.cell? ⟨D4, 3, none⟩ = some (.int .i64 b3) ∧ x.cell? ⟨D4, 4, none⟩ = some (.int .i64 b4) ∧ x.cell? ⟨D4, 5, none⟩ = some (.string b5) ∧ x.cell? ⟨E5, 0, none⟩ = some (.int .i64 q0) ∧ x.cell? ⟨E5, 1, none⟩ = some (.int .i64 q1) ∧ x.cell? ⟨E5, 2, none⟩ = some (.string q2) ∧ x.cell? ⟨E5, 3, none⟩ = some (.int .i64 q3) ∧ x.cell? ⟨E5, 4, none⟩ = some (.int .i64 q4) ∧ x.cell? ⟨E5, 5, none⟩ = some (.string q5) ∧ x.cell? ⟨E5, 6, none⟩ = some (.string q6) ∧ x.cell? ⟨E5, 7, none⟩ = some (.int .i64 q7))) (by kernel_rfl) (KG.out _ hb) (fun hHeld => ?_)
          refine TK.take_at 0 (some 123) (v := ?vc0) rfl rfl (by kernel_rfl) (by kernel_rfl) (by kernel_rfl) (fun _ _ _ h => h) (Or.inl ⟨rfl, ?hc0⟩) hHeld ?rc0
          case hc0 => intro wq hSw; (try dsimp only at hSw); go_simp; all_goals (with_reducible rfl)
          try simp only [Act.put, List.setIfInBounds_toArray, List.set_cons_zero, List.set_cons_succ]
          refine TK.take_at 1 (some 124) (v := ?vc1) rfl rfl (by kernel_rfl) (by kernel_rfl) (by kernel_rfl) (fun _ _ _ h => h) (Or.inl ⟨rfl, ?hc1⟩) hHeld ?rc1
          case hc1 => intro wq hSw; (try dsimp only at hSw); go_simp; all_goals (with_reducible rfl)
          try simp only [Act.put, List.setIfInBounds_toArray, List.set_cons_zero, List.set_cons_succ]
          refine TK.take_at 2 (some 125) (v := ?vc2) rfl rfl (by kernel_rfl) (by kernel_rfl) (by kernel_rfl) (fun _ _ _ h => h) (Or.inl ⟨rfl, ?hc2⟩) hHeld ?rc2
          case hc2 => intro wq hSw; (try dsimp only at hSw); go_simp; all_goals (with_reducible rfl)
          try simp only [Act.put, List.setIfInBounds_toArray, List.set_cons_zero, List.set_cons_succ]
          refine TK.take_at 3 (some 126) (v := ?vc3) rfl rfl (by kernel_rfl) (by kernel_rfl) (by kernel_rfl) (fun _ _ _ h => h) (Or.inl ⟨rfl, ?hc3⟩) hHeld ?rc3
          case hc3 => intro wq hSw; (try dsimp only at hSw); go_simp; all_goals (with_reducible rfl)
          try simp only [Act.put, List.setIfInBounds_toArray, List.set_cons_zero, List.set_cons_succ]
          refine TK.take_at 5 (some 128) (v := ?vc5) rfl rfl (by kernel_rfl) (by kernel_rfl) (by kernel_rfl) (fun _ _ _ h => h) (Or.inl ⟨rfl, ?hc5⟩) hHeld ?rc5
          case hc5 => intro wq hSw; (try dsimp only at hSw); go_simp; all_goals (with_reducible rfl)
          try simp only [Act.put, List.setIfInBounds_toArray, List.set_cons_zero, List.set_cons_succ]
          refine TK.take_at 6 (some 129) (v := .agg #[.int .i64 b0, .int .i64 b1, .string b2, .int .i64 b3, .int .i64 b4, .string b5, .string ⟨#[]⟩, .int .i64 0]) rfl rfl (by kernel_rfl) (by kernel_rfl) (by kernel_rfl) (fun _ _ _ h => h) (Or.inl ⟨rfl, ?hc6⟩) hHeld ?rc6
          case hc6 => intro wq hSw; clear hSw; exact TK.build_one_at _ 0 _ (.agg #[.int .i64 b0, .int .i64 b1, .string b2, .int .i64 b3, .int .i64 b4, .string b5]) _ rfl rfl (built_one _ _ _ _ _ _)
          try simp only [Act.put, List.setIfInBounds_toArray, List.set_cons_zero, List.set_cons_succ]
          refine wpAnyH_ready (rs := [4]) (by kernel_rfl) (by simp) ?_
          refine AllReadyH.cons rfl (fun K hK => ?_) AllReadyH.nil
          go_simp
          (go_at_call 17; refine (CR.out _ hb).mono ?_; rintro e xr ⟨rfl, hb⟩)
          try (go_wp2_with fail)
          refine hK.out _ _ ?_ (fun hHeld => ?_)
          · exact KG.out _ hb
          clear hK K
          try simp only [Act.put, List.setIfInBounds_toArray, List.set_cons_zero, List.set_cons_succ]
          refine TK.take_at 7 (some 130) (v := ?vc7) rfl rfl (by kernel_rfl) (by kernel_rfl) (by kernel_rfl) (fun _ _ _ h => h) (Or.inl ⟨rfl, ?hc7⟩) hHeld ?rc7
          case hc7 => intro wq hSw; (try dsimp only at hSw); go_simp; all_goals (with_reducible rfl)
          try simp only [Act.put, List.setIfInBounds_toArray, List.set_cons_zero, List.set_cons_succ]
          refine TK.take_at 8 (some 131) (v := ?vc8) rfl rfl (by kernel_rfl) (by kernel_rfl) (by kernel_rfl) (fun _ _ _ h => h) (Or.inl ⟨rfl, ?hc8⟩) hHeld ?rc8
          case hc8 => intro wq hSw; (try dsimp only at hSw); go_simp; all_goals (with_reducible rfl)
          try simp only [Act.put, List.setIfInBounds_toArray, List.set_cons_zero, List.set_cons_succ]
          refine TK.take_at 9 (some 132) (v := ?vc9) rfl rfl (by kernel_rfl) (by kernel_rfl) (by kernel_rfl) (fun _ _ _ h => h) (Or.inl ⟨rfl, ?hc9⟩) hHeld ?rc9
          case hc9 => intro wq hSw; (try dsimp only at hSw); go_simp; all_goals (with_reducible rfl)
          try simp only [Act.put, List.setIfInBounds_toArray, List.set_cons_zero, List.set_cons_succ]
          refine TK.take_at 10 (some 133) (v := ?vc10) rfl rfl (by kernel_rfl) (by kernel_rfl) (by kernel_rfl) (fun _ _ _ h => h) (Or.inl ⟨rfl, ?hc10⟩) hHeld ?rc10
          case hc10 => intro wq hSw; (try dsimp only at hSw); go_simp; all_goals (with_reducible rfl)
          try simp only [Act.put, List.setIfInBounds_toArray, List.set_cons_zero, List.set_cons_succ]
          refine TK.take_at 11 (some 134) (v := ?vc11) rfl rfl (by kernel_rfl) (by kernel_rfl) (by kernel_rfl) (fun _ _ _ h => h) (Or.inl ⟨rfl, ?hc11⟩) hHeld ?rc11
          case hc11 => intro wq hSw; (try dsimp only at hSw); go_simp; all_goals (with_reducible rfl)
          try simp only [Act.put, List.setIfInBounds_toArray, List.set_cons_zero, List.set_cons_succ]
          refine TK.take_at 12 (some 135) (v := ?vc12) rfl rfl (by kernel_rfl) (by kernel_rfl) (by kernel_rfl) (fun _ _ _ h => h) (Or.inl ⟨rfl, ?hc12⟩) hHeld ?rc12
          case hc12 => intro wq hSw; (try dsimp only at hSw); go_simp; all_goals (with_reducible rfl)
          try simp only [Act.put, List.setIfInBounds_toArray, List.set_cons_zero, List.set_cons_succ]
          refine TK.take_at 13 (some 136) (v := ?vc13) rfl rfl (by kernel_rfl) (by kernel_rfl) (by kernel_rfl) (fun _ _ _ h => h) (Or.inl ⟨rfl, ?hc13⟩) hHeld ?rc13
          case hc13 => intro wq hSw; (try dsimp only at hSw); go_simp; all_goals (with_reducible rfl)
          try simp only [Act.put, List.setIfInBounds_toArray, List.set_cons_zero, List.set_cons_succ]
          refine TK.take_at 14 (some 137) (v := ?vc14) rfl rfl (by kernel_rfl) (by kernel_rfl) (by kernel_rfl) (fun _ _ _ h => h) (Or.inl ⟨rfl, ?hc14⟩) hHeld ?rc14
          case hc14 => intro wq hSw; (try dsimp only at hSw); go_simp; all_goals (with_reducible rfl)
          try simp only [Act.put, List.setIfInBounds_toArray, List.set_cons_zero, List.set_cons_succ]
          refine TK.take_at 15 (some 138) (v := ?vc15) rfl rfl (by kernel_rfl) (by kernel_rfl) (by kernel_rfl) (fun _ _ _ h => h) (Or.inl ⟨rfl, ?hc15⟩) hHeld ?rc15
          case hc15 => intro wq hSw; (try dsimp only at hSw); go_simp; all_goals (with_reducible rfl)
          try simp only [Act.put, List.setIfInBounds_toArray, List.set_cons_zero, List.set_cons_succ]
          refine TK.take_at 17 (some 140) (v := ?vc17) rfl rfl (by kernel_rfl) (by kernel_rfl) (by kernel_rfl) (fun _ _ _ h => h) (Or.inl ⟨rfl, ?hc17⟩) hHeld ?rc17
          case hc17 => intro wq hSw; (try dsimp only at hSw); go_simp; all_goals (with_reducible rfl)
          try simp only [Act.put, List.setIfInBounds_toArray, List.set_cons_zero, List.set_cons_succ]
          refine wpAnyH_ready (rs := [16]) (by kernel_rfl) (by simp) ?_
          refine AllReadyH.cons rfl (fun K hK => ?_) AllReadyH.nil
          go_simp
          (go_at_call 15; refine (CQ.out hq0 _ hb).mono ?_; rintro e xq ⟨rfl, hb⟩)
          try (go_wp2_with fail)
          refine hK.out _ _ ?_ (fun hHeld => ?_)
          · exact KG.out _ hb
          clear hK K
          try simp only [Act.put, List.setIfInBounds_toArray, List.set_cons_zero, List.set_cons_succ]
          refine TK.take_at 18 (some 141) (v := ?vc18) rfl rfl (by kernel_rfl) (by kernel_rfl) (by kernel_rfl) (fun _ _ _ h => h) (Or.inl ⟨rfl, ?hc18⟩) hHeld ?rc18
          case hc18 => intro wq hSw; (try dsimp only at hSw); go_simp; all_goals (with_reducible rfl)
          try simp only [Act.put, List.setIfInBounds_toArray, List.set_cons_zero, List.set_cons_succ]
          refine TK.take_at 19 (some 142) (v := ?vc19) rfl rfl (by kernel_rfl) (by kernel_rfl) (by kernel_rfl) (fun _ _ _ h => h) (Or.inl ⟨rfl, ?hc19⟩) hHeld ?rc19
          case hc19 => intro wq hSw; (try dsimp only at hSw); go_simp; all_goals (with_reducible rfl)
          try simp only [Act.put, List.setIfInBounds_toArray, List.set_cons_zero, List.set_cons_succ]
          refine TK.take_at 20 (some 143) (v := ?vc20) rfl rfl (by kernel_rfl) (by kernel_rfl) (by kernel_rfl) (fun _ _ _ h => h) (Or.inl ⟨rfl, ?hc20⟩) hHeld ?rc20
          case hc20 => intro wq hSw; (try dsimp only at hSw); go_simp; all_goals (with_reducible rfl)
          try simp only [Act.put, List.setIfInBounds_toArray, List.set_cons_zero, List.set_cons_succ]
          refine wpAnyH_done (by kernel_rfl) ?_ _
          go_wp2_with fail
          go_meet
          case rel => exact ⟨rfl, hb⟩
        · have hqt : (q7 == 0) = false := by simp [hq0]
          have hb := hb.drew
          refine wp_region_held_drew (S := (fun x => x.cell? ⟨D4, 0, none⟩ = some (.int .i64 b0) ∧ x.cell? ⟨D4, 1, none⟩ = some (.int .i64 b1) ∧ x.cell? ⟨D4, 2, none⟩ = some (.string b2) ∧ x.cell? ⟨D4, 3, none⟩ = some (.int .i64 b3) ∧ x.cell? ⟨D4, 4, none⟩ = some (.int .i64 b4) ∧ x.cell? ⟨D4, 5, none⟩ = some (.string b5) ∧ x.cell? ⟨E5, 0, none⟩ = some (.int .i64 q0) ∧ x.cell? ⟨E5, 1, none⟩ = some (.int .i64 q1) ∧ x.cell? ⟨E5, 2, none⟩ = some (.string q2) ∧ x.cell? ⟨E5, 3, none⟩ = some (.int .i64 q3) ∧ x.cell? ⟨E5, 4, none⟩ = some (.int .i64 q4) ∧ x.cell? ⟨E5, 5, none⟩ = some (.string q5) ∧ x.cell? ⟨E5, 6, none⟩ = some (.string q6) ∧ x.cell? ⟨E5, 7, none⟩ = some (.int .i64 q7))) (by kernel_rfl) (KG.out _ hb) (fun hHeld => ?_)
          refine TK.take_at 0 (some 123) (v := ?vd0) rfl rfl (by kernel_rfl) (by kernel_rfl) (by kernel_rfl) (fun _ _ _ h => h) (Or.inl ⟨rfl, ?hd0⟩) hHeld ?rd0
          case hd0 => intro wq hSw; (try dsimp only at hSw); go_simp; all_goals (with_reducible rfl)
          try simp only [Act.put, List.setIfInBounds_toArray, List.set_cons_zero, List.set_cons_succ]
          refine TK.take_at 1 (some 124) (v := ?vd1) rfl rfl (by kernel_rfl) (by kernel_rfl) (by kernel_rfl) (fun _ _ _ h => h) (Or.inl ⟨rfl, ?hd1⟩) hHeld ?rd1
          case hd1 => intro wq hSw; (try dsimp only at hSw); go_simp; all_goals (with_reducible rfl)
          try simp only [Act.put, List.setIfInBounds_toArray, List.set_cons_zero, List.set_cons_succ]
          refine TK.take_at 2 (some 125) (v := ?vd2) rfl rfl (by kernel_rfl) (by kernel_rfl) (by kernel_rfl) (fun _ _ _ h => h) (Or.inl ⟨rfl, ?hd2⟩) hHeld ?rd2
          case hd2 => intro wq hSw; (try dsimp only at hSw); go_simp; all_goals (with_reducible rfl)
          try simp only [Act.put, List.setIfInBounds_toArray, List.set_cons_zero, List.set_cons_succ]
          refine TK.take_at 3 (some 126) (v := ?vd3) rfl rfl (by kernel_rfl) (by kernel_rfl) (by kernel_rfl) (fun _ _ _ h => h) (Or.inl ⟨rfl, ?hd3⟩) hHeld ?rd3
          case hd3 => intro wq hSw; (try dsimp only at hSw); go_simp; all_goals (with_reducible rfl)
          try simp only [Act.put, List.setIfInBounds_toArray, List.set_cons_zero, List.set_cons_succ]
          refine TK.take_at 5 (some 128) (v := ?vd5) rfl rfl (by kernel_rfl) (by kernel_rfl) (by kernel_rfl) (fun _ _ _ h => h) (Or.inl ⟨rfl, ?hd5⟩) hHeld ?rd5
          case hd5 => intro wq hSw; (try dsimp only at hSw); go_simp; all_goals (with_reducible rfl)
          try simp only [Act.put, List.setIfInBounds_toArray, List.set_cons_zero, List.set_cons_succ]
          refine TK.take_at 6 (some 129) (v := .agg #[.int .i64 b0, .int .i64 b1, .string b2, .int .i64 b3, .int .i64 b4, .string b5, .string ⟨#[]⟩, .int .i64 0]) rfl rfl (by kernel_rfl) (by kernel_rfl) (by kernel_rfl) (fun _ _ _ h => h) (Or.inl ⟨rfl, ?hd6⟩) hHeld ?rd6
          case hd6 => intro wq hSw; clear hSw; exact TK.build_one_at _ 0 _ (.agg #[.int .i64 b0, .int .i64 b1, .string b2, .int .i64 b3, .int .i64 b4, .string b5]) _ rfl rfl (built_one _ _ _ _ _ _)
          try simp only [Act.put, List.setIfInBounds_toArray, List.set_cons_zero, List.set_cons_succ]
          refine wpAnyH_ready (rs := [4]) (by kernel_rfl) (by simp) ?_
          refine AllReadyH.cons rfl (fun K hK => ?_) AllReadyH.nil
          go_simp
          (go_at_call 17; refine (CR.out _ hb).mono ?_; rintro e xr ⟨rfl, hb⟩)
          try (go_wp2_with fail)
          refine hK.out _ _ ?_ (fun hHeld => ?_)
          · exact KG.out _ hb
          clear hK K
          try simp only [Act.put, List.setIfInBounds_toArray, List.set_cons_zero, List.set_cons_succ]
          refine TK.take_at 7 (some 130) (v := ?vd7) rfl rfl (by kernel_rfl) (by kernel_rfl) (by kernel_rfl) (fun _ _ _ h => h) (Or.inl ⟨rfl, ?hd7⟩) hHeld ?rd7
          case hd7 => intro wq hSw; (try dsimp only at hSw); go_simp; all_goals (with_reducible rfl)
          try simp only [Act.put, List.setIfInBounds_toArray, List.set_cons_zero, List.set_cons_succ]
          refine TK.take_at 8 (some 131) (v := ?vd8) rfl rfl (by kernel_rfl) (by kernel_rfl) (by kernel_rfl) (fun _ _ _ h => h) (Or.inl ⟨rfl, ?hd8⟩) hHeld ?rd8
          case hd8 => intro wq hSw; (try dsimp only at hSw); go_simp; all_goals (with_reducible rfl)
          try simp only [Act.put, List.setIfInBounds_toArray, List.set_cons_zero, List.set_cons_succ]
          refine TK.take_at 9 (some 132) (v := ?vd9) rfl rfl (by kernel_rfl) (by kernel_rfl) (by kernel_rfl) (fun _ _ _ h => h) (Or.inl ⟨rfl, ?hd9⟩) hHeld ?rd9
          case hd9 => intro wq hSw; (try dsimp only at hSw); go_simp; all_goals (with_reducible rfl)
          try simp only [Act.put, List.setIfInBounds_toArray, List.set_cons_zero, List.set_cons_succ]
          refine TK.take_at 10 (some 133) (v := ?vd10) rfl rfl (by kernel_rfl) (by kernel_rfl) (by kernel_rfl) (fun _ _ _ h => h) (Or.inl ⟨rfl, ?hd10⟩) hHeld ?rd10
          case hd10 => intro wq hSw; (try dsimp only at hSw); go_simp; all_goals (with_reducible rfl)
          try simp only [Act.put, List.setIfInBounds_toArray, List.set_cons_zero, List.set_cons_succ]
          refine TK.take_at 11 (some 134) (v := ?vd11) rfl rfl (by kernel_rfl) (by kernel_rfl) (by kernel_rfl) (fun _ _ _ h => h) (Or.inl ⟨rfl, ?hd11⟩) hHeld ?rd11
          case hd11 => intro wq hSw; (try dsimp only at hSw); go_simp; all_goals (with_reducible rfl)
          try simp only [Act.put, List.setIfInBounds_toArray, List.set_cons_zero, List.set_cons_succ]
          refine TK.take_at 12 (some 135) (v := ?vd12) rfl rfl (by kernel_rfl) (by kernel_rfl) (by kernel_rfl) (fun _ _ _ h => h) (Or.inl ⟨rfl, ?hd12⟩) hHeld ?rd12
          case hd12 => intro wq hSw; (try dsimp only at hSw); go_simp; all_goals (with_reducible rfl)
          try simp only [Act.put, List.setIfInBounds_toArray, List.set_cons_zero, List.set_cons_succ]
          refine TK.take_at 13 (some 136) (v := ?vd13) rfl rfl (by kernel_rfl) (by kernel_rfl) (by kernel_rfl) (fun _ _ _ h => h) (Or.inl ⟨rfl, ?hd13⟩) hHeld ?rd13
          case hd13 => intro wq hSw; (try dsimp only at hSw); go_simp; all_goals (with_reducible rfl)
          try simp only [Act.put, List.setIfInBounds_toArray, List.set_cons_zero, List.set_cons_succ]
          refine TK.take_at 14 (some 137) (v := undef) rfl rfl (by kernel_rfl) (by kernel_rfl) (by kernel_rfl) (fun _ _ _ h => h) (Or.inr ⟨rfl, rfl⟩) hHeld ?_
          try simp only [Act.put, List.setIfInBounds_toArray, List.set_cons_zero, List.set_cons_succ]
          refine TK.take_at 15 (some 138) (v := undef) rfl rfl (by kernel_rfl) (by kernel_rfl) (by kernel_rfl) (fun _ _ _ h => h) (Or.inr ⟨rfl, rfl⟩) hHeld ?_
          try simp only [Act.put, List.setIfInBounds_toArray, List.set_cons_zero, List.set_cons_succ]
          refine TK.take_at 16 (some 139) (v := undef) rfl rfl (by kernel_rfl) (by kernel_rfl) (by kernel_rfl) (fun _ _ _ h => h) (Or.inr ⟨rfl, rfl⟩) hHeld ?_
          try simp only [Act.put, List.setIfInBounds_toArray, List.set_cons_zero, List.set_cons_succ]
          refine TK.take_at 17 (some 140) (v := undef) rfl rfl (by kernel_rfl) (by kernel_rfl) (by kernel_rfl) (fun _ _ _ h => h) (Or.inr ⟨rfl, rfl⟩) hHeld ?_
          try simp only [Act.put, List.setIfInBounds_toArray, List.set_cons_zero, List.set_cons_succ]
          refine TK.take_at 18 (some 141) (v := undef) rfl rfl (by kernel_rfl) (by kernel_rfl) (by kernel_rfl) (fun _ _ _ h => h) (Or.inr ⟨rfl, rfl⟩) hHeld ?_
          try simp only [Act.put, List.setIfInBounds_toArray, List.set_cons_zero, List.set_cons_succ]
          refine TK.take_at 19 (some 142) (v := ?vd19) rfl rfl (by kernel_rfl) (by kernel_rfl) (by kernel_rfl) (fun _ _ _ h => h) (Or.inl ⟨rfl, ?hd19⟩) hHeld ?rd19
          case hd19 => intro wq hSw; (try dsimp only at hSw); go_simp; all_goals (with_reducible rfl)
          try simp only [Act.put, List.setIfInBounds_toArray, List.set_cons_zero, List.set_cons_succ]
          refine TK.take_at 20 (some 143) (v := ?vd20) rfl rfl (by kernel_rfl) (by kernel_rfl) (by kernel_rfl) (fun _ _ _ h => h) (Or.inl ⟨rfl, ?hd20⟩) hHeld ?rd20
          case hd20 => intro wq hSw; (try dsimp only at hSw); go_simp; all_goals (with_reducible rfl)
          try simp only [Act.put, List.setIfInBounds_toArray, List.set_cons_zero, List.set_cons_succ]
          refine wpAnyH_done (by kernel_rfl) ?_ _
          go_wp2_with fail
          go_meet
          case rel => exact ⟨rfl, hb⟩
    case rest =>
      obtain ⟨rfl, hb⟩ := hcut
      go_upto_region 17 with fail
      go_cut [157] (fun s x => s = .bool false ∧ Below W.heap.size W x)
      case first => as_aux_lemma =>
        have CT : Hid (y7 = 0 → ∃ i e p t k s c, ∀ x, Below W.heap.size W x → Calls Tryd.prog 9 #[.agg #[.int .i64 y0, .int .i64 y1, .string y2, .int .i64 y3, .int .i64 y4, .string y5], .string fr] x fun e' w' => e' = .returned (.agg #[.int .i64 i, .int .i64 e, .string p, .int .i64 t, .int .i64 k, .string s, .string d5, .int .i64 c]) ∧ Below W.heap.size W w') := fun hy => by
          have ht := YP.cp_told (c := ⟨d0, d1, d2, d3, d4, d5⟩) (old := old) (pin := fr) (by rw [hOy]; exact hy)
          have hs := YP.cp_small (c := ⟨d0, d1, d2, d3, d4, d5⟩) (old := old) (pin := fr) (by dsimp only; omega) (by dsimp only; omega)
          rw [hOy] at ht hs
          dsimp only at ht hs
          obtain ⟨oo, hoo⟩ : ∃ o, tryR ⟨y0, y1, y2, y3, y4, y5⟩ fr = o := ⟨_, rfl⟩
          rw [hoo] at ht
          obtain ⟨⟨i, e, p, t, k, s⟩, tt, c⟩ := oo
          dsimp only at ht
          subst ht
          refine ⟨i, e, p, t, k, s, c, fun x hx => ?_⟩
          have h := Q0.try_impl ⟨y0, y1, y2, y3, y4, y5⟩ fr x (hLW.below hx) (by unfold maxLen; omega) (by unfold maxLen; dsimp only; omega) (by unfold maxLen; dsimp only; omega)
          rw [hoo] at h
          exact h.mono fun e w' h => ⟨h.1, bel2 hx h.2⟩
        have hdd : (d5.toList == d5.toList) = true := by simp
        clear hCa hCd hCb hzA hzD hzB hOr hOy hOz hOq hT hL hLW BW h0 h1 KF KG KI G1 G2 G3 G5 LW
        by_cases hy0 : y7 = 0
        · obtain ⟨i, e, p, tt, k, s, c, CT2⟩ := CT.out hy0
          have CT3 : Hid _ := CT2
          clear CT CT2
          have hyt : (y7 == 0) = true := by simp [hy0]
          have hfl : ∀ X, (Instr.field 30 (.agg #[.int .i64 i, .int .i64 e, .string p, .int .i64 tt, .int .i64 k, .string s, .string d5, .int .i64 c]) 1).run Tryd.prog X = .ok (.string d5) X := fun X => field_one _ _ _ _ _ _ _ _ X
          have hb := hb.drew
          refine wp_region_held_drew (S := (fun x => x.cell? ⟨D2, 0, none⟩ = some (.int .i64 d0) ∧ x.cell? ⟨D2, 1, none⟩ = some (.int .i64 d1) ∧ x.cell? ⟨D2, 2, none⟩ = some (.string d2) ∧ x.cell? ⟨D2, 3, none⟩ = some (.int .i64 d3) ∧ x.cell? ⟨D2, 4, none⟩ = some (.int .i64 d4) ∧ x.cell? ⟨D2, 5, none⟩ = some (.string d5) ∧ x.cell? ⟨E2, 0, none⟩ = some (.int .i64 y0) ∧ x.cell? ⟨E2, 1, none⟩ = some (.int .i64 y1) ∧ x.cell? ⟨E2, 2, none⟩ = some (.string y2) ∧ x.cell? ⟨E2, 3, none⟩ = some (.int .i64 y3) ∧ x.cell? ⟨E2, 4, none⟩ = some (.int .i64 y4) ∧ x.cell? ⟨E2, 5, none⟩ = some (.string y5) ∧ x.cell? ⟨E2, 6, none⟩ = some (.string y6) ∧ x.cell? ⟨E2, 7, none⟩ = some (.int .i64 y7))) (by kernel_rfl) (KH.out _ hb) (fun hHeld => ?_)
          refine TK.take_at 0 (some 144) (v := ?ve0) rfl rfl (by kernel_rfl) (by kernel_rfl) (by kernel_rfl) (fun _ _ _ h => h) (Or.inl ⟨rfl, ?he0⟩) hHeld ?re0
          case he0 => intro wq hSw; (try dsimp only at hSw); go_simp; all_goals (with_reducible rfl)
          try simp only [Act.put, List.setIfInBounds_toArray, List.set_cons_zero, List.set_cons_succ]
          refine TK.take_at 1 (some 145) (v := ?ve1) rfl rfl (by kernel_rfl) (by kernel_rfl) (by kernel_rfl) (fun _ _ _ h => h) (Or.inl ⟨rfl, ?he1⟩) hHeld ?re1
          case he1 => intro wq hSw; (try dsimp only at hSw); go_simp; all_goals (with_reducible rfl)
          try simp only [Act.put, List.setIfInBounds_toArray, List.set_cons_zero, List.set_cons_succ]
          refine TK.take_at 2 (some 146) (v := ?ve2) rfl rfl (by kernel_rfl) (by kernel_rfl) (by kernel_rfl) (fun _ _ _ h => h) (Or.inl ⟨rfl, ?he2⟩) hHeld ?re2
          case he2 => intro wq hSw; (try dsimp only at hSw); go_simp; all_goals (with_reducible rfl)
          try simp only [Act.put, List.setIfInBounds_toArray, List.set_cons_zero, List.set_cons_succ]
          refine TK.take_at 3 (some 147) (v := ?ve3) rfl rfl (by kernel_rfl) (by kernel_rfl) (by kernel_rfl) (fun _ _ _ h => h) (Or.inl ⟨rfl, ?he3⟩) hHeld ?re3
          case he3 => intro wq hSw; (try dsimp only at hSw); go_simp; all_goals (with_reducible rfl)
          try simp only [Act.put, List.setIfInBounds_toArray, List.set_cons_zero, List.set_cons_succ]
          refine TK.take_at 4 (some 148) (v := ?ve4) rfl rfl (by kernel_rfl) (by kernel_rfl) (by kernel_rfl) (fun _ _ _ h => h) (Or.inl ⟨rfl, ?he4⟩) hHeld ?re4
          case he4 => intro wq hSw; (try dsimp only at hSw); go_simp; all_goals (with_reducible rfl)
          try simp only [Act.put, List.setIfInBounds_toArray, List.set_cons_zero, List.set_cons_succ]
          refine TK.take_at 5 (some 149) (v := ?ve5) rfl rfl (by kernel_rfl) (by kernel_rfl) (by kernel_rfl) (fun _ _ _ h => h) (Or.inl ⟨rfl, ?he5⟩) hHeld ?re5
          case he5 => intro wq hSw; (try dsimp only at hSw); go_simp; all_goals (with_reducible rfl)
          try simp only [Act.put, List.setIfInBounds_toArray, List.set_cons_zero, List.set_cons_succ]
          refine TK.take_at 6 (some 150) (v := ?ve6) rfl rfl (by kernel_rfl) (by kernel_rfl) (by kernel_rfl) (fun _ _ _ h => h) (Or.inl ⟨rfl, ?he6⟩) hHeld ?re6
          case he6 => intro wq hSw; (try dsimp only at hSw); go_simp; all_goals (with_reducible rfl)
          try simp only [Act.put, List.setIfInBounds_toArray, List.set_cons_zero, List.set_cons_succ]
          refine TK.take_at 9 (some 153) (v := ?ve9) rfl rfl (by kernel_rfl) (by kernel_rfl) (by kernel_rfl) (fun _ _ _ h => h) (Or.inl ⟨rfl, ?he9⟩) hHeld ?re9
          case he9 => intro wq hSw; (try dsimp only at hSw); go_simp; all_goals (with_reducible rfl)
          try simp only [Act.put, List.setIfInBounds_toArray, List.set_cons_zero, List.set_cons_succ]
          refine TK.take_at 10 (some 154) (v := ?ve10) rfl rfl (by kernel_rfl) (by kernel_rfl) (by kernel_rfl) (fun _ _ _ h => h) (Or.inl ⟨rfl, ?he10⟩) hHeld ?re10
          case he10 => intro wq hSw; (try dsimp only at hSw); go_simp; all_goals (with_reducible rfl)
          try simp only [Act.put, List.setIfInBounds_toArray, List.set_cons_zero, List.set_cons_succ]
          refine TK.take_at 11 (some 155) (v := ?ve11) rfl rfl (by kernel_rfl) (by kernel_rfl) (by kernel_rfl) (fun _ _ _ h => h) (Or.inl ⟨rfl, ?he11⟩) hHeld ?re11
          case he11 => intro wq hSw; (try dsimp only at hSw); go_simp; all_goals (with_reducible rfl)
          try simp only [Act.put, List.setIfInBounds_toArray, List.set_cons_zero, List.set_cons_succ]
          refine wpAnyH_ready (rs := [7]) (by kernel_rfl) (by simp) ?_
          refine AllReadyH.cons rfl (fun K hK => ?_) AllReadyH.nil
          go_simp
          (go_at_call 9; refine (CT3.out _ hb).mono ?_; rintro e xq ⟨rfl, hb⟩)
          try (go_wp2_with fail)
          refine hK.out _ _ ?_ (fun hHeld => ?_)
          · exact KH.out _ hb
          clear hK K
          try simp only [Act.put, List.setIfInBounds_toArray, List.set_cons_zero, List.set_cons_succ]
          refine TK.take_at 8 (some 152) (v := ?ve8) rfl rfl (by kernel_rfl) (by kernel_rfl) (by kernel_rfl) (fun _ _ _ h => h) (Or.inl ⟨rfl, ?he8⟩) hHeld ?re8
          case he8 => intro wq hSw; (try dsimp only at hSw); go_simp; all_goals (with_reducible rfl)
          try simp only [Act.put, List.setIfInBounds_toArray, List.set_cons_zero, List.set_cons_succ]
          refine TK.take_at 12 (some 156) (v := ?ve12) rfl rfl (by kernel_rfl) (by kernel_rfl) (by kernel_rfl) (fun _ _ _ h => h) (Or.inl ⟨rfl, ?he12⟩) hHeld ?re12
          case he12 => intro wq hSw; (try dsimp only at hSw); go_simp; all_goals (with_reducible rfl)
          try simp only [Act.put, List.setIfInBounds_toArray, List.set_cons_zero, List.set_cons_succ]
          refine TK.take_at 13 (some 157) (v := ?ve13) rfl rfl (by kernel_rfl) (by kernel_rfl) (by kernel_rfl) (fun _ _ _ h => h) (Or.inl ⟨rfl, ?he13⟩) hHeld ?re13
          case he13 => intro wq hSw; (try dsimp only at hSw); go_simp; all_goals (with_reducible rfl)
          try simp only [Act.put, List.setIfInBounds_toArray, List.set_cons_zero, List.set_cons_succ]
          refine wpAnyH_done (by kernel_rfl) ?_ _
          go_wp2_with fail
          go_meet
          case rel => exact ⟨rfl, hb⟩
        · have hyt : (y7 == 0) = false := by simp [hy0]
          clear CT
          have hb := hb.drew
          refine wp_region_held_drew (S := (fun x => x.cell? ⟨D2, 0, none⟩ = some (.int .i64 d0) ∧ x.cell? ⟨D2, 1, none⟩ = some (.int .i64 d1) ∧ x.cell? ⟨D2, 2, none⟩ = some (.string d2) ∧ x.cell? ⟨D2, 3, none⟩ = some (.int .i64 d3) ∧ x.cell? ⟨D2, 4, none⟩ = some (.int .i64 d4) ∧ x.cell? ⟨D2, 5, none⟩ = some (.string d5) ∧ x.cell? ⟨E2, 0, none⟩ = some (.int .i64 y0) ∧ x.cell? ⟨E2, 1, none⟩ = some (.int .i64 y1) ∧ x.cell? ⟨E2, 2, none⟩ = some (.string y2) ∧ x.cell? ⟨E2, 3, none⟩ = some (.int .i64 y3) ∧ x.cell? ⟨E2, 4, none⟩ = some (.int .i64 y4) ∧ x.cell? ⟨E2, 5, none⟩ = some (.string y5) ∧ x.cell? ⟨E2, 6, none⟩ = some (.string y6) ∧ x.cell? ⟨E2, 7, none⟩ = some (.int .i64 y7))) (by kernel_rfl) (KH.out _ hb) (fun hHeld => ?_)
          refine TK.take_at 0 (some 144) (v := ?vf0) rfl rfl (by kernel_rfl) (by kernel_rfl) (by kernel_rfl) (fun _ _ _ h => h) (Or.inl ⟨rfl, ?hf0⟩) hHeld ?rf0
          case hf0 => intro wq hSw; (try dsimp only at hSw); go_simp; all_goals (with_reducible rfl)
          try simp only [Act.put, List.setIfInBounds_toArray, List.set_cons_zero, List.set_cons_succ]
          refine TK.take_at 1 (some 145) (v := ?vf1) rfl rfl (by kernel_rfl) (by kernel_rfl) (by kernel_rfl) (fun _ _ _ h => h) (Or.inl ⟨rfl, ?hf1⟩) hHeld ?rf1
          case hf1 => intro wq hSw; (try dsimp only at hSw); go_simp; all_goals (with_reducible rfl)
          try simp only [Act.put, List.setIfInBounds_toArray, List.set_cons_zero, List.set_cons_succ]
          refine TK.take_at 2 (some 146) (v := ?vf2) rfl rfl (by kernel_rfl) (by kernel_rfl) (by kernel_rfl) (fun _ _ _ h => h) (Or.inl ⟨rfl, ?hf2⟩) hHeld ?rf2
          case hf2 => intro wq hSw; (try dsimp only at hSw); go_simp; all_goals (with_reducible rfl)
          try simp only [Act.put, List.setIfInBounds_toArray, List.set_cons_zero, List.set_cons_succ]
          refine TK.take_at 3 (some 147) (v := ?vf3) rfl rfl (by kernel_rfl) (by kernel_rfl) (by kernel_rfl) (fun _ _ _ h => h) (Or.inl ⟨rfl, ?hf3⟩) hHeld ?rf3
          case hf3 => intro wq hSw; (try dsimp only at hSw); go_simp; all_goals (with_reducible rfl)
          try simp only [Act.put, List.setIfInBounds_toArray, List.set_cons_zero, List.set_cons_succ]
          refine TK.take_at 4 (some 148) (v := undef) rfl rfl (by kernel_rfl) (by kernel_rfl) (by kernel_rfl) (fun _ _ _ h => h) (Or.inr ⟨rfl, rfl⟩) hHeld ?_
          try simp only [Act.put, List.setIfInBounds_toArray, List.set_cons_zero, List.set_cons_succ]
          refine TK.take_at 5 (some 149) (v := undef) rfl rfl (by kernel_rfl) (by kernel_rfl) (by kernel_rfl) (fun _ _ _ h => h) (Or.inr ⟨rfl, rfl⟩) hHeld ?_
          try simp only [Act.put, List.setIfInBounds_toArray, List.set_cons_zero, List.set_cons_succ]
          refine TK.take_at 6 (some 150) (v := undef) rfl rfl (by kernel_rfl) (by kernel_rfl) (by kernel_rfl) (fun _ _ _ h => h) (Or.inr ⟨rfl, rfl⟩) hHeld ?_
          try simp only [Act.put, List.setIfInBounds_toArray, List.set_cons_zero, List.set_cons_succ]
          refine TK.take_at 7 (some 151) (v := undef) rfl rfl (by kernel_rfl) (by kernel_rfl) (by kernel_rfl) (fun _ _ _ h => h) (Or.inr ⟨rfl, rfl⟩) hHeld ?_
          try simp only [Act.put, List.setIfInBounds_toArray, List.set_cons_zero, List.set_cons_succ]
          refine TK.take_at 8 (some 152) (v := undef) rfl rfl (by kernel_rfl) (by kernel_rfl) (by kernel_rfl) (fun _ _ _ h => h) (Or.inr ⟨rfl, rfl⟩) hHeld ?_
          try simp only [Act.put, List.setIfInBounds_toArray, List.set_cons_zero, List.set_cons_succ]
          refine TK.take_at 9 (some 153) (v := undef) rfl rfl (by kernel_rfl) (by kernel_rfl) (by kernel_rfl) (fun _ _ _ h => h) (Or.inr ⟨rfl, rfl⟩) hHeld ?_
          try simp only [Act.put, List.setIfInBounds_toArray, List.set_cons_zero, List.set_cons_succ]
          refine TK.take_at 10 (some 154) (v := undef) rfl rfl (by kernel_rfl) (by kernel_rfl) (by kernel_rfl) (fun _ _ _ h => h) (Or.inr ⟨rfl, rfl⟩) hHeld ?_
          try simp only [Act.put, List.setIfInBounds_toArray, List.set_cons_zero, List.set_cons_succ]
          refine TK.take_at 11 (some 155) (v := undef) rfl rfl (by kernel_rfl) (by kernel_rfl) (by kernel_rfl) (fun _ _ _ h => h) (Or.inr ⟨rfl, rfl⟩) hHeld ?_
          try simp only [Act.put, List.setIfInBounds_toArray, List.set_cons_zero, List.set_cons_succ]
          refine TK.take_at 12 (some 156) (v := undef) rfl rfl (by kernel_rfl) (by kernel_rfl) (by kernel_rfl) (fun _ _ _ h => h) (Or.inr ⟨rfl, rfl⟩) hHeld ?_
          try simp only [Act.put, List.setIfInBounds_toArray, List.set_cons_zero, List.set_cons_succ]
          refine TK.take_at 13 (some 157) (v := ?vf13) rfl rfl (by kernel_rfl) (by kernel_rfl) (by kernel_rfl) (fun _ _ _ h => h) (Or.inl ⟨rfl, ?hf13⟩) hHeld ?rf13
          case hf13 => intro wq hSw; (try dsimp only at hSw); go_simp; all_goals (with_reducible rfl)
          try simp only [Act.put, List.setIfInBounds_toArray, List.set_cons_zero, List.set_cons_succ]
          refine wpAnyH_done (by kernel_rfl) ?_ _
          go_wp2_with fail
          go_meet
          case rel => exact ⟨rfl, hb⟩
      case rest =>
        obtain ⟨rfl, hb⟩ := hcut
        go_upto_region 19 with fail
        go_cut [187] (fun s x => s = .bool false ∧ Below W.heap.size W x)
        case first => as_aux_lemma =>
          have hx := KF.out _ hb
          have kD13 := hx.2.2.2.1
          have kD15 := hx.2.2.2.2.2.1
          have kE13 := hx.2.2.2.2.2.2.2.2.2.1
          have kE16 := hx.2.2.2.2.2.2.2.2.2.2.2.2.1
          have kE17 := hx.2.2.2.2.2.2.2.2.2.2.2.2.2.1
          clear hx KF KG KH KI LW G1 G2 G3 G5
          by_cases hr0 : r7 = 0
          · have ht := (YP.try_zero (c := ⟨a0, a1, a2, a3, a4, a5⟩) (pin := pin) (by rw [hOr]; exact hr0)).1
            rw [hOr] at ht
            have e6 : r6 = a5 := congrArg CO.t ht
            have t0 : (r7 == 0) = true := by simp [hr0]
            have t6 : (r6.toList == a5.toList) = true := by simp [e6]
            have t1 : (r7 == 11) = false := by simp [hr0]
            clear ht e6 hr0
            go_wp2_with fail
            go_meet
            case rel => exact ⟨rfl, hb⟩
          have t0 : (r7 == 0) = false := by simp [hr0]
          by_cases hr1 : r7 = 11
          · have ht := YP.try_wrong (c := ⟨a0, a1, a2, a3, a4, a5⟩) (pin := pin) (by rw [hOr]; exact hr1)
            obtain ⟨h1, ha, _⟩ := ht
            rw [hOr] at h1
            have e6 : r6 = ⟨#[]⟩ := congrArg CO.t h1
            have e3 : r3 = a3 - 1 := congrArg (fun o => o.c.tr) h1
            have t1 : (r7 == 11) = true := by simp [hr1]
            have t6 : (r6.toList == []) = true := by rw [e6, ByteArray.toList_eq]; rfl
            have hq3 := (cardB_parts ha).2.2.2.1
            dsimp only at hq3
            have hw : IntKind.i64.wrap (a3 - 1) = a3 - 1 := by rw [IntKind.wrap_i64]; omega
            have hw2 : Go.RowKit.wrap64 (a3 - 1) = a3 - 1 := by unfold Go.RowKit.wrap64; omega
            have t3 : (r3 == a3 - 1) = true := by simp [e3]
            clear h1 ha e6 hr1 hr0 hq3
            go_wp2_with fail
            go_meet
            case rel => exact ⟨rfl, hb⟩
          have t1 : (r7 == 11) = false := by simp [hr1]
          clear hr0 hr1
          go_wp2_with fail
          go_meet
          case rel => exact ⟨rfl, hb⟩
        case rest =>
          obtain ⟨rfl, hb⟩ := hcut
          have kz := by have hx := KF.out _ hb; exact hx.2.2.2.2.2.2.2.2.2.2.2.2.2.2.2.2.2.2.2.2.2.2.2.2.2.2.2.2.2.2.2.2.2.2.2.2.2.1
          by_cases hz : ¬ z7 = 0
          · have tz : (z7 == 0) = false := by simp [hz]
            clear KF KG KH KI LW G1 G2 G3 G5
            go_wp2_with fail
            go_ret
            exact ⟨rfl, bel2 BW.out hb⟩
          have hz0 : z7 = 0 := by omega
          have hn := YP.new_zero (id := id) (ep := ep) (pin := p) (ix := ix) (dt := dt) (by rw [hOz]; exact hz0)
          rw [hOz] at hn
          obtain ⟨he, hpp, hcz⟩ := hn
          have e0 : id = z0 := (congrArg (fun o => o.c.id) he).symm
          have e1 : ep = z1 := (congrArg (fun o => o.c.ep) he).symm
          have e2 : z2 = macOf id p := congrArg (fun o => o.c.pin) he
          have e3 : 3 = z3 := (congrArg (fun o => o.c.tr) he).symm
          have e4 : ix = z4 := (congrArg (fun o => o.c.ix) he).symm
          have e5 : dt = z5 := (congrArg (fun o => o.c.dt) he).symm
          rw [← e2] at hcz
          have e7 : 0 = z7 := hz0.symm
          clear he hz hz0 hOz hOr hOy hOq hT G1 G2 G3 G5 KG KH LW hCa hCd hCb hzA hzD hzB
          subst e0 e1 e3 e4 e5 e7
          have HZ2 : Hid (z2 = macOf id p) := e2
          clear e2
          have hx := KF.out _ hb
          have s0 := hx.2.2.2.2.2.2.2.2.2.2.2.2.2.2.2.2.2.2.2.2.2.2.2.2.2.2.2.2.2.2.1
          have s1 := hx.2.2.2.2.2.2.2.2.2.2.2.2.2.2.2.2.2.2.2.2.2.2.2.2.2.2.2.2.2.2.2.1
          have s2 := hx.2.2.2.2.2.2.2.2.2.2.2.2.2.2.2.2.2.2.2.2.2.2.2.2.2.2.2.2.2.2.2.2.1
          have s3 := hx.2.2.2.2.2.2.2.2.2.2.2.2.2.2.2.2.2.2.2.2.2.2.2.2.2.2.2.2.2.2.2.2.2.1
          have s4 := hx.2.2.2.2.2.2.2.2.2.2.2.2.2.2.2.2.2.2.2.2.2.2.2.2.2.2.2.2.2.2.2.2.2.2.1
          have s5 := hx.2.2.2.2.2.2.2.2.2.2.2.2.2.2.2.2.2.2.2.2.2.2.2.2.2.2.2.2.2.2.2.2.2.2.2.1
          have hbK := bel2 hb (albel _ (.cells #[.int .i64 id, .int .i64 ep, .string z2, .int .i64 3, .int .i64 ix, .string dt] 26))
          have kS := newS hb (.cells #[.int .i64 id, .int .i64 ep, .string z2, .int .i64 3, .int .i64 ix, .string dt] 26)
          clear hx KF
          go_upto_region 24 with fail
          have lS : W.heap.size ≤ wc.heap.size := hb.size
          generalize wc.heap.size = S at *
          generalize hY0 : wc.alloc (.cells #[.int .i64 id, .int .i64 ep, .string z2, .int .i64 3, .int .i64 ix, .string dt] 26) = Y at *
          clear hY0 hb s0 s1 s2 s3 s4 s5 kz
          have HKS : Hid (Y.heap[S]? = some (.cells #[.int .i64 id, .int .i64 ep, .string z2, .int .i64 3, .int .i64 ix, .string dt] 26)) := kS
          have HBK : Hid (Below W.heap.size W Y) := hbK
          clear kS hbK
          go_wp2_with fail
          go_loopw [22] (fun i y => ∃ k : Nat, k ≤ 3 ∧ i = .int .i64 (k : Nat) ∧ Below W.heap.size W y ∧ y.heap[S]? = some (.cells #[.int .i64 id, .int .i64 ep, .string z2, .int .i64 (3 - (k : Int)), .int .i64 ix, .string dt] 26)) (fun i _ => 3 - (intOf i).toNat)
          case atStart => exact ⟨0, by omega, rfl, HBK.out, HKS.out⟩
          case round =>
            clear HKS HBK
            obtain ⟨k, hk, rfl, hb, kS⟩ := hrel
            obtain ⟨tk, htk⟩ : ∃ tk : Int, 3 - (k : Int) = tk := ⟨_, rfl⟩
            rw [htk] at kS
            by_cases hlt : k < 3
            ·
              have hlt' : (k : Int) < 3 := by exact_mod_cast hlt
              have hck : cardB ⟨id, ep, z2, tk, ix, dt⟩ = true := YP.right_tries (c := ⟨id, ep, z2, 3, ix, dt⟩) (t := tk) hcz (tk_ok htk hk)
              have hsm := YP.right_small hck
              have hz2 := (cardB_parts hck).2.2.1
              dsimp only at hsm hz2
              obtain ⟨ow, hOw⟩ : ∃ o, tryR ⟨id, ep, z2, tk, ix, dt⟩ ⟨#[48, 48, 48, 48, 48, 48, 48, 48]⟩ = o := ⟨_, rfl⟩
              have h48 : (⟨#[48, 48, 48, 48, 48, 48, 48, 48]⟩ : ByteArray).size = 8 := rfl
              have I6 : Hid (∀ x, K2.Laid x → Calls Tryd.prog 9 #[.agg #[.int .i64 id, .int .i64 ep, .string z2, .int .i64 tk, .int .i64 ix, .string dt], .string ⟨#[48, 48, 48, 48, 48, 48, 48, 48]⟩] x fun e w' => e = .returned (coV ow) ∧ Below x.heap.size x w') := fun x hx => by rw [← hOw]; exact Q0.try_impl ⟨id, ep, z2, tk, ix, dt⟩ _ x hx (mx 8 (Nat.le_of_eq h48) (by decide)) (mx 32 (Nat.le_of_eq hz2) (by decide)) (mx 16 hsm.2 (by decide))
              have S6 : Hid (∀ x, Calls Tryd.prog 19 #[.agg #[.int .i64 id, .int .i64 ep, .string z2, .int .i64 tk, .int .i64 ix, .string dt], .string ⟨#[48, 48, 48, 48, 48, 48, 48, 48]⟩] x fun e w' => e = .returned (coV ow) ∧ Below x.heap.size x w') := fun x => by rw [← hOw]; exact P4.try_spec ⟨id, ep, z2, tk, ix, dt⟩ _ x (mx 8 (Nat.le_of_eq h48) (by decide)) (mx 32 (Nat.le_of_eq hz2) (by decide)) (mx 16 hsm.2 (by decide))
              have h1 := YP.try_small (c := ⟨id, ep, z2, tk, ix, dt⟩) (pin := ⟨#[48, 48, 48, 48, 48, 48, 48, 48]⟩) (Nat.le_trans (Nat.le_of_eq hz2) (by decide)) (Nat.le_trans hsm.2 (by decide))
              have h2 := YP.try_right (c := ⟨id, ep, z2, tk, ix, dt⟩) (pin := ⟨#[48, 48, 48, 48, 48, 48, 48, 48]⟩)
              rw [hOw] at h1 h2
              have LV : Hid (∀ x, Calls Tryd.prog 18 #[coV ow, coV ow] x fun e w' => e = .returned (.bool true) ∧ Below x.heap.size x w') := fun x => P1.lw_same ow x (mx 1000 h1.1 (by decide)) (mx 1000 h1.2.1 (by decide)) h2
              clear h1 h2 h48 hsm hz2 hck
              obtain ⟨⟨v0, v1, v2, v3, v4, v5⟩, v6, v7⟩ := ow
              unfold coV at I6 S6 LV
              dsimp only at I6 S6 LV
              have KS : Hid (∀ x, Below wr.heap.size wr x → (x.cell? ⟨S, 0, none⟩ = some (.int .i64 id) ∧ x.cell? ⟨S, 1, none⟩ = some (.int .i64 ep) ∧ x.cell? ⟨S, 2, none⟩ = some (.string z2) ∧ x.cell? ⟨S, 3, none⟩ = some (.int .i64 tk) ∧ x.cell? ⟨S, 4, none⟩ = some (.int .i64 ix) ∧ x.cell? ⟨S, 5, none⟩ = some (.string dt))) := fun x hx => by have h := carry kS hx; exact ⟨block_cell h 0, block_cell h 1, block_cell h 2, block_cell h 3, block_cell h 4, block_cell h 5⟩
              have HLX : Hid (∀ x, Below wr.heap.size wr x → K2.Laid x) := fun x hx => hLW.below (bel2 hb hx)
              go_upto_region 27 with fail
              go_cut [23, 24] from 193 to 209 (fun p q x => ∃ g1 g2 : Nat, p = .pointer (some ⟨g1, 0, none⟩) ∧ q = .pointer (some ⟨g2, 0, none⟩) ∧ x.heap[g1]? = some (.cells #[.int .i64 v0, .int .i64 v1, .string v2, .int .i64 v3, .int .i64 v4, .string v5, .string v6, .int .i64 v7] 30 (0, 0)) ∧ x.heap[g2]? = some (.cells #[.int .i64 v0, .int .i64 v1, .string v2, .int .i64 v3, .int .i64 v4, .string v5, .string v6, .int .i64 v7] 30 (0, 0)) ∧ Below wr.heap.size wr x)
              case first => as_aux_lemma =>
                clear hOw LV hcz hpp HZ2 hLW KI BW hL hb kS
                have hb0 : Below wr.heap.size wr wr.drew := (Below.refl _ _).drew
                refine wp_region_held_drew (S := (fun x => x.cell? ⟨S, 0, none⟩ = some (.int .i64 id) ∧ x.cell? ⟨S, 1, none⟩ = some (.int .i64 ep) ∧ x.cell? ⟨S, 2, none⟩ = some (.string z2) ∧ x.cell? ⟨S, 3, none⟩ = some (.int .i64 tk) ∧ x.cell? ⟨S, 4, none⟩ = some (.int .i64 ix) ∧ x.cell? ⟨S, 5, none⟩ = some (.string dt))) (by kernel_rfl) (KS.out _ hb0) (fun hHeld => ?_)
                generalize wr.drew = y0 at *
                refine TK.take_at 0 (some 197) (v := ?vq0) rfl rfl (by kernel_rfl) (by kernel_rfl) (by kernel_rfl) (fun _ _ _ h => h) (Or.inl ⟨rfl, ?hq0⟩) hHeld ?rq0
                case hq0 => intro wq hSw; (try dsimp only at hSw); go_simp; all_goals (with_reducible rfl)
                try simp only [Act.put, List.setIfInBounds_toArray, List.set_cons_zero, List.set_cons_succ]
                refine TK.take_at 2 (some 199) (v := ?vq2) rfl rfl (by kernel_rfl) (by kernel_rfl) (by kernel_rfl) (fun _ _ _ h => h) (Or.inl ⟨rfl, ?hq2⟩) hHeld ?rq2
                case hq2 => intro wq hSw; (try dsimp only at hSw); go_simp; all_goals (with_reducible rfl)
                try simp only [Act.put, List.setIfInBounds_toArray, List.set_cons_zero, List.set_cons_succ]
                refine wpAnyH_ready (rs := [1, 4, 5]) (by kernel_rfl) (by simp) ?_
                refine AllReadyH.cons rfl (fun K hK => ?_) ?_
                ·
                  go_simp
                  (go_at_call 9; refine (I6.out _ (HLX.out _ hb0)).mono ?_; rintro e y1 ⟨rfl, hq⟩)
                  try (go_wp2_with fail)
                  have hb1 := bel2 hb0 hq
                  clear hq
                  refine hK.out _ _ ?_ (fun hHeld => ?_)
                  · exact KS.out _ hb1
                  clear hK K
                  try simp only [Act.put, List.setIfInBounds_toArray, List.set_cons_zero, List.set_cons_succ]
                  refine wpAnyH_ready (rs := [3, 4, 5]) (by kernel_rfl) (by simp) ?_
                  refine AllReadyH.cons rfl (fun K hK => ?_) ?_
                  ·
                    go_simp
                    (go_at_call 19; refine (S6.out _).mono ?_; rintro e y2 ⟨rfl, hq⟩)
                    try (go_wp2_with fail)
                    have hb2 := bel2 hb1 hq
                    clear hq
                    refine hK.out _ _ ?_ (fun hHeld => ?_)
                    · exact KS.out _ hb2
                    clear hK K
                    try simp only [Act.put, List.setIfInBounds_toArray, List.set_cons_zero, List.set_cons_succ]
                    refine wpAnyH_ready (rs := [4, 5]) (by kernel_rfl) (by simp) ?_
                    refine AllReadyH.cons rfl (fun K hK => ?_) ?_
                    ·
                      go_simp
                      have hb3 := bel2 hb2 (albel y2 (.cells #[.int .i64 0, .int .i64 0, .string ⟨#[]⟩, .int .i64 0, .int .i64 0, .string ⟨#[]⟩, .string ⟨#[]⟩, .int .i64 0] 30))
                      have k4_3 := heap_alloc_new y2 (.cells #[.int .i64 0, .int .i64 0, .string ⟨#[]⟩, .int .i64 0, .int .i64 0, .string ⟨#[]⟩, .string ⟨#[]⟩, .int .i64 0] 30)
                      have lo4 := hb2.size
                      refine hK.out _ _ ?_ (fun hHeld => ?_)
                      · exact KS.out _ hb3
                      clear hK K
                      try simp only [Act.put, List.setIfInBounds_toArray, List.set_cons_zero, List.set_cons_succ]
                      generalize y2.heap.size = g4 at *
                      generalize y2.alloc (.cells #[.int .i64 0, .int .i64 0, .string ⟨#[]⟩, .int .i64 0, .int .i64 0, .string ⟨#[]⟩, .string ⟨#[]⟩, .int .i64 0] 30) = y3 at *
                      refine wpAnyH_ready (rs := [5]) (by kernel_rfl) (by simp) ?_
                      refine AllReadyH.cons rfl (fun K hK => ?_) AllReadyH.nil
                      go_simp
                      have hb4 := bel2 hb3 (albel y3 (.cells #[.int .i64 0, .int .i64 0, .string ⟨#[]⟩, .int .i64 0, .int .i64 0, .string ⟨#[]⟩, .string ⟨#[]⟩, .int .i64 0] 30))
                      have k5_4 := heap_alloc_new y3 (.cells #[.int .i64 0, .int .i64 0, .string ⟨#[]⟩, .int .i64 0, .int .i64 0, .string ⟨#[]⟩, .string ⟨#[]⟩, .int .i64 0] 30)
                      have lo5 := hb3.size
                      have ne4 := lt_some k4_3
                      have k4_4 := carryA k4_3 (.cells #[.int .i64 0, .int .i64 0, .string ⟨#[]⟩, .int .i64 0, .int .i64 0, .string ⟨#[]⟩, .string ⟨#[]⟩, .int .i64 0] 30)
                      refine hK.out _ _ ?_ (fun hHeld => ?_)
                      · exact KS.out _ hb4
                      clear hK K
                      try simp only [Act.put, List.setIfInBounds_toArray, List.set_cons_zero, List.set_cons_succ]
                      generalize y3.heap.size = g5 at *
                      generalize y3.alloc (.cells #[.int .i64 0, .int .i64 0, .string ⟨#[]⟩, .int .i64 0, .int .i64 0, .string ⟨#[]⟩, .string ⟨#[]⟩, .int .i64 0] 30) = y4 at *
                      refine wpAnyH_ready (rs := [6]) (by kernel_rfl) (by simp) ?_
                      refine AllReadyH.cons rfl (fun K hK => ?_) AllReadyH.nil
                      refine TK.store_if (by kernel_rfl) 30 (.tmp 23) (.tmp 198) ⟨g4, 0, none⟩ (.agg #[.int .i64 v0, .int .i64 v1, .string v2, .int .i64 v3, .int .i64 v4, .string v5, .string v6, .int .i64 v7]) rfl rfl rfl rfl (C9.store_row y4 g4 30 30 _ #[.int .i64 v0, .int .i64 v1, .string v2, .int .i64 v3, .int .i64 v4, .string v5, .string v6, .int .i64 v7] k4_4 (by kernel_rfl) rfl (one8 _ _ _ _ _ _ _ _)) ?_
                      have hb5 := below_setRow hb4 lo4 #[.int .i64 v0, .int .i64 v1, .string v2, .int .i64 v3, .int .i64 v4, .string v5, .string v6, .int .i64 v7]
                      refine hK.out _ _ ?_ (fun hHeld => ?_)
                      · exact KS.out _ hb5
                      clear hK K
                      have k4_5 : (y4.setRow g4 #[.int .i64 v0, .int .i64 v1, .string v2, .int .i64 v3, .int .i64 v4, .string v5, .string v6, .int .i64 v7]).heap[g4]? = some (.cells #[.int .i64 v0, .int .i64 v1, .string v2, .int .i64 v3, .int .i64 v4, .string v5, .string v6, .int .i64 v7] 30 (0, 0)) := setRow_heap _ _ _ _ _ _ k4_4
                      have k5_5 := (setRow_other y4 g4 g5 #[.int .i64 v0, .int .i64 v1, .string v2, .int .i64 v3, .int .i64 v4, .string v5, .string v6, .int .i64 v7] (Nat.ne_of_gt ne4)).trans k5_4
                      generalize y4.setRow g4 #[.int .i64 v0, .int .i64 v1, .string v2, .int .i64 v3, .int .i64 v4, .string v5, .string v6, .int .i64 v7] = y5 at *
                      refine wpAnyH_ready (rs := [7]) (by kernel_rfl) (by simp) ?_
                      refine AllReadyH.cons rfl (fun K hK => ?_) AllReadyH.nil
                      refine TK.store_if (by kernel_rfl) 30 (.tmp 24) (.tmp 200) ⟨g5, 0, none⟩ (.agg #[.int .i64 v0, .int .i64 v1, .string v2, .int .i64 v3, .int .i64 v4, .string v5, .string v6, .int .i64 v7]) rfl rfl rfl rfl (C9.store_row y5 g5 30 30 _ #[.int .i64 v0, .int .i64 v1, .string v2, .int .i64 v3, .int .i64 v4, .string v5, .string v6, .int .i64 v7] k5_5 (by kernel_rfl) rfl (one8 _ _ _ _ _ _ _ _)) ?_
                      have hb6 := below_setRow hb5 lo5 #[.int .i64 v0, .int .i64 v1, .string v2, .int .i64 v3, .int .i64 v4, .string v5, .string v6, .int .i64 v7]
                      refine hK.out _ _ ?_ (fun hHeld => ?_)
                      · exact KS.out _ hb6
                      clear hK K
                      have k5_6 : (y5.setRow g5 #[.int .i64 v0, .int .i64 v1, .string v2, .int .i64 v3, .int .i64 v4, .string v5, .string v6, .int .i64 v7]).heap[g5]? = some (.cells #[.int .i64 v0, .int .i64 v1, .string v2, .int .i64 v3, .int .i64 v4, .string v5, .string v6, .int .i64 v7] 30 (0, 0)) := setRow_heap _ _ _ _ _ _ k5_5
                      have k4_6 := (setRow_other y5 g5 g4 #[.int .i64 v0, .int .i64 v1, .string v2, .int .i64 v3, .int .i64 v4, .string v5, .string v6, .int .i64 v7] (Nat.ne_of_lt ne4)).trans k4_5
                      generalize y5.setRow g5 #[.int .i64 v0, .int .i64 v1, .string v2, .int .i64 v3, .int .i64 v4, .string v5, .string v6, .int .i64 v7] = y6 at *
                      refine wpAnyH_done (by kernel_rfl) ?_ _
                      go_wp2_with fail
                      go_meet
                      case rel => exact ⟨g4, g5, rfl, rfl, k4_6, k5_6, hb6⟩
                    refine AllReadyH.cons rfl (fun K hK => ?_) AllReadyH.nil
                    go_simp
                    have hb7 := bel2 hb2 (albel y2 (.cells #[.int .i64 0, .int .i64 0, .string ⟨#[]⟩, .int .i64 0, .int .i64 0, .string ⟨#[]⟩, .string ⟨#[]⟩, .int .i64 0] 30))
                    have k5_7 := heap_alloc_new y2 (.cells #[.int .i64 0, .int .i64 0, .string ⟨#[]⟩, .int .i64 0, .int .i64 0, .string ⟨#[]⟩, .string ⟨#[]⟩, .int .i64 0] 30)
                    have lo5 := hb2.size
                    refine hK.out _ _ ?_ (fun hHeld => ?_)
                    · exact KS.out _ hb7
                    clear hK K
                    try simp only [Act.put, List.setIfInBounds_toArray, List.set_cons_zero, List.set_cons_succ]
                    generalize y2.heap.size = g5 at *
                    generalize y2.alloc (.cells #[.int .i64 0, .int .i64 0, .string ⟨#[]⟩, .int .i64 0, .int .i64 0, .string ⟨#[]⟩, .string ⟨#[]⟩, .int .i64 0] 30) = y7 at *
                    refine wpAnyH_ready (rs := [4]) (by kernel_rfl) (by simp) ?_
                    refine AllReadyH.cons rfl (fun K hK => ?_) AllReadyH.nil
                    go_simp
                    have hb8 := bel2 hb7 (albel y7 (.cells #[.int .i64 0, .int .i64 0, .string ⟨#[]⟩, .int .i64 0, .int .i64 0, .string ⟨#[]⟩, .string ⟨#[]⟩, .int .i64 0] 30))
                    have k4_8 := heap_alloc_new y7 (.cells #[.int .i64 0, .int .i64 0, .string ⟨#[]⟩, .int .i64 0, .int .i64 0, .string ⟨#[]⟩, .string ⟨#[]⟩, .int .i64 0] 30)
                    have lo4 := hb7.size
                    have ne5 := lt_some k5_7
                    have k5_8 := carryA k5_7 (.cells #[.int .i64 0, .int .i64 0, .string ⟨#[]⟩, .int .i64 0, .int .i64 0, .string ⟨#[]⟩, .string ⟨#[]⟩, .int .i64 0] 30)
                    refine hK.out _ _ ?_ (fun hHeld => ?_)
                    · exact KS.out _ hb8
                    clear hK K
                    try simp only [Act.put, List.setIfInBounds_toArray, List.set_cons_zero, List.set_cons_succ]
                    generalize y7.heap.size = g4 at *
                    generalize y7.alloc (.cells #[.int .i64 0, .int .i64 0, .string ⟨#[]⟩, .int .i64 0, .int .i64 0, .string ⟨#[]⟩, .string ⟨#[]⟩, .int .i64 0] 30) = y8 at *
                    refine wpAnyH_ready (rs := [6]) (by kernel_rfl) (by simp) ?_
                    refine AllReadyH.cons rfl (fun K hK => ?_) AllReadyH.nil
                    refine TK.store_if (by kernel_rfl) 30 (.tmp 23) (.tmp 198) ⟨g4, 0, none⟩ (.agg #[.int .i64 v0, .int .i64 v1, .string v2, .int .i64 v3, .int .i64 v4, .string v5, .string v6, .int .i64 v7]) rfl rfl rfl rfl (C9.store_row y8 g4 30 30 _ #[.int .i64 v0, .int .i64 v1, .string v2, .int .i64 v3, .int .i64 v4, .string v5, .string v6, .int .i64 v7] k4_8 (by kernel_rfl) rfl (one8 _ _ _ _ _ _ _ _)) ?_
                    have hb9 := below_setRow hb8 lo4 #[.int .i64 v0, .int .i64 v1, .string v2, .int .i64 v3, .int .i64 v4, .string v5, .string v6, .int .i64 v7]
                    refine hK.out _ _ ?_ (fun hHeld => ?_)
                    · exact KS.out _ hb9
                    clear hK K
                    have k4_9 : (y8.setRow g4 #[.int .i64 v0, .int .i64 v1, .string v2, .int .i64 v3, .int .i64 v4, .string v5, .string v6, .int .i64 v7]).heap[g4]? = some (.cells #[.int .i64 v0, .int .i64 v1, .string v2, .int .i64 v3, .int .i64 v4, .string v5, .string v6, .int .i64 v7] 30 (0, 0)) := setRow_heap _ _ _ _ _ _ k4_8
                    have k5_9 := (setRow_other y8 g4 g5 #[.int .i64 v0, .int .i64 v1, .string v2, .int .i64 v3, .int .i64 v4, .string v5, .string v6, .int .i64 v7] (Nat.ne_of_lt ne5)).trans k5_8
                    generalize y8.setRow g4 #[.int .i64 v0, .int .i64 v1, .string v2, .int .i64 v3, .int .i64 v4, .string v5, .string v6, .int .i64 v7] = y9 at *
                    refine wpAnyH_ready (rs := [7]) (by kernel_rfl) (by simp) ?_
                    refine AllReadyH.cons rfl (fun K hK => ?_) AllReadyH.nil
                    refine TK.store_if (by kernel_rfl) 30 (.tmp 24) (.tmp 200) ⟨g5, 0, none⟩ (.agg #[.int .i64 v0, .int .i64 v1, .string v2, .int .i64 v3, .int .i64 v4, .string v5, .string v6, .int .i64 v7]) rfl rfl rfl rfl (C9.store_row y9 g5 30 30 _ #[.int .i64 v0, .int .i64 v1, .string v2, .int .i64 v3, .int .i64 v4, .string v5, .string v6, .int .i64 v7] k5_9 (by kernel_rfl) rfl (one8 _ _ _ _ _ _ _ _)) ?_
                    have hb10 := below_setRow hb9 lo5 #[.int .i64 v0, .int .i64 v1, .string v2, .int .i64 v3, .int .i64 v4, .string v5, .string v6, .int .i64 v7]
                    refine hK.out _ _ ?_ (fun hHeld => ?_)
                    · exact KS.out _ hb10
                    clear hK K
                    have k5_10 : (y9.setRow g5 #[.int .i64 v0, .int .i64 v1, .string v2, .int .i64 v3, .int .i64 v4, .string v5, .string v6, .int .i64 v7]).heap[g5]? = some (.cells #[.int .i64 v0, .int .i64 v1, .string v2, .int .i64 v3, .int .i64 v4, .string v5, .string v6, .int .i64 v7] 30 (0, 0)) := setRow_heap _ _ _ _ _ _ k5_9
                    have k4_10 := (setRow_other y9 g5 g4 #[.int .i64 v0, .int .i64 v1, .string v2, .int .i64 v3, .int .i64 v4, .string v5, .string v6, .int .i64 v7] (Nat.ne_of_gt ne5)).trans k4_9
                    generalize y9.setRow g5 #[.int .i64 v0, .int .i64 v1, .string v2, .int .i64 v3, .int .i64 v4, .string v5, .string v6, .int .i64 v7] = y10 at *
                    refine wpAnyH_done (by kernel_rfl) ?_ _
                    go_wp2_with fail
                    go_meet
                    case rel => exact ⟨g4, g5, rfl, rfl, k4_10, k5_10, hb10⟩
                  refine AllReadyH.cons rfl (fun K hK => ?_) ?_
                  ·
                    go_simp
                    have hb11 := bel2 hb1 (albel y1 (.cells #[.int .i64 0, .int .i64 0, .string ⟨#[]⟩, .int .i64 0, .int .i64 0, .string ⟨#[]⟩, .string ⟨#[]⟩, .int .i64 0] 30))
                    have k4_11 := heap_alloc_new y1 (.cells #[.int .i64 0, .int .i64 0, .string ⟨#[]⟩, .int .i64 0, .int .i64 0, .string ⟨#[]⟩, .string ⟨#[]⟩, .int .i64 0] 30)
                    have lo4 := hb1.size
                    refine hK.out _ _ ?_ (fun hHeld => ?_)
                    · exact KS.out _ hb11
                    clear hK K
                    try simp only [Act.put, List.setIfInBounds_toArray, List.set_cons_zero, List.set_cons_succ]
                    generalize y1.heap.size = g4 at *
                    generalize y1.alloc (.cells #[.int .i64 0, .int .i64 0, .string ⟨#[]⟩, .int .i64 0, .int .i64 0, .string ⟨#[]⟩, .string ⟨#[]⟩, .int .i64 0] 30) = y11 at *
                    refine wpAnyH_ready (rs := [3, 5]) (by kernel_rfl) (by simp) ?_
                    refine AllReadyH.cons rfl (fun K hK => ?_) ?_
                    ·
                      go_simp
                      (go_at_call 19; refine (S6.out _).mono ?_; rintro e y12 ⟨rfl, hq⟩)
                      try (go_wp2_with fail)
                      have hb12 := bel2 hb11 hq
                      have k4_12 := carry k4_11 hq
                      clear hq
                      refine hK.out _ _ ?_ (fun hHeld => ?_)
                      · exact KS.out _ hb12
                      clear hK K
                      try simp only [Act.put, List.setIfInBounds_toArray, List.set_cons_zero, List.set_cons_succ]
                      refine wpAnyH_ready (rs := [5]) (by kernel_rfl) (by simp) ?_
                      refine AllReadyH.cons rfl (fun K hK => ?_) AllReadyH.nil
                      go_simp
                      have hb13 := bel2 hb12 (albel y12 (.cells #[.int .i64 0, .int .i64 0, .string ⟨#[]⟩, .int .i64 0, .int .i64 0, .string ⟨#[]⟩, .string ⟨#[]⟩, .int .i64 0] 30))
                      have k5_13 := heap_alloc_new y12 (.cells #[.int .i64 0, .int .i64 0, .string ⟨#[]⟩, .int .i64 0, .int .i64 0, .string ⟨#[]⟩, .string ⟨#[]⟩, .int .i64 0] 30)
                      have lo5 := hb12.size
                      have ne4 := lt_some k4_12
                      have k4_13 := carryA k4_12 (.cells #[.int .i64 0, .int .i64 0, .string ⟨#[]⟩, .int .i64 0, .int .i64 0, .string ⟨#[]⟩, .string ⟨#[]⟩, .int .i64 0] 30)
                      refine hK.out _ _ ?_ (fun hHeld => ?_)
                      · exact KS.out _ hb13
                      clear hK K
                      try simp only [Act.put, List.setIfInBounds_toArray, List.set_cons_zero, List.set_cons_succ]
                      generalize y12.heap.size = g5 at *
                      generalize y12.alloc (.cells #[.int .i64 0, .int .i64 0, .string ⟨#[]⟩, .int .i64 0, .int .i64 0, .string ⟨#[]⟩, .string ⟨#[]⟩, .int .i64 0] 30) = y13 at *
                      refine wpAnyH_ready (rs := [6]) (by kernel_rfl) (by simp) ?_
                      refine AllReadyH.cons rfl (fun K hK => ?_) AllReadyH.nil
                      refine TK.store_if (by kernel_rfl) 30 (.tmp 23) (.tmp 198) ⟨g4, 0, none⟩ (.agg #[.int .i64 v0, .int .i64 v1, .string v2, .int .i64 v3, .int .i64 v4, .string v5, .string v6, .int .i64 v7]) rfl rfl rfl rfl (C9.store_row y13 g4 30 30 _ #[.int .i64 v0, .int .i64 v1, .string v2, .int .i64 v3, .int .i64 v4, .string v5, .string v6, .int .i64 v7] k4_13 (by kernel_rfl) rfl (one8 _ _ _ _ _ _ _ _)) ?_
                      have hb14 := below_setRow hb13 lo4 #[.int .i64 v0, .int .i64 v1, .string v2, .int .i64 v3, .int .i64 v4, .string v5, .string v6, .int .i64 v7]
                      refine hK.out _ _ ?_ (fun hHeld => ?_)
                      · exact KS.out _ hb14
                      clear hK K
                      have k4_14 : (y13.setRow g4 #[.int .i64 v0, .int .i64 v1, .string v2, .int .i64 v3, .int .i64 v4, .string v5, .string v6, .int .i64 v7]).heap[g4]? = some (.cells #[.int .i64 v0, .int .i64 v1, .string v2, .int .i64 v3, .int .i64 v4, .string v5, .string v6, .int .i64 v7] 30 (0, 0)) := setRow_heap _ _ _ _ _ _ k4_13
                      have k5_14 := (setRow_other y13 g4 g5 #[.int .i64 v0, .int .i64 v1, .string v2, .int .i64 v3, .int .i64 v4, .string v5, .string v6, .int .i64 v7] (Nat.ne_of_gt ne4)).trans k5_13
                      generalize y13.setRow g4 #[.int .i64 v0, .int .i64 v1, .string v2, .int .i64 v3, .int .i64 v4, .string v5, .string v6, .int .i64 v7] = y14 at *
                      refine wpAnyH_ready (rs := [7]) (by kernel_rfl) (by simp) ?_
                      refine AllReadyH.cons rfl (fun K hK => ?_) AllReadyH.nil
                      refine TK.store_if (by kernel_rfl) 30 (.tmp 24) (.tmp 200) ⟨g5, 0, none⟩ (.agg #[.int .i64 v0, .int .i64 v1, .string v2, .int .i64 v3, .int .i64 v4, .string v5, .string v6, .int .i64 v7]) rfl rfl rfl rfl (C9.store_row y14 g5 30 30 _ #[.int .i64 v0, .int .i64 v1, .string v2, .int .i64 v3, .int .i64 v4, .string v5, .string v6, .int .i64 v7] k5_14 (by kernel_rfl) rfl (one8 _ _ _ _ _ _ _ _)) ?_
                      have hb15 := below_setRow hb14 lo5 #[.int .i64 v0, .int .i64 v1, .string v2, .int .i64 v3, .int .i64 v4, .string v5, .string v6, .int .i64 v7]
                      refine hK.out _ _ ?_ (fun hHeld => ?_)
                      · exact KS.out _ hb15
                      clear hK K
                      have k5_15 : (y14.setRow g5 #[.int .i64 v0, .int .i64 v1, .string v2, .int .i64 v3, .int .i64 v4, .string v5, .string v6, .int .i64 v7]).heap[g5]? = some (.cells #[.int .i64 v0, .int .i64 v1, .string v2, .int .i64 v3, .int .i64 v4, .string v5, .string v6, .int .i64 v7] 30 (0, 0)) := setRow_heap _ _ _ _ _ _ k5_14
                      have k4_15 := (setRow_other y14 g5 g4 #[.int .i64 v0, .int .i64 v1, .string v2, .int .i64 v3, .int .i64 v4, .string v5, .string v6, .int .i64 v7] (Nat.ne_of_lt ne4)).trans k4_14
                      generalize y14.setRow g5 #[.int .i64 v0, .int .i64 v1, .string v2, .int .i64 v3, .int .i64 v4, .string v5, .string v6, .int .i64 v7] = y15 at *
                      refine wpAnyH_done (by kernel_rfl) ?_ _
                      go_wp2_with fail
                      go_meet
                      case rel => exact ⟨g4, g5, rfl, rfl, k4_15, k5_15, hb15⟩
                    refine AllReadyH.cons rfl (fun K hK => ?_) AllReadyH.nil
                    go_simp
                    have hb16 := bel2 hb11 (albel y11 (.cells #[.int .i64 0, .int .i64 0, .string ⟨#[]⟩, .int .i64 0, .int .i64 0, .string ⟨#[]⟩, .string ⟨#[]⟩, .int .i64 0] 30))
                    have k5_16 := heap_alloc_new y11 (.cells #[.int .i64 0, .int .i64 0, .string ⟨#[]⟩, .int .i64 0, .int .i64 0, .string ⟨#[]⟩, .string ⟨#[]⟩, .int .i64 0] 30)
                    have lo5 := hb11.size
                    have ne4 := lt_some k4_11
                    have k4_16 := carryA k4_11 (.cells #[.int .i64 0, .int .i64 0, .string ⟨#[]⟩, .int .i64 0, .int .i64 0, .string ⟨#[]⟩, .string ⟨#[]⟩, .int .i64 0] 30)
                    refine hK.out _ _ ?_ (fun hHeld => ?_)
                    · exact KS.out _ hb16
                    clear hK K
                    try simp only [Act.put, List.setIfInBounds_toArray, List.set_cons_zero, List.set_cons_succ]
                    generalize y11.heap.size = g5 at *
                    generalize y11.alloc (.cells #[.int .i64 0, .int .i64 0, .string ⟨#[]⟩, .int .i64 0, .int .i64 0, .string ⟨#[]⟩, .string ⟨#[]⟩, .int .i64 0] 30) = y16 at *
                    refine wpAnyH_ready (rs := [3]) (by kernel_rfl) (by simp) ?_
                    refine AllReadyH.cons rfl (fun K hK => ?_) AllReadyH.nil
                    go_simp
                    (go_at_call 19; refine (S6.out _).mono ?_; rintro e y17 ⟨rfl, hq⟩)
                    try (go_wp2_with fail)
                    have hb17 := bel2 hb16 hq
                    have k4_17 := carry k4_16 hq
                    have k5_17 := carry k5_16 hq
                    clear hq
                    refine hK.out _ _ ?_ (fun hHeld => ?_)
                    · exact KS.out _ hb17
                    clear hK K
                    try simp only [Act.put, List.setIfInBounds_toArray, List.set_cons_zero, List.set_cons_succ]
                    refine wpAnyH_ready (rs := [6]) (by kernel_rfl) (by simp) ?_
                    refine AllReadyH.cons rfl (fun K hK => ?_) AllReadyH.nil
                    refine TK.store_if (by kernel_rfl) 30 (.tmp 23) (.tmp 198) ⟨g4, 0, none⟩ (.agg #[.int .i64 v0, .int .i64 v1, .string v2, .int .i64 v3, .int .i64 v4, .string v5, .string v6, .int .i64 v7]) rfl rfl rfl rfl (C9.store_row y17 g4 30 30 _ #[.int .i64 v0, .int .i64 v1, .string v2, .int .i64 v3, .int .i64 v4, .string v5, .string v6, .int .i64 v7] k4_17 (by kernel_rfl) rfl (one8 _ _ _ _ _ _ _ _)) ?_
                    have hb18 := below_setRow hb17 lo4 #[.int .i64 v0, .int .i64 v1, .string v2, .int .i64 v3, .int .i64 v4, .string v5, .string v6, .int .i64 v7]
                    refine hK.out _ _ ?_ (fun hHeld => ?_)
                    · exact KS.out _ hb18
                    clear hK K
                    have k4_18 : (y17.setRow g4 #[.int .i64 v0, .int .i64 v1, .string v2, .int .i64 v3, .int .i64 v4, .string v5, .string v6, .int .i64 v7]).heap[g4]? = some (.cells #[.int .i64 v0, .int .i64 v1, .string v2, .int .i64 v3, .int .i64 v4, .string v5, .string v6, .int .i64 v7] 30 (0, 0)) := setRow_heap _ _ _ _ _ _ k4_17
                    have k5_18 := (setRow_other y17 g4 g5 #[.int .i64 v0, .int .i64 v1, .string v2, .int .i64 v3, .int .i64 v4, .string v5, .string v6, .int .i64 v7] (Nat.ne_of_gt ne4)).trans k5_17
                    generalize y17.setRow g4 #[.int .i64 v0, .int .i64 v1, .string v2, .int .i64 v3, .int .i64 v4, .string v5, .string v6, .int .i64 v7] = y18 at *
                    refine wpAnyH_ready (rs := [7]) (by kernel_rfl) (by simp) ?_
                    refine AllReadyH.cons rfl (fun K hK => ?_) AllReadyH.nil
                    refine TK.store_if (by kernel_rfl) 30 (.tmp 24) (.tmp 200) ⟨g5, 0, none⟩ (.agg #[.int .i64 v0, .int .i64 v1, .string v2, .int .i64 v3, .int .i64 v4, .string v5, .string v6, .int .i64 v7]) rfl rfl rfl rfl (C9.store_row y18 g5 30 30 _ #[.int .i64 v0, .int .i64 v1, .string v2, .int .i64 v3, .int .i64 v4, .string v5, .string v6, .int .i64 v7] k5_18 (by kernel_rfl) rfl (one8 _ _ _ _ _ _ _ _)) ?_
                    have hb19 := below_setRow hb18 lo5 #[.int .i64 v0, .int .i64 v1, .string v2, .int .i64 v3, .int .i64 v4, .string v5, .string v6, .int .i64 v7]
                    refine hK.out _ _ ?_ (fun hHeld => ?_)
                    · exact KS.out _ hb19
                    clear hK K
                    have k5_19 : (y18.setRow g5 #[.int .i64 v0, .int .i64 v1, .string v2, .int .i64 v3, .int .i64 v4, .string v5, .string v6, .int .i64 v7]).heap[g5]? = some (.cells #[.int .i64 v0, .int .i64 v1, .string v2, .int .i64 v3, .int .i64 v4, .string v5, .string v6, .int .i64 v7] 30 (0, 0)) := setRow_heap _ _ _ _ _ _ k5_18
                    have k4_19 := (setRow_other y18 g5 g4 #[.int .i64 v0, .int .i64 v1, .string v2, .int .i64 v3, .int .i64 v4, .string v5, .string v6, .int .i64 v7] (Nat.ne_of_lt ne4)).trans k4_18
                    generalize y18.setRow g5 #[.int .i64 v0, .int .i64 v1, .string v2, .int .i64 v3, .int .i64 v4, .string v5, .string v6, .int .i64 v7] = y19 at *
                    refine wpAnyH_done (by kernel_rfl) ?_ _
                    go_wp2_with fail
                    go_meet
                    case rel => exact ⟨g4, g5, rfl, rfl, k4_19, k5_19, hb19⟩
                  refine AllReadyH.cons rfl (fun K hK => ?_) AllReadyH.nil
                  go_simp
                  have hb20 := bel2 hb1 (albel y1 (.cells #[.int .i64 0, .int .i64 0, .string ⟨#[]⟩, .int .i64 0, .int .i64 0, .string ⟨#[]⟩, .string ⟨#[]⟩, .int .i64 0] 30))
                  have k5_20 := heap_alloc_new y1 (.cells #[.int .i64 0, .int .i64 0, .string ⟨#[]⟩, .int .i64 0, .int .i64 0, .string ⟨#[]⟩, .string ⟨#[]⟩, .int .i64 0] 30)
                  have lo5 := hb1.size
                  refine hK.out _ _ ?_ (fun hHeld => ?_)
                  · exact KS.out _ hb20
                  clear hK K
                  try simp only [Act.put, List.setIfInBounds_toArray, List.set_cons_zero, List.set_cons_succ]
                  generalize y1.heap.size = g5 at *
                  generalize y1.alloc (.cells #[.int .i64 0, .int .i64 0, .string ⟨#[]⟩, .int .i64 0, .int .i64 0, .string ⟨#[]⟩, .string ⟨#[]⟩, .int .i64 0] 30) = y20 at *
                  refine wpAnyH_ready (rs := [3, 4]) (by kernel_rfl) (by simp) ?_
                  refine AllReadyH.cons rfl (fun K hK => ?_) ?_
                  ·
                    go_simp
                    (go_at_call 19; refine (S6.out _).mono ?_; rintro e y21 ⟨rfl, hq⟩)
                    try (go_wp2_with fail)
                    have hb21 := bel2 hb20 hq
                    have k5_21 := carry k5_20 hq
                    clear hq
                    refine hK.out _ _ ?_ (fun hHeld => ?_)
                    · exact KS.out _ hb21
                    clear hK K
                    try simp only [Act.put, List.setIfInBounds_toArray, List.set_cons_zero, List.set_cons_succ]
                    refine wpAnyH_ready (rs := [4]) (by kernel_rfl) (by simp) ?_
                    refine AllReadyH.cons rfl (fun K hK => ?_) AllReadyH.nil
                    go_simp
                    have hb22 := bel2 hb21 (albel y21 (.cells #[.int .i64 0, .int .i64 0, .string ⟨#[]⟩, .int .i64 0, .int .i64 0, .string ⟨#[]⟩, .string ⟨#[]⟩, .int .i64 0] 30))
                    have k4_22 := heap_alloc_new y21 (.cells #[.int .i64 0, .int .i64 0, .string ⟨#[]⟩, .int .i64 0, .int .i64 0, .string ⟨#[]⟩, .string ⟨#[]⟩, .int .i64 0] 30)
                    have lo4 := hb21.size
                    have ne5 := lt_some k5_21
                    have k5_22 := carryA k5_21 (.cells #[.int .i64 0, .int .i64 0, .string ⟨#[]⟩, .int .i64 0, .int .i64 0, .string ⟨#[]⟩, .string ⟨#[]⟩, .int .i64 0] 30)
                    refine hK.out _ _ ?_ (fun hHeld => ?_)
                    · exact KS.out _ hb22
                    clear hK K
                    try simp only [Act.put, List.setIfInBounds_toArray, List.set_cons_zero, List.set_cons_succ]
                    generalize y21.heap.size = g4 at *
                    generalize y21.alloc (.cells #[.int .i64 0, .int .i64 0, .string ⟨#[]⟩, .int .i64 0, .int .i64 0, .string ⟨#[]⟩, .string ⟨#[]⟩, .int .i64 0] 30) = y22 at *
                    refine wpAnyH_ready (rs := [6]) (by kernel_rfl) (by simp) ?_
                    refine AllReadyH.cons rfl (fun K hK => ?_) AllReadyH.nil
                    refine TK.store_if (by kernel_rfl) 30 (.tmp 23) (.tmp 198) ⟨g4, 0, none⟩ (.agg #[.int .i64 v0, .int .i64 v1, .string v2, .int .i64 v3, .int .i64 v4, .string v5, .string v6, .int .i64 v7]) rfl rfl rfl rfl (C9.store_row y22 g4 30 30 _ #[.int .i64 v0, .int .i64 v1, .string v2, .int .i64 v3, .int .i64 v4, .string v5, .string v6, .int .i64 v7] k4_22 (by kernel_rfl) rfl (one8 _ _ _ _ _ _ _ _)) ?_
                    have hb23 := below_setRow hb22 lo4 #[.int .i64 v0, .int .i64 v1, .string v2, .int .i64 v3, .int .i64 v4, .string v5, .string v6, .int .i64 v7]
                    refine hK.out _ _ ?_ (fun hHeld => ?_)
                    · exact KS.out _ hb23
                    clear hK K
                    have k4_23 : (y22.setRow g4 #[.int .i64 v0, .int .i64 v1, .string v2, .int .i64 v3, .int .i64 v4, .string v5, .string v6, .int .i64 v7]).heap[g4]? = some (.cells #[.int .i64 v0, .int .i64 v1, .string v2, .int .i64 v3, .int .i64 v4, .string v5, .string v6, .int .i64 v7] 30 (0, 0)) := setRow_heap _ _ _ _ _ _ k4_22
                    have k5_23 := (setRow_other y22 g4 g5 #[.int .i64 v0, .int .i64 v1, .string v2, .int .i64 v3, .int .i64 v4, .string v5, .string v6, .int .i64 v7] (Nat.ne_of_lt ne5)).trans k5_22
                    generalize y22.setRow g4 #[.int .i64 v0, .int .i64 v1, .string v2, .int .i64 v3, .int .i64 v4, .string v5, .string v6, .int .i64 v7] = y23 at *
                    refine wpAnyH_ready (rs := [7]) (by kernel_rfl) (by simp) ?_
                    refine AllReadyH.cons rfl (fun K hK => ?_) AllReadyH.nil
                    refine TK.store_if (by kernel_rfl) 30 (.tmp 24) (.tmp 200) ⟨g5, 0, none⟩ (.agg #[.int .i64 v0, .int .i64 v1, .string v2, .int .i64 v3, .int .i64 v4, .string v5, .string v6, .int .i64 v7]) rfl rfl rfl rfl (C9.store_row y23 g5 30 30 _ #[.int .i64 v0, .int .i64 v1, .string v2, .int .i64 v3, .int .i64 v4, .string v5, .string v6, .int .i64 v7] k5_23 (by kernel_rfl) rfl (one8 _ _ _ _ _ _ _ _)) ?_
                    have hb24 := below_setRow hb23 lo5 #[.int .i64 v0, .int .i64 v1, .string v2, .int .i64 v3, .int .i64 v4, .string v5, .string v6, .int .i64 v7]
                    refine hK.out _ _ ?_ (fun hHeld => ?_)
                    · exact KS.out _ hb24
                    clear hK K
                    have k5_24 : (y23.setRow g5 #[.int .i64 v0, .int .i64 v1, .string v2, .int .i64 v3, .int .i64 v4, .string v5, .string v6, .int .i64 v7]).heap[g5]? = some (.cells #[.int .i64 v0, .int .i64 v1, .string v2, .int .i64 v3, .int .i64 v4, .string v5, .string v6, .int .i64 v7] 30 (0, 0)) := setRow_heap _ _ _ _ _ _ k5_23
                    have k4_24 := (setRow_other y23 g5 g4 #[.int .i64 v0, .int .i64 v1, .string v2, .int .i64 v3, .int .i64 v4, .string v5, .string v6, .int .i64 v7] (Nat.ne_of_gt ne5)).trans k4_23
                    generalize y23.setRow g5 #[.int .i64 v0, .int .i64 v1, .string v2, .int .i64 v3, .int .i64 v4, .string v5, .string v6, .int .i64 v7] = y24 at *
                    refine wpAnyH_done (by kernel_rfl) ?_ _
                    go_wp2_with fail
                    go_meet
                    case rel => exact ⟨g4, g5, rfl, rfl, k4_24, k5_24, hb24⟩
                  refine AllReadyH.cons rfl (fun K hK => ?_) AllReadyH.nil
                  go_simp
                  have hb25 := bel2 hb20 (albel y20 (.cells #[.int .i64 0, .int .i64 0, .string ⟨#[]⟩, .int .i64 0, .int .i64 0, .string ⟨#[]⟩, .string ⟨#[]⟩, .int .i64 0] 30))
                  have k4_25 := heap_alloc_new y20 (.cells #[.int .i64 0, .int .i64 0, .string ⟨#[]⟩, .int .i64 0, .int .i64 0, .string ⟨#[]⟩, .string ⟨#[]⟩, .int .i64 0] 30)
                  have lo4 := hb20.size
                  have ne5 := lt_some k5_20
                  have k5_25 := carryA k5_20 (.cells #[.int .i64 0, .int .i64 0, .string ⟨#[]⟩, .int .i64 0, .int .i64 0, .string ⟨#[]⟩, .string ⟨#[]⟩, .int .i64 0] 30)
                  refine hK.out _ _ ?_ (fun hHeld => ?_)
                  · exact KS.out _ hb25
                  clear hK K
                  try simp only [Act.put, List.setIfInBounds_toArray, List.set_cons_zero, List.set_cons_succ]
                  generalize y20.heap.size = g4 at *
                  generalize y20.alloc (.cells #[.int .i64 0, .int .i64 0, .string ⟨#[]⟩, .int .i64 0, .int .i64 0, .string ⟨#[]⟩, .string ⟨#[]⟩, .int .i64 0] 30) = y25 at *
                  refine wpAnyH_ready (rs := [3]) (by kernel_rfl) (by simp) ?_
                  refine AllReadyH.cons rfl (fun K hK => ?_) AllReadyH.nil
                  go_simp
                  (go_at_call 19; refine (S6.out _).mono ?_; rintro e y26 ⟨rfl, hq⟩)
                  try (go_wp2_with fail)
                  have hb26 := bel2 hb25 hq
                  have k5_26 := carry k5_25 hq
                  have k4_26 := carry k4_25 hq
                  clear hq
                  refine hK.out _ _ ?_ (fun hHeld => ?_)
                  · exact KS.out _ hb26
                  clear hK K
                  try simp only [Act.put, List.setIfInBounds_toArray, List.set_cons_zero, List.set_cons_succ]
                  refine wpAnyH_ready (rs := [6]) (by kernel_rfl) (by simp) ?_
                  refine AllReadyH.cons rfl (fun K hK => ?_) AllReadyH.nil
                  refine TK.store_if (by kernel_rfl) 30 (.tmp 23) (.tmp 198) ⟨g4, 0, none⟩ (.agg #[.int .i64 v0, .int .i64 v1, .string v2, .int .i64 v3, .int .i64 v4, .string v5, .string v6, .int .i64 v7]) rfl rfl rfl rfl (C9.store_row y26 g4 30 30 _ #[.int .i64 v0, .int .i64 v1, .string v2, .int .i64 v3, .int .i64 v4, .string v5, .string v6, .int .i64 v7] k4_26 (by kernel_rfl) rfl (one8 _ _ _ _ _ _ _ _)) ?_
                  have hb27 := below_setRow hb26 lo4 #[.int .i64 v0, .int .i64 v1, .string v2, .int .i64 v3, .int .i64 v4, .string v5, .string v6, .int .i64 v7]
                  refine hK.out _ _ ?_ (fun hHeld => ?_)
                  · exact KS.out _ hb27
                  clear hK K
                  have k4_27 : (y26.setRow g4 #[.int .i64 v0, .int .i64 v1, .string v2, .int .i64 v3, .int .i64 v4, .string v5, .string v6, .int .i64 v7]).heap[g4]? = some (.cells #[.int .i64 v0, .int .i64 v1, .string v2, .int .i64 v3, .int .i64 v4, .string v5, .string v6, .int .i64 v7] 30 (0, 0)) := setRow_heap _ _ _ _ _ _ k4_26
                  have k5_27 := (setRow_other y26 g4 g5 #[.int .i64 v0, .int .i64 v1, .string v2, .int .i64 v3, .int .i64 v4, .string v5, .string v6, .int .i64 v7] (Nat.ne_of_lt ne5)).trans k5_26
                  generalize y26.setRow g4 #[.int .i64 v0, .int .i64 v1, .string v2, .int .i64 v3, .int .i64 v4, .string v5, .string v6, .int .i64 v7] = y27 at *
                  refine wpAnyH_ready (rs := [7]) (by kernel_rfl) (by simp) ?_
                  refine AllReadyH.cons rfl (fun K hK => ?_) AllReadyH.nil
                  refine TK.store_if (by kernel_rfl) 30 (.tmp 24) (.tmp 200) ⟨g5, 0, none⟩ (.agg #[.int .i64 v0, .int .i64 v1, .string v2, .int .i64 v3, .int .i64 v4, .string v5, .string v6, .int .i64 v7]) rfl rfl rfl rfl (C9.store_row y27 g5 30 30 _ #[.int .i64 v0, .int .i64 v1, .string v2, .int .i64 v3, .int .i64 v4, .string v5, .string v6, .int .i64 v7] k5_27 (by kernel_rfl) rfl (one8 _ _ _ _ _ _ _ _)) ?_
                  have hb28 := below_setRow hb27 lo5 #[.int .i64 v0, .int .i64 v1, .string v2, .int .i64 v3, .int .i64 v4, .string v5, .string v6, .int .i64 v7]
                  refine hK.out _ _ ?_ (fun hHeld => ?_)
                  · exact KS.out _ hb28
                  clear hK K
                  have k5_28 : (y27.setRow g5 #[.int .i64 v0, .int .i64 v1, .string v2, .int .i64 v3, .int .i64 v4, .string v5, .string v6, .int .i64 v7]).heap[g5]? = some (.cells #[.int .i64 v0, .int .i64 v1, .string v2, .int .i64 v3, .int .i64 v4, .string v5, .string v6, .int .i64 v7] 30 (0, 0)) := setRow_heap _ _ _ _ _ _ k5_27
                  have k4_28 := (setRow_other y27 g5 g4 #[.int .i64 v0, .int .i64 v1, .string v2, .int .i64 v3, .int .i64 v4, .string v5, .string v6, .int .i64 v7] (Nat.ne_of_gt ne5)).trans k4_27
                  generalize y27.setRow g5 #[.int .i64 v0, .int .i64 v1, .string v2, .int .i64 v3, .int .i64 v4, .string v5, .string v6, .int .i64 v7] = y28 at *
                  refine wpAnyH_done (by kernel_rfl) ?_ _
                  go_wp2_with fail
                  go_meet
                  case rel => exact ⟨g4, g5, rfl, rfl, k4_28, k5_28, hb28⟩
                refine AllReadyH.cons rfl (fun K hK => ?_) ?_
                ·
                  go_simp
                  have hb29 := bel2 hb0 (albel y0 (.cells #[.int .i64 0, .int .i64 0, .string ⟨#[]⟩, .int .i64 0, .int .i64 0, .string ⟨#[]⟩, .string ⟨#[]⟩, .int .i64 0] 30))
                  have k4_29 := heap_alloc_new y0 (.cells #[.int .i64 0, .int .i64 0, .string ⟨#[]⟩, .int .i64 0, .int .i64 0, .string ⟨#[]⟩, .string ⟨#[]⟩, .int .i64 0] 30)
                  have lo4 := hb0.size
                  refine hK.out _ _ ?_ (fun hHeld => ?_)
                  · exact KS.out _ hb29
                  clear hK K
                  try simp only [Act.put, List.setIfInBounds_toArray, List.set_cons_zero, List.set_cons_succ]
                  generalize y0.heap.size = g4 at *
                  generalize y0.alloc (.cells #[.int .i64 0, .int .i64 0, .string ⟨#[]⟩, .int .i64 0, .int .i64 0, .string ⟨#[]⟩, .string ⟨#[]⟩, .int .i64 0] 30) = y29 at *
                  refine wpAnyH_ready (rs := [1, 5]) (by kernel_rfl) (by simp) ?_
                  refine AllReadyH.cons rfl (fun K hK => ?_) ?_
                  ·
                    go_simp
                    (go_at_call 9; refine (I6.out _ (HLX.out _ hb29)).mono ?_; rintro e y30 ⟨rfl, hq⟩)
                    try (go_wp2_with fail)
                    have hb30 := bel2 hb29 hq
                    have k4_30 := carry k4_29 hq
                    clear hq
                    refine hK.out _ _ ?_ (fun hHeld => ?_)
                    · exact KS.out _ hb30
                    clear hK K
                    try simp only [Act.put, List.setIfInBounds_toArray, List.set_cons_zero, List.set_cons_succ]
                    refine wpAnyH_ready (rs := [3, 5]) (by kernel_rfl) (by simp) ?_
                    refine AllReadyH.cons rfl (fun K hK => ?_) ?_
                    ·
                      go_simp
                      (go_at_call 19; refine (S6.out _).mono ?_; rintro e y31 ⟨rfl, hq⟩)
                      try (go_wp2_with fail)
                      have hb31 := bel2 hb30 hq
                      have k4_31 := carry k4_30 hq
                      clear hq
                      refine hK.out _ _ ?_ (fun hHeld => ?_)
                      · exact KS.out _ hb31
                      clear hK K
                      try simp only [Act.put, List.setIfInBounds_toArray, List.set_cons_zero, List.set_cons_succ]
                      refine wpAnyH_ready (rs := [5]) (by kernel_rfl) (by simp) ?_
                      refine AllReadyH.cons rfl (fun K hK => ?_) AllReadyH.nil
                      go_simp
                      have hb32 := bel2 hb31 (albel y31 (.cells #[.int .i64 0, .int .i64 0, .string ⟨#[]⟩, .int .i64 0, .int .i64 0, .string ⟨#[]⟩, .string ⟨#[]⟩, .int .i64 0] 30))
                      have k5_32 := heap_alloc_new y31 (.cells #[.int .i64 0, .int .i64 0, .string ⟨#[]⟩, .int .i64 0, .int .i64 0, .string ⟨#[]⟩, .string ⟨#[]⟩, .int .i64 0] 30)
                      have lo5 := hb31.size
                      have ne4 := lt_some k4_31
                      have k4_32 := carryA k4_31 (.cells #[.int .i64 0, .int .i64 0, .string ⟨#[]⟩, .int .i64 0, .int .i64 0, .string ⟨#[]⟩, .string ⟨#[]⟩, .int .i64 0] 30)
                      refine hK.out _ _ ?_ (fun hHeld => ?_)
                      · exact KS.out _ hb32
                      clear hK K
                      try simp only [Act.put, List.setIfInBounds_toArray, List.set_cons_zero, List.set_cons_succ]
                      generalize y31.heap.size = g5 at *
                      generalize y31.alloc (.cells #[.int .i64 0, .int .i64 0, .string ⟨#[]⟩, .int .i64 0, .int .i64 0, .string ⟨#[]⟩, .string ⟨#[]⟩, .int .i64 0] 30) = y32 at *
                      refine wpAnyH_ready (rs := [6]) (by kernel_rfl) (by simp) ?_
                      refine AllReadyH.cons rfl (fun K hK => ?_) AllReadyH.nil
                      refine TK.store_if (by kernel_rfl) 30 (.tmp 23) (.tmp 198) ⟨g4, 0, none⟩ (.agg #[.int .i64 v0, .int .i64 v1, .string v2, .int .i64 v3, .int .i64 v4, .string v5, .string v6, .int .i64 v7]) rfl rfl rfl rfl (C9.store_row y32 g4 30 30 _ #[.int .i64 v0, .int .i64 v1, .string v2, .int .i64 v3, .int .i64 v4, .string v5, .string v6, .int .i64 v7] k4_32 (by kernel_rfl) rfl (one8 _ _ _ _ _ _ _ _)) ?_
                      have hb33 := below_setRow hb32 lo4 #[.int .i64 v0, .int .i64 v1, .string v2, .int .i64 v3, .int .i64 v4, .string v5, .string v6, .int .i64 v7]
                      refine hK.out _ _ ?_ (fun hHeld => ?_)
                      · exact KS.out _ hb33
                      clear hK K
                      have k4_33 : (y32.setRow g4 #[.int .i64 v0, .int .i64 v1, .string v2, .int .i64 v3, .int .i64 v4, .string v5, .string v6, .int .i64 v7]).heap[g4]? = some (.cells #[.int .i64 v0, .int .i64 v1, .string v2, .int .i64 v3, .int .i64 v4, .string v5, .string v6, .int .i64 v7] 30 (0, 0)) := setRow_heap _ _ _ _ _ _ k4_32
                      have k5_33 := (setRow_other y32 g4 g5 #[.int .i64 v0, .int .i64 v1, .string v2, .int .i64 v3, .int .i64 v4, .string v5, .string v6, .int .i64 v7] (Nat.ne_of_gt ne4)).trans k5_32
                      generalize y32.setRow g4 #[.int .i64 v0, .int .i64 v1, .string v2, .int .i64 v3, .int .i64 v4, .string v5, .string v6, .int .i64 v7] = y33 at *
                      refine wpAnyH_ready (rs := [7]) (by kernel_rfl) (by simp) ?_
                      refine AllReadyH.cons rfl (fun K hK => ?_) AllReadyH.nil
                      refine TK.store_if (by kernel_rfl) 30 (.tmp 24) (.tmp 200) ⟨g5, 0, none⟩ (.agg #[.int .i64 v0, .int .i64 v1, .string v2, .int .i64 v3, .int .i64 v4, .string v5, .string v6, .int .i64 v7]) rfl rfl rfl rfl (C9.store_row y33 g5 30 30 _ #[.int .i64 v0, .int .i64 v1, .string v2, .int .i64 v3, .int .i64 v4, .string v5, .string v6, .int .i64 v7] k5_33 (by kernel_rfl) rfl (one8 _ _ _ _ _ _ _ _)) ?_
                      have hb34 := below_setRow hb33 lo5 #[.int .i64 v0, .int .i64 v1, .string v2, .int .i64 v3, .int .i64 v4, .string v5, .string v6, .int .i64 v7]
                      refine hK.out _ _ ?_ (fun hHeld => ?_)
                      · exact KS.out _ hb34
                      clear hK K
                      have k5_34 : (y33.setRow g5 #[.int .i64 v0, .int .i64 v1, .string v2, .int .i64 v3, .int .i64 v4, .string v5, .string v6, .int .i64 v7]).heap[g5]? = some (.cells #[.int .i64 v0, .int .i64 v1, .string v2, .int .i64 v3, .int .i64 v4, .string v5, .string v6, .int .i64 v7] 30 (0, 0)) := setRow_heap _ _ _ _ _ _ k5_33
                      have k4_34 := (setRow_other y33 g5 g4 #[.int .i64 v0, .int .i64 v1, .string v2, .int .i64 v3, .int .i64 v4, .string v5, .string v6, .int .i64 v7] (Nat.ne_of_lt ne4)).trans k4_33
                      generalize y33.setRow g5 #[.int .i64 v0, .int .i64 v1, .string v2, .int .i64 v3, .int .i64 v4, .string v5, .string v6, .int .i64 v7] = y34 at *
                      refine wpAnyH_done (by kernel_rfl) ?_ _
                      go_wp2_with fail
                      go_meet
                      case rel => exact ⟨g4, g5, rfl, rfl, k4_34, k5_34, hb34⟩
                    refine AllReadyH.cons rfl (fun K hK => ?_) AllReadyH.nil
                    go_simp
                    have hb35 := bel2 hb30 (albel y30 (.cells #[.int .i64 0, .int .i64 0, .string ⟨#[]⟩, .int .i64 0, .int .i64 0, .string ⟨#[]⟩, .string ⟨#[]⟩, .int .i64 0] 30))
                    have k5_35 := heap_alloc_new y30 (.cells #[.int .i64 0, .int .i64 0, .string ⟨#[]⟩, .int .i64 0, .int .i64 0, .string ⟨#[]⟩, .string ⟨#[]⟩, .int .i64 0] 30)
                    have lo5 := hb30.size
                    have ne4 := lt_some k4_30
                    have k4_35 := carryA k4_30 (.cells #[.int .i64 0, .int .i64 0, .string ⟨#[]⟩, .int .i64 0, .int .i64 0, .string ⟨#[]⟩, .string ⟨#[]⟩, .int .i64 0] 30)
                    refine hK.out _ _ ?_ (fun hHeld => ?_)
                    · exact KS.out _ hb35
                    clear hK K
                    try simp only [Act.put, List.setIfInBounds_toArray, List.set_cons_zero, List.set_cons_succ]
                    generalize y30.heap.size = g5 at *
                    generalize y30.alloc (.cells #[.int .i64 0, .int .i64 0, .string ⟨#[]⟩, .int .i64 0, .int .i64 0, .string ⟨#[]⟩, .string ⟨#[]⟩, .int .i64 0] 30) = y35 at *
                    refine wpAnyH_ready (rs := [3]) (by kernel_rfl) (by simp) ?_
                    refine AllReadyH.cons rfl (fun K hK => ?_) AllReadyH.nil
                    go_simp
                    (go_at_call 19; refine (S6.out _).mono ?_; rintro e y36 ⟨rfl, hq⟩)
                    try (go_wp2_with fail)
                    have hb36 := bel2 hb35 hq
                    have k4_36 := carry k4_35 hq
                    have k5_36 := carry k5_35 hq
                    clear hq
                    refine hK.out _ _ ?_ (fun hHeld => ?_)
                    · exact KS.out _ hb36
                    clear hK K
                    try simp only [Act.put, List.setIfInBounds_toArray, List.set_cons_zero, List.set_cons_succ]
                    refine wpAnyH_ready (rs := [6]) (by kernel_rfl) (by simp) ?_
                    refine AllReadyH.cons rfl (fun K hK => ?_) AllReadyH.nil
                    refine TK.store_if (by kernel_rfl) 30 (.tmp 23) (.tmp 198) ⟨g4, 0, none⟩ (.agg #[.int .i64 v0, .int .i64 v1, .string v2, .int .i64 v3, .int .i64 v4, .string v5, .string v6, .int .i64 v7]) rfl rfl rfl rfl (C9.store_row y36 g4 30 30 _ #[.int .i64 v0, .int .i64 v1, .string v2, .int .i64 v3, .int .i64 v4, .string v5, .string v6, .int .i64 v7] k4_36 (by kernel_rfl) rfl (one8 _ _ _ _ _ _ _ _)) ?_
                    have hb37 := below_setRow hb36 lo4 #[.int .i64 v0, .int .i64 v1, .string v2, .int .i64 v3, .int .i64 v4, .string v5, .string v6, .int .i64 v7]
                    refine hK.out _ _ ?_ (fun hHeld => ?_)
                    · exact KS.out _ hb37
                    clear hK K
                    have k4_37 : (y36.setRow g4 #[.int .i64 v0, .int .i64 v1, .string v2, .int .i64 v3, .int .i64 v4, .string v5, .string v6, .int .i64 v7]).heap[g4]? = some (.cells #[.int .i64 v0, .int .i64 v1, .string v2, .int .i64 v3, .int .i64 v4, .string v5, .string v6, .int .i64 v7] 30 (0, 0)) := setRow_heap _ _ _ _ _ _ k4_36
                    have k5_37 := (setRow_other y36 g4 g5 #[.int .i64 v0, .int .i64 v1, .string v2, .int .i64 v3, .int .i64 v4, .string v5, .string v6, .int .i64 v7] (Nat.ne_of_gt ne4)).trans k5_36
                    generalize y36.setRow g4 #[.int .i64 v0, .int .i64 v1, .string v2, .int .i64 v3, .int .i64 v4, .string v5, .string v6, .int .i64 v7] = y37 at *
                    refine wpAnyH_ready (rs := [7]) (by kernel_rfl) (by simp) ?_
                    refine AllReadyH.cons rfl (fun K hK => ?_) AllReadyH.nil
                    refine TK.store_if (by kernel_rfl) 30 (.tmp 24) (.tmp 200) ⟨g5, 0, none⟩ (.agg #[.int .i64 v0, .int .i64 v1, .string v2, .int .i64 v3, .int .i64 v4, .string v5, .string v6, .int .i64 v7]) rfl rfl rfl rfl (C9.store_row y37 g5 30 30 _ #[.int .i64 v0, .int .i64 v1, .string v2, .int .i64 v3, .int .i64 v4, .string v5, .string v6, .int .i64 v7] k5_37 (by kernel_rfl) rfl (one8 _ _ _ _ _ _ _ _)) ?_
                    have hb38 := below_setRow hb37 lo5 #[.int .i64 v0, .int .i64 v1, .string v2, .int .i64 v3, .int .i64 v4, .string v5, .string v6, .int .i64 v7]
                    refine hK.out _ _ ?_ (fun hHeld => ?_)
                    · exact KS.out _ hb38
                    clear hK K
                    have k5_38 : (y37.setRow g5 #[.int .i64 v0, .int .i64 v1, .string v2, .int .i64 v3, .int .i64 v4, .string v5, .string v6, .int .i64 v7]).heap[g5]? = some (.cells #[.int .i64 v0, .int .i64 v1, .string v2, .int .i64 v3, .int .i64 v4, .string v5, .string v6, .int .i64 v7] 30 (0, 0)) := setRow_heap _ _ _ _ _ _ k5_37
                    have k4_38 := (setRow_other y37 g5 g4 #[.int .i64 v0, .int .i64 v1, .string v2, .int .i64 v3, .int .i64 v4, .string v5, .string v6, .int .i64 v7] (Nat.ne_of_lt ne4)).trans k4_37
                    generalize y37.setRow g5 #[.int .i64 v0, .int .i64 v1, .string v2, .int .i64 v3, .int .i64 v4, .string v5, .string v6, .int .i64 v7] = y38 at *
                    refine wpAnyH_done (by kernel_rfl) ?_ _
                    go_wp2_with fail
                    go_meet
                    case rel => exact ⟨g4, g5, rfl, rfl, k4_38, k5_38, hb38⟩
                  refine AllReadyH.cons rfl (fun K hK => ?_) AllReadyH.nil
                  go_simp
                  have hb39 := bel2 hb29 (albel y29 (.cells #[.int .i64 0, .int .i64 0, .string ⟨#[]⟩, .int .i64 0, .int .i64 0, .string ⟨#[]⟩, .string ⟨#[]⟩, .int .i64 0] 30))
                  have k5_39 := heap_alloc_new y29 (.cells #[.int .i64 0, .int .i64 0, .string ⟨#[]⟩, .int .i64 0, .int .i64 0, .string ⟨#[]⟩, .string ⟨#[]⟩, .int .i64 0] 30)
                  have lo5 := hb29.size
                  have ne4 := lt_some k4_29
                  have k4_39 := carryA k4_29 (.cells #[.int .i64 0, .int .i64 0, .string ⟨#[]⟩, .int .i64 0, .int .i64 0, .string ⟨#[]⟩, .string ⟨#[]⟩, .int .i64 0] 30)
                  refine hK.out _ _ ?_ (fun hHeld => ?_)
                  · exact KS.out _ hb39
                  clear hK K
                  try simp only [Act.put, List.setIfInBounds_toArray, List.set_cons_zero, List.set_cons_succ]
                  generalize y29.heap.size = g5 at *
                  generalize y29.alloc (.cells #[.int .i64 0, .int .i64 0, .string ⟨#[]⟩, .int .i64 0, .int .i64 0, .string ⟨#[]⟩, .string ⟨#[]⟩, .int .i64 0] 30) = y39 at *
                  refine wpAnyH_ready (rs := [1]) (by kernel_rfl) (by simp) ?_
                  refine AllReadyH.cons rfl (fun K hK => ?_) AllReadyH.nil
                  go_simp
                  (go_at_call 9; refine (I6.out _ (HLX.out _ hb39)).mono ?_; rintro e y40 ⟨rfl, hq⟩)
                  try (go_wp2_with fail)
                  have hb40 := bel2 hb39 hq
                  have k4_40 := carry k4_39 hq
                  have k5_40 := carry k5_39 hq
                  clear hq
                  refine hK.out _ _ ?_ (fun hHeld => ?_)
                  · exact KS.out _ hb40
                  clear hK K
                  try simp only [Act.put, List.setIfInBounds_toArray, List.set_cons_zero, List.set_cons_succ]
                  refine wpAnyH_ready (rs := [3]) (by kernel_rfl) (by simp) ?_
                  refine AllReadyH.cons rfl (fun K hK => ?_) AllReadyH.nil
                  go_simp
                  (go_at_call 19; refine (S6.out _).mono ?_; rintro e y41 ⟨rfl, hq⟩)
                  try (go_wp2_with fail)
                  have hb41 := bel2 hb40 hq
                  have k4_41 := carry k4_40 hq
                  have k5_41 := carry k5_40 hq
                  clear hq
                  refine hK.out _ _ ?_ (fun hHeld => ?_)
                  · exact KS.out _ hb41
                  clear hK K
                  try simp only [Act.put, List.setIfInBounds_toArray, List.set_cons_zero, List.set_cons_succ]
                  refine wpAnyH_ready (rs := [6]) (by kernel_rfl) (by simp) ?_
                  refine AllReadyH.cons rfl (fun K hK => ?_) AllReadyH.nil
                  refine TK.store_if (by kernel_rfl) 30 (.tmp 23) (.tmp 198) ⟨g4, 0, none⟩ (.agg #[.int .i64 v0, .int .i64 v1, .string v2, .int .i64 v3, .int .i64 v4, .string v5, .string v6, .int .i64 v7]) rfl rfl rfl rfl (C9.store_row y41 g4 30 30 _ #[.int .i64 v0, .int .i64 v1, .string v2, .int .i64 v3, .int .i64 v4, .string v5, .string v6, .int .i64 v7] k4_41 (by kernel_rfl) rfl (one8 _ _ _ _ _ _ _ _)) ?_
                  have hb42 := below_setRow hb41 lo4 #[.int .i64 v0, .int .i64 v1, .string v2, .int .i64 v3, .int .i64 v4, .string v5, .string v6, .int .i64 v7]
                  refine hK.out _ _ ?_ (fun hHeld => ?_)
                  · exact KS.out _ hb42
                  clear hK K
                  have k4_42 : (y41.setRow g4 #[.int .i64 v0, .int .i64 v1, .string v2, .int .i64 v3, .int .i64 v4, .string v5, .string v6, .int .i64 v7]).heap[g4]? = some (.cells #[.int .i64 v0, .int .i64 v1, .string v2, .int .i64 v3, .int .i64 v4, .string v5, .string v6, .int .i64 v7] 30 (0, 0)) := setRow_heap _ _ _ _ _ _ k4_41
                  have k5_42 := (setRow_other y41 g4 g5 #[.int .i64 v0, .int .i64 v1, .string v2, .int .i64 v3, .int .i64 v4, .string v5, .string v6, .int .i64 v7] (Nat.ne_of_gt ne4)).trans k5_41
                  generalize y41.setRow g4 #[.int .i64 v0, .int .i64 v1, .string v2, .int .i64 v3, .int .i64 v4, .string v5, .string v6, .int .i64 v7] = y42 at *
                  refine wpAnyH_ready (rs := [7]) (by kernel_rfl) (by simp) ?_
                  refine AllReadyH.cons rfl (fun K hK => ?_) AllReadyH.nil
                  refine TK.store_if (by kernel_rfl) 30 (.tmp 24) (.tmp 200) ⟨g5, 0, none⟩ (.agg #[.int .i64 v0, .int .i64 v1, .string v2, .int .i64 v3, .int .i64 v4, .string v5, .string v6, .int .i64 v7]) rfl rfl rfl rfl (C9.store_row y42 g5 30 30 _ #[.int .i64 v0, .int .i64 v1, .string v2, .int .i64 v3, .int .i64 v4, .string v5, .string v6, .int .i64 v7] k5_42 (by kernel_rfl) rfl (one8 _ _ _ _ _ _ _ _)) ?_
                  have hb43 := below_setRow hb42 lo5 #[.int .i64 v0, .int .i64 v1, .string v2, .int .i64 v3, .int .i64 v4, .string v5, .string v6, .int .i64 v7]
                  refine hK.out _ _ ?_ (fun hHeld => ?_)
                  · exact KS.out _ hb43
                  clear hK K
                  have k5_43 : (y42.setRow g5 #[.int .i64 v0, .int .i64 v1, .string v2, .int .i64 v3, .int .i64 v4, .string v5, .string v6, .int .i64 v7]).heap[g5]? = some (.cells #[.int .i64 v0, .int .i64 v1, .string v2, .int .i64 v3, .int .i64 v4, .string v5, .string v6, .int .i64 v7] 30 (0, 0)) := setRow_heap _ _ _ _ _ _ k5_42
                  have k4_43 := (setRow_other y42 g5 g4 #[.int .i64 v0, .int .i64 v1, .string v2, .int .i64 v3, .int .i64 v4, .string v5, .string v6, .int .i64 v7] (Nat.ne_of_lt ne4)).trans k4_42
                  generalize y42.setRow g5 #[.int .i64 v0, .int .i64 v1, .string v2, .int .i64 v3, .int .i64 v4, .string v5, .string v6, .int .i64 v7] = y43 at *
                  refine wpAnyH_done (by kernel_rfl) ?_ _
                  go_wp2_with fail
                  go_meet
                  case rel => exact ⟨g4, g5, rfl, rfl, k4_43, k5_43, hb43⟩
                refine AllReadyH.cons rfl (fun K hK => ?_) AllReadyH.nil
                go_simp
                have hb44 := bel2 hb0 (albel y0 (.cells #[.int .i64 0, .int .i64 0, .string ⟨#[]⟩, .int .i64 0, .int .i64 0, .string ⟨#[]⟩, .string ⟨#[]⟩, .int .i64 0] 30))
                have k5_44 := heap_alloc_new y0 (.cells #[.int .i64 0, .int .i64 0, .string ⟨#[]⟩, .int .i64 0, .int .i64 0, .string ⟨#[]⟩, .string ⟨#[]⟩, .int .i64 0] 30)
                have lo5 := hb0.size
                refine hK.out _ _ ?_ (fun hHeld => ?_)
                · exact KS.out _ hb44
                clear hK K
                try simp only [Act.put, List.setIfInBounds_toArray, List.set_cons_zero, List.set_cons_succ]
                generalize y0.heap.size = g5 at *
                generalize y0.alloc (.cells #[.int .i64 0, .int .i64 0, .string ⟨#[]⟩, .int .i64 0, .int .i64 0, .string ⟨#[]⟩, .string ⟨#[]⟩, .int .i64 0] 30) = y44 at *
                refine wpAnyH_ready (rs := [1, 4]) (by kernel_rfl) (by simp) ?_
                refine AllReadyH.cons rfl (fun K hK => ?_) ?_
                ·
                  go_simp
                  (go_at_call 9; refine (I6.out _ (HLX.out _ hb44)).mono ?_; rintro e y45 ⟨rfl, hq⟩)
                  try (go_wp2_with fail)
                  have hb45 := bel2 hb44 hq
                  have k5_45 := carry k5_44 hq
                  clear hq
                  refine hK.out _ _ ?_ (fun hHeld => ?_)
                  · exact KS.out _ hb45
                  clear hK K
                  try simp only [Act.put, List.setIfInBounds_toArray, List.set_cons_zero, List.set_cons_succ]
                  refine wpAnyH_ready (rs := [3, 4]) (by kernel_rfl) (by simp) ?_
                  refine AllReadyH.cons rfl (fun K hK => ?_) ?_
                  ·
                    go_simp
                    (go_at_call 19; refine (S6.out _).mono ?_; rintro e y46 ⟨rfl, hq⟩)
                    try (go_wp2_with fail)
                    have hb46 := bel2 hb45 hq
                    have k5_46 := carry k5_45 hq
                    clear hq
                    refine hK.out _ _ ?_ (fun hHeld => ?_)
                    · exact KS.out _ hb46
                    clear hK K
                    try simp only [Act.put, List.setIfInBounds_toArray, List.set_cons_zero, List.set_cons_succ]
                    refine wpAnyH_ready (rs := [4]) (by kernel_rfl) (by simp) ?_
                    refine AllReadyH.cons rfl (fun K hK => ?_) AllReadyH.nil
                    go_simp
                    have hb47 := bel2 hb46 (albel y46 (.cells #[.int .i64 0, .int .i64 0, .string ⟨#[]⟩, .int .i64 0, .int .i64 0, .string ⟨#[]⟩, .string ⟨#[]⟩, .int .i64 0] 30))
                    have k4_47 := heap_alloc_new y46 (.cells #[.int .i64 0, .int .i64 0, .string ⟨#[]⟩, .int .i64 0, .int .i64 0, .string ⟨#[]⟩, .string ⟨#[]⟩, .int .i64 0] 30)
                    have lo4 := hb46.size
                    have ne5 := lt_some k5_46
                    have k5_47 := carryA k5_46 (.cells #[.int .i64 0, .int .i64 0, .string ⟨#[]⟩, .int .i64 0, .int .i64 0, .string ⟨#[]⟩, .string ⟨#[]⟩, .int .i64 0] 30)
                    refine hK.out _ _ ?_ (fun hHeld => ?_)
                    · exact KS.out _ hb47
                    clear hK K
                    try simp only [Act.put, List.setIfInBounds_toArray, List.set_cons_zero, List.set_cons_succ]
                    generalize y46.heap.size = g4 at *
                    generalize y46.alloc (.cells #[.int .i64 0, .int .i64 0, .string ⟨#[]⟩, .int .i64 0, .int .i64 0, .string ⟨#[]⟩, .string ⟨#[]⟩, .int .i64 0] 30) = y47 at *
                    refine wpAnyH_ready (rs := [6]) (by kernel_rfl) (by simp) ?_
                    refine AllReadyH.cons rfl (fun K hK => ?_) AllReadyH.nil
                    refine TK.store_if (by kernel_rfl) 30 (.tmp 23) (.tmp 198) ⟨g4, 0, none⟩ (.agg #[.int .i64 v0, .int .i64 v1, .string v2, .int .i64 v3, .int .i64 v4, .string v5, .string v6, .int .i64 v7]) rfl rfl rfl rfl (C9.store_row y47 g4 30 30 _ #[.int .i64 v0, .int .i64 v1, .string v2, .int .i64 v3, .int .i64 v4, .string v5, .string v6, .int .i64 v7] k4_47 (by kernel_rfl) rfl (one8 _ _ _ _ _ _ _ _)) ?_
                    have hb48 := below_setRow hb47 lo4 #[.int .i64 v0, .int .i64 v1, .string v2, .int .i64 v3, .int .i64 v4, .string v5, .string v6, .int .i64 v7]
                    refine hK.out _ _ ?_ (fun hHeld => ?_)
                    · exact KS.out _ hb48
                    clear hK K
                    have k4_48 : (y47.setRow g4 #[.int .i64 v0, .int .i64 v1, .string v2, .int .i64 v3, .int .i64 v4, .string v5, .string v6, .int .i64 v7]).heap[g4]? = some (.cells #[.int .i64 v0, .int .i64 v1, .string v2, .int .i64 v3, .int .i64 v4, .string v5, .string v6, .int .i64 v7] 30 (0, 0)) := setRow_heap _ _ _ _ _ _ k4_47
                    have k5_48 := (setRow_other y47 g4 g5 #[.int .i64 v0, .int .i64 v1, .string v2, .int .i64 v3, .int .i64 v4, .string v5, .string v6, .int .i64 v7] (Nat.ne_of_lt ne5)).trans k5_47
                    generalize y47.setRow g4 #[.int .i64 v0, .int .i64 v1, .string v2, .int .i64 v3, .int .i64 v4, .string v5, .string v6, .int .i64 v7] = y48 at *
                    refine wpAnyH_ready (rs := [7]) (by kernel_rfl) (by simp) ?_
                    refine AllReadyH.cons rfl (fun K hK => ?_) AllReadyH.nil
                    refine TK.store_if (by kernel_rfl) 30 (.tmp 24) (.tmp 200) ⟨g5, 0, none⟩ (.agg #[.int .i64 v0, .int .i64 v1, .string v2, .int .i64 v3, .int .i64 v4, .string v5, .string v6, .int .i64 v7]) rfl rfl rfl rfl (C9.store_row y48 g5 30 30 _ #[.int .i64 v0, .int .i64 v1, .string v2, .int .i64 v3, .int .i64 v4, .string v5, .string v6, .int .i64 v7] k5_48 (by kernel_rfl) rfl (one8 _ _ _ _ _ _ _ _)) ?_
                    have hb49 := below_setRow hb48 lo5 #[.int .i64 v0, .int .i64 v1, .string v2, .int .i64 v3, .int .i64 v4, .string v5, .string v6, .int .i64 v7]
                    refine hK.out _ _ ?_ (fun hHeld => ?_)
                    · exact KS.out _ hb49
                    clear hK K
                    have k5_49 : (y48.setRow g5 #[.int .i64 v0, .int .i64 v1, .string v2, .int .i64 v3, .int .i64 v4, .string v5, .string v6, .int .i64 v7]).heap[g5]? = some (.cells #[.int .i64 v0, .int .i64 v1, .string v2, .int .i64 v3, .int .i64 v4, .string v5, .string v6, .int .i64 v7] 30 (0, 0)) := setRow_heap _ _ _ _ _ _ k5_48
                    have k4_49 := (setRow_other y48 g5 g4 #[.int .i64 v0, .int .i64 v1, .string v2, .int .i64 v3, .int .i64 v4, .string v5, .string v6, .int .i64 v7] (Nat.ne_of_gt ne5)).trans k4_48
                    generalize y48.setRow g5 #[.int .i64 v0, .int .i64 v1, .string v2, .int .i64 v3, .int .i64 v4, .string v5, .string v6, .int .i64 v7] = y49 at *
                    refine wpAnyH_done (by kernel_rfl) ?_ _
                    go_wp2_with fail
                    go_meet
                    case rel => exact ⟨g4, g5, rfl, rfl, k4_49, k5_49, hb49⟩
                  refine AllReadyH.cons rfl (fun K hK => ?_) AllReadyH.nil
                  go_simp
                  have hb50 := bel2 hb45 (albel y45 (.cells #[.int .i64 0, .int .i64 0, .string ⟨#[]⟩, .int .i64 0, .int .i64 0, .string ⟨#[]⟩, .string ⟨#[]⟩, .int .i64 0] 30))
                  have k4_50 := heap_alloc_new y45 (.cells #[.int .i64 0, .int .i64 0, .string ⟨#[]⟩, .int .i64 0, .int .i64 0, .string ⟨#[]⟩, .string ⟨#[]⟩, .int .i64 0] 30)
                  have lo4 := hb45.size
                  have ne5 := lt_some k5_45
                  have k5_50 := carryA k5_45 (.cells #[.int .i64 0, .int .i64 0, .string ⟨#[]⟩, .int .i64 0, .int .i64 0, .string ⟨#[]⟩, .string ⟨#[]⟩, .int .i64 0] 30)
                  refine hK.out _ _ ?_ (fun hHeld => ?_)
                  · exact KS.out _ hb50
                  clear hK K
                  try simp only [Act.put, List.setIfInBounds_toArray, List.set_cons_zero, List.set_cons_succ]
                  generalize y45.heap.size = g4 at *
                  generalize y45.alloc (.cells #[.int .i64 0, .int .i64 0, .string ⟨#[]⟩, .int .i64 0, .int .i64 0, .string ⟨#[]⟩, .string ⟨#[]⟩, .int .i64 0] 30) = y50 at *
                  refine wpAnyH_ready (rs := [3]) (by kernel_rfl) (by simp) ?_
                  refine AllReadyH.cons rfl (fun K hK => ?_) AllReadyH.nil
                  go_simp
                  (go_at_call 19; refine (S6.out _).mono ?_; rintro e y51 ⟨rfl, hq⟩)
                  try (go_wp2_with fail)
                  have hb51 := bel2 hb50 hq
                  have k5_51 := carry k5_50 hq
                  have k4_51 := carry k4_50 hq
                  clear hq
                  refine hK.out _ _ ?_ (fun hHeld => ?_)
                  · exact KS.out _ hb51
                  clear hK K
                  try simp only [Act.put, List.setIfInBounds_toArray, List.set_cons_zero, List.set_cons_succ]
                  refine wpAnyH_ready (rs := [6]) (by kernel_rfl) (by simp) ?_
                  refine AllReadyH.cons rfl (fun K hK => ?_) AllReadyH.nil
                  refine TK.store_if (by kernel_rfl) 30 (.tmp 23) (.tmp 198) ⟨g4, 0, none⟩ (.agg #[.int .i64 v0, .int .i64 v1, .string v2, .int .i64 v3, .int .i64 v4, .string v5, .string v6, .int .i64 v7]) rfl rfl rfl rfl (C9.store_row y51 g4 30 30 _ #[.int .i64 v0, .int .i64 v1, .string v2, .int .i64 v3, .int .i64 v4, .string v5, .string v6, .int .i64 v7] k4_51 (by kernel_rfl) rfl (one8 _ _ _ _ _ _ _ _)) ?_
                  have hb52 := below_setRow hb51 lo4 #[.int .i64 v0, .int .i64 v1, .string v2, .int .i64 v3, .int .i64 v4, .string v5, .string v6, .int .i64 v7]
                  refine hK.out _ _ ?_ (fun hHeld => ?_)
                  · exact KS.out _ hb52
                  clear hK K
                  have k4_52 : (y51.setRow g4 #[.int .i64 v0, .int .i64 v1, .string v2, .int .i64 v3, .int .i64 v4, .string v5, .string v6, .int .i64 v7]).heap[g4]? = some (.cells #[.int .i64 v0, .int .i64 v1, .string v2, .int .i64 v3, .int .i64 v4, .string v5, .string v6, .int .i64 v7] 30 (0, 0)) := setRow_heap _ _ _ _ _ _ k4_51
                  have k5_52 := (setRow_other y51 g4 g5 #[.int .i64 v0, .int .i64 v1, .string v2, .int .i64 v3, .int .i64 v4, .string v5, .string v6, .int .i64 v7] (Nat.ne_of_lt ne5)).trans k5_51
                  generalize y51.setRow g4 #[.int .i64 v0, .int .i64 v1, .string v2, .int .i64 v3, .int .i64 v4, .string v5, .string v6, .int .i64 v7] = y52 at *
                  refine wpAnyH_ready (rs := [7]) (by kernel_rfl) (by simp) ?_
                  refine AllReadyH.cons rfl (fun K hK => ?_) AllReadyH.nil
                  refine TK.store_if (by kernel_rfl) 30 (.tmp 24) (.tmp 200) ⟨g5, 0, none⟩ (.agg #[.int .i64 v0, .int .i64 v1, .string v2, .int .i64 v3, .int .i64 v4, .string v5, .string v6, .int .i64 v7]) rfl rfl rfl rfl (C9.store_row y52 g5 30 30 _ #[.int .i64 v0, .int .i64 v1, .string v2, .int .i64 v3, .int .i64 v4, .string v5, .string v6, .int .i64 v7] k5_52 (by kernel_rfl) rfl (one8 _ _ _ _ _ _ _ _)) ?_
                  have hb53 := below_setRow hb52 lo5 #[.int .i64 v0, .int .i64 v1, .string v2, .int .i64 v3, .int .i64 v4, .string v5, .string v6, .int .i64 v7]
                  refine hK.out _ _ ?_ (fun hHeld => ?_)
                  · exact KS.out _ hb53
                  clear hK K
                  have k5_53 : (y52.setRow g5 #[.int .i64 v0, .int .i64 v1, .string v2, .int .i64 v3, .int .i64 v4, .string v5, .string v6, .int .i64 v7]).heap[g5]? = some (.cells #[.int .i64 v0, .int .i64 v1, .string v2, .int .i64 v3, .int .i64 v4, .string v5, .string v6, .int .i64 v7] 30 (0, 0)) := setRow_heap _ _ _ _ _ _ k5_52
                  have k4_53 := (setRow_other y52 g5 g4 #[.int .i64 v0, .int .i64 v1, .string v2, .int .i64 v3, .int .i64 v4, .string v5, .string v6, .int .i64 v7] (Nat.ne_of_gt ne5)).trans k4_52
                  generalize y52.setRow g5 #[.int .i64 v0, .int .i64 v1, .string v2, .int .i64 v3, .int .i64 v4, .string v5, .string v6, .int .i64 v7] = y53 at *
                  refine wpAnyH_done (by kernel_rfl) ?_ _
                  go_wp2_with fail
                  go_meet
                  case rel => exact ⟨g4, g5, rfl, rfl, k4_53, k5_53, hb53⟩
                refine AllReadyH.cons rfl (fun K hK => ?_) AllReadyH.nil
                go_simp
                have hb54 := bel2 hb44 (albel y44 (.cells #[.int .i64 0, .int .i64 0, .string ⟨#[]⟩, .int .i64 0, .int .i64 0, .string ⟨#[]⟩, .string ⟨#[]⟩, .int .i64 0] 30))
                have k4_54 := heap_alloc_new y44 (.cells #[.int .i64 0, .int .i64 0, .string ⟨#[]⟩, .int .i64 0, .int .i64 0, .string ⟨#[]⟩, .string ⟨#[]⟩, .int .i64 0] 30)
                have lo4 := hb44.size
                have ne5 := lt_some k5_44
                have k5_54 := carryA k5_44 (.cells #[.int .i64 0, .int .i64 0, .string ⟨#[]⟩, .int .i64 0, .int .i64 0, .string ⟨#[]⟩, .string ⟨#[]⟩, .int .i64 0] 30)
                refine hK.out _ _ ?_ (fun hHeld => ?_)
                · exact KS.out _ hb54
                clear hK K
                try simp only [Act.put, List.setIfInBounds_toArray, List.set_cons_zero, List.set_cons_succ]
                generalize y44.heap.size = g4 at *
                generalize y44.alloc (.cells #[.int .i64 0, .int .i64 0, .string ⟨#[]⟩, .int .i64 0, .int .i64 0, .string ⟨#[]⟩, .string ⟨#[]⟩, .int .i64 0] 30) = y54 at *
                refine wpAnyH_ready (rs := [1]) (by kernel_rfl) (by simp) ?_
                refine AllReadyH.cons rfl (fun K hK => ?_) AllReadyH.nil
                go_simp
                (go_at_call 9; refine (I6.out _ (HLX.out _ hb54)).mono ?_; rintro e y55 ⟨rfl, hq⟩)
                try (go_wp2_with fail)
                have hb55 := bel2 hb54 hq
                have k5_55 := carry k5_54 hq
                have k4_55 := carry k4_54 hq
                clear hq
                refine hK.out _ _ ?_ (fun hHeld => ?_)
                · exact KS.out _ hb55
                clear hK K
                try simp only [Act.put, List.setIfInBounds_toArray, List.set_cons_zero, List.set_cons_succ]
                refine wpAnyH_ready (rs := [3]) (by kernel_rfl) (by simp) ?_
                refine AllReadyH.cons rfl (fun K hK => ?_) AllReadyH.nil
                go_simp
                (go_at_call 19; refine (S6.out _).mono ?_; rintro e y56 ⟨rfl, hq⟩)
                try (go_wp2_with fail)
                have hb56 := bel2 hb55 hq
                have k5_56 := carry k5_55 hq
                have k4_56 := carry k4_55 hq
                clear hq
                refine hK.out _ _ ?_ (fun hHeld => ?_)
                · exact KS.out _ hb56
                clear hK K
                try simp only [Act.put, List.setIfInBounds_toArray, List.set_cons_zero, List.set_cons_succ]
                refine wpAnyH_ready (rs := [6]) (by kernel_rfl) (by simp) ?_
                refine AllReadyH.cons rfl (fun K hK => ?_) AllReadyH.nil
                refine TK.store_if (by kernel_rfl) 30 (.tmp 23) (.tmp 198) ⟨g4, 0, none⟩ (.agg #[.int .i64 v0, .int .i64 v1, .string v2, .int .i64 v3, .int .i64 v4, .string v5, .string v6, .int .i64 v7]) rfl rfl rfl rfl (C9.store_row y56 g4 30 30 _ #[.int .i64 v0, .int .i64 v1, .string v2, .int .i64 v3, .int .i64 v4, .string v5, .string v6, .int .i64 v7] k4_56 (by kernel_rfl) rfl (one8 _ _ _ _ _ _ _ _)) ?_
                have hb57 := below_setRow hb56 lo4 #[.int .i64 v0, .int .i64 v1, .string v2, .int .i64 v3, .int .i64 v4, .string v5, .string v6, .int .i64 v7]
                refine hK.out _ _ ?_ (fun hHeld => ?_)
                · exact KS.out _ hb57
                clear hK K
                have k4_57 : (y56.setRow g4 #[.int .i64 v0, .int .i64 v1, .string v2, .int .i64 v3, .int .i64 v4, .string v5, .string v6, .int .i64 v7]).heap[g4]? = some (.cells #[.int .i64 v0, .int .i64 v1, .string v2, .int .i64 v3, .int .i64 v4, .string v5, .string v6, .int .i64 v7] 30 (0, 0)) := setRow_heap _ _ _ _ _ _ k4_56
                have k5_57 := (setRow_other y56 g4 g5 #[.int .i64 v0, .int .i64 v1, .string v2, .int .i64 v3, .int .i64 v4, .string v5, .string v6, .int .i64 v7] (Nat.ne_of_lt ne5)).trans k5_56
                generalize y56.setRow g4 #[.int .i64 v0, .int .i64 v1, .string v2, .int .i64 v3, .int .i64 v4, .string v5, .string v6, .int .i64 v7] = y57 at *
                refine wpAnyH_ready (rs := [7]) (by kernel_rfl) (by simp) ?_
                refine AllReadyH.cons rfl (fun K hK => ?_) AllReadyH.nil
                refine TK.store_if (by kernel_rfl) 30 (.tmp 24) (.tmp 200) ⟨g5, 0, none⟩ (.agg #[.int .i64 v0, .int .i64 v1, .string v2, .int .i64 v3, .int .i64 v4, .string v5, .string v6, .int .i64 v7]) rfl rfl rfl rfl (C9.store_row y57 g5 30 30 _ #[.int .i64 v0, .int .i64 v1, .string v2, .int .i64 v3, .int .i64 v4, .string v5, .string v6, .int .i64 v7] k5_57 (by kernel_rfl) rfl (one8 _ _ _ _ _ _ _ _)) ?_
                have hb58 := below_setRow hb57 lo5 #[.int .i64 v0, .int .i64 v1, .string v2, .int .i64 v3, .int .i64 v4, .string v5, .string v6, .int .i64 v7]
                refine hK.out _ _ ?_ (fun hHeld => ?_)
                · exact KS.out _ hb58
                clear hK K
                have k5_58 : (y57.setRow g5 #[.int .i64 v0, .int .i64 v1, .string v2, .int .i64 v3, .int .i64 v4, .string v5, .string v6, .int .i64 v7]).heap[g5]? = some (.cells #[.int .i64 v0, .int .i64 v1, .string v2, .int .i64 v3, .int .i64 v4, .string v5, .string v6, .int .i64 v7] 30 (0, 0)) := setRow_heap _ _ _ _ _ _ k5_57
                have k4_58 := (setRow_other y57 g5 g4 #[.int .i64 v0, .int .i64 v1, .string v2, .int .i64 v3, .int .i64 v4, .string v5, .string v6, .int .i64 v7] (Nat.ne_of_gt ne5)).trans k4_57
                generalize y57.setRow g5 #[.int .i64 v0, .int .i64 v1, .string v2, .int .i64 v3, .int .i64 v4, .string v5, .string v6, .int .i64 v7] = y58 at *
                refine wpAnyH_done (by kernel_rfl) ?_ _
                go_wp2_with fail
                go_meet
                case rel => exact ⟨g4, g5, rfl, rfl, k4_58, k5_58, hb58⟩
              case rest =>
                obtain ⟨g1, g2, rfl, rfl, k1, k2, hq⟩ := hcut
                have hb1 := bel2 hb hq
                have kS1 := carry kS hq
                clear I6 S6 KS HLX hq kS hb
                obtain ⟨f0, f1, f2, f3, f4, f5, f6, f7, ff⟩ := BK.blk8 k1
                obtain ⟨e0, e1, e2, e3, e4, e5, e6, e7, ef⟩ := BK.blk8 k2
                go_wp2_with fail
                refine (LV.out _).mono ?_
                rintro e y3 ⟨rfl, hq⟩
                have hb3 : Hid _ := bel2 hb1 hq
                have k13 := carry k1 hq
                have k23 := carry k2 hq
                have kS3 := carry kS1 hq
                clear hq hb1 k1 k2 kS1 LV f0 f1 f2 f3 f4 f5 f6 f7 ff e0 e1 e2 e3 e4 e5 e6 e7 ef
                obtain ⟨f0, f1, f2, f3, f4, f5, f6, f7, ff⟩ := BK.blk8 k13
                obtain ⟨e0, e1, e2, e3, e4, e5, e6, e7, ef⟩ := BK.blk8 k23
                by_cases h11 : ¬ v7 = 11
                · have t11 : (v7 == 11) = false := by simp [h11]
                  clear k13 k23 kS3
                  go_wp2_with fail
                  go_ret
                  exact ⟨rfl, bel2 BW.out hb3.out⟩
                have h11' : v7 = 11 := Decidable.not_not.1 h11
                have t11 : (v7 == 11) = true := by simp [h11']
                have hw := YP.try_wrong (c := ⟨id, ep, z2, tk, ix, dt⟩) (pin := ⟨#[48, 48, 48, 48, 48, 48, 48, 48]⟩) (by rw [hOw]; exact h11')
                obtain ⟨hw, -, -⟩ := hw
                rw [hOw] at hw
                have q0 : id = v0 := (congrArg (fun o => o.c.id) hw).symm
                have q1 : ep = v1 := (congrArg (fun o => o.c.ep) hw).symm
                have q2 : z2 = v2 := (congrArg (fun o => o.c.pin) hw).symm
                have q3 : v3 = tk - 1 := congrArg (fun o => o.c.tr) hw
                have q4 : ix = v4 := (congrArg (fun o => o.c.ix) hw).symm
                have q5 : dt = v5 := (congrArg (fun o => o.c.dt) hw).symm
                clear hw hOw h11 h11'
                subst q0 q1 q2 q4 q5
                have q33 : Hid (v3 = 3 - ((k + 1 : Nat) : Int)) := tk_less htk q3
                clear q3
                have HK3 : Hid _ := kS3
                obtain ⟨s0, s1, s2, s3, s4, s5, sf⟩ := BK.blk6 kS3
                clear k13 k23 kS3 e0 e1 e2 e3 e4 e5 e6 ef
                go_wp2_with fail
                go_roundw
                case rel =>
                  refine ⟨k + 1, hlt, ?_, ?_, ?_⟩
                  · go_num
                  · exact setC_bel hb3.out lS
                  · have h := setC_new (v0 := .int .i64 id) (v1 := .int .i64 ep) (v2 := .string z2) (v3 := .int .i64 v3) (v4 := .int .i64 ix) (v5 := .string dt) HK3.out
                    rw [← q33.out]
                    exact h
                case measure => exact meas hlt
            have hk3 : tk = 0 := tk_zero htk hk hlt
            have hlt' : ¬ (k : Int) < 3 := fun h => hlt (by exact_mod_cast h)
            subst hk3
            have hp8 := pinB_le hpp
            have hsm := YP.right_small hcz
            have hz2 := (cardB_parts hcz).2.2.1
            dsimp only at hsm hz2
            have T1 := YP.told (c := ⟨id, ep, z2, 3, ix, dt⟩) (pin := p) hcz hpp HZ2.out (by dsimp only; decide)
            have T2 := YP.shut (c := ⟨id, ep, z2, 0, ix, dt⟩) (pin := p) (YP.right_tries (c := ⟨id, ep, z2, 3, ix, dt⟩) (t := 0) hcz (by decide)) hpp rfl
            have HLX : ∀ x, Below wr.heap.size wr x → K2.Laid x := fun x hx => hLW.below (bel2 hb hx)
            have J1 : Hid (∀ x, Below wr.heap.size wr x → Calls Tryd.prog 9 #[.agg #[.int .i64 id, .int .i64 ep, .string z2, .int .i64 3, .int .i64 ix, .string dt], .string p] x fun e w' => e = .returned (.agg #[.int .i64 id, .int .i64 ep, .string z2, .int .i64 3, .int .i64 ix, .string dt, .string dt, .int .i64 0]) ∧ Below wr.heap.size wr w') := fun x hx => by
              have h := Q0.try_impl ⟨id, ep, z2, 3, ix, dt⟩ p x (HLX x hx) (mx 8 hp8 (by decide)) (mx 32 (Nat.le_of_eq hz2) (by decide)) (mx 16 hsm.2 (by decide))
              rw [T1] at h
              exact h.mono fun e w' h => ⟨h.1, bel2 hx h.2⟩
            have J2 : Hid (∀ x, Below wr.heap.size wr x → Calls Tryd.prog 9 #[.agg #[.int .i64 id, .int .i64 ep, .string z2, .int .i64 0, .int .i64 ix, .string dt], .string p] x fun e w' => e = .returned (.agg #[.int .i64 0, .int .i64 0, .string ⟨#[]⟩, .int .i64 0, .int .i64 0, .string ⟨#[]⟩, .string ⟨#[]⟩, .int .i64 12]) ∧ Below wr.heap.size wr w') := fun x hx => by
              have h := Q0.try_impl ⟨id, ep, z2, 0, ix, dt⟩ p x (HLX x hx) (mx 8 hp8 (by decide)) (mx 32 (Nat.le_of_eq hz2) (by decide)) (mx 16 hsm.2 (by decide))
              rw [T2] at h
              exact h.mono fun e w' h => ⟨h.1, bel2 hx h.2⟩
            have BL0 : Hid (Below w.heap.size w wr) := bel2 BW.out hb
            have KX : Hid (∀ x, Below wr.heap.size wr x → (x.cell? ⟨E3, 0, none⟩ = some (.int .i64 id) ∧ x.cell? ⟨E3, 1, none⟩ = some (.int .i64 ep) ∧ x.cell? ⟨E3, 2, none⟩ = some (.string z2) ∧ x.cell? ⟨E3, 3, none⟩ = some (.int .i64 3) ∧ x.cell? ⟨E3, 4, none⟩ = some (.int .i64 ix) ∧ x.cell? ⟨E3, 5, none⟩ = some (.string dt) ∧ x.cell? ⟨D3, 1, none⟩ = some (.string dt) ∧ x.cell? ⟨S, 0, none⟩ = some (.int .i64 id) ∧ x.cell? ⟨S, 1, none⟩ = some (.int .i64 ep) ∧ x.cell? ⟨S, 2, none⟩ = some (.string z2) ∧ x.cell? ⟨S, 3, none⟩ = some (.int .i64 0) ∧ x.cell? ⟨S, 4, none⟩ = some (.int .i64 ix) ∧ x.cell? ⟨S, 5, none⟩ = some (.string dt))) := fun x hx => by have h := KI.out x (bel2 hb hx); have hs := carry kS hx; exact ⟨h.1, h.2.1, h.2.2.1, h.2.2.2.1, h.2.2.2.2.1, h.2.2.2.2.2.1, h.2.2.2.2.2.2.2.2.2, block_cell hs 0, block_cell hs 1, block_cell hs 2, block_cell hs 3, block_cell hs 4, block_cell hs 5⟩
            have hdd : (dt.toList == dt.toList) = true := by simp
            have hf1 : ∀ X, (Instr.field 30 (.agg #[.int .i64 id, .int .i64 ep, .string z2, .int .i64 3, .int .i64 ix, .string dt, .string dt, .int .i64 0]) 1).run Tryd.prog X = .ok (.string dt) X := fun X => field_one _ _ _ _ _ _ _ _ X
            have hf2 : ∀ X, (Instr.field 30 (.agg #[.int .i64 0, .int .i64 0, .string ⟨#[]⟩, .int .i64 0, .int .i64 0, .string ⟨#[]⟩, .string ⟨#[]⟩, .int .i64 12]) 2).run Tryd.prog X = .ok (.int .i64 12) X := fun X => field_two _ _ _ _ _ _ _ _ X
            clear T1 T2 HLX hsm hz2 hp8 hcz hpp HZ2 hLW KI BW hL hb kS
            go_upto_region 33 with fail
            have hb9 : Below wr.heap.size wr wr.drew := (Below.refl _ _).drew
            refine wp_region_held_drew (S := (fun x => x.cell? ⟨E3, 0, none⟩ = some (.int .i64 id) ∧ x.cell? ⟨E3, 1, none⟩ = some (.int .i64 ep) ∧ x.cell? ⟨E3, 2, none⟩ = some (.string z2) ∧ x.cell? ⟨E3, 3, none⟩ = some (.int .i64 3) ∧ x.cell? ⟨E3, 4, none⟩ = some (.int .i64 ix) ∧ x.cell? ⟨E3, 5, none⟩ = some (.string dt) ∧ x.cell? ⟨D3, 1, none⟩ = some (.string dt) ∧ x.cell? ⟨S, 0, none⟩ = some (.int .i64 id) ∧ x.cell? ⟨S, 1, none⟩ = some (.int .i64 ep) ∧ x.cell? ⟨S, 2, none⟩ = some (.string z2) ∧ x.cell? ⟨S, 3, none⟩ = some (.int .i64 0) ∧ x.cell? ⟨S, 4, none⟩ = some (.int .i64 ix) ∧ x.cell? ⟨S, 5, none⟩ = some (.string dt))) (by kernel_rfl) (KX.out _ hb9) (fun hHeld => ?_)
            refine TK.take_at 0 (some 210) (v := ?vz0) rfl rfl (by kernel_rfl) (by kernel_rfl) (by kernel_rfl) (fun _ _ _ h => h) (Or.inl ⟨rfl, ?hz0⟩) hHeld ?rz0
            case hz0 => intro wq hSw; (try dsimp only at hSw); go_simp; all_goals (with_reducible rfl)
            try simp only [Act.put, List.setIfInBounds_toArray, List.set_cons_zero, List.set_cons_succ]
            refine TK.take_at 1 (some 211) (v := ?vz1) rfl rfl (by kernel_rfl) (by kernel_rfl) (by kernel_rfl) (fun _ _ _ h => h) (Or.inl ⟨rfl, ?hz1⟩) hHeld ?rz1
            case hz1 => intro wq hSw; (try dsimp only at hSw); go_simp; all_goals (with_reducible rfl)
            try simp only [Act.put, List.setIfInBounds_toArray, List.set_cons_zero, List.set_cons_succ]
            refine TK.take_at 2 (some 212) (v := ?vz2) rfl rfl (by kernel_rfl) (by kernel_rfl) (by kernel_rfl) (fun _ _ _ h => h) (Or.inl ⟨rfl, ?hz2⟩) hHeld ?rz2
            case hz2 => intro wq hSw; (try dsimp only at hSw); go_simp; all_goals (with_reducible rfl)
            try simp only [Act.put, List.setIfInBounds_toArray, List.set_cons_zero, List.set_cons_succ]
            refine TK.take_at 5 (some 215) (v := ?vz5) rfl rfl (by kernel_rfl) (by kernel_rfl) (by kernel_rfl) (fun _ _ _ h => h) (Or.inl ⟨rfl, ?hz5⟩) hHeld ?rz5
            case hz5 => intro wq hSw; (try dsimp only at hSw); go_simp; all_goals (with_reducible rfl)
            try simp only [Act.put, List.setIfInBounds_toArray, List.set_cons_zero, List.set_cons_succ]
            refine TK.take_at 6 (some 216) (v := ?vz6) rfl rfl (by kernel_rfl) (by kernel_rfl) (by kernel_rfl) (fun _ _ _ h => h) (Or.inl ⟨rfl, ?hz6⟩) hHeld ?rz6
            case hz6 => intro wq hSw; (try dsimp only at hSw); go_simp; all_goals (with_reducible rfl)
            try simp only [Act.put, List.setIfInBounds_toArray, List.set_cons_zero, List.set_cons_succ]
            refine wpAnyH_ready (rs := [3]) (by kernel_rfl) (by simp) ?_
            refine AllReadyH.cons rfl (fun K hK => ?_) AllReadyH.nil
            go_simp
            (go_at_call 9; refine (J1.out _ hb9).mono ?_; rintro e xq ⟨rfl, hb9⟩)
            try (go_wp2_with fail)
            refine hK.out _ _ ?_ (fun hHeld => ?_)
            · exact KX.out _ hb9
            clear hK K
            try simp only [Act.put, List.setIfInBounds_toArray, List.set_cons_zero, List.set_cons_succ]
            refine TK.take_at 4 (some 214) (v := ?vz4) rfl rfl (by kernel_rfl) (by kernel_rfl) (by kernel_rfl) (fun _ _ _ h => h) (Or.inl ⟨rfl, ?hz4⟩) hHeld ?rz4
            case hz4 => intro wq hSw; (try dsimp only at hSw); go_simp; all_goals (with_reducible rfl)
            try simp only [Act.put, List.setIfInBounds_toArray, List.set_cons_zero, List.set_cons_succ]
            refine TK.take_at 7 (some 217) (v := ?vz7) rfl rfl (by kernel_rfl) (by kernel_rfl) (by kernel_rfl) (fun _ _ _ h => h) (Or.inl ⟨rfl, ?hz7⟩) hHeld ?rz7
            case hz7 => intro wq hSw; (try dsimp only at hSw); go_simp; all_goals (with_reducible rfl)
            try simp only [Act.put, List.setIfInBounds_toArray, List.set_cons_zero, List.set_cons_succ]
            refine TK.take_at 8 (some 218) (v := ?vz8) rfl rfl (by kernel_rfl) (by kernel_rfl) (by kernel_rfl) (fun _ _ _ h => h) (Or.inl ⟨rfl, ?hz8⟩) hHeld ?rz8
            case hz8 => intro wq hSw; (try dsimp only at hSw); go_simp; all_goals (with_reducible rfl)
            try simp only [Act.put, List.setIfInBounds_toArray, List.set_cons_zero, List.set_cons_succ]
            refine TK.take_at 9 (some 219) (v := ?vz9) rfl rfl (by kernel_rfl) (by kernel_rfl) (by kernel_rfl) (fun _ _ _ h => h) (Or.inl ⟨rfl, ?hz9⟩) hHeld ?rz9
            case hz9 => intro wq hSw; (try dsimp only at hSw); go_simp; all_goals (with_reducible rfl)
            try simp only [Act.put, List.setIfInBounds_toArray, List.set_cons_zero, List.set_cons_succ]
            refine TK.take_at 10 (some 220) (v := ?vz10) rfl rfl (by kernel_rfl) (by kernel_rfl) (by kernel_rfl) (fun _ _ _ h => h) (Or.inl ⟨rfl, ?hz10⟩) hHeld ?rz10
            case hz10 => intro wq hSw; (try dsimp only at hSw); go_simp; all_goals (with_reducible rfl)
            try simp only [Act.put, List.setIfInBounds_toArray, List.set_cons_zero, List.set_cons_succ]
            refine wpAnyH_ready (rs := [11]) (by kernel_rfl) (by simp) ?_
            refine AllReadyH.cons rfl (fun K hK => ?_) AllReadyH.nil
            go_simp
            (go_at_call 9; refine (J2.out _ hb9).mono ?_; rintro e xr ⟨rfl, hb9⟩)
            try (go_wp2_with fail)
            refine hK.out _ _ ?_ (fun hHeld => ?_)
            · exact KX.out _ hb9
            clear hK K
            try simp only [Act.put, List.setIfInBounds_toArray, List.set_cons_zero, List.set_cons_succ]
            refine TK.take_at 12 (some 222) (v := ?vz12) rfl rfl (by kernel_rfl) (by kernel_rfl) (by kernel_rfl) (fun _ _ _ h => h) (Or.inl ⟨rfl, ?hz12⟩) hHeld ?rz12
            case hz12 => intro wq hSw; (try dsimp only at hSw); go_simp; all_goals (with_reducible rfl)
            try simp only [Act.put, List.setIfInBounds_toArray, List.set_cons_zero, List.set_cons_succ]
            refine TK.take_at 13 (some 223) (v := ?vz13) rfl rfl (by kernel_rfl) (by kernel_rfl) (by kernel_rfl) (fun _ _ _ h => h) (Or.inl ⟨rfl, ?hz13⟩) hHeld ?rz13
            case hz13 => intro wq hSw; (try dsimp only at hSw); go_simp; all_goals (with_reducible rfl)
            try simp only [Act.put, List.setIfInBounds_toArray, List.set_cons_zero, List.set_cons_succ]
            refine TK.take_at 14 (some 224) (v := ?vz14) rfl rfl (by kernel_rfl) (by kernel_rfl) (by kernel_rfl) (fun _ _ _ h => h) (Or.inl ⟨rfl, ?hz14⟩) hHeld ?rz14
            case hz14 => intro wq hSw; (try dsimp only at hSw); go_simp; all_goals (with_reducible rfl)
            try simp only [Act.put, List.setIfInBounds_toArray, List.set_cons_zero, List.set_cons_succ]
            refine TK.take_at 15 (some 4) (v := ?vz15) rfl rfl (by kernel_rfl) (by kernel_rfl) (by kernel_rfl) (fun _ _ _ h => h) (Or.inl ⟨rfl, ?hz15⟩) hHeld ?rz15
            case hz15 => intro wq hSw; (try dsimp only at hSw); go_simp; all_goals (with_reducible rfl)
            try simp only [Act.put, List.setIfInBounds_toArray, List.set_cons_zero, List.set_cons_succ]
            refine wpAnyH_done (by kernel_rfl) ?_ _
            go_wp2_with fail
            go_ret
            exact ⟨rfl, bel2 BL0.out hb9⟩
end Go.Proofs.YteehgicnfageiaaDoor.YCard
