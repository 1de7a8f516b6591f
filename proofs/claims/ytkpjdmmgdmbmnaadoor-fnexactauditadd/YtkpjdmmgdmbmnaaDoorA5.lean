/-
  A line, and a log, that came in, opened.
-/
import Derived.Test.YtkpjdmmgdmbmnaaDoorA4
import Derived.Deep.SlicePairs
import Derived.Lib.SmallJoins
import Derived.ProofKit
import Derived.OpenShut
namespace Go.Proofs.YtkpjdmmgdmbmnaaDoor.A5
open Go.RowKit Go.WideShapes Go.Joins Go.ChangeShapes
open Go.Proofs.YtkpjdmmgdmbmnaaDoor.A0 Go.Proofs.YtkpjdmmgdmbmnaaDoor.A1 Go.Proofs.YtkpjdmmgdmbmnaaDoor.A4
theorem spot_none {w : World} {a : Addr} {v : Value} (h : w.cell? (a.add 0) = some v) : ∃ b off, a = ⟨b, off, none⟩ ∧ b < w.heap.size := by
  obtain ⟨b, off, spot⟩ := a
  have hspot : spot = none := by simpa [Addr.add] using World.cell?_spot h
  subst hspot
  refine ⟨b, off, rfl, ?_⟩
  rcases Nat.lt_or_ge b w.heap.size with hh | hh
  · exact hh
  · simp [World.cell?, Addr.add, Array.getElem?_eq_none hh] at h
theorem add0 (b off j : Nat) : (⟨b, off, none⟩ : Addr).add j = ⟨b, off + j, none⟩ := by unfold Addr.add; split <;> simp_all
section
variable {W : World} {H : Type} {enc : TypeId × Value → H}
set_option maxRecDepth 100000 in
theorem ints_in {n : Nat} {v : Value} {y : DataW H × List MemPlace} (h : DataW.trod enc Tryd.prog W 0 (fun _ => true) true n 27 [v] = some y) : ∃ l, IRow W v l ∧ ∀ c ∈ l, -9223372036854775808 ≤ c ∧ c ≤ 9223372036854775807 := by
  rcases open_ints Tryd.underlying27 Tryd.underlying2 (by kernel_rfl) h with ⟨hcs, _⟩ | ⟨x, len, cap, zs, hcs, _, hl, hm, hz, _, hcell, hwz⟩
  · simp at hcs
    subst hcs
    exact ⟨[], ⟨none, 0, rfl, by simp, fun q => by simp at q⟩, by simp⟩
  · simp at hcs
    subst hcs
    have hzl : zs.length = cap := by simpa using hz
    refine ⟨zs.take len, ⟨some x, cap, by rw [List.length_take, Nat.min_eq_left (by omega)], by rw [List.length_take]; omega, fun q => ?_⟩, fun c hc => ?_⟩
    · have hlen : 0 < len := by rw [List.length_take] at q; omega
      obtain ⟨b, off, rfl, hb⟩ := spot_none (hcell 0 (by omega))
      refine ⟨b, off, rfl, hb, fun i z hi => ?_⟩
      have hil : i < len := by have := (List.getElem?_eq_some_iff.1 hi).1; rw [List.length_take] at this; omega
      have := hcell i (by omega)
      rw [add0] at this
      rw [this]
      rw [List.getElem?_take, if_pos hil] at hi
      rw [List.getD_eq_getElem?_getD, hi]; rfl
    · have := bounds_i64 (hwz c (List.mem_of_mem_take hc))
      omega
set_option maxRecDepth 100000 in
theorem strs_in {n : Nat} {v : Value} {y : DataW H × List MemPlace} (h : DataW.trod enc Tryd.prog W 0 (fun _ => true) true n 24 [v] = some y) : ∃ l, SRow W v l ∧ ∀ s ∈ l, s.size ≤ maxLen := by
  rcases Go.Deep.open_slice Tryd.underlying24 h with ⟨hcs, _⟩ | ⟨a, len, cap, m, n', D, Pl, hcs, _, hl, hm, hmm, _, hx⟩
  · simp at hcs
    subst hcs
    exact ⟨[], ⟨none, 0, rfl, by simp, fun q => by simp at q⟩, by simp⟩
  · simp at hcs
    subst hcs
    have hce : Tryd.prog.cellsOf 9 = 1 := by kernel_rfl
    have hm1 : m = cap := hmm
    have each : ∀ i, i < m → ∃ s : ByteArray, W.cell? (a.add i) = some (.string s) ∧ s.size ≤ maxLen := fun i hi => by
      obtain ⟨cs', g1, g2⟩ := hx i hi
      rw [hce] at g1
      obtain ⟨_, hlen, hcell⟩ := World.cells?_some g1
      obtain ⟨s, e0, _, hz⟩ := DataW.trod_string Tryd.underlying9 g2
      subst e0
      have h0 := hcell 0 (by omega)
      rw [Nat.mul_one] at h0
      exact ⟨s, by simpa [Go.Deep.add_add] using h0, hz⟩
    obtain ⟨q, hq⟩ := Go.Deep.choose_lt each
    refine ⟨(List.range len).map q, ⟨some a, cap, by simp, by simp; omega, fun h0 => ?_⟩, fun s hs => ?_⟩
    · have hlen : 0 < len := by simpa using h0
      obtain ⟨b, off, rfl, hb⟩ := spot_none (hq 0 (by omega)).1
      refine ⟨b, off, rfl, hb, fun i z hi => ?_⟩
      have hil : i < len := by have := (List.getElem?_eq_some_iff.1 hi).1; simpa using this
      have hz : q i = z := by simpa [hil] using hi
      have := (hq i (by omega)).1
      rw [add0, hz] at this
      exact this
    · obtain ⟨i, hi, rfl⟩ := List.mem_map.1 hs
      exact (hq i (by have := List.mem_range.1 hi; omega)).2
set_option maxRecDepth 100000 in
theorem line_cells {n : Nat} {cs : List Value} {y : DataW H × List MemPlace} (h : DataW.trod enc Tryd.prog W 0 (fun _ => true) true n 52 cs = some y) :
    ∃ x vc, cs = [.int .i64 x.kind, .string x.name, .string x.sum, vc] ∧ LnW x ∧ IRow W vc x.cards := by
  obtain ⟨y0, y1, y2, y3, m, _, hl, h0, h1, h2, h3⟩ := trod_struct4 Tryd.underlying52 h
  have hl4 : cs.length = 4 := hl.trans (by kernel_rfl)
  match cs, hl4 with
  | [v0, v1, v2, v3], _ =>
    have c1 : Tryd.prog.cellsOf 2 = 1 := by kernel_rfl
    have c2 : Tryd.prog.cellsOf 9 = 1 := by kernel_rfl
    have c3 : Tryd.prog.cellsOf 27 = 1 := by kernel_rfl
    dsimp only at h0 h1 h2 h3
    rw [c1] at h0
    rw [c2] at h1 h2
    rw [c3] at h3
    obtain ⟨z, e0, _, b0⟩ := DataW.trod_int (cs := [v0]) Tryd.underlying2 (by simpa using h0)
    obtain ⟨s1, e1, _, hz1⟩ := DataW.trod_string (cs := [v1]) Tryd.underlying9 (by simpa using h1)
    obtain ⟨s2, e2, _, hz2⟩ := DataW.trod_string (cs := [v2]) Tryd.underlying9 (by simpa using h2)
    obtain ⟨l, hil, hb⟩ := ints_in (v := v3) (by simpa using h3)
    obtain rfl : v0 = .int .i64 z := by simpa using e0
    obtain rfl : v1 = .string s1 := by simpa using e1
    obtain rfl : v2 = .string s2 := by simpa using e2
    have q0 := bounds_i64 b0
    exact ⟨⟨z, s1, s2, l⟩, v3, rfl, ⟨hz1, hz2, ⟨by dsimp only; omega, by dsimp only; omega⟩, hb⟩, hil⟩
set_option maxRecDepth 100000 in
theorem line_of {r : Reach} {b0 : Nat} {v : Value} {d : DataW H} {p : List MemPlace} (hv : Value.okWide Tryd.prog W r b0 52 v) (h : DataW.Trod enc Tryd.prog W 0 (fun _ => true) true 52 v d p) :
    ∃ x vc, v = lnV x vc ∧ LnW x ∧ IRow W vc x.cards := by
  obtain ⟨cs, rfl, hsz⟩ := okWide_struct Tryd.underlying52 hv
  obtain ⟨fuel, hf⟩ := h
  obtain ⟨x, vc, hcs, hx, hi⟩ := line_cells hf
  refine ⟨x, vc, ?_, hx, hi⟩
  have : cs = #[.int .i64 x.kind, .string x.name, .string x.sum, vc] := by
    apply Array.ext'
    simpa [Value.cells] using hcs
  rw [this]; rfl
set_option maxRecDepth 100000 in
theorem lines_in {n : Nat} {v : Value} {y : DataW H × List MemPlace} (h : DataW.trod enc Tryd.prog W 0 (fun _ => true) true n 46 [v] = some y) : ∃ l, LRow W v l ∧ ∀ x ∈ l, LnW x := by
  rcases Go.Deep.open_slice Tryd.underlying46 h with ⟨hcs, _⟩ | ⟨a, len, cap, m, n', D, Pl, hcs, _, hl, hm, hmm, _, hx⟩
  · simp at hcs
    subst hcs
    exact ⟨[], ⟨none, 0, rfl, by simp, fun q => by simp at q⟩, by simp⟩
  · simp at hcs
    subst hcs
    have hce : Tryd.prog.cellsOf 52 = 4 := by kernel_rfl
    have hm1 : m = cap := hmm
    have each : ∀ i, i < m → ∃ q : Ln × Value, LnW q.1 ∧ IRow W q.2 q.1.cards ∧ W.cell? (a.add (i * 4)) = some (.int .i64 q.1.kind) ∧ W.cell? (a.add (i * 4 + 1)) = some (.string q.1.name) ∧ W.cell? (a.add (i * 4 + 2)) = some (.string q.1.sum) ∧ W.cell? (a.add (i * 4 + 3)) = some q.2 := fun i hi => by
      obtain ⟨cs', g1, g2⟩ := hx i hi
      rw [hce] at g1
      obtain ⟨_, hlen, hcell⟩ := World.cells?_some g1
      obtain ⟨x, vc, hcs, hw, hr⟩ := line_cells g2
      subst hcs
      have h0 := hcell 0 (by omega)
      have h1 := hcell 1 (by omega)
      have h2 := hcell 2 (by omega)
      have h3 := hcell 3 (by omega)
      rw [Go.Deep.add_add] at h0 h1 h2 h3
      exact ⟨(x, vc), hw, hr, by simpa using h0, by simpa using h1, by simpa using h2, by simpa using h3⟩
    haveI : Inhabited (Ln × Value) := ⟨(lnZ, undef)⟩
    obtain ⟨q, hq⟩ := Go.Deep.choose_lt each
    refine ⟨(List.range len).map fun i => (q i).1, ⟨some a, cap, by simp, by simp; omega, fun h0 => ?_⟩, fun s hs => ?_⟩
    · have hlen : 0 < len := by simpa using h0
      obtain ⟨b, off, rfl, hb⟩ := spot_none (a := a) (hq 0 (by omega)).2.2.1
      refine ⟨b, off, rfl, hb, fun i z hi => ?_⟩
      have hil : i < len := by have := (List.getElem?_eq_some_iff.1 hi).1; simpa using this
      have hz : (q i).1 = z := by simpa [hil] using hi
      obtain ⟨_, r1, r2, r3, r4, r5⟩ := hq i (by omega)
      rw [add0] at r2 r3 r4 r5
      subst hz
      exact ⟨(q i).2, r1, r2, r3, r4, r5⟩
    · obtain ⟨i, hi, rfl⟩ := List.mem_map.1 hs
      exact (hq i (by have := List.mem_range.1 hi; omega)).1
set_option maxRecDepth 100000 in
theorem audit_of {r : Reach} {b0 : Nat} {v : Value} {d : DataW H} {p : List MemPlace} (hv : Value.okWide Tryd.prog W r b0 48 v) (h : DataW.Trod enc Tryd.prog W 0 (fun _ => true) true 48 v d p) :
    ∃ vl vk ls ks, v = .agg #[vl, vk] ∧ LRow W vl ls ∧ SRow W vk ks ∧ (∀ x ∈ ls, LnW x) ∧ ∀ s ∈ ks, s.size ≤ maxLen := by
  obtain ⟨v0, v1, y0, y1, n, rfl, _, _, h0, h1⟩ := open_agg2 Tryd.underlying48 (by kernel_rfl) (by kernel_rfl) hv h
  obtain ⟨ls, h2, h3⟩ := lines_in h0
  obtain ⟨ks, h4, h5⟩ := strs_in h1
  exact ⟨v0, v1, ls, ks, rfl, h2, h4, h3, h5⟩
end
end Go.Proofs.YtkpjdmmgdmbmnaaDoor.A5
