/-
  The laws' own measure, copy and comparing of a log.
-/
import Derived.Test.YtkpjdmmgdmbmnaaDoorAA
namespace Go.Proofs.YtkpjdmmgdmbmnaaDoor.AB
open Go.RowKit
open Go.Proofs.YtkpjdmmgdmbmnaaDoor.C0 Go.Proofs.YtkpjdmmgdmbmnaaDoor.HB
open Go.Proofs.YtkpjdmmgdmbmnaaDoor.A0 Go.Proofs.YtkpjdmmgdmbmnaaDoor.A1 Go.Proofs.YtkpjdmmgdmbmnaaDoor.A4 Go.Proofs.YtkpjdmmgdmbmnaaDoor.A7 Go.Proofs.YtkpjdmmgdmbmnaaDoor.A9 Go.Proofs.YtkpjdmmgdmbmnaaDoor.AA
open Go.Proofs.YtkpjdmmgdmbmnaaDoor.A8 (okS OStrs szStrs_any toStrs_any eqStrs_any)
theorem heap_set {w : World} {g i : Nat} {cs : Array Value} {T : TypeId} {v : Value} (h : w.heap[g]? = some (.cells cs T (0, 0))) (hi : i < cs.size) : (w.setCell ⟨g, i, none⟩ v).heap[g]? = some (.cells (cs.setIfInBounds i v) T (0, 0)) := by
  have h0 : w.rowIs g T cs.size (fun j => (cs[j]?).getD undef) := ⟨cs, h, rfl, fun j hj => by show cs[j]? = some ((cs[j]?).getD undef); rw [Array.getElem?_eq_getElem hj]; rfl⟩
  obtain ⟨c, hb, hn, hc⟩ := h0.set i v
  rw [hb]
  congr 2
  apply Array.ext_getElem?
  intro j
  by_cases hj : j < cs.size
  · rw [hc j hj]
    by_cases hij : j = i
    · subst hij; simp [hj]
    · rw [Array.getElem?_setIfInBounds]
      rw [if_neg (by omega)]
      simp [hij, hj]
  · rw [Array.getElem?_eq_none (by omega), Array.getElem?_eq_none (by simp; omega)]
/-- What a measure that has not run out says of a log. -/
def okA (ls : List Ln) (ks : List ByteArray) (left r : Int) : Prop := r < 0 ∨ (0 ≤ r ∧ r ≤ left ∧ (ls.length : Int) ≤ left ∧ (∀ x ∈ ls, (x.cards.length : Int) ≤ left) ∧ (ks.length : Int) ≤ left ∧ ∀ s ∈ ks, (s.size : Int) ≤ left)
set_option maxRecDepth 100000 in
set_option maxHeartbeats 800000 in
theorem szAudit_any (vl vk : Value) (ls : List Ln) (ks : List ByteArray) (left : Int) (w : World) (hv : LRow w vl ls) (hu : SRow w vk ks) (hx : ∀ x ∈ ls, LnW x) (hz : ∀ s ∈ ks, s.size ≤ maxLen) (h0 : 0 ≤ left) (h1 : left ≤ 1048576) :
    Calls Tryd.prog 25 #[.agg #[vl, vk], .int .i64 left] w fun e w' => ∃ r, e = .returned (.int .i64 r) ∧ okA ls ks left r ∧ Below w.heap.size w w' := by
  have k0 := heap_alloc_new w (.cells #[vl, vk] 48)
  have B0 : Hid (Below w.heap.size w (w.alloc (.cells #[vl, vk] 48))) := albel w _
  have HL : Hid (∀ W, Below w.heap.size w W → Calls Tryd.prog 63 #[vl, .int .i64 left] W fun e w' => ∃ r, e = .returned (.int .i64 r) ∧ okLs ls left r ∧ Below W.heap.size W w') := fun W hW => szLines_any vl ls left W (hv.below hW) hx h0 h1
  have HS : Hid (∀ r : Int, 0 ≤ r → r ≤ 1048576 → ∀ W, Below w.heap.size w W → Calls Tryd.prog 64 #[vk, .int .i64 r] W fun e w' => ∃ q, e = .returned (.int .i64 q) ∧ okS ks r q ∧ w' = W) := fun r q0 q1 W hW => szStrs_any vk ks r W (hu.below hW) hz q0 q1
  obtain ⟨a, cap, rfl, _, _⟩ := hv
  obtain ⟨a2, cap2, rfl, _, _⟩ := hu
  clear hx hz
  go_enter Tryd.func25, Tryd.ntmps25
  go_wp2_with fail
  refine (HL.out _ B0.out).mono ?_
  rintro e w1 ⟨r, rfl, hr, hb⟩
  have k1 := carry k0 hb
  have B1 : Hid (Below w.heap.size w w1) := bel2 B0.out hb
  have r0 := block_cell k1 0
  have r1 := block_cell k1 1
  clear hb k0 k1
  by_cases hn : r < 0
  · clear hr
    go_wp2
    go_ret
    exact ⟨_, rfl, .inl (by omega), B1.out⟩
  · have HR : Hid (0 ≤ r ∧ r ≤ left ∧ (ls.length : Int) ≤ left ∧ ∀ x ∈ ls, (x.cards.length : Int) ≤ left) := hr.resolve_left hn
    clear hr
    have hrr := HR.out
    have q0 := hrr.1
    have q1 := hrr.2.1
    clear hrr
    go_wp2_with fail
    refine (HS.out r (by omega) (by omega) _ B1.out).mono ?_
    rintro e w2 ⟨q, rfl, hq, rfl⟩
    by_cases hn2 : q < 0
    · clear hq
      go_wp2
      go_ret
      exact ⟨_, rfl, .inl (by omega), B1.out⟩
    · have HQ : Hid (okA ls ks left q) := by
        have h2 := hq.resolve_left hn2
        have h3 := HR.out
        exact .inr ⟨h2.1, by omega, h3.2.2.1, h3.2.2.2, by omega, fun s hs => by have := h2.2.2.2 s hs; omega⟩
      clear hq
      go_wp2
      go_ret
      exact ⟨_, rfl, HQ.out, B1.out⟩
set_option maxRecDepth 100000 in
set_option maxHeartbeats 800000 in
theorem eqAudit_same (vl vk ul uk : Value) (ls : List Ln) (ks : List ByteArray) (w : World) (hv : LRow w vl ls) (hu : SRow w vk ks) (hv2 : LRow w ul ls) (hu2 : SRow w uk ks) :
    Calls Tryd.prog 27 #[.agg #[vl, vk], .agg #[ul, uk]] w fun e w' => e = .returned (.bool true) ∧ Below w.heap.size w w' := by
  have HL : Hid (∀ W, Below w.heap.size w W → Calls Tryd.prog 67 #[vl, ul] W fun e w' => e = .returned (.bool true) ∧ Below W.heap.size W w') := fun W hW => eqLines_any vl ul ls W (hv.below hW) (hv2.below hW)
  have HS : Hid (∀ W, Below w.heap.size w W → Calls Tryd.prog 68 #[vk, uk] W fun e w' => e = .returned (.bool true) ∧ Below W.heap.size W w') := fun W hW => eqStrs_any vk uk ks W (hu.below hW) (hu2.below hW)
  obtain ⟨a, cap, rfl, _, _⟩ := hv
  obtain ⟨a2, cap2, rfl, _, _⟩ := hu
  obtain ⟨a3, cap3, rfl, _, _⟩ := hv2
  obtain ⟨a4, cap4, rfl, _, _⟩ := hu2
  have B0 : Hid (Below w.heap.size w ((w.alloc (.cells #[.slice a ls.length cap, .slice a2 ks.length cap2] 26)).alloc (.cells #[.slice a3 ls.length cap3, .slice a4 ks.length cap4] 26))) := ((Below.refl _ _).alloc (Nat.le_refl _) _).alloc (by simp) _
  have k0 := carryA (heap_alloc_new w (.cells #[.slice a ls.length cap, .slice a2 ks.length cap2] 26)) (.cells #[.slice a3 ls.length cap3, .slice a4 ks.length cap4] 26)
  have k2 := heap_alloc_new (w.alloc (.cells #[.slice a ls.length cap, .slice a2 ks.length cap2] 26)) (.cells #[.slice a3 ls.length cap3, .slice a4 ks.length cap4] 26)
  go_enter Tryd.func27, Tryd.ntmps27
  go_wp2_with fail
  refine (HL.out _ B0.out).mono ?_
  rintro e w1 ⟨rfl, hb⟩
  have k1 := carry k0 hb
  have k3 := carry k2 hb
  rw [asz] at k3
  have B1 : Hid (Below w.heap.size w w1) := bel2 B0.out hb
  have r1 := block_cell k1 1
  have r3 := block_cell k3 1
  clear hb k0 k1 k2 k3
  go_wp2_with fail
  refine (HS.out _ B1.out).mono ?_
  rintro e w2 ⟨rfl, hb⟩
  have B2 : Hid (Below w.heap.size w w2) := bel2 B1.out hb
  clear hb
  go_wp2
  go_ret
  exact ⟨rfl, B2.out⟩
theorem ostrs_set {B g j : Nat} {u : Value} {w : World} {v : Value} {l : List ByteArray} (h : OStrs B w v l) (hg : g < B) : OStrs B (w.setCell ⟨g, j, none⟩ u) v l :=
  A6.own_keep h fun b hb => heap_setCell_other _ _ _ _ (by have := (h.lt b hb).1; show b ≠ g; omega)
set_option maxRecDepth 100000 in
set_option maxHeartbeats 1600000 in
theorem toAudit_any (vl vk : Value) (ls : List Ln) (ks : List ByteArray) (w : World) (hv : LRow w vl ls) (hu : SRow w vk ks) (hz : ls.length ≤ 1048576) (hcz : ∀ x ∈ ls, x.cards.length ≤ 1048576) (hk : ks.length ≤ 1048576) :
    Calls Tryd.prog 26 #[.agg #[vl, vk]] w fun e w' => ∃ ul uk, e = .returned (.agg #[ul, uk]) ∧ OLRow w.heap.size w' ul ls ∧ OStrs w.heap.size w' uk ks ∧ Below w.heap.size w w' := by
  have HL : Hid (∀ W, Below w.heap.size w W → Calls Tryd.prog 65 #[vl] W fun e w' => ∃ a cap, e = .returned (.slice a ls.length cap) ∧ OLRow W.heap.size w' (.slice a ls.length cap) ls ∧ Below W.heap.size W w') := fun W hW => toLines_any vl ls W (hv.below hW) hz hcz
  have HS : Hid (∀ W, Below w.heap.size w W → Calls Tryd.prog 66 #[vk] W fun e w' => ∃ a cap, e = .returned (.slice a ks.length cap) ∧ OStrs W.heap.size w' (.slice a ks.length cap) ks ∧ Below W.heap.size W w') := fun W hW => toStrs_any vk ks W (hu.below hW) hk
  obtain ⟨a, cap, rfl, _, _⟩ := hv
  obtain ⟨a2, cap2, rfl, _, _⟩ := hu
  clear hz hcz hk
  have p0 := carryA (carryA (heap_alloc_new w (.cells #[.slice a ls.length cap, .slice a2 ks.length cap2] 48)) (.cells #[.slice none 0 0, .slice none 0 0] 26)) (.cells #[.slice none 0 0, .slice none 0 0] 26)
  have r0 := carryA (heap_alloc_new (w.alloc (.cells #[.slice a ls.length cap, .slice a2 ks.length cap2] 48)) (.cells #[.slice none 0 0, .slice none 0 0] 26)) (.cells #[.slice none 0 0, .slice none 0 0] 26)
  have o0 := heap_alloc_new ((w.alloc (.cells #[.slice a ls.length cap, .slice a2 ks.length cap2] 48)).alloc (.cells #[.slice none 0 0, .slice none 0 0] 26)) (.cells #[.slice none 0 0, .slice none 0 0] 26)
  have B0 : Below w.heap.size w (((w.alloc (.cells #[.slice a ls.length cap, .slice a2 ks.length cap2] 48)).alloc (.cells #[.slice none 0 0, .slice none 0 0] 26)).alloc (.cells #[.slice none 0 0, .slice none 0 0] 26)) := ((albel w _).alloc (by simp) _).alloc (by simp; omega) _
  have hsz : (((w.alloc (.cells #[.slice a ls.length cap, .slice a2 ks.length cap2] 48)).alloc (.cells #[.slice none 0 0, .slice none 0 0] 26)).alloc (.cells #[.slice none 0 0, .slice none 0 0] 26)).heap.size = w.heap.size + 1 + 1 + 1 := by simp
  simp only [asz] at r0 o0
  go_enter Tryd.func26, Tryd.ntmps26
  go_upto_region 2 with fail
  generalize ((w.alloc (.cells #[.slice a ls.length cap, .slice a2 ks.length cap2] 48)).alloc (.cells #[.slice none 0 0, .slice none 0 0] 26)).alloc (.cells #[.slice none 0 0, .slice none 0 0] 26) = W3 at *
  have p0c := block_cell p0 0
  go_wp2_with fail
  refine (HL.out _ B0).mono ?_
  rintro e w4 ⟨a3, cap3, rfl, ho, hb⟩
  have p4 := carry p0 hb
  have r4 := carry r0 hb
  have o4 := carry o0 hb
  have B4 := bel2 B0 hb
  rw [hsz] at ho
  have p4c := block_cell p4 1
  have o4c := block_cell o4 0
  have o4f : w4.frozen? ⟨w.heap.size + 1 + 1, 0, none⟩ = false := by simp [World.frozen?, o4]
  clear hb p0 r0 o0 p0c B0 hsz
  have p5 : (w4.setCell ⟨w.heap.size + 1 + 1, 0, none⟩ (.slice a3 ls.length cap3)).heap[w.heap.size]? = _ := (heap_setCell_other _ _ _ _ (by show w.heap.size ≠ w.heap.size + 1 + 1; omega)).trans p4
  have r5 : (w4.setCell ⟨w.heap.size + 1 + 1, 0, none⟩ (.slice a3 ls.length cap3)).heap[w.heap.size + 1]? = _ := (heap_setCell_other _ _ _ _ (by show w.heap.size + 1 ≠ w.heap.size + 1 + 1; omega)).trans r4
  have o5 : (w4.setCell ⟨w.heap.size + 1 + 1, 0, none⟩ (.slice a3 ls.length cap3)).heap[w.heap.size + 1 + 1]? = some (.cells #[.slice a3 ls.length cap3, .slice none 0 0] 26 (0, 0)) := heap_set o4 (by simp)
  have ho5 : OLRow (w.heap.size + 1 + 1 + 1) (w4.setCell ⟨w.heap.size + 1 + 1, 0, none⟩ (.slice a3 ls.length cap3)) (.slice a3 ls.length cap3) ls := ho.set (Nat.lt_succ_self _)
  have B5 : Below w.heap.size w (w4.setCell ⟨w.heap.size + 1 + 1, 0, none⟩ (.slice a3 ls.length cap3)) := B4.setCell (by show w.heap.size ≤ w.heap.size + 1 + 1; omega) _
  have s5 : w.heap.size + 1 + 1 < (w4.setCell ⟨w.heap.size + 1 + 1, 0, none⟩ (.slice a3 ls.length cap3)).heap.size := lt_some o5
  have H5 : Hid _ := ho5
  clear ho ho5 B4 p4 r4 o4
  go_upto_region 3 with fail
  generalize w4.setCell ⟨w.heap.size + 1 + 1, 0, none⟩ (.slice a3 ls.length cap3) = w5 at *
  have p5c := block_cell p5 1
  clear o4c o4f p4c
  go_wp2_with fail
  refine (HS.out _ B5).mono ?_
  rintro e w6 ⟨a4, cap4, rfl, hq, hb⟩
  have r6 := carry r5 hb
  have o6 := carry o5 hb
  have B6 := bel2 B5 hb
  have h5 : OLRow (w.heap.size + 1 + 1 + 1) w5 (.slice a3 ls.length cap3) ls := H5.out
  have h6 := h5.below hb
  have hq6 : OStrs (w.heap.size + 1 + 1 + 1) w6 (.slice a4 ks.length cap4) ks := own_mono hq (by omega)
  have o6c := block_cell o6 1
  have o6d := block_cell o6 0
  have o6f : ∀ o, w6.frozen? ⟨w.heap.size + 1 + 1, o, none⟩ = false := fun o => by simp [World.frozen?, o6]
  have r6c := block_cell r6 0
  have r6d := block_cell r6 1
  have r6f : ∀ o, w6.frozen? ⟨w.heap.size + 1, o, none⟩ = false := fun o => by simp [World.frozen?, r6]
  have H6 : Hid _ := h6
  have Q6 : Hid _ := hq6
  have C6 : Hid _ := B6
  clear hb hq hq6 h5 h6 p5 r5 o5 r6 o6 B5 B6 H5 s5 p5c
  go_wp2
  refine bodyPost_ret (v := .agg #[.slice a3 ls.length cap3, .slice a4 ks.length cap4]) (by simp [results, Tryd.results26, go_sem, r6c, r6d]) rfl ⟨_, _, rfl, ?_, ?_, ?_⟩
  · have h6 : OLRow (w.heap.size + 1 + 1 + 1) w6 (.slice a3 ls.length cap3) ls := H6.out
    exact (((h6.set (by omega)).set (by omega)).set (by omega)).mono (by omega)
  · exact own_mono (ostrs_set (ostrs_set (ostrs_set Q6.out (by omega)) (by omega)) (by omega)) (by omega)
  · have c6 : Below w.heap.size w w6 := C6.out
    exact ((c6.setCell (by show w.heap.size ≤ w.heap.size + 1 + 1; omega) _).setCell (by show w.heap.size ≤ w.heap.size + 1; omega) _).setCell (by show w.heap.size ≤ w.heap.size + 1; omega) _
end Go.Proofs.YtkpjdmmgdmbmnaaDoor.AB
