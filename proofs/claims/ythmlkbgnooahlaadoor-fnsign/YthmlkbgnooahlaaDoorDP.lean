/-
  The draw of a power's three numbers.
-/
import Derived.Test.YthmlkbgnooahlaaDoorDS
import Derived.Test.YthmlkbgnooahlaaDoorRI
import Derived.Deep.Cut
namespace Go.Proofs.YthmlkbgnooahlaaDoor.DP
open Go.RowKit
open Go.Proofs.YthmlkbgnooahlaaDoor.C0 Go.Proofs.YthmlkbgnooahlaaDoor.D0 Go.Proofs.YthmlkbgnooahlaaDoor.HB Go.Proofs.YthmlkbgnooahlaaDoor.DS Go.Proofs.YthmlkbgnooahlaaDoor.RI

/-- A number of a literal. -/
def small (z : Int) : Prop := -1 ≤ z ∧ z ≤ 1000000001
/-- A literal of so many numbers, in a block behind p. -/
def Lit (p c : Nat) (v : Value) (w : World) : Prop := ∃ g, v = .slice (some ⟨g, 0, none⟩) c c ∧ p < g ∧ g < w.heap.size ∧ ∀ j, j < c → ∃ z, w.cell? ⟨g, j, none⟩ = some (.int .i64 z) ∧ small z
def Idx (c : Nat) (v : Value) : Prop := ∃ r : Nat, v = .int .i64 r ∧ r < c
def Adr (p : Nat) (v : Value) (w : World) : Prop := ∃ g j, v = .pointer (some ⟨g, j, none⟩) ∧ p < g ∧ g < w.heap.size ∧ ∃ z, w.cell? ⟨g, j, none⟩ = some (.int .i64 z) ∧ small z
def Num (v : Value) : Prop := ∃ z, v = .int .i64 z ∧ small z
theorem cell_grown {w w' : World} {p g j : Nat} (h : w.grownBy w' (some p)) (hp : p < g) (hg : g < w.heap.size) : w'.cell? ⟨g, j, none⟩ = w.cell? ⟨g, j, none⟩ :=
  World.cell?_of_block (h.block g hg (by simp; omega))
theorem Lit.grown {w w' : World} {p c : Nat} {v : Value} (h : Lit p c v w) (hg : w.grownBy w' (some p)) : Lit p c v w' := by
  obtain ⟨g, e, h1, h2, h3⟩ := h
  refine ⟨g, e, h1, Nat.lt_of_lt_of_le h2 hg.size, fun j hj => ?_⟩
  obtain ⟨z, hz, hs⟩ := h3 j hj
  exact ⟨z, (cell_grown hg h1 h2).trans hz, hs⟩
theorem Adr.grown {w w' : World} {p : Nat} {v : Value} (h : Adr p v w) (hg : w.grownBy w' (some p)) : Adr p v w' := by
  obtain ⟨g, j, e, h1, h2, z, hz, hs⟩ := h
  exact ⟨g, j, e, h1, Nat.lt_of_lt_of_le h2 hg.size, z, (cell_grown hg h1 h2).trans hz, hs⟩

theorem lit_new {x : World} {p : Nat} (hp : p < x.heap.size) (zs : List Int) (c : Nat) (hc : zs.length = c) (hs : zs.all (fun z => decide (-1 ≤ z ∧ z ≤ 1000000001)) = true) :
    Lit p c (.slice (some ⟨x.heap.size, 0, none⟩) c c) (x.alloc (.cells (zs.map (Value.int .i64)).toArray 2)) := by
  subst hc
  refine ⟨x.heap.size, rfl, hp, by rw [asz]; omega, fun j hj => ?_⟩
  obtain ⟨z, hz, h1, h2⟩ := lit_get zs (-1) 1000000001 hs j hj
  exact ⟨z, (block_cell (heap_alloc_new x _) j).trans hz, h1, h2⟩
/-- What each operation of the region leaves. -/
def good (p : Nat) (k : Nat) (v : Value) (w : World) : Prop :=
  match k with
  | 0 => Lit p 3 v w
  | 1 => v = .pointer (some ⟨p, 0, none⟩)
  | 2 => Idx 3 v
  | 3 => Adr p v w
  | 4 => Num v
  | 5 => Lit p 4 v w
  | 6 => v = .pointer (some ⟨p, 0, none⟩)
  | 7 => Idx 4 v
  | 8 => Adr p v w
  | 9 => Num v
  | 10 => Lit p 4 v w
  | 11 => v = .pointer (some ⟨p, 0, none⟩)
  | 12 => Idx 4 v
  | 13 => Adr p v w
  | _ => Num v
def slotOf (k : Nat) : Nat := if k < 15 then k + 10 else k - 13
theorem good_grown {p : Nat} {w w' : World} (hg : w.grownBy w' (some p)) (k : Nat) (v : Value) (h : good p k v w) : good p k v w' := by
  unfold good at h ⊢
  split at h <;> first | exact h.grown hg | exact h

set_option maxRecDepth 100000 in
set_option maxHeartbeats 1600000 in
theorem pow_draw (v : Value) (n : Nat) (w : World) (hc : IsCode w.heap.size w v n) :
    Calls Tryd.prog 6 #[v] w fun e w' => ∃ a b c : Int, e = .returned (.tuple #[.int .i64 a, .int .i64 b, .int .i64 c]) ∧ small a ∧ small b ∧ small c ∧ Below w.heap.size w w' := by
  go_enter Tryd.func6, Tryd.ntmps6
  go_wp2_with fail
  refine (drawSource v n _ hc).mono ?_
  rintro e w1 ⟨rfl, d1, b1⟩
  have z0 := b1.size
  go_wp2_with fail
  refine (drawOne 8 d1 (by omega) (by omega)).mono ?_
  rintro e w2 ⟨b, rfl, d2, g2⟩
  cases b with
  | true =>
    go_upto_region 3 with fail
    refine wp_region_inv (J := Reg 32 18 slotOf [(0, v), (5, .pointer (some ⟨w.heap.size, 0, none⟩))] (good w.heap.size) (fun x => Dr w.heap.size w.heap.size n v x ∧ w1.grownBy x (some w.heap.size))) (by kernel_rfl) ?h0 ?hs ?hd
    case h0 =>
      refine ⟨by simp, rfl, rfl, ?_, fun k hk hl => ?_, d2.drew, grown_drew g2⟩
      · intro x hx
        simp only [List.mem_cons, List.not_mem_nil, or_false] at hx
        rcases hx with rfl | rfl <;> rfl
      · have : (Array.replicate 18 false).getD k true = false := by simp [hk]
        exact absurd hl (by show ¬ (Array.replicate 18 false).getD k true = true; rw [this]; decide)
    -- STEPS
    case hd =>
      intro l a x h hr
      have hall := all_listed h.size (by kernel_rfl) hr
      have q2 : Num (a.tmps.getD 2 undef) := h.goods 15 (by decide) (hall 15 (by decide))
      have q3 : Num (a.tmps.getD 3 undef) := h.goods 16 (by decide) (hall 16 (by decide))
      have q4 : Num (a.tmps.getD 4 undef) := h.goods 17 (by decide) (hall 17 (by decide))
      obtain ⟨hdr, hgr⟩ := h.inv
      obtain ⟨⟨ls0⟩, ds⟩ := a
      have hl0 : ls0.length = 32 := h.tmps
      obtain rfl : ds = [] := h.defs
      obtain ⟨x0, ls1, rfl, hl1⟩ := cons_of hl0
      clear hl0
      obtain ⟨x1, ls2, rfl, hl2⟩ := cons_of hl1
      clear hl1
      obtain ⟨x2, ls3, rfl, hl3⟩ := cons_of hl2
      clear hl2
      obtain ⟨x3, ls4, rfl, hl4⟩ := cons_of hl3
      clear hl3
      obtain ⟨x4, ls5, rfl, hl5⟩ := cons_of hl4
      clear hl4
      obtain ⟨x5, ls6, rfl, hl6⟩ := cons_of hl5
      clear hl5
      obtain ⟨x6, ls7, rfl, hl7⟩ := cons_of hl6
      clear hl6
      obtain ⟨x7, ls8, rfl, hl8⟩ := cons_of hl7
      clear hl7
      obtain ⟨x8, ls9, rfl, hl9⟩ := cons_of hl8
      clear hl8
      obtain ⟨x9, ls10, rfl, hl10⟩ := cons_of hl9
      clear hl9
      obtain ⟨x10, ls11, rfl, hl11⟩ := cons_of hl10
      clear hl10
      obtain ⟨x11, ls12, rfl, hl12⟩ := cons_of hl11
      clear hl11
      obtain ⟨x12, ls13, rfl, hl13⟩ := cons_of hl12
      clear hl12
      obtain ⟨x13, ls14, rfl, hl14⟩ := cons_of hl13
      clear hl13
      obtain ⟨x14, ls15, rfl, hl15⟩ := cons_of hl14
      clear hl14
      obtain ⟨x15, ls16, rfl, hl16⟩ := cons_of hl15
      clear hl15
      obtain ⟨x16, ls17, rfl, hl17⟩ := cons_of hl16
      clear hl16
      obtain ⟨x17, ls18, rfl, hl18⟩ := cons_of hl17
      clear hl17
      obtain ⟨x18, ls19, rfl, hl19⟩ := cons_of hl18
      clear hl18
      obtain ⟨x19, ls20, rfl, hl20⟩ := cons_of hl19
      clear hl19
      obtain ⟨x20, ls21, rfl, hl21⟩ := cons_of hl20
      clear hl20
      obtain ⟨x21, ls22, rfl, hl22⟩ := cons_of hl21
      clear hl21
      obtain ⟨x22, ls23, rfl, hl23⟩ := cons_of hl22
      clear hl22
      obtain ⟨x23, ls24, rfl, hl24⟩ := cons_of hl23
      clear hl23
      obtain ⟨x24, ls25, rfl, hl25⟩ := cons_of hl24
      clear hl24
      obtain ⟨x25, ls26, rfl, hl26⟩ := cons_of hl25
      clear hl25
      obtain ⟨x26, ls27, rfl, hl27⟩ := cons_of hl26
      clear hl26
      obtain ⟨x27, ls28, rfl, hl28⟩ := cons_of hl27
      clear hl27
      obtain ⟨x28, ls29, rfl, hl29⟩ := cons_of hl28
      clear hl28
      obtain ⟨x29, ls30, rfl, hl30⟩ := cons_of hl29
      clear hl29
      obtain ⟨x30, ls31, rfl, hl31⟩ := cons_of hl30
      clear hl30
      obtain ⟨x31, ls32, rfl, hl32⟩ := cons_of hl31
      clear hl31
      obtain rfl := List.eq_nil_of_length_eq_zero hl32
      clear hl32
      obtain ⟨a2, rfl, s2⟩ : Num x2 := q2
      obtain ⟨a3, rfl, s3⟩ : Num x3 := q3
      obtain ⟨a4, rfl, s4⟩ : Num x4 := q4
      clear hall hr h
      have HF : Hid (Below w.heap.size w x) := b1.trans (grown_below hgr (Nat.le_refl _) z0)
      clear hgr hdr
      go_wp2
      go_ret3
      exact ⟨a2, a3, a4, rfl, s2, s3, s4, HF.out⟩
    case hs =>
      intro l a x i h hi
      obtain ⟨hun, o, ho, hdep⟩ := mem_ready.1 hi
      have hin : i < 18 := (Array.getElem?_eq_some_iff.1 ho).1
      obtain ⟨hdr, hgr⟩ := h.inv
      obtain ⟨⟨ls0⟩, ds⟩ := a
      have hl0 : ls0.length = 32 := h.tmps
      obtain rfl : ds = [] := h.defs
      obtain ⟨x0, ls1, rfl, hl1⟩ := cons_of hl0
      clear hl0
      obtain ⟨x1, ls2, rfl, hl2⟩ := cons_of hl1
      clear hl1
      obtain ⟨x2, ls3, rfl, hl3⟩ := cons_of hl2
      clear hl2
      obtain ⟨x3, ls4, rfl, hl4⟩ := cons_of hl3
      clear hl3
      obtain ⟨x4, ls5, rfl, hl5⟩ := cons_of hl4
      clear hl4
      obtain ⟨x5, ls6, rfl, hl6⟩ := cons_of hl5
      clear hl5
      obtain ⟨x6, ls7, rfl, hl7⟩ := cons_of hl6
      clear hl6
      obtain ⟨x7, ls8, rfl, hl8⟩ := cons_of hl7
      clear hl7
      obtain ⟨x8, ls9, rfl, hl9⟩ := cons_of hl8
      clear hl8
      obtain ⟨x9, ls10, rfl, hl10⟩ := cons_of hl9
      clear hl9
      obtain ⟨x10, ls11, rfl, hl11⟩ := cons_of hl10
      clear hl10
      obtain ⟨x11, ls12, rfl, hl12⟩ := cons_of hl11
      clear hl11
      obtain ⟨x12, ls13, rfl, hl13⟩ := cons_of hl12
      clear hl12
      obtain ⟨x13, ls14, rfl, hl14⟩ := cons_of hl13
      clear hl13
      obtain ⟨x14, ls15, rfl, hl15⟩ := cons_of hl14
      clear hl14
      obtain ⟨x15, ls16, rfl, hl16⟩ := cons_of hl15
      clear hl15
      obtain ⟨x16, ls17, rfl, hl17⟩ := cons_of hl16
      clear hl16
      obtain ⟨x17, ls18, rfl, hl18⟩ := cons_of hl17
      clear hl17
      obtain ⟨x18, ls19, rfl, hl19⟩ := cons_of hl18
      clear hl18
      obtain ⟨x19, ls20, rfl, hl20⟩ := cons_of hl19
      clear hl19
      obtain ⟨x20, ls21, rfl, hl21⟩ := cons_of hl20
      clear hl20
      obtain ⟨x21, ls22, rfl, hl22⟩ := cons_of hl21
      clear hl21
      obtain ⟨x22, ls23, rfl, hl23⟩ := cons_of hl22
      clear hl22
      obtain ⟨x23, ls24, rfl, hl24⟩ := cons_of hl23
      clear hl23
      obtain ⟨x24, ls25, rfl, hl25⟩ := cons_of hl24
      clear hl24
      obtain ⟨x25, ls26, rfl, hl26⟩ := cons_of hl25
      clear hl25
      obtain ⟨x26, ls27, rfl, hl27⟩ := cons_of hl26
      clear hl26
      obtain ⟨x27, ls28, rfl, hl28⟩ := cons_of hl27
      clear hl27
      obtain ⟨x28, ls29, rfl, hl29⟩ := cons_of hl28
      clear hl28
      obtain ⟨x29, ls30, rfl, hl30⟩ := cons_of hl29
      clear hl29
      obtain ⟨x30, ls31, rfl, hl31⟩ := cons_of hl30
      clear hl30
      obtain ⟨x31, ls32, rfl, hl32⟩ := cons_of hl31
      clear hl31
      obtain rfl := List.eq_nil_of_length_eq_zero hl32
      clear hl32
      obtain rfl : x5 = .pointer (some ⟨w.heap.size, 0, none⟩) := h.olds (5, _) (List.mem_cons_of_mem _ (List.mem_cons_self ..))
      have hcase : i = 0 ∨ i = 1 ∨ i = 2 ∨ i = 3 ∨ i = 4 ∨ i = 5 ∨ i = 6 ∨ i = 7 ∨ i = 8 ∨ i = 9 ∨ i = 10 ∨ i = 11 ∨ i = 12 ∨ i = 13 ∨ i = 14 ∨ i = 15 ∨ i = 16 ∨ i = 17 := by omega
      rcases hcase with rfl | rfl | rfl | rfl | rfl | rfl | rfl | rfl | rfl | rfl | rfl | rfl | rfl | rfl | rfl | rfl | rfl | rfl
      · have hnew : Lit w.heap.size 3 (.slice (some ⟨x.heap.size, 0, none⟩) 3 3) (x.alloc (.cells #[.int .i64 (-1), .int .i64 1000000, .int .i64 1000001] 2)) := lit_new hdr.lt [-1, 1000000, 1000001] 3 rfl (by decide)
        refine wpOp_one rfl (fun K hK => ?_)
        clear hi ho hdep hun
        go_simp
        have T := h.put 0 (.slice (some ⟨x.heap.size, 0, none⟩) 3 3) (by decide) (by decide) rfl (by decide) (fun k q _ hq => good_grown (World.grownBy_alloc x _ _) k q hq) (hnew) ⟨hdr.alloc _, grown_trans hgr (World.grownBy_alloc x _ _)⟩
        exact hK.out _ _ T
      · refine wpOp_one rfl (fun K hK => ?_)
        clear hi ho hdep hun
        go_simp
        have T := h.put 1 (.pointer (some ⟨w.heap.size, 0, none⟩)) (by decide) (by decide) rfl (by decide) (fun k q _ hq => good_grown (grown_refl x _) k q hq) (rfl) ⟨hdr, grown_trans hgr (grown_refl x _)⟩
        exact hK.out _ _ T
      · obtain rfl := Option.some.inj ho
        have t1 := listed_of (hdep ⟨1, .data⟩ (by simp) rfl)
        obtain rfl : x11 = .pointer (some ⟨w.heap.size, 0, none⟩) := h.goods 1 (by decide) t1
        refine wpOp_one rfl (fun K hK => ?_)
        clear hi ho hdep hun
        go_simp
        go_at_call 27
        refine (drawN 3 hdr (by omega) (by omega)).mono ?_
        rintro e y ⟨r, rfl, hr, dy, gy⟩
        try (go_wp2_with fail)
        have T := h.put 2 (.int .i64 r) (by decide) (by decide) rfl (by decide) (fun k q _ hq => good_grown gy k q hq) (⟨r, rfl, by omega⟩) ⟨dy, grown_trans hgr gy⟩
        exact hK.out _ _ T
      · obtain rfl := Option.some.inj ho
        have t0 := listed_of (hdep ⟨0, .data⟩ (by simp) rfl)
        have t2 := listed_of (hdep ⟨2, .data⟩ (by simp) rfl)
        obtain ⟨g, rfl, l1, l2, l3⟩ : Lit w.heap.size 3 x10 x := h.goods 0 (by decide) t0
        obtain ⟨r, rfl, hr⟩ : Idx 3 x12 := h.goods 2 (by decide) t2
        have hri : (r : Int) < 3 := by omega
        refine wpOp_one rfl (fun K hK => ?_)
        clear hi ho hdep hun
        go_simp
        have T := h.put 3 (.pointer (some ⟨g, r, none⟩)) (by decide) (by decide) rfl (by decide) (fun k q _ hq => good_grown (grown_refl x _) k q hq) (⟨g, r, rfl, l1, l2, l3 r hr⟩) ⟨hdr, grown_trans hgr (grown_refl x _)⟩
        exact hK.out _ _ T
      · obtain rfl := Option.some.inj ho
        have t3 := listed_of (hdep ⟨3, .data⟩ (by simp) rfl)
        obtain ⟨g, j, rfl, l1, l2, q, hq, hs⟩ : Adr w.heap.size x13 x := h.goods 3 (by decide) t3
        refine wpOp_one rfl (fun K hK => ?_)
        clear hi ho hdep hun
        go_simp
        have T := h.put 4 (.int .i64 q) (by decide) (by decide) rfl (by decide) (fun k q _ hq => good_grown (grown_refl x _) k q hq) (⟨q, rfl, hs⟩) ⟨hdr, grown_trans hgr (grown_refl x _)⟩
        exact hK.out _ _ T
      · have hnew : Lit w.heap.size 4 (.slice (some ⟨x.heap.size, 0, none⟩) 4 4) (x.alloc (.cells #[.int .i64 (-1), .int .i64 0, .int .i64 1000000000, .int .i64 1000000001] 2)) := lit_new hdr.lt [-1, 0, 1000000000, 1000000001] 4 rfl (by decide)
        refine wpOp_one rfl (fun K hK => ?_)
        clear hi ho hdep hun
        go_simp
        have T := h.put 5 (.slice (some ⟨x.heap.size, 0, none⟩) 4 4) (by decide) (by decide) rfl (by decide) (fun k q _ hq => good_grown (World.grownBy_alloc x _ _) k q hq) (hnew) ⟨hdr.alloc _, grown_trans hgr (World.grownBy_alloc x _ _)⟩
        exact hK.out _ _ T
      · refine wpOp_one rfl (fun K hK => ?_)
        clear hi ho hdep hun
        go_simp
        have T := h.put 6 (.pointer (some ⟨w.heap.size, 0, none⟩)) (by decide) (by decide) rfl (by decide) (fun k q _ hq => good_grown (grown_refl x _) k q hq) (rfl) ⟨hdr, grown_trans hgr (grown_refl x _)⟩
        exact hK.out _ _ T
      · obtain rfl := Option.some.inj ho
        have t6 := listed_of (hdep ⟨6, .data⟩ (by simp) rfl)
        obtain rfl : x16 = .pointer (some ⟨w.heap.size, 0, none⟩) := h.goods 6 (by decide) t6
        refine wpOp_one rfl (fun K hK => ?_)
        clear hi ho hdep hun
        go_simp
        go_at_call 27
        refine (drawN 4 hdr (by omega) (by omega)).mono ?_
        rintro e y ⟨r, rfl, hr, dy, gy⟩
        try (go_wp2_with fail)
        have T := h.put 7 (.int .i64 r) (by decide) (by decide) rfl (by decide) (fun k q _ hq => good_grown gy k q hq) (⟨r, rfl, by omega⟩) ⟨dy, grown_trans hgr gy⟩
        exact hK.out _ _ T
      · obtain rfl := Option.some.inj ho
        have t5 := listed_of (hdep ⟨5, .data⟩ (by simp) rfl)
        have t7 := listed_of (hdep ⟨7, .data⟩ (by simp) rfl)
        obtain ⟨g, rfl, l1, l2, l3⟩ : Lit w.heap.size 4 x15 x := h.goods 5 (by decide) t5
        obtain ⟨r, rfl, hr⟩ : Idx 4 x17 := h.goods 7 (by decide) t7
        have hri : (r : Int) < 4 := by omega
        refine wpOp_one rfl (fun K hK => ?_)
        clear hi ho hdep hun
        go_simp
        have T := h.put 8 (.pointer (some ⟨g, r, none⟩)) (by decide) (by decide) rfl (by decide) (fun k q _ hq => good_grown (grown_refl x _) k q hq) (⟨g, r, rfl, l1, l2, l3 r hr⟩) ⟨hdr, grown_trans hgr (grown_refl x _)⟩
        exact hK.out _ _ T
      · obtain rfl := Option.some.inj ho
        have t8 := listed_of (hdep ⟨8, .data⟩ (by simp) rfl)
        obtain ⟨g, j, rfl, l1, l2, q, hq, hs⟩ : Adr w.heap.size x18 x := h.goods 8 (by decide) t8
        refine wpOp_one rfl (fun K hK => ?_)
        clear hi ho hdep hun
        go_simp
        have T := h.put 9 (.int .i64 q) (by decide) (by decide) rfl (by decide) (fun k q _ hq => good_grown (grown_refl x _) k q hq) (⟨q, rfl, hs⟩) ⟨hdr, grown_trans hgr (grown_refl x _)⟩
        exact hK.out _ _ T
      · have hnew : Lit w.heap.size 4 (.slice (some ⟨x.heap.size, 0, none⟩) 4 4) (x.alloc (.cells #[.int .i64 0, .int .i64 1, .int .i64 1000000, .int .i64 1000001] 2)) := lit_new hdr.lt [0, 1, 1000000, 1000001] 4 rfl (by decide)
        refine wpOp_one rfl (fun K hK => ?_)
        clear hi ho hdep hun
        go_simp
        have T := h.put 10 (.slice (some ⟨x.heap.size, 0, none⟩) 4 4) (by decide) (by decide) rfl (by decide) (fun k q _ hq => good_grown (World.grownBy_alloc x _ _) k q hq) (hnew) ⟨hdr.alloc _, grown_trans hgr (World.grownBy_alloc x _ _)⟩
        exact hK.out _ _ T
      · refine wpOp_one rfl (fun K hK => ?_)
        clear hi ho hdep hun
        go_simp
        have T := h.put 11 (.pointer (some ⟨w.heap.size, 0, none⟩)) (by decide) (by decide) rfl (by decide) (fun k q _ hq => good_grown (grown_refl x _) k q hq) (rfl) ⟨hdr, grown_trans hgr (grown_refl x _)⟩
        exact hK.out _ _ T
      · obtain rfl := Option.some.inj ho
        have t11 := listed_of (hdep ⟨11, .data⟩ (by simp) rfl)
        obtain rfl : x21 = .pointer (some ⟨w.heap.size, 0, none⟩) := h.goods 11 (by decide) t11
        refine wpOp_one rfl (fun K hK => ?_)
        clear hi ho hdep hun
        go_simp
        go_at_call 27
        refine (drawN 4 hdr (by omega) (by omega)).mono ?_
        rintro e y ⟨r, rfl, hr, dy, gy⟩
        try (go_wp2_with fail)
        have T := h.put 12 (.int .i64 r) (by decide) (by decide) rfl (by decide) (fun k q _ hq => good_grown gy k q hq) (⟨r, rfl, by omega⟩) ⟨dy, grown_trans hgr gy⟩
        exact hK.out _ _ T
      · obtain rfl := Option.some.inj ho
        have t10 := listed_of (hdep ⟨10, .data⟩ (by simp) rfl)
        have t12 := listed_of (hdep ⟨12, .data⟩ (by simp) rfl)
        obtain ⟨g, rfl, l1, l2, l3⟩ : Lit w.heap.size 4 x20 x := h.goods 10 (by decide) t10
        obtain ⟨r, rfl, hr⟩ : Idx 4 x22 := h.goods 12 (by decide) t12
        have hri : (r : Int) < 4 := by omega
        refine wpOp_one rfl (fun K hK => ?_)
        clear hi ho hdep hun
        go_simp
        have T := h.put 13 (.pointer (some ⟨g, r, none⟩)) (by decide) (by decide) rfl (by decide) (fun k q _ hq => good_grown (grown_refl x _) k q hq) (⟨g, r, rfl, l1, l2, l3 r hr⟩) ⟨hdr, grown_trans hgr (grown_refl x _)⟩
        exact hK.out _ _ T
      · obtain rfl := Option.some.inj ho
        have t13 := listed_of (hdep ⟨13, .data⟩ (by simp) rfl)
        obtain ⟨g, j, rfl, l1, l2, q, hq, hs⟩ : Adr w.heap.size x23 x := h.goods 13 (by decide) t13
        refine wpOp_one rfl (fun K hK => ?_)
        clear hi ho hdep hun
        go_simp
        have T := h.put 14 (.int .i64 q) (by decide) (by decide) rfl (by decide) (fun k q _ hq => good_grown (grown_refl x _) k q hq) (⟨q, rfl, hs⟩) ⟨hdr, grown_trans hgr (grown_refl x _)⟩
        exact hK.out _ _ T
      · obtain rfl := Option.some.inj ho
        have t4 := listed_of (hdep ⟨4, .data⟩ (by simp) rfl)
        obtain ⟨q, rfl, hs⟩ : Num x14 := h.goods 4 (by decide) t4
        refine wpOp_one rfl (fun K hK => ?_)
        clear hi ho hdep hun
        go_simp
        have T := h.put 15 (.int .i64 q) (by decide) (by decide) rfl (by decide) (fun k q _ hq => good_grown (grown_refl x _) k q hq) (⟨q, rfl, hs⟩) ⟨hdr, grown_trans hgr (grown_refl x _)⟩
        exact hK.out _ _ T
      · obtain rfl := Option.some.inj ho
        have t9 := listed_of (hdep ⟨9, .data⟩ (by simp) rfl)
        obtain ⟨q, rfl, hs⟩ : Num x19 := h.goods 9 (by decide) t9
        refine wpOp_one rfl (fun K hK => ?_)
        clear hi ho hdep hun
        go_simp
        have T := h.put 16 (.int .i64 q) (by decide) (by decide) rfl (by decide) (fun k q _ hq => good_grown (grown_refl x _) k q hq) (⟨q, rfl, hs⟩) ⟨hdr, grown_trans hgr (grown_refl x _)⟩
        exact hK.out _ _ T
      · obtain rfl := Option.some.inj ho
        have t14 := listed_of (hdep ⟨14, .data⟩ (by simp) rfl)
        obtain ⟨q, rfl, hs⟩ : Num x24 := h.goods 14 (by decide) t14
        refine wpOp_one rfl (fun K hK => ?_)
        clear hi ho hdep hun
        go_simp
        have T := h.put 17 (.int .i64 q) (by decide) (by decide) rfl (by decide) (fun k q _ hq => good_grown (grown_refl x _) k q hq) (⟨q, rfl, hs⟩) ⟨hdr, grown_trans hgr (grown_refl x _)⟩
        exact hK.out _ _ T
    -- END
  | false =>
    go_wp2_with fail
    refine (drawN 10007 d2 (by omega) (by omega)).mono ?_
    rintro e w3 ⟨r3, rfl, hr3, d3, g3⟩
    go_wp2_with fail
    refine (drawN 9999 d3 (by omega) (by omega)).mono ?_
    rintro e w4 ⟨r4, rfl, hr4, d4, g4⟩
    go_wp2_with fail
    refine (drawN 10007 d4 (by omega) (by omega)).mono ?_
    rintro e w5 ⟨r5, rfl, hr5, d5, g5⟩
    go_wp2
    go_ret3
    exact ⟨_, _, _, rfl, ⟨by omega, by omega⟩, ⟨by omega, by omega⟩, ⟨by omega, by omega⟩, b1.trans (grown_below (grown_trans (grown_trans (grown_trans g2 g3) g4) g5) (Nat.le_refl _) z0)⟩
end Go.Proofs.YthmlkbgnooahlaaDoor.DP
