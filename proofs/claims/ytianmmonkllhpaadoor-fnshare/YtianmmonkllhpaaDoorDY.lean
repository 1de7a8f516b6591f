/-
  The draw of a secret, of how many, and a salt.
-/
import Derived.Test.YtianmmonkllhpaaDoorDX
import Derived.Test.YtianmmonkllhpaaDoorRI
import Derived.Deep.Cut
namespace Go.Proofs.YtianmmonkllhpaaDoor.DY
open Go.RowKit
open Go.Proofs.YtianmmonkllhpaaDoor.C0 Go.Proofs.YtianmmonkllhpaaDoor.D0 Go.Proofs.YtianmmonkllhpaaDoor.HB Go.Proofs.YtianmmonkllhpaaDoor.DS Go.Proofs.YtianmmonkllhpaaDoor.RI Go.Proofs.YtianmmonkllhpaaDoor.DX

/-- A number of a literal. -/
def small (z : Int) : Prop := 0 ≤ z ∧ z ≤ 7
def Lit (p c : Nat) (v : Value) (w : World) : Prop := ∃ g, v = .slice (some ⟨g, 0, none⟩) c c ∧ p < g ∧ g < w.heap.size ∧ ∀ j, j < c → ∃ z, w.cell? ⟨g, j, none⟩ = some (.int .i64 z) ∧ small z
def TLit (p : Nat) (v : Value) (w : World) : Prop := ∃ g, v = .slice (some ⟨g, 0, none⟩) 2 2 ∧ p < g ∧ g < w.heap.size ∧ w.heap[g]? = some (.cells #[.string ⟨#[]⟩, .string ⟨#[115, 97, 108, 116]⟩] 9)
def Idx (c : Nat) (v : Value) : Prop := ∃ r : Nat, v = .int .i64 r ∧ r < c
def Adr (p : Nat) (v : Value) (w : World) : Prop := ∃ g j, v = .pointer (some ⟨g, j, none⟩) ∧ p < g ∧ g < w.heap.size ∧ ∃ z, w.cell? ⟨g, j, none⟩ = some (.int .i64 z) ∧ small z
def Num (v : Value) : Prop := ∃ z, v = .int .i64 z ∧ small z
def Txt (v : Value) : Prop := ∃ t : ByteArray, v = .string t ∧ t.size ≤ 4
theorem texts_small : ∀ t ∈ ([⟨#[]⟩, ⟨#[115, 97, 108, 116]⟩] : List ByteArray), t.size ≤ 4 := by
  intro t ht
  simp only [List.mem_cons, List.not_mem_nil, or_false] at ht
  rcases ht with rfl | rfl <;> decide
theorem cell_grown {w w' : World} {p g j : Nat} (h : w.grownBy w' (some p)) (hp : p < g) (hg : g < w.heap.size) : w'.cell? ⟨g, j, none⟩ = w.cell? ⟨g, j, none⟩ :=
  World.cell?_of_block (h.block g hg (by simp; omega))
theorem Lit.grown {w w' : World} {p c : Nat} {v : Value} (h : Lit p c v w) (hg : w.grownBy w' (some p)) : Lit p c v w' := by
  obtain ⟨g, e, h1, h2, h3⟩ := h
  refine ⟨g, e, h1, Nat.lt_of_lt_of_le h2 hg.size, fun j hj => ?_⟩
  obtain ⟨z, hz, hs⟩ := h3 j hj
  exact ⟨z, (cell_grown hg h1 h2).trans hz, hs⟩
theorem TLit.grown {w w' : World} {p : Nat} {v : Value} (h : TLit p v w) (hg : w.grownBy w' (some p)) : TLit p v w' := by
  obtain ⟨g, e, h1, h2, h3⟩ := h
  exact ⟨g, e, h1, Nat.lt_of_lt_of_le h2 hg.size, (hg.block g h2 (by simp; omega)).trans h3⟩
theorem Adr.grown {w w' : World} {p : Nat} {v : Value} (h : Adr p v w) (hg : w.grownBy w' (some p)) : Adr p v w' := by
  obtain ⟨g, j, e, h1, h2, z, hz, hs⟩ := h
  exact ⟨g, j, e, h1, Nat.lt_of_lt_of_le h2 hg.size, z, (cell_grown hg h1 h2).trans hz, hs⟩
theorem lit_new {x : World} {p : Nat} (hp : p < x.heap.size) (zs : List Int) (c : Nat) (hc : zs.length = c) (hs : ∀ z ∈ zs, small z) :
    Lit p c (.slice (some ⟨x.heap.size, 0, none⟩) c c) (x.alloc (.cells (zs.map (Value.int .i64)).toArray 2)) := by
  subst hc
  refine ⟨x.heap.size, rfl, hp, by rw [asz]; omega, fun j hj => ?_⟩
  exact ⟨zs[j], (block_cell (heap_alloc_new x _) j).trans (by simp [hj]), hs _ (List.getElem_mem _)⟩
theorem lit_small {z : Int} (h : small z) : ∀ y ∈ [0, 7, z], small y := by
  intro y hy
  simp only [List.mem_cons, List.not_mem_nil, or_false] at hy
  rcases hy with rfl | rfl | rfl
  · exact ⟨by omega, by omega⟩
  · exact ⟨by omega, by omega⟩
  · exact h
/-- What each operation of the region leaves. -/
def good (p : Nat) (m : ByteArray) (nd cd : Int) (k : Nat) (v : Value) (w : World) : Prop :=
  match k with
  | 0 => v = .string m
  | 1 => v = .int .i64 nd
  | 2 => Lit p 3 v w
  | 3 => v = .pointer (some ⟨p, 0, none⟩)
  | 4 => Idx 3 v
  | 5 => Adr p v w
  | 6 => Num v
  | 7 => v = .int .i64 cd
  | 8 => Lit p 3 v w
  | 9 => v = .pointer (some ⟨p, 0, none⟩)
  | 10 => Idx 3 v
  | 11 => Adr p v w
  | 12 => Num v
  | 13 => v = .pointer (some ⟨p, 0, none⟩)
  | 14 => TLit p v w
  | 15 => Txt v
  | 16 => v = .string m
  | 17 => Num v
  | 18 => Num v
  | _ => Txt v
def slotOf (k : Nat) : Nat := if k < 16 then k + 23 else k - 14
theorem good_grown {p : Nat} {m : ByteArray} {nd cd : Int} {w w' : World} (hg : w.grownBy w' (some p)) (k : Nat) (v : Value) (h : good p m nd cd k v w) : good p m nd cd k v w' := by
  unfold good at h ⊢
  split at h <;> first | exact h.grown hg | exact h

set_option maxRecDepth 100000 in
set_option maxHeartbeats 3200000 in
theorem split_draw (v : Value) (n : Nat) (w : World) (hc : IsCode w.heap.size w v n) :
    Calls Tryd.prog 5 #[v] w fun e w' => ∃ (m : ByteArray) (nd cd : Int) (s : ByteArray), e = .returned (.tuple #[.string m, .int .i64 nd, .int .i64 cd, .string s]) ∧ m.size ≤ 17 ∧ 0 ≤ nd ∧ nd ≤ 7 ∧ 0 ≤ cd ∧ cd ≤ 7 ∧ s.size ≤ 7 ∧ Below w.heap.size w w' := by
  go_enter Tryd.func5, Tryd.ntmps5
  go_wp2_with fail
  refine (drawSource v n _ hc).mono ?_
  rintro e w1 ⟨rfl, d1, b1⟩
  have z0 := b1.size
  go_wp2_with fail
  refine (secret_draw d1).mono ?_
  rintro e w2 ⟨m, rfl, hm, d2, g2⟩
  go_wp2_with fail
  refine (drawN 6 d2 (by omega) (by omega)).mono ?_
  rintro e w3 ⟨c, rfl, hcr, d3, g3⟩
  have hc1 : IntKind.i64.wrap (1 + (c : Int)) = 1 + (c : Int) := by rw [IntKind.wrap_i64]; omega
  obtain ⟨cd, hcd0⟩ : ∃ cd : Int, 1 + (c : Int) = cd := ⟨_, rfl⟩
  have hcd : small cd := ⟨by omega, by omega⟩
  have HCD : Hid (1 ≤ cd) := by unfold Hid; omega
  go_wp2_with fail
  (try rw [hcd0])
  refine (drawN cd d3 (by omega) (by omega)).mono ?_
  rintro e w4 ⟨r, rfl, hr, d4, g4⟩
  have hc2 : IntKind.i64.wrap (1 + (r : Int)) = 1 + (r : Int) := by rw [IntKind.wrap_i64]; omega
  obtain ⟨nd, hnd0⟩ : ∃ nd : Int, 1 + (r : Int) = nd := ⟨_, rfl⟩
  have hnd : small nd := ⟨by omega, by unfold small at hcd; omega⟩
  go_wp2_with fail
  (try rw [hnd0])
  refine (drawOne 10 d4 (by omega) (by omega)).mono ?_
  rintro e w5 ⟨b, rfl, d5, g5⟩
  have G := grown_trans (grown_trans (grown_trans g2 g3) g4) g5
  clear g2 g3 g4 g5 d1 d2 d3 d4 hcd0 hnd0 hcr hr hc1 hc2
  cases b with
  | true =>
    go_upto_region 6 with fail
    refine wp_region_inv (J := Reg 47 20 slotOf [(6, .pointer (some ⟨w.heap.size, 0, none⟩)), (7, .string m), (8, .int .i64 cd), (9, .int .i64 nd)] (good w.heap.size m nd cd) (fun x => Dr w.heap.size w.heap.size n v x ∧ w5.grownBy x (some w.heap.size))) (by kernel_rfl) ?h0 ?hs ?hd
    case h0 =>
      refine ⟨by simp, rfl, rfl, ?_, fun k hk hl => ?_, d5.drew, grown_drew (grown_refl w5 _)⟩
      · intro x hx
        simp only [List.mem_cons, List.not_mem_nil, or_false] at hx
        rcases hx with rfl | rfl | rfl | rfl <;> rfl
      · have : (Array.replicate 20 false).getD k true = false := by simp [hk]
        exact absurd hl (by show ¬ (Array.replicate 20 false).getD k true = true; rw [this]; decide)
    case hd =>
      intro l a x h hr
      have hall := all_listed h.size (by kernel_rfl) hr
      have q2 : a.tmps.getD 2 undef = .string m := h.goods 16 (by decide) (hall 16 (by decide))
      have q3 : Num (a.tmps.getD 3 undef) := h.goods 17 (by decide) (hall 17 (by decide))
      have q4 : Num (a.tmps.getD 4 undef) := h.goods 18 (by decide) (hall 18 (by decide))
      have q5 : Txt (a.tmps.getD 5 undef) := h.goods 19 (by decide) (hall 19 (by decide))
      obtain ⟨hdr, hgr⟩ := h.inv
      obtain ⟨⟨ls0⟩, ds⟩ := a
      have hl0 : ls0.length = 47 := h.tmps
      obtain rfl : ds = [] := h.defs
      obtain ⟨x0, ls1, rfl, hl1⟩ := cons_of hl0
      clear hl0
      obtain ⟨x1, ls2, rfl, hl2⟩ := cons_of hl1
      clear hl1
      obtain ⟨x2, ls3, rfl, hl3⟩ := cons_of hl2
      clear hl2
      obtain ⟨x3, ls4, rfl, hl4⟩ := cons_of hl3
      clear hl3
      obtain ⟨x4, ls5, rfl, hl5⟩ := cons_of hl4
      clear hl4
      obtain ⟨x5, ls6, rfl, hl6⟩ := cons_of hl5
      clear hl5
      obtain ⟨x6, ls7, rfl, hl7⟩ := cons_of hl6
      clear hl6
      obtain ⟨x7, ls8, rfl, hl8⟩ := cons_of hl7
      clear hl7
      obtain ⟨x8, ls9, rfl, hl9⟩ := cons_of hl8
      clear hl8
      obtain ⟨x9, ls10, rfl, hl10⟩ := cons_of hl9
      clear hl9
      obtain ⟨x10, ls11, rfl, hl11⟩ := cons_of hl10
      clear hl10
      obtain ⟨x11, ls12, rfl, hl12⟩ := cons_of hl11
      clear hl11
      obtain ⟨x12, ls13, rfl, hl13⟩ := cons_of hl12
      clear hl12
      obtain ⟨x13, ls14, rfl, hl14⟩ := cons_of hl13
      clear hl13
      obtain ⟨x14, ls15, rfl, hl15⟩ := cons_of hl14
      clear hl14
      obtain ⟨x15, ls16, rfl, hl16⟩ := cons_of hl15
      clear hl15
      obtain ⟨x16, ls17, rfl, hl17⟩ := cons_of hl16
      clear hl16
      obtain ⟨x17, ls18, rfl, hl18⟩ := cons_of hl17
      clear hl17
      obtain ⟨x18, ls19, rfl, hl19⟩ := cons_of hl18
      clear hl18
      obtain ⟨x19, ls20, rfl, hl20⟩ := cons_of hl19
      clear hl19
      obtain ⟨x20, ls21, rfl, hl21⟩ := cons_of hl20
      clear hl20
      obtain ⟨x21, ls22, rfl, hl22⟩ := cons_of hl21
      clear hl21
      obtain ⟨x22, ls23, rfl, hl23⟩ := cons_of hl22
      clear hl22
      obtain ⟨x23, ls24, rfl, hl24⟩ := cons_of hl23
      clear hl23
      obtain ⟨x24, ls25, rfl, hl25⟩ := cons_of hl24
      clear hl24
      obtain ⟨x25, ls26, rfl, hl26⟩ := cons_of hl25
      clear hl25
      obtain ⟨x26, ls27, rfl, hl27⟩ := cons_of hl26
      clear hl26
      obtain ⟨x27, ls28, rfl, hl28⟩ := cons_of hl27
      clear hl27
      obtain ⟨x28, ls29, rfl, hl29⟩ := cons_of hl28
      clear hl28
      obtain ⟨x29, ls30, rfl, hl30⟩ := cons_of hl29
      clear hl29
      obtain ⟨x30, ls31, rfl, hl31⟩ := cons_of hl30
      clear hl30
      obtain ⟨x31, ls32, rfl, hl32⟩ := cons_of hl31
      clear hl31
      obtain ⟨x32, ls33, rfl, hl33⟩ := cons_of hl32
      clear hl32
      obtain ⟨x33, ls34, rfl, hl34⟩ := cons_of hl33
      clear hl33
      obtain ⟨x34, ls35, rfl, hl35⟩ := cons_of hl34
      clear hl34
      obtain ⟨x35, ls36, rfl, hl36⟩ := cons_of hl35
      clear hl35
      obtain ⟨x36, ls37, rfl, hl37⟩ := cons_of hl36
      clear hl36
      obtain ⟨x37, ls38, rfl, hl38⟩ := cons_of hl37
      clear hl37
      obtain ⟨x38, ls39, rfl, hl39⟩ := cons_of hl38
      clear hl38
      obtain ⟨x39, ls40, rfl, hl40⟩ := cons_of hl39
      clear hl39
      obtain ⟨x40, ls41, rfl, hl41⟩ := cons_of hl40
      clear hl40
      obtain ⟨x41, ls42, rfl, hl42⟩ := cons_of hl41
      clear hl41
      obtain ⟨x42, ls43, rfl, hl43⟩ := cons_of hl42
      clear hl42
      obtain ⟨x43, ls44, rfl, hl44⟩ := cons_of hl43
      clear hl43
      obtain ⟨x44, ls45, rfl, hl45⟩ := cons_of hl44
      clear hl44
      obtain ⟨x45, ls46, rfl, hl46⟩ := cons_of hl45
      clear hl45
      obtain ⟨x46, ls47, rfl, hl47⟩ := cons_of hl46
      clear hl46
      obtain rfl := List.eq_nil_of_length_eq_zero hl47
      clear hl47
      obtain rfl : x2 = .string m := q2
      obtain ⟨a3, rfl, s3⟩ : Num x3 := q3
      obtain ⟨a4, rfl, s4⟩ : Num x4 := q4
      obtain ⟨a5, rfl, s5⟩ : Txt x5 := q5
      clear hall hr h
      have HF : Hid (Below w.heap.size w x) := b1.trans (grown_below (grown_trans G hgr) (Nat.le_refl _) z0)
      clear hgr hdr
      go_wp2
      exact bodyPost_ret (v := .tuple #[.string m, .int .i64 a3, .int .i64 a4, .string a5]) (by simp [results, Tryd.results5, go_sem]) rfl ⟨m, a3, a4, a5, rfl, hm, by unfold small at s3; omega, by unfold small at s3; omega, by unfold small at s4; omega, by unfold small at s4; omega, by omega, HF.out⟩
    case hs =>
      intro l a x i h hi
      obtain ⟨hun, o, ho, hdep⟩ := mem_ready.1 hi
      have hin : i < 20 := (Array.getElem?_eq_some_iff.1 ho).1
      obtain ⟨hdr, hgr⟩ := h.inv
      obtain ⟨⟨ls0⟩, ds⟩ := a
      have hl0 : ls0.length = 47 := h.tmps
      obtain rfl : ds = [] := h.defs
      obtain ⟨x0, ls1, rfl, hl1⟩ := cons_of hl0
      clear hl0
      obtain ⟨x1, ls2, rfl, hl2⟩ := cons_of hl1
      clear hl1
      obtain ⟨x2, ls3, rfl, hl3⟩ := cons_of hl2
      clear hl2
      obtain ⟨x3, ls4, rfl, hl4⟩ := cons_of hl3
      clear hl3
      obtain ⟨x4, ls5, rfl, hl5⟩ := cons_of hl4
      clear hl4
      obtain ⟨x5, ls6, rfl, hl6⟩ := cons_of hl5
      clear hl5
      obtain ⟨x6, ls7, rfl, hl7⟩ := cons_of hl6
      clear hl6
      obtain ⟨x7, ls8, rfl, hl8⟩ := cons_of hl7
      clear hl7
      obtain ⟨x8, ls9, rfl, hl9⟩ := cons_of hl8
      clear hl8
      obtain ⟨x9, ls10, rfl, hl10⟩ := cons_of hl9
      clear hl9
      obtain ⟨x10, ls11, rfl, hl11⟩ := cons_of hl10
      clear hl10
      obtain ⟨x11, ls12, rfl, hl12⟩ := cons_of hl11
      clear hl11
      obtain ⟨x12, ls13, rfl, hl13⟩ := cons_of hl12
      clear hl12
      obtain ⟨x13, ls14, rfl, hl14⟩ := cons_of hl13
      clear hl13
      obtain ⟨x14, ls15, rfl, hl15⟩ := cons_of hl14
      clear hl14
      obtain ⟨x15, ls16, rfl, hl16⟩ := cons_of hl15
      clear hl15
      obtain ⟨x16, ls17, rfl, hl17⟩ := cons_of hl16
      clear hl16
      obtain ⟨x17, ls18, rfl, hl18⟩ := cons_of hl17
      clear hl17
      obtain ⟨x18, ls19, rfl, hl19⟩ := cons_of hl18
      clear hl18
      obtain ⟨x19, ls20, rfl, hl20⟩ := cons_of hl19
      clear hl19
      obtain ⟨x20, ls21, rfl, hl21⟩ := cons_of hl20
      clear hl20
      obtain ⟨x21, ls22, rfl, hl22⟩ := cons_of hl21
      clear hl21
      obtain ⟨x22, ls23, rfl, hl23⟩ := cons_of hl22
      clear hl22
      obtain ⟨x23, ls24, rfl, hl24⟩ := cons_of hl23
      clear hl23
      obtain ⟨x24, ls25, rfl, hl25⟩ := cons_of hl24
      clear hl24
      obtain ⟨x25, ls26, rfl, hl26⟩ := cons_of hl25
      clear hl25
      obtain ⟨x26, ls27, rfl, hl27⟩ := cons_of hl26
      clear hl26
      obtain ⟨x27, ls28, rfl, hl28⟩ := cons_of hl27
      clear hl27
      obtain ⟨x28, ls29, rfl, hl29⟩ := cons_of hl28
      clear hl28
      obtain ⟨x29, ls30, rfl, hl30⟩ := cons_of hl29
      clear hl29
      obtain ⟨x30, ls31, rfl, hl31⟩ := cons_of hl30
      clear hl30
      obtain ⟨x31, ls32, rfl, hl32⟩ := cons_of hl31
      clear hl31
      obtain ⟨x32, ls33, rfl, hl33⟩ := cons_of hl32
      clear hl32
      obtain ⟨x33, ls34, rfl, hl34⟩ := cons_of hl33
      clear hl33
      obtain ⟨x34, ls35, rfl, hl35⟩ := cons_of hl34
      clear hl34
      obtain ⟨x35, ls36, rfl, hl36⟩ := cons_of hl35
      clear hl35
      obtain ⟨x36, ls37, rfl, hl37⟩ := cons_of hl36
      clear hl36
      obtain ⟨x37, ls38, rfl, hl38⟩ := cons_of hl37
      clear hl37
      obtain ⟨x38, ls39, rfl, hl39⟩ := cons_of hl38
      clear hl38
      obtain ⟨x39, ls40, rfl, hl40⟩ := cons_of hl39
      clear hl39
      obtain ⟨x40, ls41, rfl, hl41⟩ := cons_of hl40
      clear hl40
      obtain ⟨x41, ls42, rfl, hl42⟩ := cons_of hl41
      clear hl41
      obtain ⟨x42, ls43, rfl, hl43⟩ := cons_of hl42
      clear hl42
      obtain ⟨x43, ls44, rfl, hl44⟩ := cons_of hl43
      clear hl43
      obtain ⟨x44, ls45, rfl, hl45⟩ := cons_of hl44
      clear hl44
      obtain ⟨x45, ls46, rfl, hl46⟩ := cons_of hl45
      clear hl45
      obtain ⟨x46, ls47, rfl, hl47⟩ := cons_of hl46
      clear hl46
      obtain rfl := List.eq_nil_of_length_eq_zero hl47
      clear hl47
      obtain rfl : x6 = .pointer (some ⟨w.heap.size, 0, none⟩) := h.olds (6, _) (List.mem_cons_self ..)
      obtain rfl : x7 = .string m := h.olds (7, _) (List.mem_cons_of_mem _ (List.mem_cons_self ..))
      obtain rfl : x8 = .int .i64 cd := h.olds (8, _) (List.mem_cons_of_mem _ (List.mem_cons_of_mem _ (List.mem_cons_self ..)))
      obtain rfl : x9 = .int .i64 nd := h.olds (9, _) (List.mem_cons_of_mem _ (List.mem_cons_of_mem _ (List.mem_cons_of_mem _ (List.mem_cons_self ..))))
      have hcase : i = 0 ∨ i = 1 ∨ i = 2 ∨ i = 3 ∨ i = 4 ∨ i = 5 ∨ i = 6 ∨ i = 7 ∨ i = 8 ∨ i = 9 ∨ i = 10 ∨ i = 11 ∨ i = 12 ∨ i = 13 ∨ i = 14 ∨ i = 15 ∨ i = 16 ∨ i = 17 ∨ i = 18 ∨ i = 19 := by omega
      rcases hcase with rfl | rfl | rfl | rfl | rfl | rfl | rfl | rfl | rfl | rfl | rfl | rfl | rfl | rfl | rfl | rfl | rfl | rfl | rfl | rfl
      · refine wpOp_one rfl (fun K hK => ?_)
        clear hi ho hdep hun
        go_simp
        have T := h.put 0 (.string m) (by decide) (by decide) rfl (by decide) (fun k q _ hq => good_grown (grown_refl x _) k q hq) (rfl) ⟨hdr, grown_trans hgr (grown_refl x _)⟩
        exact hK.out _ _ T
      · refine wpOp_one rfl (fun K hK => ?_)
        clear hi ho hdep hun
        go_simp
        have T := h.put 1 (.int .i64 nd) (by decide) (by decide) rfl (by decide) (fun k q _ hq => good_grown (grown_refl x _) k q hq) (rfl) ⟨hdr, grown_trans hgr (grown_refl x _)⟩
        exact hK.out _ _ T
      · obtain rfl := Option.some.inj ho
        have t1 := listed_of (hdep ⟨1, .data⟩ (by simp) rfl)
        obtain rfl : x24 = .int .i64 nd := h.goods 1 (by decide) t1
        have hnew : Lit w.heap.size 3 (.slice (some ⟨x.heap.size, 0, none⟩) 3 3) (x.alloc (.cells #[.int .i64 0, .int .i64 7, .int .i64 nd] 2)) := lit_new hdr.lt [0, 7, nd] 3 rfl (lit_small hnd)
        refine wpOp_one rfl (fun K hK => ?_)
        clear hi ho hdep hun
        go_simp
        have T := h.put 2 (.slice (some ⟨x.heap.size, 0, none⟩) 3 3) (by decide) (by decide) rfl (by decide) (fun k q _ hq => good_grown (World.grownBy_alloc x _ _) k q hq) (hnew) ⟨hdr.alloc _, grown_trans hgr (World.grownBy_alloc x _ _)⟩
        exact hK.out _ _ T
      · refine wpOp_one rfl (fun K hK => ?_)
        clear hi ho hdep hun
        go_simp
        have T := h.put 3 (.pointer (some ⟨w.heap.size, 0, none⟩)) (by decide) (by decide) rfl (by decide) (fun k q _ hq => good_grown (grown_refl x _) k q hq) (rfl) ⟨hdr, grown_trans hgr (grown_refl x _)⟩
        exact hK.out _ _ T
      · obtain rfl := Option.some.inj ho
        have t3 := listed_of (hdep ⟨3, .data⟩ (by simp) rfl)
        obtain rfl : x26 = .pointer (some ⟨w.heap.size, 0, none⟩) := h.goods 3 (by decide) t3
        refine wpOp_one rfl (fun K hK => ?_)
        clear hi ho hdep hun
        go_simp
        go_at_call 27
        refine (drawN 3 hdr (by omega) (by omega)).mono ?_
        rintro e y ⟨r, rfl, hr, dy, gy⟩
        try go_wp2
        have T := h.put 4 (.int .i64 r) (by decide) (by decide) rfl (by decide) (fun k q _ hq => good_grown gy k q hq) (⟨r, rfl, by omega⟩) ⟨dy, grown_trans hgr gy⟩
        exact hK.out _ _ T
      · obtain rfl := Option.some.inj ho
        have t2 := listed_of (hdep ⟨2, .data⟩ (by simp) rfl)
        have t4 := listed_of (hdep ⟨4, .data⟩ (by simp) rfl)
        obtain ⟨g, rfl, l1, l2, l3⟩ : Lit w.heap.size 3 x25 x := h.goods 2 (by decide) t2
        obtain ⟨r, rfl, hr⟩ : Idx 3 x27 := h.goods 4 (by decide) t4
        have hri : (r : Int) < 3 := by omega
        refine wpOp_one rfl (fun K hK => ?_)
        clear hi ho hdep hun
        go_simp
        have T := h.put 5 (.pointer (some ⟨g, r, none⟩)) (by decide) (by decide) rfl (by decide) (fun k q _ hq => good_grown (grown_refl x _) k q hq) (⟨g, r, rfl, l1, l2, l3 r hr⟩) ⟨hdr, grown_trans hgr (grown_refl x _)⟩
        exact hK.out _ _ T
      · obtain rfl := Option.some.inj ho
        have t5 := listed_of (hdep ⟨5, .data⟩ (by simp) rfl)
        obtain ⟨g, j, rfl, l1, l2, q, hq, hs⟩ : Adr w.heap.size x28 x := h.goods 5 (by decide) t5
        refine wpOp_one rfl (fun K hK => ?_)
        clear hi ho hdep hun
        go_simp
        have T := h.put 6 (.int .i64 q) (by decide) (by decide) rfl (by decide) (fun k q _ hq => good_grown (grown_refl x _) k q hq) (⟨q, rfl, hs⟩) ⟨hdr, grown_trans hgr (grown_refl x _)⟩
        exact hK.out _ _ T
      · refine wpOp_one rfl (fun K hK => ?_)
        clear hi ho hdep hun
        go_simp
        have T := h.put 7 (.int .i64 cd) (by decide) (by decide) rfl (by decide) (fun k q _ hq => good_grown (grown_refl x _) k q hq) (rfl) ⟨hdr, grown_trans hgr (grown_refl x _)⟩
        exact hK.out _ _ T
      · obtain rfl := Option.some.inj ho
        have t7 := listed_of (hdep ⟨7, .data⟩ (by simp) rfl)
        obtain rfl : x30 = .int .i64 cd := h.goods 7 (by decide) t7
        have hnew : Lit w.heap.size 3 (.slice (some ⟨x.heap.size, 0, none⟩) 3 3) (x.alloc (.cells #[.int .i64 0, .int .i64 7, .int .i64 cd] 2)) := lit_new hdr.lt [0, 7, cd] 3 rfl (lit_small hcd)
        refine wpOp_one rfl (fun K hK => ?_)
        clear hi ho hdep hun
        go_simp
        have T := h.put 8 (.slice (some ⟨x.heap.size, 0, none⟩) 3 3) (by decide) (by decide) rfl (by decide) (fun k q _ hq => good_grown (World.grownBy_alloc x _ _) k q hq) (hnew) ⟨hdr.alloc _, grown_trans hgr (World.grownBy_alloc x _ _)⟩
        exact hK.out _ _ T
      · refine wpOp_one rfl (fun K hK => ?_)
        clear hi ho hdep hun
        go_simp
        have T := h.put 9 (.pointer (some ⟨w.heap.size, 0, none⟩)) (by decide) (by decide) rfl (by decide) (fun k q _ hq => good_grown (grown_refl x _) k q hq) (rfl) ⟨hdr, grown_trans hgr (grown_refl x _)⟩
        exact hK.out _ _ T
      · obtain rfl := Option.some.inj ho
        have t9 := listed_of (hdep ⟨9, .data⟩ (by simp) rfl)
        obtain rfl : x32 = .pointer (some ⟨w.heap.size, 0, none⟩) := h.goods 9 (by decide) t9
        refine wpOp_one rfl (fun K hK => ?_)
        clear hi ho hdep hun
        go_simp
        go_at_call 27
        refine (drawN 3 hdr (by omega) (by omega)).mono ?_
        rintro e y ⟨r, rfl, hr, dy, gy⟩
        try go_wp2
        have T := h.put 10 (.int .i64 r) (by decide) (by decide) rfl (by decide) (fun k q _ hq => good_grown gy k q hq) (⟨r, rfl, by omega⟩) ⟨dy, grown_trans hgr gy⟩
        exact hK.out _ _ T
      · obtain rfl := Option.some.inj ho
        have t8 := listed_of (hdep ⟨8, .data⟩ (by simp) rfl)
        have t10 := listed_of (hdep ⟨10, .data⟩ (by simp) rfl)
        obtain ⟨g, rfl, l1, l2, l3⟩ : Lit w.heap.size 3 x31 x := h.goods 8 (by decide) t8
        obtain ⟨r, rfl, hr⟩ : Idx 3 x33 := h.goods 10 (by decide) t10
        have hri : (r : Int) < 3 := by omega
        refine wpOp_one rfl (fun K hK => ?_)
        clear hi ho hdep hun
        go_simp
        have T := h.put 11 (.pointer (some ⟨g, r, none⟩)) (by decide) (by decide) rfl (by decide) (fun k q _ hq => good_grown (grown_refl x _) k q hq) (⟨g, r, rfl, l1, l2, l3 r hr⟩) ⟨hdr, grown_trans hgr (grown_refl x _)⟩
        exact hK.out _ _ T
      · obtain rfl := Option.some.inj ho
        have t11 := listed_of (hdep ⟨11, .data⟩ (by simp) rfl)
        obtain ⟨g, j, rfl, l1, l2, q, hq, hs⟩ : Adr w.heap.size x34 x := h.goods 11 (by decide) t11
        refine wpOp_one rfl (fun K hK => ?_)
        clear hi ho hdep hun
        go_simp
        have T := h.put 12 (.int .i64 q) (by decide) (by decide) rfl (by decide) (fun k q _ hq => good_grown (grown_refl x _) k q hq) (⟨q, rfl, hs⟩) ⟨hdr, grown_trans hgr (grown_refl x _)⟩
        exact hK.out _ _ T
      · refine wpOp_one rfl (fun K hK => ?_)
        clear hi ho hdep hun
        go_simp
        have T := h.put 13 (.pointer (some ⟨w.heap.size, 0, none⟩)) (by decide) (by decide) rfl (by decide) (fun k q _ hq => good_grown (grown_refl x _) k q hq) (rfl) ⟨hdr, grown_trans hgr (grown_refl x _)⟩
        exact hK.out _ _ T
      · refine wpOp_one rfl (fun K hK => ?_)
        clear hi ho hdep hun
        go_simp
        have hnew : TLit w.heap.size (.slice (some ⟨x.heap.size, 0, none⟩) 2 2) (x.alloc (.cells #[.string ⟨#[]⟩, .string ⟨#[115, 97, 108, 116]⟩] 9)) := ⟨x.heap.size, rfl, hdr.lt, by rw [asz]; omega, heap_alloc_new x _⟩
        have T := h.put 14 (.slice (some ⟨x.heap.size, 0, none⟩) 2 2) (by decide) (by decide) rfl (by decide) (fun k q _ hq => good_grown (World.grownBy_alloc x _ _) k q hq) (hnew) ⟨hdr.alloc _, grown_trans hgr (World.grownBy_alloc x _ _)⟩
        exact hK.out _ _ T
      · obtain rfl := Option.some.inj ho
        have t13 := listed_of (hdep ⟨13, .data⟩ (by simp) rfl)
        have t14 := listed_of (hdep ⟨14, .data⟩ (by simp) rfl)
        obtain rfl : x36 = .pointer (some ⟨w.heap.size, 0, none⟩) := h.goods 13 (by decide) t13
        obtain ⟨g, rfl, l1, l2, l3⟩ : TLit w.heap.size x37 x := h.goods 14 (by decide) t14
        refine wpOp_one rfl (fun K hK => ?_)
        clear hi ho hdep hun
        go_simp
        go_at_call 29
        refine (pick_any [⟨#[]⟩, ⟨#[115, 97, 108, 116]⟩] 2 g rfl (by omega) (by omega) hdr l3 (by omega)).mono ?_
        rintro e y ⟨t, ht, rfl, dy, gy⟩
        try go_wp2
        have T := h.put 15 (.string t) (by decide) (by decide) rfl (by decide) (fun k q _ hq => good_grown gy k q hq) (⟨t, rfl, texts_small t ht⟩) ⟨dy, grown_trans hgr gy⟩
        exact hK.out _ _ T
      · obtain rfl := Option.some.inj ho
        have t0 := listed_of (hdep ⟨0, .data⟩ (by simp) rfl)
        obtain rfl : x23 = .string m := h.goods 0 (by decide) t0
        refine wpOp_one rfl (fun K hK => ?_)
        clear hi ho hdep hun
        go_simp
        have T := h.put 16 (.string m) (by decide) (by decide) rfl (by decide) (fun k q _ hq => good_grown (grown_refl x _) k q hq) (rfl) ⟨hdr, grown_trans hgr (grown_refl x _)⟩
        exact hK.out _ _ T
      · obtain rfl := Option.some.inj ho
        have t6 := listed_of (hdep ⟨6, .data⟩ (by simp) rfl)
        obtain ⟨q, rfl, hs⟩ : Num x29 := h.goods 6 (by decide) t6
        refine wpOp_one rfl (fun K hK => ?_)
        clear hi ho hdep hun
        go_simp
        have T := h.put 17 (.int .i64 q) (by decide) (by decide) rfl (by decide) (fun k q _ hq => good_grown (grown_refl x _) k q hq) (⟨q, rfl, hs⟩) ⟨hdr, grown_trans hgr (grown_refl x _)⟩
        exact hK.out _ _ T
      · obtain rfl := Option.some.inj ho
        have t12 := listed_of (hdep ⟨12, .data⟩ (by simp) rfl)
        obtain ⟨q, rfl, hs⟩ : Num x35 := h.goods 12 (by decide) t12
        refine wpOp_one rfl (fun K hK => ?_)
        clear hi ho hdep hun
        go_simp
        have T := h.put 18 (.int .i64 q) (by decide) (by decide) rfl (by decide) (fun k q _ hq => good_grown (grown_refl x _) k q hq) (⟨q, rfl, hs⟩) ⟨hdr, grown_trans hgr (grown_refl x _)⟩
        exact hK.out _ _ T
      · obtain rfl := Option.some.inj ho
        have t15 := listed_of (hdep ⟨15, .data⟩ (by simp) rfl)
        obtain ⟨q, rfl, hs⟩ : Txt x38 := h.goods 15 (by decide) t15
        refine wpOp_one rfl (fun K hK => ?_)
        clear hi ho hdep hun
        go_simp
        have T := h.put 19 (.string q) (by decide) (by decide) rfl (by decide) (fun k q _ hq => good_grown (grown_refl x _) k q hq) (⟨q, rfl, hs⟩) ⟨hdr, grown_trans hgr (grown_refl x _)⟩
        exact hK.out _ _ T
  | false =>
    go_wp2_with fail
    refine (drawN 3 d5 (by omega) (by omega)).mono ?_
    rintro e w6 ⟨k, rfl, hk, d6, g6⟩
    go_wp2_with fail
    refine (drawBytes k d6 (by omega)).mono ?_
    rintro e w7 ⟨t, rfl, ht, d7, g7⟩
    have hsz : ((⟨#[115, 97, 108, 116]⟩ : ByteArray) ++ t).size ≤ 7 := by
      have h1 : (⟨#[115, 97, 108, 116]⟩ : ByteArray).size = 4 := rfl
      rw [ByteArray.size_append, h1]; omega
    have HF : Hid (Below w.heap.size w w7) := b1.trans (grown_below (grown_trans (grown_trans G g6) g7) (Nat.le_refl _) z0)
    clear G g6 g7
    go_wp2
    exact bodyPost_ret (v := .tuple #[.string m, .int .i64 nd, .int .i64 cd, .string ((⟨#[115, 97, 108, 116]⟩ : ByteArray) ++ t)]) (by simp [results, Tryd.results5, go_sem]) rfl ⟨m, nd, cd, _, rfl, hm, by unfold small at hnd; omega, by unfold small at hnd; omega, by unfold small at hcd; omega, by unfold small at hcd; omega, hsz, HF.out⟩
end Go.Proofs.YtianmmonkllhpaaDoor.DY
