/-
  The draw of a number and of a card: a literal, draws and a new card in whatever order they come up.
-/
import Derived.Test.YteehgicnfageiaaDoorDX
import Derived.Test.YteehgicnfageiaaDoorRI
import Derived.Test.YteehgicnfageiaaDoorP3
import Derived.Test.YteehgicnfageiaaDoorQ3
import Derived.Deep.Cut
namespace Go.Proofs.YteehgicnfageiaaDoor.DC
open Go.RowKit
open Go.Proofs.YteehgicnfageiaaDoor.C0 Go.Proofs.YteehgicnfageiaaDoor.D0 Go.Proofs.YteehgicnfageiaaDoor.HB Go.Proofs.YteehgicnfageiaaDoor.DS Go.Proofs.YteehgicnfageiaaDoor.RI Go.Proofs.YteehgicnfageiaaDoor.DX
open Go.Proofs.YteehgicnfageiaaDoor.N0 (Cd cdV)
open Go.Proofs.YteehgicnfageiaaDoor.P1 (CO coV ill)
open Go.Proofs.YteehgicnfageiaaDoor.P2 (newR macOf macOf_size)
open Go.Proofs.YteehgicnfageiaaDoor.Q3 (heap_set)

/-- A card in its bounds. -/
def CokN (m : Nat) (c : Cd) : Prop := (-9223372036854775808 ≤ c.id ∧ c.id ≤ 9223372036854775807) ∧ (-9223372036854775808 ≤ c.ep ∧ c.ep ≤ 9223372036854775807) ∧ (-9223372036854775808 ≤ c.tr ∧ c.tr ≤ 9223372036854775807) ∧ (-9223372036854775808 ≤ c.ix ∧ c.ix ≤ 9223372036854775807) ∧ c.pin.size ≤ m ∧ c.dt.size ≤ 100
abbrev Cok (c : Cd) : Prop := CokN 50 c
theorem zero_ok : Cok ⟨0, 0, ⟨#[]⟩, 0, 0, ⟨#[]⟩⟩ := by unfold Cok CokN; dsimp only; refine ⟨by omega, by omega, by omega, by omega, by decide, by decide⟩
theorem new_ok (id ep : Int) (pin : ByteArray) (ix : Int) (dt : ByteArray) (h1 : -100 ≤ id ∧ id ≤ 100) (h2 : -100 ≤ ep ∧ ep ≤ 100) (h3 : -100 ≤ ix ∧ ix ≤ 100) (h4 : dt.size ≤ 100) : Cok (newR id ep pin ix dt).c := by
  unfold newR
  split
  · exact zero_ok
  split
  · unfold Cok CokN; dsimp only; rw [macOf_size]; refine ⟨by omega, by omega, by omega, by omega, by omega, h4⟩
  · exact zero_ok
def cdO (c : Cd) : Obj := .cells #[.int .i64 c.id, .int .i64 c.ep, .string c.pin, .int .i64 c.tr, .int .i64 c.ix, .string c.dt] 26 (0, 0)
def Idx (c : Nat) (v : Value) : Prop := ∃ r : Nat, v = .int .i64 r ∧ r < c
def Small (v : Value) : Prop := ∃ z : Int, v = .int .i64 z ∧ 0 ≤ z ∧ z ≤ 7
def Txt (n : Nat) (v : Value) : Prop := ∃ t : ByteArray, v = .string t ∧ t.size ≤ n
def TLit (p : Nat) (v : Value) (w : World) : Prop := ∃ g, v = .slice (some ⟨g, 0, none⟩) 3 3 ∧ p < g ∧ g < w.heap.size ∧ w.heap[g]? = some (.cells #[.string ⟨#[49, 49, 49, 49]⟩, .string ⟨#[50, 50, 50, 50]⟩, .string ⟨#[51, 51, 51, 51]⟩] 9 (0, 0))
def Adr (p : Nat) (v : Value) (w : World) : Prop := ∃ g j, v = .pointer (some ⟨g, j, none⟩) ∧ p < g ∧ g < w.heap.size ∧ ∃ (ts : Array Value) (s : ByteArray), w.heap[g]? = some (.cells ts 9 (0, 0)) ∧ ts[j]? = some (.string s) ∧ s.size ≤ 4
def ShP (id : Int) (v : Value) : Prop := ∃ t : ByteArray, v = .agg #[.int .i64 id, .string t] ∧ t.size ≤ 5
def CoP (v : Value) : Prop := ∃ (c : Cd) (t : ByteArray) (k : Int), v = .agg #[.int .i64 c.id, .int .i64 c.ep, .string c.pin, .int .i64 c.tr, .int .i64 c.ix, .string c.dt, .string t, .int .i64 k] ∧ Cok c
def CdP (v : Value) : Prop := ∃ c : Cd, v = cdV c ∧ Cok c
def CrdP (B p : Nat) (v : Value) (w : World) : Prop := ∃ g c, v = .pointer (some ⟨g, 0, none⟩) ∧ p < g ∧ B ≤ g ∧ w.heap[g]? = some (cdO c) ∧ Cok c
theorem TLit.grown {w w' : World} {p : Nat} {v : Value} (h : TLit p v w) (hg : w.grownBy w' (some p)) : TLit p v w' := by
  obtain ⟨g, e, h1, h2, h3⟩ := h
  exact ⟨g, e, h1, Nat.lt_of_lt_of_le h2 hg.size, (hg.block g h2 (by simp; omega)).trans h3⟩
theorem Adr.grown {w w' : World} {p : Nat} {v : Value} (h : Adr p v w) (hg : w.grownBy w' (some p)) : Adr p v w' := by
  obtain ⟨g, j, e, h1, h2, ts, s, h3, h4⟩ := h
  exact ⟨g, j, e, h1, Nat.lt_of_lt_of_le h2 hg.size, ts, s, (hg.block g h2 (by simp; omega)).trans h3, h4⟩
theorem CrdP.grown {w w' : World} {B p : Nat} {v : Value} (h : CrdP B p v w) (hg : w.grownBy w' (some p)) : CrdP B p v w' := by
  obtain ⟨g, c, e, h1, h2, h3, h4⟩ := h
  exact ⟨g, c, e, h1, h2, DS.carryG h3 hg (by omega), h4⟩
theorem adr_lit {w : World} {p g q : Nat} (l1 : p < g) (l2 : g < w.heap.size) (l3 : w.heap[g]? = some (.cells #[.string ⟨#[49, 49, 49, 49]⟩, .string ⟨#[50, 50, 50, 50]⟩, .string ⟨#[51, 51, 51, 51]⟩] 9 (0, 0))) (hq : q < 3) : Adr p (.pointer (some ⟨g, q, none⟩)) w := by
  match q, hq with
  | 0, _ => exact ⟨g, 0, rfl, l1, l2, _, ⟨#[49, 49, 49, 49]⟩, l3, rfl, by decide⟩
  | 1, _ => exact ⟨g, 1, rfl, l1, l2, _, ⟨#[50, 50, 50, 50]⟩, l3, rfl, by decide⟩
  | 2, _ => exact ⟨g, 2, rfl, l1, l2, _, ⟨#[51, 51, 51, 51]⟩, l3, rfl, by decide⟩
/-- What each operation of the region leaves. -/
def good (W p q : Nat) (id : Int) (k : Nat) (v : Value) (w : World) : Prop :=
  match k with
  | 0 => v = .int .i64 id
  | 1 => v = .pointer (some ⟨p, 0, none⟩)
  | 2 => Idx 2 v
  | 3 => Small v
  | 4 => TLit p v w
  | 5 => v = .int .i64 id
  | 6 => v = .int .i64 (q : Nat)
  | 7 => Adr p v w
  | 8 => Txt 4 v
  | 9 => v = .int .i64 id
  | 10 => v = .pointer (some ⟨p, 0, none⟩)
  | 11 => v = .pointer (some ⟨p, 0, none⟩)
  | 12 => Idx 5 v
  | 13 => Txt 4 v
  | 14 => Txt 5 v
  | 15 => ShP id v
  | 16 => CoP v
  | 17 => CdP v
  | 18 => CrdP W p v w
  | _ => True
def slotOf (k : Nat) : Nat := if k < 18 then k + 8 else if k = 18 then 4 else 60
theorem good_grown {W p q : Nat} {id : Int} {w w' : World} (hg : w.grownBy w' (some p)) (k : Nat) (v : Value) (h : good W p q id k v w) : good W p q id k v w' := by
  unfold good at h ⊢
  split at h <;> first | exact h.grown hg | exact h
def setCd (x : World) (g : Nat) (c : Cd) : World := (((((x.setCell ⟨g, 0, none⟩ (.int .i64 c.id)).setCell ⟨g, 1, none⟩ (.int .i64 c.ep)).setCell ⟨g, 2, none⟩ (.string c.pin)).setCell ⟨g, 3, none⟩ (.int .i64 c.tr)).setCell ⟨g, 4, none⟩ (.int .i64 c.ix)).setCell ⟨g, 5, none⟩ (.string c.dt)
theorem store_card {x : World} {g : Nat} {b c : Cd} (h : x.heap[g]? = some (cdO b)) : (setCd x g c).heap[g]? = some (cdO c) := by
  unfold setCd cdO at *
  exact heap_set (heap_set (heap_set (heap_set (heap_set (heap_set h (by simp)) (by simp)) (by simp)) (by simp)) (by simp)) (by simp)
theorem store_other {x : World} {g k : Nat} {c : Cd} (h : k ≠ g) : (setCd x g c).heap[k]? = x.heap[k]? := by
  unfold setCd
  rw [heap_setCell_other _ _ _ _ h, heap_setCell_other _ _ _ _ h, heap_setCell_other _ _ _ _ h, heap_setCell_other _ _ _ _ h, heap_setCell_other _ _ _ _ h, heap_setCell_other _ _ _ _ h]
theorem store_size {x : World} {g : Nat} {c : Cd} : (setCd x g c).heap.size = x.heap.size := by unfold setCd; simp
theorem store_good {W p q g : Nat} {id : Int} {x : World} {b c : Cd} (_l1 : p < g) (_l2 : W ≤ g) (l3 : x.heap[g]? = some (cdO b)) (hok : Cok c) (k : Nat) (v : Value) (h : good W p q id k v x) : good W p q id k v (setCd x g c) := by
  have hT : ∀ {k : Nat} {ts : Array Value}, x.heap[k]? = some (.cells ts 9 (0, 0)) → k ≠ g := fun hk e => by
    subst e; rw [l3] at hk; unfold cdO at hk; injection hk with hk; injection hk with _ hk _; exact absurd hk (by decide)
  unfold good at h ⊢
  split at h
  case h_5 => obtain ⟨g', e, h1, h2, h3⟩ := h; exact ⟨g', e, h1, by rw [store_size]; exact h2, (store_other (hT h3)).trans h3⟩
  case h_8 => obtain ⟨g', j, e, h1, h2, ts, s, h3, h4⟩ := h; exact ⟨g', j, e, h1, by rw [store_size]; exact h2, ts, s, (store_other (hT h3)).trans h3, h4⟩
  case h_19 =>
    obtain ⟨g', c', e, h1, h2, h3, h4⟩ := h
    by_cases hgg : g' = g
    · subst hgg; exact ⟨g', c, e, h1, h2, store_card l3, hok⟩
    · exact ⟨g', c', e, h1, h2, (store_other hgg).trans h3, h4⟩
  all_goals exact h
theorem store_dr {B p n g : Nat} {v : Value} {x : World} {c : Cd} (h : Dr B p n v x) (hg : p < g) : Dr B p n v (setCd x g c) := by
  unfold setCd
  exact (((((h.set hg _).set hg _).set hg _).set hg _).set hg _).set hg _
theorem store_grown {W x : World} {p g : Nat} {c : Cd} (h : W.grownBy x (some p)) (hg : W.heap.size ≤ g) : W.grownBy (setCd x g c) (some p) := by
  unfold setCd
  exact DS.grown_new (DS.grown_new (DS.grown_new (DS.grown_new (DS.grown_new (DS.grown_new h hg _) hg _) hg _) hg _) hg _) hg _
theorem _root_.Go.Proofs.YteehgicnfageiaaDoor.RI.Reg.putN {m n : Nat} {d : Nat → Nat} {old : List (Nat × Value)} {good : Nat → Value → World → Prop} {inv : World → Prop} {l : Array Bool} {a : Act} {w w' : World} (h : Reg m n d old good inv l a w) (i : Nat) (v : Value)
    (hi : i < n) (hst : ∀ k x, k < n → good k x w → good k x w') (hg : ∀ x, good i x w') (hinv : inv w') : Reg m n d old good inv (l.setIfInBounds i true) (a.put none v) w' := by
  refine ⟨by simp [h.size], h.tmps, h.defs, h.olds, fun k hk hl => ?_, hinv⟩
  by_cases hki : k = i
  · subst hki; exact hg _
  · refine hst k _ hk (h.goods k hk ?_)
    rw [getD_set] at hl
    rw [if_neg (fun q => hki q.1.symm)] at hl
    exact hl
theorem new_any (id ep : Int) (pin : ByteArray) (ix : Int) (dt : ByteArray) (X : World) (h1 : 0 ≤ id ∧ id ≤ 100) (h2 : 0 ≤ ep ∧ ep ≤ 100) (h3 : pin.size ≤ 100) (h4 : dt.size ≤ 100) (h5 : 0 ≤ ix ∧ ix ≤ 100 := by omega) :
    Calls Tryd.prog 21 #[.int .i64 id, .int .i64 ep, .string pin, .agg #[.int .i64 ix, .string dt]] X fun e w' => (∃ v, e = .returned v ∧ CoP v) ∧ Below X.heap.size X w' := by
  refine (P3.new_spec id ep pin ix dt X (by unfold maxLen; omega) (by unfold maxLen; omega)).mono ?_
  rintro e w' ⟨rfl, hb⟩
  exact ⟨⟨_, rfl, (newR id ep pin ix dt).c, _, _, rfl, new_ok id ep pin ix dt (by omega) (by omega) (by omega) h4⟩, hb⟩
def pinsA : List ByteArray := [⟨#[]⟩, ⟨#[49, 50, 51]⟩, ⟨#[49, 50, 51, 52, 53, 54, 55, 56]⟩, ⟨#[49, 50, 51, 52, 53, 54, 55, 56, 57]⟩, ⟨#[49, 50, 97, 52]⟩]
def pinsB : List ByteArray := [⟨#[49, 49, 49, 49]⟩, ⟨#[50, 50, 50, 50]⟩, ⟨#[51, 51, 51, 51]⟩]
theorem pinsA_small : ∀ t ∈ pinsA, t.size ≤ 9 := by
  intro t ht
  simp only [pinsA, List.mem_cons, List.not_mem_nil, or_false] at ht
  rcases ht with rfl | rfl | rfl | rfl | rfl <;> decide
theorem pinsB_small : ∀ t ∈ pinsB, t.size ≤ 9 := by
  intro t ht
  simp only [pinsB, List.mem_cons, List.not_mem_nil, or_false] at ht
  rcases ht with rfl | rfl | rfl <;> decide
set_option maxRecDepth 100000 in
theorem pin_draw {B p n : Nat} {v : Value} {w : World} (h : Dr B p n v w) :
    Calls Tryd.prog 45 #[.pointer (some ⟨p, 0, none⟩)] w fun e w' => ∃ t : ByteArray, e = .returned (.string t) ∧ t.size ≤ 9 ∧ Dr B p n v w' ∧ w.grownBy w' (some p) := by
  go_enter Tryd.func45, Tryd.ntmps45
  go_wp2_with fail
  refine (drawOne 12 h (by omega) (by omega)).mono ?_
  rintro e w1 ⟨b, rfl, h1, g1⟩
  have hp := h1.lt
  cases b with
  | true =>
    go_wp2_with fail
    refine (pick_any pinsA 5 w1.heap.size rfl (by omega) (by omega) (h1.alloc _) (heap_alloc_new w1 _) (by omega)).mono ?_
    rintro e w2 ⟨t, ht, rfl, h2, g2⟩
    have G := grown_trans g1 (grown_trans (World.grownBy_alloc w1 _ _) g2)
    clear g1 g2
    go_wp2
    go_ret
    exact ⟨t, rfl, pinsA_small t ht, h2, G⟩
  | false =>
    go_wp2_with fail
    refine (pick_any pinsB 3 w1.heap.size rfl (by omega) (by omega) (h1.alloc _) (heap_alloc_new w1 _) (by omega)).mono ?_
    rintro e w2 ⟨t, ht, rfl, h2, g2⟩
    have G := grown_trans g1 (grown_trans (World.grownBy_alloc w1 _ _) g2)
    clear g1 g2
    go_wp2
    go_ret
    exact ⟨t, rfl, pinsB_small t ht, h2, G⟩
set_option maxRecDepth 100000 in
set_option maxHeartbeats 6400000 in
theorem card_draw {B p n : Nat} {v : Value} {w : World} (h : Dr B p n v w) :
    Calls Tryd.prog 43 #[.pointer (some ⟨p, 0, none⟩)] w fun e w' => ∃ c : Cd, e = .returned (cdV c) ∧ CokN 100 c ∧ Dr B p n v w' ∧ w.grownBy w' (some p) := by
  have hpl := h.lt
  unfold cdV
  go_enter Tryd.func43, Tryd.ntmps43
  go_wp2_with fail
  refine (drawN 3 (h.alloc _) (by omega) (by omega)).mono ?_
  rintro e W ⟨q, rfl, hq', d1, g1⟩
  have hq : q < 3 := by omega
  have KR : W.heap[w.heap.size]? = some (.cells #[.int .i64 0, .int .i64 0, .string ⟨#[]⟩, .int .i64 0, .int .i64 0, .string ⟨#[]⟩] 26 (0, 0)) := DS.carryG (heap_alloc_new w _) g1 (by omega)
  have G1 : w.grownBy W (some p) := grown_trans (World.grownBy_alloc w _ _) g1
  have hw1 : IntKind.i64.wrap (1 + (q : Int)) = 1 + (q : Int) := by rw [IntKind.wrap_i64]; omega
  obtain ⟨id, hid⟩ : ∃ id : Int, 1 + (q : Int) = id := ⟨_, rfl⟩
  have hwq : IntKind.i64.wrap (id - 1) = (q : Int) := by rw [IntKind.wrap_i64]; omega
  have hi1 : 1 ≤ id := by omega
  have hi3 : id ≤ 3 := by omega
  have hql : (q : Int) < 3 := by omega
  clear g1 h
  go_upto_region 2 with fail
  (try rw [hid])
  clear hid hw1
  go_cut [4] (fun s wx => CrdP W.heap.size p s wx ∧ Dr B p n v wx ∧ W.grownBy wx (some p))
  case first =>
    refine wp_region_inv (J := Reg 61 20 slotOf [(0, .pointer (some ⟨p, 0, none⟩)), (2, .pointer (some ⟨w.heap.size, 0, none⟩)), (3, .int .i64 id), (1, undef), (5, .pointer (some ⟨p, 0, none⟩)), (6, .int .i64 (q : Nat)), (7, .int .i64 id), (32, undef), (37, undef), (45, undef), (53, undef)] (good W.heap.size p q id) (fun x => Dr B p n v x ∧ W.grownBy x (some p))) (by kernel_rfl) ?h0 ?hs ?hd
    case h0 =>
      refine ⟨by simp, rfl, rfl, ?_, fun k hk hl => ?_, d1.drew, grown_drew (grown_refl W _)⟩
      · intro x hx
        simp only [List.mem_cons, List.not_mem_nil, or_false] at hx
        rcases hx with rfl | rfl | rfl | rfl | rfl | rfl | rfl | rfl | rfl | rfl | rfl <;> rfl
      · have : (Array.replicate 20 false).getD k true = false := by simp [hk]
        exact absurd hl (by show ¬ (Array.replicate 20 false).getD k true = true; rw [this]; decide)
    case hd =>
      intro l a x h hr
      have hall := all_listed h.size (by kernel_rfl) hr
      have q4 : CrdP W.heap.size p (a.tmps.getD 4 undef) x := h.goods 18 (by decide) (hall 18 (by decide))
      have q0 := h.olds (0, _) (List.mem_cons_self ..)
      have q2 := h.olds (2, .pointer (some ⟨w.heap.size, 0, none⟩)) (by simp)
      have q3 := h.olds (3, .int .i64 id) (by simp)
      have q1 := h.olds (1, undef) (by simp)
      have q5 := h.olds (5, .pointer (some ⟨p, 0, none⟩)) (by simp)
      have q6 := h.olds (6, .int .i64 (q : Nat)) (by simp)
      have q7 := h.olds (7, .int .i64 id) (by simp)
      have q32 := h.olds (32, undef) (by simp)
      have q37 := h.olds (37, undef) (by simp)
      have q45 := h.olds (45, undef) (by simp)
      have q53 := h.olds (53, undef) (by simp)
      obtain ⟨hdr, hgr⟩ := h.inv
      obtain ⟨⟨ls0⟩, ds⟩ := a
      have hl0 : ls0.length = 61 := h.tmps
      obtain rfl : ds = [] := h.defs
      obtain ⟨x0, ls1, rfl, hl1⟩ := cons_of hl0
      clear hl0
      obtain ⟨x1, ls2, rfl, hl2⟩ := cons_of hl1
      clear hl1
      obtain ⟨x2, ls3, rfl, hl3⟩ := cons_of hl2
      clear hl2
      obtain ⟨x3, ls4, rfl, hl4⟩ := cons_of hl3
      clear hl3
      obtain ⟨x4, ls5, rfl, hl5⟩ := cons_of hl4
      clear hl4
      obtain ⟨x5, ls6, rfl, hl6⟩ := cons_of hl5
      clear hl5
      obtain ⟨x6, ls7, rfl, hl7⟩ := cons_of hl6
      clear hl6
      obtain ⟨x7, ls8, rfl, hl8⟩ := cons_of hl7
      clear hl7
      obtain ⟨x8, ls9, rfl, hl9⟩ := cons_of hl8
      clear hl8
      obtain ⟨x9, ls10, rfl, hl10⟩ := cons_of hl9
      clear hl9
      obtain ⟨x10, ls11, rfl, hl11⟩ := cons_of hl10
      clear hl10
      obtain ⟨x11, ls12, rfl, hl12⟩ := cons_of hl11
      clear hl11
      obtain ⟨x12, ls13, rfl, hl13⟩ := cons_of hl12
      clear hl12
      obtain ⟨x13, ls14, rfl, hl14⟩ := cons_of hl13
      clear hl13
      obtain ⟨x14, ls15, rfl, hl15⟩ := cons_of hl14
      clear hl14
      obtain ⟨x15, ls16, rfl, hl16⟩ := cons_of hl15
      clear hl15
      obtain ⟨x16, ls17, rfl, hl17⟩ := cons_of hl16
      clear hl16
      obtain ⟨x17, ls18, rfl, hl18⟩ := cons_of hl17
      clear hl17
      obtain ⟨x18, ls19, rfl, hl19⟩ := cons_of hl18
      clear hl18
      obtain ⟨x19, ls20, rfl, hl20⟩ := cons_of hl19
      clear hl19
      obtain ⟨x20, ls21, rfl, hl21⟩ := cons_of hl20
      clear hl20
      obtain ⟨x21, ls22, rfl, hl22⟩ := cons_of hl21
      clear hl21
      obtain ⟨x22, ls23, rfl, hl23⟩ := cons_of hl22
      clear hl22
      obtain ⟨x23, ls24, rfl, hl24⟩ := cons_of hl23
      clear hl23
      obtain ⟨x24, ls25, rfl, hl25⟩ := cons_of hl24
      clear hl24
      obtain ⟨x25, ls26, rfl, hl26⟩ := cons_of hl25
      clear hl25
      obtain ⟨x26, ls27, rfl, hl27⟩ := cons_of hl26
      clear hl26
      obtain ⟨x27, ls28, rfl, hl28⟩ := cons_of hl27
      clear hl27
      obtain ⟨x28, ls29, rfl, hl29⟩ := cons_of hl28
      clear hl28
      obtain ⟨x29, ls30, rfl, hl30⟩ := cons_of hl29
      clear hl29
      obtain ⟨x30, ls31, rfl, hl31⟩ := cons_of hl30
      clear hl30
      obtain ⟨x31, ls32, rfl, hl32⟩ := cons_of hl31
      clear hl31
      obtain ⟨x32, ls33, rfl, hl33⟩ := cons_of hl32
      clear hl32
      obtain ⟨x33, ls34, rfl, hl34⟩ := cons_of hl33
      clear hl33
      obtain ⟨x34, ls35, rfl, hl35⟩ := cons_of hl34
      clear hl34
      obtain ⟨x35, ls36, rfl, hl36⟩ := cons_of hl35
      clear hl35
      obtain ⟨x36, ls37, rfl, hl37⟩ := cons_of hl36
      clear hl36
      obtain ⟨x37, ls38, rfl, hl38⟩ := cons_of hl37
      clear hl37
      obtain ⟨x38, ls39, rfl, hl39⟩ := cons_of hl38
      clear hl38
      obtain ⟨x39, ls40, rfl, hl40⟩ := cons_of hl39
      clear hl39
      obtain ⟨x40, ls41, rfl, hl41⟩ := cons_of hl40
      clear hl40
      obtain ⟨x41, ls42, rfl, hl42⟩ := cons_of hl41
      clear hl41
      obtain ⟨x42, ls43, rfl, hl43⟩ := cons_of hl42
      clear hl42
      obtain ⟨x43, ls44, rfl, hl44⟩ := cons_of hl43
      clear hl43
      obtain ⟨x44, ls45, rfl, hl45⟩ := cons_of hl44
      clear hl44
      obtain ⟨x45, ls46, rfl, hl46⟩ := cons_of hl45
      clear hl45
      obtain ⟨x46, ls47, rfl, hl47⟩ := cons_of hl46
      clear hl46
      obtain ⟨x47, ls48, rfl, hl48⟩ := cons_of hl47
      clear hl47
      obtain ⟨x48, ls49, rfl, hl49⟩ := cons_of hl48
      clear hl48
      obtain ⟨x49, ls50, rfl, hl50⟩ := cons_of hl49
      clear hl49
      obtain ⟨x50, ls51, rfl, hl51⟩ := cons_of hl50
      clear hl50
      obtain ⟨x51, ls52, rfl, hl52⟩ := cons_of hl51
      clear hl51
      obtain ⟨x52, ls53, rfl, hl53⟩ := cons_of hl52
      clear hl52
      obtain ⟨x53, ls54, rfl, hl54⟩ := cons_of hl53
      clear hl53
      obtain ⟨x54, ls55, rfl, hl55⟩ := cons_of hl54
      clear hl54
      obtain ⟨x55, ls56, rfl, hl56⟩ := cons_of hl55
      clear hl55
      obtain ⟨x56, ls57, rfl, hl57⟩ := cons_of hl56
      clear hl56
      obtain ⟨x57, ls58, rfl, hl58⟩ := cons_of hl57
      clear hl57
      obtain ⟨x58, ls59, rfl, hl59⟩ := cons_of hl58
      clear hl58
      obtain ⟨x59, ls60, rfl, hl60⟩ := cons_of hl59
      clear hl59
      obtain ⟨x60, ls61, rfl, hl61⟩ := cons_of hl60
      clear hl60
      obtain rfl := List.eq_nil_of_length_eq_zero hl61
      clear hl61
      obtain rfl : x0 = .pointer (some ⟨p, 0, none⟩) := q0
      obtain rfl : x2 = .pointer (some ⟨w.heap.size, 0, none⟩) := q2
      obtain rfl : x3 = .int .i64 id := q3
      obtain rfl : x1 = undef := q1
      obtain rfl : x5 = .pointer (some ⟨p, 0, none⟩) := q5
      obtain rfl : x6 = .int .i64 (q : Nat) := q6
      obtain rfl : x7 = .int .i64 id := q7
      obtain rfl : x32 = undef := q32
      obtain rfl : x37 = undef := q37
      obtain rfl : x45 = undef := q45
      obtain rfl : x53 = undef := q53
      have q4' : CrdP W.heap.size p x4 x := q4
      clear q4 h hall hr
      go_wp2_with fail
      go_meet
      case rel => exact ⟨q4', hdr, hgr⟩
    case hs =>
      intro l a x i h hi
      obtain ⟨hun, o, ho, hdep⟩ := mem_ready.1 hi
      have hin : i < 20 := (Array.getElem?_eq_some_iff.1 ho).1
      obtain ⟨hdr, hgr⟩ := h.inv
      have hgw : W.heap.size ≤ x.heap.size := hgr.size
      obtain ⟨⟨ls0⟩, ds⟩ := a
      have hl0 : ls0.length = 61 := h.tmps
      obtain rfl : ds = [] := h.defs
      obtain ⟨x0, ls1, rfl, hl1⟩ := cons_of hl0
      clear hl0
      obtain ⟨x1, ls2, rfl, hl2⟩ := cons_of hl1
      clear hl1
      obtain ⟨x2, ls3, rfl, hl3⟩ := cons_of hl2
      clear hl2
      obtain ⟨x3, ls4, rfl, hl4⟩ := cons_of hl3
      clear hl3
      obtain ⟨x4, ls5, rfl, hl5⟩ := cons_of hl4
      clear hl4
      obtain ⟨x5, ls6, rfl, hl6⟩ := cons_of hl5
      clear hl5
      obtain ⟨x6, ls7, rfl, hl7⟩ := cons_of hl6
      clear hl6
      obtain ⟨x7, ls8, rfl, hl8⟩ := cons_of hl7
      clear hl7
      obtain ⟨x8, ls9, rfl, hl9⟩ := cons_of hl8
      clear hl8
      obtain ⟨x9, ls10, rfl, hl10⟩ := cons_of hl9
      clear hl9
      obtain ⟨x10, ls11, rfl, hl11⟩ := cons_of hl10
      clear hl10
      obtain ⟨x11, ls12, rfl, hl12⟩ := cons_of hl11
      clear hl11
      obtain ⟨x12, ls13, rfl, hl13⟩ := cons_of hl12
      clear hl12
      obtain ⟨x13, ls14, rfl, hl14⟩ := cons_of hl13
      clear hl13
      obtain ⟨x14, ls15, rfl, hl15⟩ := cons_of hl14
      clear hl14
      obtain ⟨x15, ls16, rfl, hl16⟩ := cons_of hl15
      clear hl15
      obtain ⟨x16, ls17, rfl, hl17⟩ := cons_of hl16
      clear hl16
      obtain ⟨x17, ls18, rfl, hl18⟩ := cons_of hl17
      clear hl17
      obtain ⟨x18, ls19, rfl, hl19⟩ := cons_of hl18
      clear hl18
      obtain ⟨x19, ls20, rfl, hl20⟩ := cons_of hl19
      clear hl19
      obtain ⟨x20, ls21, rfl, hl21⟩ := cons_of hl20
      clear hl20
      obtain ⟨x21, ls22, rfl, hl22⟩ := cons_of hl21
      clear hl21
      obtain ⟨x22, ls23, rfl, hl23⟩ := cons_of hl22
      clear hl22
      obtain ⟨x23, ls24, rfl, hl24⟩ := cons_of hl23
      clear hl23
      obtain ⟨x24, ls25, rfl, hl25⟩ := cons_of hl24
      clear hl24
      obtain ⟨x25, ls26, rfl, hl26⟩ := cons_of hl25
      clear hl25
      obtain ⟨x26, ls27, rfl, hl27⟩ := cons_of hl26
      clear hl26
      obtain ⟨x27, ls28, rfl, hl28⟩ := cons_of hl27
      clear hl27
      obtain ⟨x28, ls29, rfl, hl29⟩ := cons_of hl28
      clear hl28
      obtain ⟨x29, ls30, rfl, hl30⟩ := cons_of hl29
      clear hl29
      obtain ⟨x30, ls31, rfl, hl31⟩ := cons_of hl30
      clear hl30
      obtain ⟨x31, ls32, rfl, hl32⟩ := cons_of hl31
      clear hl31
      obtain ⟨x32, ls33, rfl, hl33⟩ := cons_of hl32
      clear hl32
      obtain ⟨x33, ls34, rfl, hl34⟩ := cons_of hl33
      clear hl33
      obtain ⟨x34, ls35, rfl, hl35⟩ := cons_of hl34
      clear hl34
      obtain ⟨x35, ls36, rfl, hl36⟩ := cons_of hl35
      clear hl35
      obtain ⟨x36, ls37, rfl, hl37⟩ := cons_of hl36
      clear hl36
      obtain ⟨x37, ls38, rfl, hl38⟩ := cons_of hl37
      clear hl37
      obtain ⟨x38, ls39, rfl, hl39⟩ := cons_of hl38
      clear hl38
      obtain ⟨x39, ls40, rfl, hl40⟩ := cons_of hl39
      clear hl39
      obtain ⟨x40, ls41, rfl, hl41⟩ := cons_of hl40
      clear hl40
      obtain ⟨x41, ls42, rfl, hl42⟩ := cons_of hl41
      clear hl41
      obtain ⟨x42, ls43, rfl, hl43⟩ := cons_of hl42
      clear hl42
      obtain ⟨x43, ls44, rfl, hl44⟩ := cons_of hl43
      clear hl43
      obtain ⟨x44, ls45, rfl, hl45⟩ := cons_of hl44
      clear hl44
      obtain ⟨x45, ls46, rfl, hl46⟩ := cons_of hl45
      clear hl45
      obtain ⟨x46, ls47, rfl, hl47⟩ := cons_of hl46
      clear hl46
      obtain ⟨x47, ls48, rfl, hl48⟩ := cons_of hl47
      clear hl47
      obtain ⟨x48, ls49, rfl, hl49⟩ := cons_of hl48
      clear hl48
      obtain ⟨x49, ls50, rfl, hl50⟩ := cons_of hl49
      clear hl49
      obtain ⟨x50, ls51, rfl, hl51⟩ := cons_of hl50
      clear hl50
      obtain ⟨x51, ls52, rfl, hl52⟩ := cons_of hl51
      clear hl51
      obtain ⟨x52, ls53, rfl, hl53⟩ := cons_of hl52
      clear hl52
      obtain ⟨x53, ls54, rfl, hl54⟩ := cons_of hl53
      clear hl53
      obtain ⟨x54, ls55, rfl, hl55⟩ := cons_of hl54
      clear hl54
      obtain ⟨x55, ls56, rfl, hl56⟩ := cons_of hl55
      clear hl55
      obtain ⟨x56, ls57, rfl, hl57⟩ := cons_of hl56
      clear hl56
      obtain ⟨x57, ls58, rfl, hl58⟩ := cons_of hl57
      clear hl57
      obtain ⟨x58, ls59, rfl, hl59⟩ := cons_of hl58
      clear hl58
      obtain ⟨x59, ls60, rfl, hl60⟩ := cons_of hl59
      clear hl59
      obtain ⟨x60, ls61, rfl, hl61⟩ := cons_of hl60
      clear hl60
      obtain rfl := List.eq_nil_of_length_eq_zero hl61
      clear hl61
      obtain rfl : x0 = .pointer (some ⟨p, 0, none⟩) := h.olds (0, _) (List.mem_cons_self ..)
      obtain rfl : x2 = .pointer (some ⟨w.heap.size, 0, none⟩) := h.olds (2, _) (List.mem_cons_of_mem _ (List.mem_cons_self ..))
      obtain rfl : x3 = .int .i64 id := h.olds (3, _) (List.mem_cons_of_mem _ (List.mem_cons_of_mem _ (List.mem_cons_self ..)))
      have hcase : i = 0 ∨ i = 1 ∨ i = 2 ∨ i = 3 ∨ i = 4 ∨ i = 5 ∨ i = 6 ∨ i = 7 ∨ i = 8 ∨ i = 9 ∨ i = 10 ∨ i = 11 ∨ i = 12 ∨ i = 13 ∨ i = 14 ∨ i = 15 ∨ i = 16 ∨ i = 17 ∨ i = 18 ∨ i = 19 := by omega
      rcases hcase with rfl | rfl | rfl | rfl | rfl | rfl | rfl | rfl | rfl | rfl | rfl | rfl | rfl | rfl | rfl | rfl | rfl | rfl | rfl | rfl
      · refine wpOp_one rfl (fun K hK => ?_)
        clear hi ho hdep hun
        go_simp
        have T := h.put 0 (.int .i64 id) (by decide) (by decide) rfl (by decide) (fun k z _ hq => good_grown (grown_refl x _) k z hq) (rfl) ⟨hdr, grown_trans hgr (grown_refl x _)⟩
        exact hK.out _ _ T
      · refine wpOp_one rfl (fun K hK => ?_)
        clear hi ho hdep hun
        go_simp
        have T := h.put 1 (.pointer (some ⟨p, 0, none⟩)) (by decide) (by decide) rfl (by decide) (fun k z _ hq => good_grown (grown_refl x _) k z hq) (rfl) ⟨hdr, grown_trans hgr (grown_refl x _)⟩
        exact hK.out _ _ T
      · obtain rfl := Option.some.inj ho
        have t1 := listed_of (hdep ⟨1, .data⟩ (by simp) rfl)
        obtain rfl : x9 = .pointer (some ⟨p, 0, none⟩) := h.goods 1 (by decide) t1
        refine wpOp_one rfl (fun K hK => ?_)
        clear hi ho hdep hun
        go_simp
        go_at_call 49
        refine (drawN 2 hdr (by omega) (by omega)).mono ?_
        rintro e y ⟨r, rfl, hr, dy, gy⟩
        try go_wp2
        have T := h.put 2 (.int .i64 r) (by decide) (by decide) rfl (by decide) (fun k z _ hq => good_grown gy k z hq) (⟨r, rfl, by omega⟩) ⟨dy, grown_trans hgr gy⟩
        exact hK.out _ _ T
      · obtain rfl := Option.some.inj ho
        have t2 := listed_of (hdep ⟨2, .data⟩ (by simp) rfl)
        obtain ⟨r, rfl, hr⟩ : Idx 2 x10 := h.goods 2 (by decide) t2
        have hw1 : IntKind.i64.wrap (1 + (r : Int)) = 1 + (r : Int) := by rw [IntKind.wrap_i64]; omega
        refine wpOp_one rfl (fun K hK => ?_)
        clear hi ho hdep hun
        go_simp
        have T := h.put 3 (.int .i64 (1 + (r : Int))) (by decide) (by decide) rfl (by decide) (fun k z _ hq => good_grown (grown_refl x _) k z hq) (⟨_, rfl, by omega, by omega⟩) ⟨hdr, grown_trans hgr (grown_refl x _)⟩
        exact hK.out _ _ T
      · refine wpOp_one rfl (fun K hK => ?_)
        clear hi ho hdep hun
        go_simp
        have T := h.put 4 (.slice (some ⟨x.heap.size, 0, none⟩) 3 3) (by decide) (by decide) rfl (by decide) (fun k z _ hq => good_grown (World.grownBy_alloc x _ _) k z hq) (⟨x.heap.size, rfl, hdr.lt, by rw [asz]; omega, heap_alloc_new x _⟩) ⟨hdr.alloc _, grown_trans hgr (World.grownBy_alloc x _ _)⟩
        exact hK.out _ _ T
      · refine wpOp_one rfl (fun K hK => ?_)
        clear hi ho hdep hun
        go_simp
        have T := h.put 5 (.int .i64 id) (by decide) (by decide) rfl (by decide) (fun k z _ hq => good_grown (grown_refl x _) k z hq) (rfl) ⟨hdr, grown_trans hgr (grown_refl x _)⟩
        exact hK.out _ _ T
      · obtain rfl := Option.some.inj ho
        have t5 := listed_of (hdep ⟨5, .data⟩ (by simp) rfl)
        obtain rfl : x13 = .int .i64 id := h.goods 5 (by decide) t5
        refine wpOp_one rfl (fun K hK => ?_)
        clear hi ho hdep hun
        go_simp
        have T := h.put 6 (.int .i64 (q : Nat)) (by decide) (by decide) rfl (by decide) (fun k z _ hq => good_grown (grown_refl x _) k z hq) (rfl) ⟨hdr, grown_trans hgr (grown_refl x _)⟩
        exact hK.out _ _ T
      · obtain rfl := Option.some.inj ho
        have t4 := listed_of (hdep ⟨4, .data⟩ (by simp) rfl)
        have t6 := listed_of (hdep ⟨6, .data⟩ (by simp) rfl)
        obtain ⟨g, rfl, l1, l2, l3⟩ : TLit p x12 x := h.goods 4 (by decide) t4
        obtain rfl : x14 = .int .i64 (q : Nat) := h.goods 6 (by decide) t6
        refine wpOp_one rfl (fun K hK => ?_)
        clear hi ho hdep hun
        go_simp
        have T := h.put 7 (.pointer (some ⟨g, q, none⟩)) (by decide) (by decide) rfl (by decide) (fun k z _ hq => good_grown (grown_refl x _) k z hq) (adr_lit l1 l2 l3 hq) ⟨hdr, grown_trans hgr (grown_refl x _)⟩
        exact hK.out _ _ T
      · obtain rfl := Option.some.inj ho
        have t7 := listed_of (hdep ⟨7, .data⟩ (by simp) rfl)
        obtain ⟨g, j, rfl, l1, l2, ts, s, l3, l4, l5⟩ : Adr p x15 x := h.goods 7 (by decide) t7
        have hcl : x.cell? ⟨g, j, none⟩ = some (.string s) := (block_cell l3 j).trans l4
        refine wpOp_one rfl (fun K hK => ?_)
        clear hi ho hdep hun
        go_simp
        have T := h.put 8 (.string s) (by decide) (by decide) rfl (by decide) (fun k z _ hq => good_grown (grown_refl x _) k z hq) (⟨s, rfl, l5⟩) ⟨hdr, grown_trans hgr (grown_refl x _)⟩
        exact hK.out _ _ T
      · refine wpOp_one rfl (fun K hK => ?_)
        clear hi ho hdep hun
        go_simp
        have T := h.put 9 (.int .i64 id) (by decide) (by decide) rfl (by decide) (fun k z _ hq => good_grown (grown_refl x _) k z hq) (rfl) ⟨hdr, grown_trans hgr (grown_refl x _)⟩
        exact hK.out _ _ T
      · refine wpOp_one rfl (fun K hK => ?_)
        clear hi ho hdep hun
        go_simp
        have T := h.put 10 (.pointer (some ⟨p, 0, none⟩)) (by decide) (by decide) rfl (by decide) (fun k z _ hq => good_grown (grown_refl x _) k z hq) (rfl) ⟨hdr, grown_trans hgr (grown_refl x _)⟩
        exact hK.out _ _ T
      · refine wpOp_one rfl (fun K hK => ?_)
        clear hi ho hdep hun
        go_simp
        have T := h.put 11 (.pointer (some ⟨p, 0, none⟩)) (by decide) (by decide) rfl (by decide) (fun k z _ hq => good_grown (grown_refl x _) k z hq) (rfl) ⟨hdr, grown_trans hgr (grown_refl x _)⟩
        exact hK.out _ _ T
      · obtain rfl := Option.some.inj ho
        have t11 := listed_of (hdep ⟨11, .data⟩ (by simp) rfl)
        obtain rfl : x19 = .pointer (some ⟨p, 0, none⟩) := h.goods 11 (by decide) t11
        refine wpOp_one rfl (fun K hK => ?_)
        clear hi ho hdep hun
        go_simp
        go_at_call 49
        refine (drawN 5 hdr (by omega) (by omega)).mono ?_
        rintro e y ⟨r, rfl, hr, dy, gy⟩
        try go_wp2
        have T := h.put 12 (.int .i64 r) (by decide) (by decide) rfl (by decide) (fun k z _ hq => good_grown gy k z hq) (⟨r, rfl, by omega⟩) ⟨dy, grown_trans hgr gy⟩
        exact hK.out _ _ T
      · obtain rfl := Option.some.inj ho
        have t10 := listed_of (hdep ⟨10, .data⟩ (by simp) rfl)
        have t12 := listed_of (hdep ⟨12, .data⟩ (by simp) rfl)
        obtain rfl : x18 = .pointer (some ⟨p, 0, none⟩) := h.goods 10 (by decide) t10
        obtain ⟨r, rfl, hr⟩ : Idx 5 x20 := h.goods 12 (by decide) t12
        refine wpOp_one rfl (fun K hK => ?_)
        clear hi ho hdep hun
        go_simp
        go_at_call 77
        refine (drawBytes r hdr (by omega)).mono ?_
        rintro e y ⟨t, rfl, ht, dy, gy⟩
        try go_wp2
        have T := h.put 13 (.string t) (by decide) (by decide) rfl (by decide) (fun k z _ hq => good_grown gy k z hq) (⟨t, rfl, by omega⟩) ⟨dy, grown_trans hgr gy⟩
        exact hK.out _ _ T
      · obtain rfl := Option.some.inj ho
        have t13 := listed_of (hdep ⟨13, .data⟩ (by simp) rfl)
        obtain ⟨t, rfl, ht⟩ : Txt 4 x21 := h.goods 13 (by decide) t13
        have hm1 : (⟨#[109]⟩ : ByteArray).size = 1 := rfl
        have hct : ¬ 9223372036854775807 < 1 + t.size := by omega
        refine wpOp_one rfl (fun K hK => ?_)
        clear hi ho hdep hun
        go_simp
        have T := h.put 14 (.string ((⟨#[109]⟩ : ByteArray) ++ t)) (by decide) (by decide) rfl (by decide) (fun k z _ hq => good_grown (grown_refl x _) k z hq) (⟨_, rfl, by rw [ByteArray.size_append]; omega⟩) ⟨hdr, grown_trans hgr (grown_refl x _)⟩
        exact hK.out _ _ T
      · obtain rfl := Option.some.inj ho
        have t9 := listed_of (hdep ⟨9, .data⟩ (by simp) rfl)
        have t14 := listed_of (hdep ⟨14, .data⟩ (by simp) rfl)
        obtain rfl : x17 = .int .i64 id := h.goods 9 (by decide) t9
        obtain ⟨t, rfl, ht⟩ : Txt 5 x22 := h.goods 14 (by decide) t14
        refine wpOp_one rfl (fun K hK => ?_)
        clear hi ho hdep hun
        go_simp
        have T := h.put 15 (.agg #[.int .i64 id, .string t]) (by decide) (by decide) rfl (by decide) (fun k z _ hq => good_grown (grown_refl x _) k z hq) (⟨t, rfl, ht⟩) ⟨hdr, grown_trans hgr (grown_refl x _)⟩
        exact hK.out _ _ T
      · obtain rfl := Option.some.inj ho
        have t0 := listed_of (hdep ⟨0, .data⟩ (by simp) rfl)
        have t3 := listed_of (hdep ⟨3, .data⟩ (by simp) rfl)
        have t8 := listed_of (hdep ⟨8, .data⟩ (by simp) rfl)
        have t15 := listed_of (hdep ⟨15, .data⟩ (by simp) rfl)
        obtain rfl : x8 = .int .i64 id := h.goods 0 (by decide) t0
        obtain ⟨z, rfl, z1, z2⟩ : Small x11 := h.goods 3 (by decide) t3
        obtain ⟨s, rfl, hs⟩ : Txt 4 x16 := h.goods 8 (by decide) t8
        obtain ⟨t, rfl, ht⟩ : ShP id x23 := h.goods 15 (by decide) t15
        have HN : Hid (∀ X, Calls Tryd.prog 21 #[.int .i64 id, .int .i64 z, .string s, .agg #[.int .i64 id, .string t]] X fun e w' => (∃ v, e = .returned v ∧ CoP v) ∧ Below X.heap.size X w') := fun X => new_any id z s id t X (by omega) (by omega) (by omega) (by omega)
        refine wpOp_one rfl (fun K hK => ?_)
        clear hi ho hdep hun
        go_simp
        go_at_call 21
        refine (HN.out _).mono ?_
        rintro e y ⟨⟨u, rfl, hu⟩, hb⟩
        try go_wp2
        have T := h.put 16 (u) (by decide) (by decide) rfl (by decide) (fun k z _ hq => good_grown (DS.grown_of hb) k z hq) (hu) ⟨hdr.below hb, grown_trans hgr (DS.grown_of hb)⟩
        exact hK.out _ _ T
      · obtain rfl := Option.some.inj ho
        have t16 := listed_of (hdep ⟨16, .data⟩ (by simp) rfl)
        obtain ⟨c, tt, kk, rfl, hok⟩ : CoP x24 := h.goods 16 (by decide) t16
        obtain ⟨c0, c1, c2, c3, c4, c5⟩ := c
        dsimp only at *
        refine wpOp_one rfl (fun K hK => ?_)
        clear hi ho hdep hun
        go_simp
        have T := h.put 17 (.agg #[.int .i64 c0, .int .i64 c1, .string c2, .int .i64 c3, .int .i64 c4, .string c5]) (by decide) (by decide) rfl (by decide) (fun k z _ hq => good_grown (grown_refl x _) k z hq) (⟨⟨c0, c1, c2, c3, c4, c5⟩, rfl, hok⟩) ⟨hdr, grown_trans hgr (grown_refl x _)⟩
        exact hK.out _ _ T
      · refine wpOp_one rfl (fun K hK => ?_)
        clear hi ho hdep hun
        go_simp
        have T := h.put 18 (.pointer (some ⟨x.heap.size, 0, none⟩)) (by decide) (by decide) rfl (by decide) (fun k z _ hq => good_grown (World.grownBy_alloc x _ _) k z hq) (⟨x.heap.size, ⟨0, 0, ⟨#[]⟩, 0, 0, ⟨#[]⟩⟩, rfl, hdr.lt, hgw, heap_alloc_new x _, zero_ok⟩) ⟨hdr.alloc _, grown_trans hgr (World.grownBy_alloc x _ _)⟩
        exact hK.out _ _ T
      · obtain rfl := Option.some.inj ho
        have t17 := listed_of (hdep ⟨17, .data⟩ (by simp) rfl)
        have t18 := listed_of (hdep ⟨18, .data⟩ (by simp) rfl)
        obtain ⟨c, rfl, hok⟩ : CdP x25 := h.goods 17 (by decide) t17
        obtain ⟨g, b, rfl, l1, l2, l3, l4⟩ : CrdP W.heap.size p x4 x := h.goods 18 (by decide) t18
        obtain ⟨c0, c1, c2, c3, c4, c5⟩ := c
        obtain ⟨b0, b1, b2, b3, b4, b5⟩ := b
        have HC := store_card l3 (c := ⟨c0, c1, c2, c3, c4, c5⟩)
        have HG := store_good (id := id) (q := q) l1 l2 l3 hok
        have HD := store_dr hdr l1 (c := ⟨c0, c1, c2, c3, c4, c5⟩)
        have HW := store_grown hgr l2 (c := ⟨c0, c1, c2, c3, c4, c5⟩)
        unfold cdO at l3
        obtain ⟨f0, f1, f2, f3, f4, f5, ff⟩ := P2.blk6 l3
        unfold cdV
        dsimp only
        refine wpOp_one rfl (fun K hK => ?_)
        clear hi ho hdep hun
        go_simp
        have T := h.putN 19 undef (by decide) (fun k z _ hz => HG k z hz) (fun _ => trivial) ⟨HD, HW⟩
        exact hK.out _ _ T
  case rest =>
    obtain ⟨⟨g, c, rfl, hpg, hWg, kC, hok⟩, d2, g2⟩ := hcut
    have hRW : w.heap.size < W.heap.size := lt_some KR
    have kR := DS.carryG KR g2 (by omega)
    have G2 := grown_trans G1 g2
    obtain ⟨c0, c1, c2, c3, c4, c5⟩ := c
    unfold cdO at kC
    dsimp only at kC
    clear KR G1 g2 d1
    go_wp2_with fail
    refine (drawN 4 d2 (by omega) (by omega)).mono ?_
    rintro e w2 ⟨t, rfl, ht, d3, g3⟩
    have hgR : w.heap.size ≠ g := by omega
    have kC2 := DS.carryG kC g3 (by omega)
    obtain ⟨f0, f1, f2, f3, f4, f5, ff⟩ := P2.blk6 kC2
    have kC3 : (w2.setCell ⟨g, 3, none⟩ (.int .i64 (t : Nat))).heap[g]? = some (.cells #[.int .i64 c0, .int .i64 c1, .string c2, .int .i64 (t : Nat), .int .i64 c4, .string c5] 26 (0, 0)) := heap_set kC2 (by simp)
    have kR3 : (w2.setCell ⟨g, 3, none⟩ (.int .i64 (t : Nat))).heap[w.heap.size]? = some (.cells #[.int .i64 0, .int .i64 0, .string ⟨#[]⟩, .int .i64 0, .int .i64 0, .string ⟨#[]⟩] 26 (0, 0)) := (heap_setCell_other _ _ _ _ hgR).trans (DS.carryG kR g3 (by omega))
    have D3 := d3.set (g := g) (j := 3) hpg (.int .i64 (t : Nat))
    have G3 := DS.grown_new (j := 3) (grown_trans G2 g3) (show w.heap.size ≤ g by omega) (.int .i64 (t : Nat))
    clear kC2 kC kR d2 d3 g3 G2
    go_upto_region 4 with fail
    generalize w2.setCell ⟨g, 3, none⟩ (.int .i64 (t : Nat)) = x3 at *
    clear f0 f1 f2 f3 f4 f5 ff
    obtain ⟨ti, hti⟩ : ∃ ti : Int, (t : Int) = ti := ⟨_, rfl⟩
    rw [hti] at kC3
    (try rw [hti])
    have htr : 0 ≤ ti ∧ ti ≤ 3 := by omega
    clear hti ht
    unfold Cok CokN at hok
    dsimp only at hok
    go_wp2_with fail
    refine (drawOne 15 D3 (by omega) (by omega)).mono ?_
    rintro e w4 ⟨b, rfl, d4, g4⟩
    have k4 := DS.carryG kC3 g4 (by omega)
    have R4 := DS.carryG kR3 g4 (by omega)
    have G4 := grown_trans G3 g4
    clear kC3 kR3 D3 G3 g4
    cases b with
    | false =>
      obtain ⟨f0, f1, f2, f3, f4, f5, ff⟩ := P2.blk6 k4
      obtain ⟨r0, r1, r2, r3, r4, r5, rf⟩ := P2.blk6 R4
      have HD : Hid _ := store_dr d4 hpl (c := ⟨c0, c1, c2, ti, c4, c5⟩)
      have HW : Hid _ := store_grown G4 (Nat.le_refl _) (c := ⟨c0, c1, c2, ti, c4, c5⟩)
      have HOK : Hid (CokN 100 ⟨c0, c1, c2, ti, c4, c5⟩) := by unfold Hid CokN; dsimp only; omega
      clear G4 R4 d4 k4
      go_wp2
      exact bodyPost_ret (v := .agg #[.int .i64 c0, .int .i64 c1, .string c2, .int .i64 ti, .int .i64 c4, .string c5]) (by simp [results, Tryd.results43, go_sem, r0, r1, r2, r3, r4, r5]) rfl ⟨⟨c0, c1, c2, ti, c4, c5⟩, rfl, HOK.out, HD.out, HW.out⟩
    | true =>
      go_wp2_with fail
      refine (drawN 4 d4 (by omega) (by omega)).mono ?_
      rintro e w5 ⟨k, rfl, hk, d5, g5⟩
      have k5 := DS.carryG k4 g5 (by omega)
      have R5 := DS.carryG R4 g5 (by omega)
      have G5 := grown_trans G4 g5
      clear k4 R4 d4 G4 g5
      have hcase : k = 0 ∨ k = 1 ∨ k = 2 ∨ k = 3 := by omega
      rcases hcase with rfl | rfl | rfl | rfl
      · go_wp2_with fail
        refine (drawN 2 (d5.alloc _) (by omega) (by omega)).mono ?_
        rintro e w6 ⟨r, rfl, hr, d6, g6⟩
        obtain ⟨z, hz, z1, z2⟩ := lit_get [-1, 4] (-1) 4 (by decide) r (by simp; omega)
        have hcell := (lit_kept g6 d5.lt r).trans hz
        have hr2 : (r : Int) < 2 := by omega
        have k6 := DS.carryG (carryA k5 _) g6 (by omega)
        have R6 := DS.carryG (carryA R5 _) g6 (by omega)
        have G6 := grown_trans G5 (grown_trans (World.grownBy_alloc w5 _ _) g6)
        obtain ⟨f0, f1, f2, f3, f4, f5, ff⟩ := P2.blk6 k6
        have k7 : (w6.setCell ⟨g, 3, none⟩ (.int .i64 z)).heap[g]? = some (.cells #[.int .i64 c0, .int .i64 c1, .string c2, .int .i64 z, .int .i64 c4, .string c5] 26 (0, 0)) := heap_set k6 (by simp)
        have R7 : (w6.setCell ⟨g, 3, none⟩ (.int .i64 z)).heap[w.heap.size]? = some (.cells #[.int .i64 0, .int .i64 0, .string ⟨#[]⟩, .int .i64 0, .int .i64 0, .string ⟨#[]⟩] 26 (0, 0)) := (heap_setCell_other _ _ _ _ hgR).trans R6
        have D7 := d6.set (g := g) (j := 3) hpg (.int .i64 z)
        have G7 := DS.grown_new (j := 3) G6 (show w.heap.size ≤ g by omega) (.int .i64 z)
        clear k5 R5 d5 G5 g6 k6 R6 G6 hz d6
        go_upto_region 13 with fail
        generalize w6.setCell ⟨g, 3, none⟩ (.int .i64 z) = x7 at *
        clear f0 f1 f2 f3 f4 f5 ff hcell
        obtain ⟨f0, f1, f2, f3, f4, f5, ff⟩ := P2.blk6 k7
        obtain ⟨r0, r1, r2, r3, r4, r5, rf⟩ := P2.blk6 R7
        have HD : Hid _ := store_dr D7 hpl (c := ⟨c0, c1, c2, z, c4, c5⟩)
        have HW : Hid _ := store_grown G7 (Nat.le_refl _) (c := ⟨c0, c1, c2, z, c4, c5⟩)
        have HOK : Hid (CokN 100 ⟨c0, c1, c2, z, c4, c5⟩) := by unfold Hid CokN; dsimp only; omega
        clear D7 G7 R7 k7
        go_wp2
        exact bodyPost_ret (v := .agg #[.int .i64 c0, .int .i64 c1, .string c2, .int .i64 z, .int .i64 c4, .string c5]) (by simp [results, Tryd.results43, go_sem, r0, r1, r2, r3, r4, r5]) rfl ⟨⟨c0, c1, c2, z, c4, c5⟩, rfl, HOK.out, HD.out, HW.out⟩
      · go_wp2_with fail
        refine (drawN 3 (d5.alloc _) (by omega) (by omega)).mono ?_
        rintro e w6 ⟨r, rfl, hr, d6, g6⟩
        obtain ⟨z, hz, z1, z2⟩ := lit_get [0, 6, 7] 0 7 (by decide) r (by simp; omega)
        have hcell := (lit_kept g6 d5.lt r).trans hz
        have hr2 : (r : Int) < 3 := by omega
        have k6 := DS.carryG (carryA k5 _) g6 (by omega)
        have R6 := DS.carryG (carryA R5 _) g6 (by omega)
        have G6 := grown_trans G5 (grown_trans (World.grownBy_alloc w5 _ _) g6)
        obtain ⟨f0, f1, f2, f3, f4, f5, ff⟩ := P2.blk6 k6
        have k7 : (w6.setCell ⟨g, 0, none⟩ (.int .i64 z)).heap[g]? = some (.cells #[.int .i64 z, .int .i64 c1, .string c2, .int .i64 ti, .int .i64 c4, .string c5] 26 (0, 0)) := heap_set k6 (by simp)
        have R7 : (w6.setCell ⟨g, 0, none⟩ (.int .i64 z)).heap[w.heap.size]? = some (.cells #[.int .i64 0, .int .i64 0, .string ⟨#[]⟩, .int .i64 0, .int .i64 0, .string ⟨#[]⟩] 26 (0, 0)) := (heap_setCell_other _ _ _ _ hgR).trans R6
        have D7 := d6.set (g := g) (j := 0) hpg (.int .i64 z)
        have G7 := DS.grown_new (j := 0) G6 (show w.heap.size ≤ g by omega) (.int .i64 z)
        clear k5 R5 d5 G5 g6 k6 R6 G6 hz d6
        go_upto_region 13 with fail
        generalize w6.setCell ⟨g, 0, none⟩ (.int .i64 z) = x7 at *
        clear f0 f1 f2 f3 f4 f5 ff hcell
        obtain ⟨f0, f1, f2, f3, f4, f5, ff⟩ := P2.blk6 k7
        obtain ⟨r0, r1, r2, r3, r4, r5, rf⟩ := P2.blk6 R7
        have HD : Hid _ := store_dr D7 hpl (c := ⟨z, c1, c2, ti, c4, c5⟩)
        have HW : Hid _ := store_grown G7 (Nat.le_refl _) (c := ⟨z, c1, c2, ti, c4, c5⟩)
        have HOK : Hid (CokN 100 ⟨z, c1, c2, ti, c4, c5⟩) := by unfold Hid CokN; dsimp only; omega
        clear D7 G7 R7 k7
        go_wp2
        exact bodyPost_ret (v := .agg #[.int .i64 z, .int .i64 c1, .string c2, .int .i64 ti, .int .i64 c4, .string c5]) (by simp [results, Tryd.results43, go_sem, r0, r1, r2, r3, r4, r5]) rfl ⟨⟨z, c1, c2, ti, c4, c5⟩, rfl, HOK.out, HD.out, HW.out⟩
      · obtain ⟨f0, f1, f2, f3, f4, f5, ff⟩ := P2.blk6 k5
        have hc2 : c2.size ≤ 50 := hok.2.2.2.2.1
        go_wp2_with fail
        refine (spoil_any B p n v c2 _ d5 (by omega)).mono ?_
        rintro e w6 ⟨u, rfl, hu, d6, g6⟩
        have k6 := DS.carryG k5 g6 (by omega)
        have R6 := DS.carryG R5 g6 (by omega)
        have G6 := grown_trans G5 g6
        clear f0 f1 f2 f3 f4 f5 ff
        obtain ⟨f0, f1, f2, f3, f4, f5, ff⟩ := P2.blk6 k6
        have k7 : (w6.setCell ⟨g, 2, none⟩ (.string u)).heap[g]? = some (.cells #[.int .i64 c0, .int .i64 c1, .string u, .int .i64 ti, .int .i64 c4, .string c5] 26 (0, 0)) := heap_set k6 (by simp)
        have R7 : (w6.setCell ⟨g, 2, none⟩ (.string u)).heap[w.heap.size]? = some (.cells #[.int .i64 0, .int .i64 0, .string ⟨#[]⟩, .int .i64 0, .int .i64 0, .string ⟨#[]⟩] 26 (0, 0)) := (heap_setCell_other _ _ _ _ hgR).trans R6
        have D7 := d6.set (g := g) (j := 2) hpg (.string u)
        have G7 := DS.grown_new (j := 2) G6 (show w.heap.size ≤ g by omega) (.string u)
        clear k5 R5 d5 G5 g6 k6 R6 G6 d6
        go_upto_region 13 with fail
        generalize w6.setCell ⟨g, 2, none⟩ (.string u) = x7 at *
        clear f0 f1 f2 f3 f4 f5 ff
        obtain ⟨f0, f1, f2, f3, f4, f5, ff⟩ := P2.blk6 k7
        obtain ⟨r0, r1, r2, r3, r4, r5, rf⟩ := P2.blk6 R7
        have HD : Hid _ := store_dr D7 hpl (c := ⟨c0, c1, u, ti, c4, c5⟩)
        have HW : Hid _ := store_grown G7 (Nat.le_refl _) (c := ⟨c0, c1, u, ti, c4, c5⟩)
        have HOK : Hid (CokN 100 ⟨c0, c1, u, ti, c4, c5⟩) := by unfold Hid CokN; dsimp only; omega
        clear D7 G7 R7 k7
        go_wp2
        exact bodyPost_ret (v := .agg #[.int .i64 c0, .int .i64 c1, .string u, .int .i64 ti, .int .i64 c4, .string c5]) (by simp [results, Tryd.results43, go_sem, r0, r1, r2, r3, r4, r5]) rfl ⟨⟨c0, c1, u, ti, c4, c5⟩, rfl, HOK.out, HD.out, HW.out⟩
      · go_wp2_with fail
        refine (drawN 8 d5 (by omega) (by omega)).mono ?_
        rintro e w6 ⟨r, rfl, hr, d6, g6⟩
        have k6 := DS.carryG k5 g6 (by omega)
        have R6 := DS.carryG R5 g6 (by omega)
        have G6 := grown_trans G5 g6
        obtain ⟨f0, f1, f2, f3, f4, f5, ff⟩ := P2.blk6 k6
        have k7 : (w6.setCell ⟨g, 4, none⟩ (.int .i64 (r : Nat))).heap[g]? = some (.cells #[.int .i64 c0, .int .i64 c1, .string c2, .int .i64 ti, .int .i64 (r : Nat), .string c5] 26 (0, 0)) := heap_set k6 (by simp)
        have R7 : (w6.setCell ⟨g, 4, none⟩ (.int .i64 (r : Nat))).heap[w.heap.size]? = some (.cells #[.int .i64 0, .int .i64 0, .string ⟨#[]⟩, .int .i64 0, .int .i64 0, .string ⟨#[]⟩] 26 (0, 0)) := (heap_setCell_other _ _ _ _ hgR).trans R6
        have D7 := d6.set (g := g) (j := 4) hpg (.int .i64 (r : Nat))
        have G7 := DS.grown_new (j := 4) G6 (show w.heap.size ≤ g by omega) (.int .i64 (r : Nat))
        clear k5 R5 d5 G5 g6 k6 R6 G6 d6
        go_upto_region 13 with fail
        generalize w6.setCell ⟨g, 4, none⟩ (.int .i64 (r : Nat)) = x7 at *
        clear f0 f1 f2 f3 f4 f5 ff
        obtain ⟨f0, f1, f2, f3, f4, f5, ff⟩ := P2.blk6 k7
        obtain ⟨r0, r1, r2, r3, r4, r5, rf⟩ := P2.blk6 R7
        have HD : Hid _ := store_dr D7 hpl (c := ⟨c0, c1, c2, ti, (r : Nat), c5⟩)
        have HW : Hid _ := store_grown G7 (Nat.le_refl _) (c := ⟨c0, c1, c2, ti, (r : Nat), c5⟩)
        have HOK : Hid (CokN 100 ⟨c0, c1, c2, ti, (r : Nat), c5⟩) := by unfold Hid CokN; dsimp only; omega
        clear D7 G7 R7 k7
        go_wp2
        exact bodyPost_ret (v := .agg #[.int .i64 c0, .int .i64 c1, .string c2, .int .i64 ti, .int .i64 (r : Nat), .string c5]) (by simp [results, Tryd.results43, go_sem, r0, r1, r2, r3, r4, r5]) rfl ⟨⟨c0, c1, c2, ti, (r : Nat), c5⟩, rfl, HOK.out, HD.out, HW.out⟩
end Go.Proofs.YteehgicnfageiaaDoor.DC
