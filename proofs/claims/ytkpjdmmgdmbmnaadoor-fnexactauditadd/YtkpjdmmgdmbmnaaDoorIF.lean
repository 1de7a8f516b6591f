/-
  Lines of one's own, each with its own row of numbers; a log made of right lines, in the program.
-/
import Derived.Test.YtkpjdmmgdmbmnaaDoorIE
import Derived.Test.YtkpjdmmgdmbmnaaDoorIR
import Derived.Test.YtkpjdmmgdmbmnaaDoorAB
import Derived.Test.YtkpjdmmgdmbmnaaDoorI5
namespace Go.Proofs.YtkpjdmmgdmbmnaaDoor.IF
open Go.RowKit
open Go.Proofs.YtkpjdmmgdmbmnaaDoor.C0 Go.Proofs.YtkpjdmmgdmbmnaaDoor.HB
open Go.Proofs.YtkpjdmmgdmbmnaaDoor.A0 Go.Proofs.YtkpjdmmgdmbmnaaDoor.A1 Go.Proofs.YtkpjdmmgdmbmnaaDoor.A2 Go.Proofs.YtkpjdmmgdmbmnaaDoor.A4 Go.Proofs.YtkpjdmmgdmbmnaaDoor.A6 Go.Proofs.YtkpjdmmgdmbmnaaDoor.A7 Go.Proofs.YtkpjdmmgdmbmnaaDoor.I1 Go.Proofs.YtkpjdmmgdmbmnaaDoor.I2 Go.Proofs.YtkpjdmmgdmbmnaaDoor.I3 Go.Proofs.YtkpjdmmgdmbmnaaDoor.IC Go.Proofs.YtkpjdmmgdmbmnaaDoor.IE
attribute [local go_sem] Oper.semAt_some
def OLs (B : Nat) (w : World) (v : Value) (l : List Ln) : Prop :=
  ∃ vd : Nat → Value, w.ownsRow B 29 4 v l.length (flatL (fun k => (lAt l k, vd k)) l.length) ∧ (∀ k, k < l.length → OIRow B w (vd k) (lAt l k).cards) ∧
    ∀ i j, i < j → j < l.length → ∀ g, (vd i).ownBlock = some g → (vd j).ownBlock ≠ some g
theorem own_block {B : Nat} {e : TypeId} {sz n : Nat} {xs : List Value} {w : World} {v : Value} {g : Nat} (h : w.ownsRow B e sz v n xs) (hg : v.ownBlock = some g) : ∃ cs, w.heap[g]? = some (.cells cs e (0, 0)) := by
  rcases h.2 with ⟨rfl, _⟩ | ⟨g', cap, cur, rfl, _, hh, _⟩
  · simp [Value.ownBlock] at hg
  · have : g' = g := by simpa [Value.ownBlock] using hg
    subst this
    exact ⟨cur, hh⟩
theorem own_ne {B : Nat} {e T : TypeId} {sz n : Nat} {xs : List Value} {w : World} {v : Value} {b : Nat} {cs : Array Value} (h : w.ownsRow B e sz v n xs) (hb : w.heap[b]? = some (.cells cs T (0, 0))) (hT : T ≠ e) : ∀ g, v.ownBlock = some g → g ≠ b := fun g hg he => by
  subst he
  obtain ⟨cs', h2⟩ := own_block h hg
  rw [hb] at h2
  injection h2 with h3
  injection h3 with _ h4
  exact hT h4
theorem OLs.keep {B : Nat} {w w' : World} {v : Value} {l : List Ln} (h : OLs B w v l) (hk : ∀ (g : Nat) (cs : Array Value) (T : TypeId), w.heap[g]? = some (Obj.cells cs T (0, 0)) → T = 29 ∨ T = 2 → B ≤ g → w'.heap[g]? = w.heap[g]?) : OLs B w' v l := by
  obtain ⟨vd, h1, h2, h3⟩ := h
  refine ⟨vd, NU.own_keep h1 fun g hg => ?_, fun k hk' => NU.own_keep (h2 k hk') fun g hg => ?_, h3⟩
  · obtain ⟨cs, hc⟩ := own_block h1 hg
    exact hk g cs _ hc (.inl rfl) (h1.lt g hg).1
  · obtain ⟨cs, hc⟩ := own_block (h2 k hk') hg
    exact hk g cs _ hc (.inr rfl) ((h2 k hk').lt g hg).1
theorem OLs.below {B : Nat} {w w' : World} {v : Value} {l : List Ln} (h : OLs B w v l) (hb : Below w.heap.size w w') : OLs B w' v l :=
  h.keep fun g _ _ hg _ _ => hb.block g (Array.getElem?_eq_some_iff.1 hg).1
theorem OLs.mono {B B' : Nat} {w : World} {v : Value} {l : List Ln} (h : OLs B w v l) (hb : B' ≤ B) : OLs B' w v l := by
  obtain ⟨vd, h1, h2, h3⟩ := h
  exact ⟨vd, NU.own_mono h1 hb, fun k hk => NU.own_mono (h2 k hk) hb, h3⟩
theorem map_lAt (l : List Ln) : ((List.range l.length).map fun k => lAt l k) = l := by
  apply List.ext_getElem?
  intro i
  by_cases h1 : i < l.length
  · rw [List.getElem?_map, List.getElem?_range h1]
    exact (lAt_get h1).symm
  · rw [List.getElem?_eq_none (by simp; omega), List.getElem?_eq_none (by omega)]
theorem OLs.lrow {B : Nat} {w : World} {v : Value} {l : List Ln} (h : OLs B w v l) (hl : l.length ≤ maxLen) : LRow w v l := by
  obtain ⟨vd, h1, h2, _⟩ := h
  have := lrow_own h1 (fun k hk => (h2 k hk).irow) hl
  rwa [map_lAt] at this
theorem lAt_snoc (l : List Ln) (x : Ln) (k : Nat) (hk : k < l.length + 1) : lAt (l ++ [x]) k = if k < l.length then lAt l k else x := by
  unfold lAt
  by_cases h : k < l.length
  · rw [if_pos h, List.getD_eq_getElem?_getD, List.getElem?_append_left h, List.getD_eq_getElem?_getD]
  · rw [if_neg h, List.getD_eq_getElem?_getD, List.getElem?_append_right (by omega), show k - l.length = 0 by omega]; rfl
theorem OLs.nil (B : Nat) (w : World) : OLs B w (.slice none 0 0) [] := ⟨fun _ => undef, World.ownsRow_nil _ _ _ _, fun _ hk => absurd hk (Nat.not_lt_zero _), fun _ _ _ hj => absurd hj (Nat.not_lt_zero _)⟩
theorem OLs.snoc {B : Nat} {y : World} {v' : Value} {l : List Ln} {x : Ln} {vds : Nat → Value} {vd : Value} (hrow : y.ownsRow B 29 4 v' (l.length + 1) (flatL (fun k => (lAt l k, vds k)) l.length ++ four (x, vd)))
    (hi : ∀ k, k < l.length → OIRow B y (vds k) (lAt l k).cards) (hx : OIRow B y vd x.cards) (hd : ∀ i j, i < j → j < l.length → ∀ g, (vds i).ownBlock = some g → (vds j).ownBlock ≠ some g)
    (hnew : ∀ i, i < l.length → ∀ g, (vds i).ownBlock = some g → vd.ownBlock ≠ some g) : OLs B y v' (l ++ [x]) := by
  have hl : (l ++ [x]).length = l.length + 1 := by simp
  refine ⟨fun k => if k < l.length then vds k else vd, ?_, fun k hk => ?_, fun i j hij hj g hg => ?_⟩
  · rw [hl, flat_succ]
    have e1 : flatL (fun k => (lAt (l ++ [x]) k, if k < l.length then vds k else vd)) l.length = flatL (fun k => (lAt l k, vds k)) l.length := flat_ext _ _ _ fun k hk => by
      rw [lAt_snoc l x k (by omega), if_pos hk, if_pos hk]
    rw [e1, lAt_snoc l x l.length (by omega)]
    dsimp only
    rw [if_neg (Nat.lt_irrefl _), if_neg (Nat.lt_irrefl _)]
    exact hrow
  · rw [hl] at hk
    rw [lAt_snoc l x k hk]
    dsimp only
    by_cases h : k < l.length
    · rw [if_pos h, if_pos h]; exact hi k h
    · rw [if_neg h, if_neg h]; exact hx
  · rw [hl] at hj
    dsimp only at hg ⊢
    rw [if_pos (by omega)] at hg
    by_cases h : j < l.length
    · rw [if_pos h]; exact hd i j hij h g hg
    · rw [if_neg h]; exact hnew i (by omega) g hg
theorem block4 (w : World) (q : Ln × Value) (T : TypeId) : ∀ j u, (four q)[j]? = some u → (w.alloc (Obj.cells #[.int .i64 q.1.kind, .string q.1.name, .string q.1.sum, q.2] T)).cell? ((⟨w.heap.size, 0, none⟩ : Addr).add j) = some u :=
  World.news_of_block (Go.Deep.blk_alloc_new _ _)
theorem ot_keep {B : Nat} {w w' : World} {v : Value} {l : List ByteArray} (h : OT B w v l) (hk : ∀ (g : Nat) (cs : Array Value), w.heap[g]? = some (Obj.cells cs 9 (0, 0)) → w'.heap[g]? = w.heap[g]?) : OT B w' v l :=
  NU.own_keep h fun g hg => by obtain ⟨cs, hc⟩ := own_block h hg; exact hk g cs hc
theorem info_audit : (Tryd.prog.info? 26).map (fun i => (i.zero, i.size, i.bytes)) = some (some (.agg #[.slice none 0 0, .slice none 0 0]), 2, 48) := by kernel_rfl
theorem row_grown {B B' : Nat} {e E : TypeId} {sz n m : Nat} {xs ys : List Value} {V X : World} {v tl : Value} (h : V.ownsRow B e sz v n xs) (o : V.ownsRow B' E 4 tl m ys) (hg : V.grownBy X tl.ownBlock) (hT : E ≠ e) : X.ownsRow B e sz v n xs :=
  NU.own_keep h fun g hv => hg.block g (h.lt g hv).2 (fun q => by
    obtain ⟨cs, hc⟩ := own_block o q.symm
    exact own_ne h hc hT g hv rfl)
theorem row_set {B : Nat} {e T : TypeId} {sz n i b : Nat} {xs : List Value} {X : World} {v u : Value} {cs : Array Value} (h : X.ownsRow B e sz v n xs) (hb : X.heap[b]? = some (Obj.cells cs T (0, 0))) (hT : T ≠ e) : (X.setCell ⟨b, i, none⟩ u).ownsRow B e sz v n xs :=
  NU.own_keep h fun g hv => heap_setCell_other _ _ _ _ (own_ne h hb hT g hv)
theorem blk_grown {B' b : Nat} {E T : TypeId} {m : Nat} {ys : List Value} {V X : World} {tl : Value} {cs : Array Value} (hb : V.heap[b]? = some (Obj.cells cs T (0, 0))) (o : V.ownsRow B' E 4 tl m ys) (hg : V.grownBy X tl.ownBlock) (hT : T ≠ E) : X.heap[b]? = some (Obj.cells cs T (0, 0)) :=
  (hg.block b (Array.getElem?_eq_some_iff.1 hb).1 (fun q => own_ne o hb hT b q.symm rfl)).trans hb
theorem blk_grown1 {B' b : Nat} {E T : TypeId} {m : Nat} {ys : List Value} {V X : World} {tl : Value} {cs : Array Value} (hb : V.heap[b]? = some (Obj.cells cs T (0, 0))) (o : V.ownsRow B' E 1 tl m ys) (hg : V.grownBy X tl.ownBlock) (hT : T ≠ E) : X.heap[b]? = some (Obj.cells cs T (0, 0)) :=
  (hg.block b (Array.getElem?_eq_some_iff.1 hb).1 (fun q => own_ne o hb hT b q.symm rfl)).trans hb
theorem keeps_grown {B : Nat} {e : TypeId} {sz n : Nat} {xs : List Value} {V X : World} {v : Value} (h : V.ownsRow B e sz v n xs) (hg : V.grownBy X v.ownBlock) : KeepsOthers V X :=
  KeepsOthers.of_grownBy hg fun j o ej hj => by
    obtain ⟨cs, hc⟩ := own_block h ej
    rw [hc] at hj; cases hj; rfl
/-- What the log in the making holds when the lines of pre have come. -/
def InvA (w : World) (ls : List Ln) (pre : List Nat) (W : World) : Prop :=
  ∃ tl tk, W.heap[w.heap.size + 1]? = some (.cells #[tl, tk] 26 (0, 0)) ∧ OLs w.heap.size W tl (pre.map (lAt ls)) ∧ OT w.heap.size W tk (pre.map (linkN ls)) ∧
    W.heap[w.heap.size]? = some (.cells #[.slice none 0 0, .slice none 0 0] 26 (0, 0))
theorem InvA.keep {w : World} {ls : List Ln} {pre : List Nat} {W W' : World} (h : InvA w ls pre W) (hk : ∀ (g : Nat) (cs : Array Value) (T : TypeId), W.heap[g]? = some (Obj.cells cs T (0, 0)) → W'.heap[g]? = W.heap[g]?) : InvA w ls pre W' := by
  obtain ⟨tl, tk, h1, h2, h3, h4⟩ := h
  exact ⟨tl, tk, (hk _ _ _ h1).trans h1, h2.keep fun g cs T hg _ _ => hk g cs T hg, ot_keep h3 fun g cs hg => hk g cs _ hg, (hk _ _ _ h4).trans h4⟩
theorem InvA.own (w : World) (ls : List Ln) : Own (InvA w ls) := fun s W W' row hs hg hr => hs.keep fun g cs T hh => hg.block g (Array.getElem?_eq_some_iff.1 hh).1 (fun e => by
  obtain ⟨o, ho, hc⟩ := hr g e.symm
  rw [hh] at ho; cases ho; cases hc)
theorem InvA.below {w : World} {ls : List Ln} {pre : List Nat} {W W' : World} (h : InvA w ls pre W) (hb : Below W.heap.size W W') : InvA w ls pre W' := h.keep fun g _ _ hg => hb.block g (Array.getElem?_eq_some_iff.1 hg).1
set_option maxRecDepth 100000 in
set_option maxHeartbeats 3200000 in
theorem auditOf_any (a : Option Addr) (cap : Nat) (ls : List Ln) (vcs : Nat → Value) (w : World) (hL : K2.Laid w) (hl : Lies w a ls vcs) (hn : ls.length ≤ 12) (hr : ∀ k, lineB (lAt ls k) = true ∨ lAt ls k = lnZ) :
    Calls Tryd.prog 39 #[.slice a ls.length cap] w fun e w' => ∃ ul uk, e = .returned (.agg #[ul, uk]) ∧ OLs w.heap.size w' ul ls ∧ OT w.heap.size w' uk ((List.range ls.length).map (linkN ls)) ∧ Below w.heap.size w w' := by
  refine (callsIn_wide (n := 6)).1 ?_
  refine callsIn_of_wp_marks Tryd.func39 rfl trivial ?_ rfl
  simp only [Tryd.ntmps39, List.size_toArray, List.length_cons, List.length_nil, Nat.reduceAdd, Nat.reduceSub, Array.replicate_succ, Array.replicate_zero, List.push_toArray, List.append_toArray, List.nil_append, List.cons_append]
  gi_wp2_with fail
  refine ⟨trivial, (callsIn_wide.2 (linked_impl _ _ _ _)).mono ?_⟩
  rintro e w' ⟨rfl, rfl⟩
  gi_wp2_with fail
  have bR := heap_alloc_new w (.cells #[.slice none 0 0, .slice none 0 0] 26)
  have B0 := albel w (.cells #[.slice none 0 0, .slice none 0 0] 26)
  have bV := heap_alloc_new (w.alloc (.cells #[.slice none 0 0, .slice none 0 0] 26)) (.cells #[.slice none 0 0, .slice none 0 0] 26)
  rw [asz] at bV
  have bR2 := carryA (carryA bR (.cells #[.slice none 0 0, .slice none 0 0] 26)) (.cells #[.slice a ls.length cap] 23)
  have bV2 := carryA bV (.cells #[.slice a ls.length cap] 23)
  have B2 := (B0.alloc B0.size (.cells #[.slice none 0 0, .slice none 0 0] 26)).alloc (by simp; omega) (.cells #[.slice a ls.length cap] 23)
  have bL := Boxed.new ((w.alloc (.cells #[.slice none 0 0, .slice none 0 0] 26)).alloc (.cells #[.slice none 0 0, .slice none 0 0] 26)) 23 (.slice a ls.length cap)
  have hsz : ((w.alloc (.cells #[.slice none 0 0, .slice none 0 0] 26)).alloc (.cells #[.slice none 0 0, .slice none 0 0] 26)).heap.size = w.heap.size + 2 := by simp
  rw [hsz] at bL
  have hsz2 : (((w.alloc (.cells #[.slice none 0 0, .slice none 0 0] 26)).alloc (.cells #[.slice none 0 0, .slice none 0 0] 26)).alloc (.cells #[.slice a ls.length cap] 23)).heap.size = w.heap.size + 3 := by simp
  obtain ⟨W0, hW0⟩ : ∃ x, ((w.alloc (.cells #[.slice none 0 0, .slice none 0 0] 26)).alloc (.cells #[.slice none 0 0, .slice none 0 0] 26)).alloc (.cells #[.slice a ls.length cap] 23) = x := ⟨_, rfl⟩
  rw [hW0] at bR2 bV2 B2 bL hsz2
  rw [hW0]
  clear hW0 hsz bR bV B0
  refine wpIn_rangeFunc_ownH rfl (by omega) (gf := 91) (lb := #[.pointer (some ⟨w.heap.size + 1 + 1, 0, none⟩)]) rfl trivial (enters_of Tryd.func91 (by kernel_rfl) rfl)
    (linked_stops (6 - 1) (by omega) w W0 (w.heap.size + 1 + 1) cap a ls vcs hL B2 (by omega) bL.cell hl) belowK_t (belowK_b (by omega)) (Below.refl _ _) (fun _ => rfl)
    (fun pre W => InvA w ls pre W ∧ Below w.heap.size w W)
    (fun _ _ _ => False)
    (OwnFrom.and (Own.from (InvA.own w ls) _) (ownFrom_below (Nat.le_refl _) (by omega)))
    (fun _ _ _ _ _ hs _ _ => hs)
    ⟨⟨_, _, bV2, OLs.nil _ _, World.ownsRow_nil _ _ _ _, bR2⟩, B2⟩
    (fun x a' W => ∃ Bx, w.heap.size + 1 < Bx ∧ W.heap[Bx]? = some (.cells #[.int .i64 (lAt ls x).kind, .string (lAt ls x).name, .string (lAt ls x).sum, vcs x] 29 (0, 0)) ∧ a' = { tmps := #[.slice a ls.length cap, undef, .pointer (some ⟨w.heap.size, 0, none⟩), .pointer (some ⟨w.heap.size + 1, 0, none⟩), .pointer (some ⟨Bx, 0, none⟩), .string (linkN ls x), .slice a ls.length cap, .func (.func 91) #[] #[.pointer (some ⟨w.heap.size + 1 + 1, 0, none⟩)], lnV (lAt ls x) (vcs x), .string (linkN ls x), undef, undef, undef, undef, undef, undef, undef, undef, undef, undef, undef, undef, undef, undef], defers := [] })
    (fun x a' _ X Y row hs hg hr => by obtain ⟨Bx, h1, h2, h3⟩ := hs; exact ⟨Bx, h1, blk_own Bx (fun (_ : Unit) => Obj.cells #[.int .i64 (lAt ls x).kind, .string (lAt ls x).name, .string (lAt ls x).sum, vcs x] 29 (0, 0)) (fun _ => rfl) () X Y row h2 hg (fun r e => (hr r e).2), h3⟩)
    ?assign ?body ?done ?stop
  case assign =>
    rintro l pre x W K ⟨hI, hB⟩ hK
    obtain ⟨av, cv, hve, _, _⟩ := hl.cards x
    unfold I2.encs lnV
    unfold lnV at hK
    rw [hve] at hK ⊢
    gi_wp2
    have hlt : w.heap.size + 1 < W.heap.size := by obtain ⟨_, _, h, _⟩ := hI; exact (Array.getElem?_eq_some_iff.1 h).1
    exact hK _ _ ((KeepsOthers.alloc _ _).from _) ((Below.refl _ W).alloc hB.size _) ⟨hI.below (albel _ _), hB.alloc hB.size _⟩ ⟨W.heap.size, hlt, heap_alloc_new _ _, rfl⟩
  case body =>
    rintro l pre x a' W _ _ ⟨⟨tl, tk, b3, ho, hk, b0⟩, hB⟩ ⟨Bx, _, bX, rfl⟩ hlt
    have hck := hl.cards x
    have hxx := hl.fine x
    have hrx := hr x
    obtain ⟨av, cv, hve, _, _⟩ := hl.cards x
    unfold lnV
    rw [hve] at bX hck ⊢
    have hform1 : ∃ x y z, tl = .slice x y z := by obtain ⟨_, h, _⟩ := ho; rcases h.2 with ⟨h, _⟩ | ⟨_, _, _, h, _⟩ <;> exact ⟨_, _, _, h⟩
    have hform2 : ∃ x y z, tk = .slice x y z := by rcases hk.2 with ⟨h, _⟩ | ⟨_, _, _, h, _⟩ <;> exact ⟨_, _, _, h⟩
    obtain ⟨x1, y1, z1, rfl⟩ := hform1
    obtain ⟨x2, y2, z2, rfl⟩ := hform2
    have hsize : (lAt ls x).name.size ≤ 1000000 ∧ (lAt ls x).sum.size ≤ 1000000 ∧ (lAt ls x).cards.length ≤ 1048576 := by
      rcases hrx with h | h
      · have h1 := I5.right_sizes h
        have h2 := (line_small h).1
        omega
      · rw [h]; decide
    have HOW : Hid (∀ Y, Below w.heap.size w Y → Calls Tryd.prog 78 #[lnV (lAt ls x) (.slice av (lAt ls x).cards.length cv)] Y fun e w' => ∃ a cap, e = .returned (lnV (lAt ls x) (.slice a (lAt ls x).cards.length cap)) ∧ OIRow Y.heap.size w' (.slice a (lAt ls x).cards.length cap) (lAt ls x).cards ∧ Below Y.heap.size Y w') := fun Y hY => ID.ownLine_any (lAt ls x) _ Y (hck.below hY) hsize.2.2 hsize.1 hsize.2.1
    have hpm : Hid ((pre ++ [x]).map (lAt ls) = pre.map (lAt ls) ++ [lAt ls x]) := by unfold Hid; simp
    have hpk : Hid ((pre ++ [x]).map (linkN ls) = pre.map (linkN ls) ++ [linkN ls x]) := by unfold Hid; simp
    have hlm : (pre.map (lAt ls)).length ≤ 12 := by simp; omega
    have hlk : (pre.map (linkN ls)).length ≤ 12 := by simp; omega
    generalize pre.map (lAt ls) = L at *
    generalize pre.map (linkN ls) = Ks at *
    clear hck hxx hve hrx hsize
    unfold lnV at HOW
    generalize lAt ls x = ln at *
    obtain ⟨kind, name, sum, cs⟩ := ln
    generalize linkN ls x = lk at *
    dsimp only at *
    obtain ⟨vds, o1, o2, o3⟩ := ho
    have hx1 : ∀ (a3 : Option Addr) (c3 : Nat), ∀ u ∈ four (⟨kind, name, sum, cs⟩, .slice a3 cs.length c3), u.oneCell' = true := fun a3 c3 u hu => by
      simp only [four, List.mem_cons, List.not_mem_nil, or_false] at hu
      rcases hu with rfl | rfl | rfl | rfl <;> rfl
    gi_wp2_with fail
    refine IR.region_round (S := fun _ => True) (fun a' y => ∃ q10 q11 q12 q13 q14 q15 q16 gg cap1, a' = { tmps := #[.slice a ls.length cap, undef, .pointer (some ⟨w.heap.size, 0, none⟩), .pointer (some ⟨w.heap.size + 1, 0, none⟩), .pointer (some ⟨Bx, 0, none⟩), .string lk, .slice a ls.length cap, .func (.func 91) #[] #[.pointer (some ⟨w.heap.size + 1 + 1, 0, none⟩)], .agg #[.int .i64 kind, .string name, .string sum, .slice av cs.length cv], .string lk, q10, q11, q12, q13, q14, q15, q16, undef, undef, undef, undef, undef, undef, undef], defers := [] } ∧ y.heap[w.heap.size + 1]? = some (.cells #[.slice (some ⟨gg, 0, none⟩) (L.length + 1) cap1, .slice x2 y2 z2] 26 (0, 0)) ∧ OLs w.heap.size y (.slice (some ⟨gg, 0, none⟩) (L.length + 1) cap1) (L ++ [⟨kind, name, sum, cs⟩]) ∧ OT w.heap.size y (.slice x2 y2 z2) Ks ∧ y.heap[w.heap.size]? = some (.cells #[.slice none 0 0, .slice none 0 0] 26 (0, 0)) ∧ Below w.heap.size w y ∧ KeepsOthers W y ∧ Below w.heap.size W y) (by kernel_rfl) (by kernel_rfl) trivial ?_ ?_
    · intro hHeld
      have hbw : Below w.heap.size w W.drew := hB.drew
      have hbW : Below W.heap.size W W.drew := (Below.refl _ _).drew
      have b3 : W.drew.heap[w.heap.size + 1]? = some (.cells #[.slice x1 y1 z1, .slice x2 y2 z2] 26 (0, 0)) := b3
      obtain ⟨v0, v1, vf⟩ := I4.blk2a b3
      obtain ⟨x0, x1', x2', x3', xf⟩ := blk4f (w := W.drew) bX
      generalize W.drew = V1 at *
      refine TK.take_at 0 (some 10) (v := ?va0) rfl rfl (by kernel_rfl) (by kernel_rfl) (by kernel_rfl) (fun _ _ _ h => h) (Or.inl ⟨rfl, ?ha0⟩) hHeld ?ra0
      case ha0 => intro wq hSw; (try dsimp only at hSw); go_simp; all_goals (with_reducible rfl)
      try simp only [Act.put, List.setIfInBounds_toArray, List.set_cons_zero, List.set_cons_succ]
      refine wpAnyH_ready (rs := [1, 2]) (by kernel_rfl) (by simp) ?_
      refine AllReadyH.cons rfl (fun K hK => ?_) (AllReadyH.cons rfl (fun K hK => ?_) AllReadyH.nil)
      · go_simp
        skip
        try (go_wp2_with fail)
        refine hK.out _ _ ?_ (fun hHeld => ?_)
        · exact trivial
        clear hK K
        try simp only [Act.put, List.setIfInBounds_toArray, List.set_cons_zero, List.set_cons_succ]
        refine wpAnyH_ready (rs := [2]) (by kernel_rfl) (by simp) ?_
        refine AllReadyH.cons rfl (fun K hK => ?_) AllReadyH.nil
        go_simp
        skip
        try (go_wp2_with fail)
        refine hK.out _ _ ?_ (fun hHeld => ?_)
        · exact trivial
        clear hK K
        try simp only [Act.put, List.setIfInBounds_toArray, List.set_cons_zero, List.set_cons_succ]
        refine wpAnyH_ready (rs := [3]) (by kernel_rfl) (by simp) ?_
        refine AllReadyH.cons rfl (fun K hK => ?_) AllReadyH.nil
        go_simp
        (go_at_call 78; refine (HOW.out _ hbw).mono ?_; rintro e V2 ⟨a3, c3, rfl, ho3, hq⟩; have hbw := bel2 hbw hq; have b3 := (hq.block _ (Array.getElem?_eq_some_iff.1 b3).1).trans b3; have ho3 : OIRow W.heap.size V2 (.slice a3 cs.length c3) cs := NU.own_mono ho3 hbW.size; have hbW := bel2 hbW hq; clear hq; obtain ⟨v0, v1, vf⟩ := I4.blk2a b3)
        try (go_wp2_with fail)
        refine hK.out _ _ ?_ (fun hHeld => ?_)
        · exact trivial
        clear hK K
        try simp only [Act.put, List.setIfInBounds_toArray, List.set_cons_zero, List.set_cons_succ]
        refine wpAnyH_ready (rs := [4]) (by kernel_rfl) (by simp) ?_
        refine AllReadyH.cons rfl (fun K hK => ?_) AllReadyH.nil
        go_simp
        (have b3 := carryA b3 (.cells #[.int .i64 kind, .string name, .string sum, .slice a3 cs.length c3] 29); have hnews := block4 V2 (⟨kind, name, sum, cs⟩, .slice a3 cs.length c3) 29; have hb4 := albel V2 (.cells #[.int .i64 kind, .string name, .string sum, .slice a3 cs.length c3] 29); have hbw := bel2 hbw hb4; have hbW := bel2 hbW hb4; have ho3 := A6.OIRow.below ho3 hb4; clear hb4; dsimp only at hnews; generalize V2.alloc (.cells #[.int .i64 kind, .string name, .string sum, .slice a3 cs.length c3] 29) = V3 at *; generalize V2.heap.size = g3 at *; clear v0 v1 vf; obtain ⟨v0, v1, vf⟩ := I4.blk2a b3)
        try (go_wp2_with fail)
        refine hK.out _ _ ?_ (fun hHeld => ?_)
        · exact trivial
        clear hK K
        try simp only [Act.put, List.setIfInBounds_toArray, List.set_cons_zero, List.set_cons_succ]
        refine wpAnyH_ready (rs := [5]) (by kernel_rfl) (by simp) ?_
        refine AllReadyH.cons rfl (fun K hK => ?_) AllReadyH.nil
        (have o4 := NU.own_below o1 hbW; refine NU.step_app (by rfl) _ _ 23 29 (by rfl) w.heap.size (.agg #[.int .i64 0, .string ⟨#[]⟩, .string ⟨#[]⟩, .slice none 0 0]) 4 64 Tryd.underlying23 info_line (by rfl) (by decide) (by decide) (.slice x1 y1 z1) _ _ (by rfl) o4 (by omega) ⟨g3, 0, none⟩ 1 (four (⟨kind, name, sum, cs⟩, .slice a3 cs.length c3)) (by rfl) (by rfl) hnews (hx1 _ _) hbw.size ?_; intro gg cap1 xn hown1 hgrow hat hlt1; have b3n := blk_grown b3 o4 hgrow (by decide); clear v0 v1 vf; obtain ⟨v0, v1, vf⟩ := I4.blk2a b3n)
        refine hK.out _ _ ?_ (fun hHeld => ?_)
        · exact trivial
        clear hK K
        (try simp only [Act.put]); (try simp only [List.setIfInBounds_toArray]); (try simp only [List.set_cons_succ]); (try simp only [List.set_cons_zero])
        refine TK.take_at 6 (some 16) (v := ?vz16) rfl rfl (by kernel_rfl) (by kernel_rfl) (by kernel_rfl) (fun _ _ _ h => h) (Or.inl ⟨rfl, ?hz16⟩) hHeld ?rz16
        case hz16 => intro wq hSw; (try dsimp only at hSw); go_simp; all_goals (with_reducible rfl)
        (try simp only [Act.put]); (try simp only [List.setIfInBounds_toArray]); (try simp only [List.set_cons_succ]); (try simp only [List.set_cons_zero])
        refine wpAnyH_ready (rs := [7]) (by kernel_rfl) (by simp) ?_
        refine AllReadyH.cons rfl (fun K hK => ?_) AllReadyH.nil
        go_simp
        skip
        try (go_wp2_with fail)
        refine hK.out _ _ ?_ (fun hHeld => ?_)
        · exact trivial
        clear hK K
        (try simp only [Act.put]); (try simp only [List.setIfInBounds_toArray]); (try simp only [List.set_cons_succ]); (try simp only [List.set_cons_zero])
        refine wpAnyH_done (by kernel_rfl) ?_ _
        refine ⟨_, _, _, _, _, _, _, gg, cap1, rfl, ?_⟩
        have hnewd : ∀ i, i < L.length → ∀ g, (vds i).ownBlock = some g → (Value.slice a3 cs.length c3).ownBlock ≠ some g := fun i hi g hg e => by
          have e1 := ((o2 i hi).lt g hg).2
          have e2 := (ho3.lt g e).1
          omega
        have hx4 : OIRow w.heap.size xn (.slice a3 cs.length c3) cs := NU.own_mono (row_grown ho3 o4 hgrow (by decide)) hB.size
        have hbase := NU.grown_bel hbw o4 hgrow hbw.size
        have hbase2 : Below w.heap.size W xn := NU.grown_bel (hbW.mono hB.size) o4 hgrow hbw.size
        refine ⟨AB.heap_set (i := 0) b3n (by show 0 < 2; omega), OLs.snoc (row_set hown1 b3n (by decide)) (fun k hk => row_set (row_grown (A6.OIRow.below (o2 k hk) hbW) o4 hgrow (by decide)) b3n (by decide)) (row_set hx4 b3n (by decide)) o3 hnewd, row_set (row_grown (NU.own_below hk hbW) o4 hgrow (by decide)) b3n (by decide), ?_, hbase.setCell (p := ⟨w.heap.size + 1, 0, none⟩) (by simp) _, ((keeps_bel hbW).trans (keeps_grown o4 hgrow)).trans (KeepsOthers.setCell _ _ _), hbase2.setCell (p := ⟨w.heap.size + 1, 0, none⟩) (by simp) _⟩
        rw [heap_setCell_other _ _ _ _ (by show w.heap.size ≠ w.heap.size + 1; omega)]
        exact blk_grown (carry b0 hbW) o4 hgrow (by decide)
      · go_simp
        skip
        try (go_wp2_with fail)
        refine hK.out _ _ ?_ (fun hHeld => ?_)
        · exact trivial
        clear hK K
        try simp only [Act.put, List.setIfInBounds_toArray, List.set_cons_zero, List.set_cons_succ]
        refine wpAnyH_ready (rs := [1, 3]) (by kernel_rfl) (by simp) ?_
        refine AllReadyH.cons rfl (fun K hK => ?_) (AllReadyH.cons rfl (fun K hK => ?_) AllReadyH.nil)
        · go_simp
          skip
          try (go_wp2_with fail)
          refine hK.out _ _ ?_ (fun hHeld => ?_)
          · exact trivial
          clear hK K
          try simp only [Act.put, List.setIfInBounds_toArray, List.set_cons_zero, List.set_cons_succ]
          refine wpAnyH_ready (rs := [3]) (by kernel_rfl) (by simp) ?_
          refine AllReadyH.cons rfl (fun K hK => ?_) AllReadyH.nil
          go_simp
          (go_at_call 78; refine (HOW.out _ hbw).mono ?_; rintro e V2 ⟨a3, c3, rfl, ho3, hq⟩; have hbw := bel2 hbw hq; have b3 := (hq.block _ (Array.getElem?_eq_some_iff.1 b3).1).trans b3; have ho3 : OIRow W.heap.size V2 (.slice a3 cs.length c3) cs := NU.own_mono ho3 hbW.size; have hbW := bel2 hbW hq; clear hq; obtain ⟨v0, v1, vf⟩ := I4.blk2a b3)
          try (go_wp2_with fail)
          refine hK.out _ _ ?_ (fun hHeld => ?_)
          · exact trivial
          clear hK K
          try simp only [Act.put, List.setIfInBounds_toArray, List.set_cons_zero, List.set_cons_succ]
          refine wpAnyH_ready (rs := [4]) (by kernel_rfl) (by simp) ?_
          refine AllReadyH.cons rfl (fun K hK => ?_) AllReadyH.nil
          go_simp
          (have b3 := carryA b3 (.cells #[.int .i64 kind, .string name, .string sum, .slice a3 cs.length c3] 29); have hnews := block4 V2 (⟨kind, name, sum, cs⟩, .slice a3 cs.length c3) 29; have hb4 := albel V2 (.cells #[.int .i64 kind, .string name, .string sum, .slice a3 cs.length c3] 29); have hbw := bel2 hbw hb4; have hbW := bel2 hbW hb4; have ho3 := A6.OIRow.below ho3 hb4; clear hb4; dsimp only at hnews; generalize V2.alloc (.cells #[.int .i64 kind, .string name, .string sum, .slice a3 cs.length c3] 29) = V3 at *; generalize V2.heap.size = g3 at *; clear v0 v1 vf; obtain ⟨v0, v1, vf⟩ := I4.blk2a b3)
          try (go_wp2_with fail)
          refine hK.out _ _ ?_ (fun hHeld => ?_)
          · exact trivial
          clear hK K
          try simp only [Act.put, List.setIfInBounds_toArray, List.set_cons_zero, List.set_cons_succ]
          refine wpAnyH_ready (rs := [5]) (by kernel_rfl) (by simp) ?_
          refine AllReadyH.cons rfl (fun K hK => ?_) AllReadyH.nil
          (have o4 := NU.own_below o1 hbW; refine NU.step_app (by rfl) _ _ 23 29 (by rfl) w.heap.size (.agg #[.int .i64 0, .string ⟨#[]⟩, .string ⟨#[]⟩, .slice none 0 0]) 4 64 Tryd.underlying23 info_line (by rfl) (by decide) (by decide) (.slice x1 y1 z1) _ _ (by rfl) o4 (by omega) ⟨g3, 0, none⟩ 1 (four (⟨kind, name, sum, cs⟩, .slice a3 cs.length c3)) (by rfl) (by rfl) hnews (hx1 _ _) hbw.size ?_; intro gg cap1 xn hown1 hgrow hat hlt1; have b3n := blk_grown b3 o4 hgrow (by decide); clear v0 v1 vf; obtain ⟨v0, v1, vf⟩ := I4.blk2a b3n)
          refine hK.out _ _ ?_ (fun hHeld => ?_)
          · exact trivial
          clear hK K
          (try simp only [Act.put]); (try simp only [List.setIfInBounds_toArray]); (try simp only [List.set_cons_succ]); (try simp only [List.set_cons_zero])
          refine TK.take_at 6 (some 16) (v := ?vz26) rfl rfl (by kernel_rfl) (by kernel_rfl) (by kernel_rfl) (fun _ _ _ h => h) (Or.inl ⟨rfl, ?hz26⟩) hHeld ?rz26
          case hz26 => intro wq hSw; (try dsimp only at hSw); go_simp; all_goals (with_reducible rfl)
          (try simp only [Act.put]); (try simp only [List.setIfInBounds_toArray]); (try simp only [List.set_cons_succ]); (try simp only [List.set_cons_zero])
          refine wpAnyH_ready (rs := [7]) (by kernel_rfl) (by simp) ?_
          refine AllReadyH.cons rfl (fun K hK => ?_) AllReadyH.nil
          go_simp
          skip
          try (go_wp2_with fail)
          refine hK.out _ _ ?_ (fun hHeld => ?_)
          · exact trivial
          clear hK K
          (try simp only [Act.put]); (try simp only [List.setIfInBounds_toArray]); (try simp only [List.set_cons_succ]); (try simp only [List.set_cons_zero])
          refine wpAnyH_done (by kernel_rfl) ?_ _
          refine ⟨_, _, _, _, _, _, _, gg, cap1, rfl, ?_⟩
          have hnewd : ∀ i, i < L.length → ∀ g, (vds i).ownBlock = some g → (Value.slice a3 cs.length c3).ownBlock ≠ some g := fun i hi g hg e => by
            have e1 := ((o2 i hi).lt g hg).2
            have e2 := (ho3.lt g e).1
            omega
          have hx4 : OIRow w.heap.size xn (.slice a3 cs.length c3) cs := NU.own_mono (row_grown ho3 o4 hgrow (by decide)) hB.size
          have hbase := NU.grown_bel hbw o4 hgrow hbw.size
          have hbase2 : Below w.heap.size W xn := NU.grown_bel (hbW.mono hB.size) o4 hgrow hbw.size
          refine ⟨AB.heap_set (i := 0) b3n (by show 0 < 2; omega), OLs.snoc (row_set hown1 b3n (by decide)) (fun k hk => row_set (row_grown (A6.OIRow.below (o2 k hk) hbW) o4 hgrow (by decide)) b3n (by decide)) (row_set hx4 b3n (by decide)) o3 hnewd, row_set (row_grown (NU.own_below hk hbW) o4 hgrow (by decide)) b3n (by decide), ?_, hbase.setCell (p := ⟨w.heap.size + 1, 0, none⟩) (by simp) _, ((keeps_bel hbW).trans (keeps_grown o4 hgrow)).trans (KeepsOthers.setCell _ _ _), hbase2.setCell (p := ⟨w.heap.size + 1, 0, none⟩) (by simp) _⟩
          rw [heap_setCell_other _ _ _ _ (by show w.heap.size ≠ w.heap.size + 1; omega)]
          exact blk_grown (carry b0 hbW) o4 hgrow (by decide)
        · go_simp
          (go_at_call 78; refine (HOW.out _ hbw).mono ?_; rintro e V2 ⟨a3, c3, rfl, ho3, hq⟩; have hbw := bel2 hbw hq; have b3 := (hq.block _ (Array.getElem?_eq_some_iff.1 b3).1).trans b3; have ho3 : OIRow W.heap.size V2 (.slice a3 cs.length c3) cs := NU.own_mono ho3 hbW.size; have hbW := bel2 hbW hq; clear hq; obtain ⟨v0, v1, vf⟩ := I4.blk2a b3)
          try (go_wp2_with fail)
          refine hK.out _ _ ?_ (fun hHeld => ?_)
          · exact trivial
          clear hK K
          try simp only [Act.put, List.setIfInBounds_toArray, List.set_cons_zero, List.set_cons_succ]
          refine wpAnyH_ready (rs := [1, 4]) (by kernel_rfl) (by simp) ?_
          refine AllReadyH.cons rfl (fun K hK => ?_) (AllReadyH.cons rfl (fun K hK => ?_) AllReadyH.nil)
          · go_simp
            skip
            try (go_wp2_with fail)
            refine hK.out _ _ ?_ (fun hHeld => ?_)
            · exact trivial
            clear hK K
            try simp only [Act.put, List.setIfInBounds_toArray, List.set_cons_zero, List.set_cons_succ]
            refine wpAnyH_ready (rs := [4]) (by kernel_rfl) (by simp) ?_
            refine AllReadyH.cons rfl (fun K hK => ?_) AllReadyH.nil
            go_simp
            (have b3 := carryA b3 (.cells #[.int .i64 kind, .string name, .string sum, .slice a3 cs.length c3] 29); have hnews := block4 V2 (⟨kind, name, sum, cs⟩, .slice a3 cs.length c3) 29; have hb4 := albel V2 (.cells #[.int .i64 kind, .string name, .string sum, .slice a3 cs.length c3] 29); have hbw := bel2 hbw hb4; have hbW := bel2 hbW hb4; have ho3 := A6.OIRow.below ho3 hb4; clear hb4; dsimp only at hnews; generalize V2.alloc (.cells #[.int .i64 kind, .string name, .string sum, .slice a3 cs.length c3] 29) = V3 at *; generalize V2.heap.size = g3 at *; clear v0 v1 vf; obtain ⟨v0, v1, vf⟩ := I4.blk2a b3)
            try (go_wp2_with fail)
            refine hK.out _ _ ?_ (fun hHeld => ?_)
            · exact trivial
            clear hK K
            try simp only [Act.put, List.setIfInBounds_toArray, List.set_cons_zero, List.set_cons_succ]
            refine wpAnyH_ready (rs := [5]) (by kernel_rfl) (by simp) ?_
            refine AllReadyH.cons rfl (fun K hK => ?_) AllReadyH.nil
            (have o4 := NU.own_below o1 hbW; refine NU.step_app (by rfl) _ _ 23 29 (by rfl) w.heap.size (.agg #[.int .i64 0, .string ⟨#[]⟩, .string ⟨#[]⟩, .slice none 0 0]) 4 64 Tryd.underlying23 info_line (by rfl) (by decide) (by decide) (.slice x1 y1 z1) _ _ (by rfl) o4 (by omega) ⟨g3, 0, none⟩ 1 (four (⟨kind, name, sum, cs⟩, .slice a3 cs.length c3)) (by rfl) (by rfl) hnews (hx1 _ _) hbw.size ?_; intro gg cap1 xn hown1 hgrow hat hlt1; have b3n := blk_grown b3 o4 hgrow (by decide); clear v0 v1 vf; obtain ⟨v0, v1, vf⟩ := I4.blk2a b3n)
            refine hK.out _ _ ?_ (fun hHeld => ?_)
            · exact trivial
            clear hK K
            (try simp only [Act.put]); (try simp only [List.setIfInBounds_toArray]); (try simp only [List.set_cons_succ]); (try simp only [List.set_cons_zero])
            refine TK.take_at 6 (some 16) (v := ?vz36) rfl rfl (by kernel_rfl) (by kernel_rfl) (by kernel_rfl) (fun _ _ _ h => h) (Or.inl ⟨rfl, ?hz36⟩) hHeld ?rz36
            case hz36 => intro wq hSw; (try dsimp only at hSw); go_simp; all_goals (with_reducible rfl)
            (try simp only [Act.put]); (try simp only [List.setIfInBounds_toArray]); (try simp only [List.set_cons_succ]); (try simp only [List.set_cons_zero])
            refine wpAnyH_ready (rs := [7]) (by kernel_rfl) (by simp) ?_
            refine AllReadyH.cons rfl (fun K hK => ?_) AllReadyH.nil
            go_simp
            skip
            try (go_wp2_with fail)
            refine hK.out _ _ ?_ (fun hHeld => ?_)
            · exact trivial
            clear hK K
            (try simp only [Act.put]); (try simp only [List.setIfInBounds_toArray]); (try simp only [List.set_cons_succ]); (try simp only [List.set_cons_zero])
            refine wpAnyH_done (by kernel_rfl) ?_ _
            refine ⟨_, _, _, _, _, _, _, gg, cap1, rfl, ?_⟩
            have hnewd : ∀ i, i < L.length → ∀ g, (vds i).ownBlock = some g → (Value.slice a3 cs.length c3).ownBlock ≠ some g := fun i hi g hg e => by
              have e1 := ((o2 i hi).lt g hg).2
              have e2 := (ho3.lt g e).1
              omega
            have hx4 : OIRow w.heap.size xn (.slice a3 cs.length c3) cs := NU.own_mono (row_grown ho3 o4 hgrow (by decide)) hB.size
            have hbase := NU.grown_bel hbw o4 hgrow hbw.size
            have hbase2 : Below w.heap.size W xn := NU.grown_bel (hbW.mono hB.size) o4 hgrow hbw.size
            refine ⟨AB.heap_set (i := 0) b3n (by show 0 < 2; omega), OLs.snoc (row_set hown1 b3n (by decide)) (fun k hk => row_set (row_grown (A6.OIRow.below (o2 k hk) hbW) o4 hgrow (by decide)) b3n (by decide)) (row_set hx4 b3n (by decide)) o3 hnewd, row_set (row_grown (NU.own_below hk hbW) o4 hgrow (by decide)) b3n (by decide), ?_, hbase.setCell (p := ⟨w.heap.size + 1, 0, none⟩) (by simp) _, ((keeps_bel hbW).trans (keeps_grown o4 hgrow)).trans (KeepsOthers.setCell _ _ _), hbase2.setCell (p := ⟨w.heap.size + 1, 0, none⟩) (by simp) _⟩
            rw [heap_setCell_other _ _ _ _ (by show w.heap.size ≠ w.heap.size + 1; omega)]
            exact blk_grown (carry b0 hbW) o4 hgrow (by decide)
          · go_simp
            (have b3 := carryA b3 (.cells #[.int .i64 kind, .string name, .string sum, .slice a3 cs.length c3] 29); have hnews := block4 V2 (⟨kind, name, sum, cs⟩, .slice a3 cs.length c3) 29; have hb4 := albel V2 (.cells #[.int .i64 kind, .string name, .string sum, .slice a3 cs.length c3] 29); have hbw := bel2 hbw hb4; have hbW := bel2 hbW hb4; have ho3 := A6.OIRow.below ho3 hb4; clear hb4; dsimp only at hnews; generalize V2.alloc (.cells #[.int .i64 kind, .string name, .string sum, .slice a3 cs.length c3] 29) = V3 at *; generalize V2.heap.size = g3 at *; clear v0 v1 vf; obtain ⟨v0, v1, vf⟩ := I4.blk2a b3)
            try (go_wp2_with fail)
            refine hK.out _ _ ?_ (fun hHeld => ?_)
            · exact trivial
            clear hK K
            try simp only [Act.put, List.setIfInBounds_toArray, List.set_cons_zero, List.set_cons_succ]
            refine wpAnyH_ready (rs := [1]) (by kernel_rfl) (by simp) ?_
            refine AllReadyH.cons rfl (fun K hK => ?_) AllReadyH.nil
            go_simp
            skip
            try (go_wp2_with fail)
            refine hK.out _ _ ?_ (fun hHeld => ?_)
            · exact trivial
            clear hK K
            try simp only [Act.put, List.setIfInBounds_toArray, List.set_cons_zero, List.set_cons_succ]
            refine wpAnyH_ready (rs := [5]) (by kernel_rfl) (by simp) ?_
            refine AllReadyH.cons rfl (fun K hK => ?_) AllReadyH.nil
            (have o4 := NU.own_below o1 hbW; refine NU.step_app (by rfl) _ _ 23 29 (by rfl) w.heap.size (.agg #[.int .i64 0, .string ⟨#[]⟩, .string ⟨#[]⟩, .slice none 0 0]) 4 64 Tryd.underlying23 info_line (by rfl) (by decide) (by decide) (.slice x1 y1 z1) _ _ (by rfl) o4 (by omega) ⟨g3, 0, none⟩ 1 (four (⟨kind, name, sum, cs⟩, .slice a3 cs.length c3)) (by rfl) (by rfl) hnews (hx1 _ _) hbw.size ?_; intro gg cap1 xn hown1 hgrow hat hlt1; have b3n := blk_grown b3 o4 hgrow (by decide); clear v0 v1 vf; obtain ⟨v0, v1, vf⟩ := I4.blk2a b3n)
            refine hK.out _ _ ?_ (fun hHeld => ?_)
            · exact trivial
            clear hK K
            (try simp only [Act.put]); (try simp only [List.setIfInBounds_toArray]); (try simp only [List.set_cons_succ]); (try simp only [List.set_cons_zero])
            refine TK.take_at 6 (some 16) (v := ?vz46) rfl rfl (by kernel_rfl) (by kernel_rfl) (by kernel_rfl) (fun _ _ _ h => h) (Or.inl ⟨rfl, ?hz46⟩) hHeld ?rz46
            case hz46 => intro wq hSw; (try dsimp only at hSw); go_simp; all_goals (with_reducible rfl)
            (try simp only [Act.put]); (try simp only [List.setIfInBounds_toArray]); (try simp only [List.set_cons_succ]); (try simp only [List.set_cons_zero])
            refine wpAnyH_ready (rs := [7]) (by kernel_rfl) (by simp) ?_
            refine AllReadyH.cons rfl (fun K hK => ?_) AllReadyH.nil
            go_simp
            skip
            try (go_wp2_with fail)
            refine hK.out _ _ ?_ (fun hHeld => ?_)
            · exact trivial
            clear hK K
            (try simp only [Act.put]); (try simp only [List.setIfInBounds_toArray]); (try simp only [List.set_cons_succ]); (try simp only [List.set_cons_zero])
            refine wpAnyH_done (by kernel_rfl) ?_ _
            refine ⟨_, _, _, _, _, _, _, gg, cap1, rfl, ?_⟩
            have hnewd : ∀ i, i < L.length → ∀ g, (vds i).ownBlock = some g → (Value.slice a3 cs.length c3).ownBlock ≠ some g := fun i hi g hg e => by
              have e1 := ((o2 i hi).lt g hg).2
              have e2 := (ho3.lt g e).1
              omega
            have hx4 : OIRow w.heap.size xn (.slice a3 cs.length c3) cs := NU.own_mono (row_grown ho3 o4 hgrow (by decide)) hB.size
            have hbase := NU.grown_bel hbw o4 hgrow hbw.size
            have hbase2 : Below w.heap.size W xn := NU.grown_bel (hbW.mono hB.size) o4 hgrow hbw.size
            refine ⟨AB.heap_set (i := 0) b3n (by show 0 < 2; omega), OLs.snoc (row_set hown1 b3n (by decide)) (fun k hk => row_set (row_grown (A6.OIRow.below (o2 k hk) hbW) o4 hgrow (by decide)) b3n (by decide)) (row_set hx4 b3n (by decide)) o3 hnewd, row_set (row_grown (NU.own_below hk hbW) o4 hgrow (by decide)) b3n (by decide), ?_, hbase.setCell (p := ⟨w.heap.size + 1, 0, none⟩) (by simp) _, ((keeps_bel hbW).trans (keeps_grown o4 hgrow)).trans (KeepsOthers.setCell _ _ _), hbase2.setCell (p := ⟨w.heap.size + 1, 0, none⟩) (by simp) _⟩
            rw [heap_setCell_other _ _ _ _ (by show w.heap.size ≠ w.heap.size + 1; omega)]
            exact blk_grown (carry b0 hbW) o4 hgrow (by decide)
    · rintro a' y ⟨q10, q11, q12, q13, q14, q15, q16, gg, cap1, rfl, hb3, hol, hok, hb0, hbw, hkw, hbW⟩
      obtain ⟨i1, hi1, hz0, hz1, hz2⟩ := info_parts I1.info_str
      obtain ⟨v0, v1, vf⟩ := I4.blk2a hb3
      have hok' : (y.alloc (.cells #[.string lk] 9)).ownsRow w.heap.size 9 1 (.slice x2 y2 z2) Ks.length (Ks.map Value.string) := NU.own_below hok (albel y _)
      have hsy : w.heap.size ≤ (y.alloc (.cells #[.string lk] 9)).heap.size := by have := hbw.size; simp; omega
      have b3a := carryA hb3 (.cells #[.string lk] 9)
      gi_wp2_with (gi_at_builtin; refine wpListIn_append_own _ rfl _ _ 24 rfl w.heap.size 9 i1 (.string ⟨#[]⟩) 1 16 Tryd.underlying24 hi1 hz0 hz1 hz2 rfl (by decide) _ _ _ rfl hok' ⟨y.heap.size, 0, none⟩ 1 1 [.string lk] rfl rfl (I1.one_str _ _ _) (by simp [Value.oneCell']) (by unfold maxLen; omega) (by omega) hsy ?_; intro v' y3 hown' hgrow _; obtain ⟨g', cap', rfl⟩ := ownsRow_succ hown'; have b3n := blk_grown1 b3a hok' hgrow (by decide); clear v0 v1 vf; obtain ⟨v0, v1, vf⟩ := I4.blk2a b3n)
      have hq : ∀ (g : Nat) (cs : Array Value) (T : TypeId), y.heap[g]? = some (Obj.cells cs T (0, 0)) → T ≠ 9 → g ≠ w.heap.size + 1 → (y3.setCell ⟨w.heap.size + 1, 1, none⟩ (.slice (some ⟨g', 0, none⟩) (Ks.length + 1) cap')).heap[g]? = y.heap[g]? := fun g cs T hg hT hne => by
        rw [heap_setCell_other _ _ _ _ hne, blk_grown1 (carryA hg _) hok' hgrow hT, hg]
      refine ⟨((hkw.trans (KeepsOthers.alloc _ _)).trans (keeps_grown hok' hgrow)).trans (KeepsOthers.setCell _ _ _) |>.from _, (NU.grown_bel (hbW.alloc hbw.size _) hok' hgrow hsy).setCell (p := ⟨w.heap.size + 1, 1, none⟩) (by simp) _, ⟨_, _, AB.heap_set (i := 1) b3n (by show 1 < 2; omega), ?_, ?_, ?_⟩, (NU.grown_bel (hbw.alloc hbw.size _) hok' hgrow hsy).setCell (p := ⟨w.heap.size + 1, 1, none⟩) (by simp) _⟩
      · rw [hpm.out]
        refine hol.keep fun g cs T hg hT _ => hq g cs T hg ?_ ?_
        · rcases hT with rfl | rfl <;> decide
        · intro e
          rw [e, hb3] at hg
          cases hg
          rcases hT with h | h <;> exact absurd h (by decide)
      · rw [hpk.out]
        exact OT.snoc (row_set hown' b3n (by decide))
      · rw [hq _ _ _ hb0 (by decide) (by omega)]; exact hb0
  case done =>
    rintro D xs W hD rfl ⟨⟨tl, tk, b3, ho, hk, b0⟩, hB⟩ hK
    have hform1 : ∃ x y z, tl = .slice x y z := by obtain ⟨_, h, _⟩ := ho; rcases h.2 with ⟨h, _⟩ | ⟨_, _, _, h, _⟩ <;> exact ⟨_, _, _, h⟩
    have hform2 : ∃ x y z, tk = .slice x y z := by rcases hk.2 with ⟨h, _⟩ | ⟨_, _, _, h, _⟩ <;> exact ⟨_, _, _, h⟩
    obtain ⟨x1, y1, z1, rfl⟩ := hform1
    obtain ⟨x2, y2, z2, rfl⟩ := hform2
    have v0 := block_cell b3 0
    have v1 := block_cell b3 1
    have r0 := block_cell b0 0
    have r1 := block_cell b0 1
    have rf : ∀ o, W.frozen? ⟨w.heap.size, o, none⟩ = false := (I4.blk2a b0).2.2
    gi_wp2
    have hK' := ((KeepsOthers.setCell W ⟨w.heap.size, 0, none⟩ (.slice x1 y1 z1)).trans (KeepsOthers.setCell _ ⟨w.heap.size, 1, none⟩ (.slice x2 y2 z2))).same D _ hK rfl
    refine ⟨by simp, .inl ⟨_, _, rfl, run_takeDeferred hK', ?_⟩⟩
    have hb1 := AB.heap_set (i := 1) (v := .slice x2 y2 z2) (AB.heap_set (i := 0) (v := .slice x1 y1 z1) b0 (by show 0 < 2; omega)) (by show 1 < 2; omega)
    have hb2 := (World.putObj_heap_other (w := (W.setCell ⟨w.heap.size, 0, none⟩ (.slice x1 y1 z1)).setCell ⟨w.heap.size, 1, none⟩ (.slice x2 y2 z2)) (o := .deferred none) (show w.heap.size ≠ D by omega)).trans hb1
    have c0 := block_cell hb2 0
    have c1 := block_cell hb2 1
    have hq : ∀ (g : Nat) (cs : Array Value) (T : TypeId), W.heap[g]? = some (Obj.cells cs T (0, 0)) → T ≠ 26 → (((W.setCell ⟨w.heap.size, 0, none⟩ (.slice x1 y1 z1)).setCell ⟨w.heap.size, 1, none⟩ (.slice x2 y2 z2)).putObj D (.deferred none)).heap[g]? = W.heap[g]? := fun g cs T hg hT => by
      have hne : g ≠ w.heap.size := fun e => by rw [e, b0] at hg; cases hg; exact hT rfl
      have hnD : g ≠ D := fun e => by rw [e, hK] at hg; cases hg
      rw [World.putObj_heap_other hnD, heap_setCell_other _ _ _ _ hne, heap_setCell_other _ _ _ _ hne]
    have hm : (List.range ls.length).map (lAt ls) = ls := map_lAt ls
    refine ⟨.agg #[.slice x1 y1 z1, .slice x2 y2 z2], by simp [results, Tryd.results39, go_sem, c0, c1], _, _, rfl, ?_, ?_, ?_⟩
    · rw [hm] at ho
      exact ho.keep fun g cs T hg hT _ => hq g cs T hg (by rcases hT with rfl | rfl <;> decide)
    · exact ot_keep hk fun g cs hg => hq g cs _ hg (by decide)
    · exact ((hB.setCell (p := ⟨w.heap.size, 0, none⟩) (by simp) _).setCell (p := ⟨w.heap.size, 1, none⟩) (by simp) _).trans (belowK_b (w := w) (Nat.le_refl _) _ D _ _ (by omega) hK' rfl rfl)
  case stop =>
    rintro D c pre W _ _ h _
    exact h.elim
end Go.Proofs.YtkpjdmmgdmbmnaaDoor.IF
