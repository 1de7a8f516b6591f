/-
  T6 T7 T8 T9: parts of the proof, one behind the other.
-/
import Derived.Test.YtfiabbfdnmldjaaGreatDoorPB
import Derived.Maps.OwnSet
import Derived.Maps.OwnOps
import Derived.Test.YtfiabbfdnmldjaaGreatDoorPD
import Derived.Deep.DeepCutAuto
import Derived.Test.YtfiabbfdnmldjaaGreatDoorPA
/-
  A map from places to Pending of the call's own: made, stored into, asked, struck out of.
-/
namespace Go.Proofs.YtfiabbfdnmldjaaGreatDoor.T6
open Go.RowKit Go.Maps
open Go.Proofs.YtfiabbfdnmldjaaGreatDoor.C0 Go.Proofs.YtfiabbfdnmldjaaGreatDoor.S0

def rP (v : Value) : Option (DataW Unit × List MemPlace) :=
  match v with
  | .agg cs => match cs.toList with
    | [.int .i64 a, .string s] => some (.agg [.lit (.int .i64 a), .lit (.string s.data.toList)], [])
    | _ => none
  | _ => none
def dat (p : Pend) : DataW Unit := .agg [.lit (.int .i64 p.1), .lit (.string p.2.data.toList)]
theorem rP_mk (p : Pend) : rP (.agg #[.int .i64 p.1, .string p.2]) = some (dat p, []) := rfl
theorem rP_inv {v : Value} {p : Pend} {ps : List MemPlace} (h : rP v = some (dat p, ps)) : v = .agg #[.int .i64 p.1, .string p.2] := by
  unfold rP at h
  split at h
  · rename_i cs
    split at h
    · rename_i a s e
      simp only [dat, Option.some.injEq, Prod.mk.injEq, DataW.agg.injEq, List.cons.injEq, DataW.lit.injEq, Lit.int.injEq, Lit.string.injEq, and_true, true_and] at h
      obtain ⟨⟨rfl, h2⟩, _⟩ := h
      have hs : s = p.2 := by
        obtain ⟨⟨l⟩⟩ := s
        obtain ⟨z, ⟨⟨l'⟩⟩⟩ := p
        simp at h2
        rw [h2]
      have hc : cs = #[.int .i64 p.1, .string s] := by
        cases cs; simpa using e
      rw [hc, hs]
    · cases h
  · cases h
abbrev key (i : Nat) : Lit := .int .i64 (i : Int)
theorem key_ne {i j : Nat} (h : i ≠ j) : key i ≠ key j := fun e => h (by simp at e; omega)
theorem key_lit (i : Nat) : WideAt.IsKeyLit (key i) := trivial
theorem keyd : Keyed Tryz.prog 3 := int_keyed Tryz.underlying3
theorem key_of (i : Nat) (hi : i < 1000) : keyOf Tryz.prog 3 (.int .i64 (i : Int)) = some (key i) := keyOf_int_mk Tryz.underlying3 (WalkArith.wf_i64 (by omega))
theorem zeroE (w : World) : (zeroValue 82).run Tryz.prog w = .ok (.agg #[.int .i64 0, .string ⟨#[]⟩]) w := by kernel_rfl
/-- Block b is a map that holds at each place what f says. -/
def MapIs (w : World) (b n : Nat) (f : Nat → Option Pend) : Prop :=
  ∃ D : DataW Unit, w.ownsMap Tryz.prog 3 rP b n D ∧ ∀ i : Nat, i < 1000 → Maps.has D (key i) = (f i).isSome ∧ ∀ z, D.atKey (key i) z = match f i with | some p => dat p | none => z
def upd (f : Nat → Option Pend) (i : Nat) (x : Option Pend) : Nat → Option Pend := fun j => if j = i then x else f j
theorem MapIs.made (w : World) : MapIs (w.alloc (.map #[] 0)) w.heap.size 0 (fun _ => none) :=
  ⟨.map [], World.ownsMap_made w _ _ _, fun _ _ => ⟨rfl, fun _ => rfl⟩⟩
theorem MapIs.kept {w w' : World} {b n : Nat} {f : Nat → Option Pend} {row : Option Nat} (h : MapIs w b n f) (hg : w.grownBy w' row) (hne : some b ≠ row) : MapIs w' b n f := by
  obtain ⟨D, h1, h2⟩ := h
  exact ⟨D, h1.kept hg hne, h2⟩
theorem MapIs.lt {w : World} {b n : Nat} {f : Nat → Option Pend} (h : MapIs w b n f) : b < w.heap.size := by obtain ⟨D, h1, _⟩ := h; exact h1.lt
theorem MapIs.block {w w' : World} {b n : Nat} {f : Nat → Option Pend} (h : MapIs w b n f) (e : w'.heap[b]? = w.heap[b]?) : MapIs w' b n f := by
  obtain ⟨D, ⟨es, cl, h1, r⟩, h2⟩ := h
  exact ⟨D, ⟨es, cl, e.trans h1, r⟩, h2⟩
theorem MapIs.below {w w' : World} {b n : Nat} {f : Nat → Option Pend} (h : MapIs w b n f) (hb : Below w.heap.size w w') : MapIs w' b n f := h.block (hb.block b h.lt)
theorem MapIs.alloc {w : World} {b n : Nat} {f : Nat → Option Pend} (h : MapIs w b n f) (o : Obj) : MapIs (w.alloc o) b n f := h.below ((Below.refl _ _).alloc (Nat.le_refl _) o)
theorem MapIs.setCell {w : World} {b n : Nat} {f : Nat → Option Pend} (h : MapIs w b n f) {a : Addr} (ha : b ≠ a.block) (u : Value) : MapIs (w.setCell a u) b n f := h.block (Below.heap_setCell _ _ _ _ ha)
theorem MapIs.congr {w : World} {b n : Nat} {f g : Nat → Option Pend} (h : MapIs w b n f) (e : ∀ i, i < 1000 → f i = g i) : MapIs w b n g := by
  obtain ⟨D, h1, h2⟩ := h
  exact ⟨D, h1, fun i hi => by rw [← e i hi]; exact h2 i hi⟩
theorem MapIs.store {w : World} {b n : Nat} {f : Nat → Option Pend} (h : MapIs w b n f) (hn : n < 1000) (i : Nat) (hi : i < 1000) (p : Pend) :
    ∃ w', (Instr.mapUpdate 83 (.map (some b)) (.int .i64 (i : Int)) (.agg #[.int .i64 p.1, .string p.2])).run Tryz.prog w = .ok () w' ∧ MapIs w' b (n + 1) (upd f i (some p)) ∧ w.grownBy w' (some b) := by
  obtain ⟨D, h1, h2⟩ := h
  obtain ⟨w', hr, h3, h4⟩ := h1.store keyd Tryz.underlying83 (by unfold maxLen; omega) (key_of i hi) (rP_mk p)
  refine ⟨w', hr, ⟨_, h3, fun j hj => ?_⟩, h4.grown⟩
  unfold upd
  by_cases e : j = i
  · subst e
    rw [if_pos rfl]
    exact ⟨has_put_same h1.isMap (key_lit j) _, fun z => atKey_put_same h1.isMap (key_lit j) _ _⟩
  · rw [if_neg e]
    exact ⟨by rw [has_put_other (key_ne e)]; exact (h2 j hj).1, fun z => by rw [atKey_put_other (key_ne e)]; exact (h2 j hj).2 z⟩
theorem MapIs.drop {w : World} {b n : Nat} {f : Nat → Option Pend} (h : MapIs w b n f) (i : Nat) (hi : i < 1000) (ty : TypeId) :
    ∃ w', (Builtin.delete_ #[83, 3] ty #[.map (some b), .int .i64 (i : Int)]).run Tryz.prog w = .ok (.tuple #[]) w' ∧ MapIs w' b n (upd f i none) ∧ w.grownBy w' (some b) := by
  obtain ⟨D, h1, h2⟩ := h
  obtain ⟨w', hr, h3, h4⟩ := h1.drop keyd Tryz.underlying83 (key_of i hi) ty
  refine ⟨w', hr, ⟨_, h3, fun j hj => ?_⟩, h4.grown⟩
  unfold upd
  by_cases e : j = i
  · subst e
    rw [if_pos rfl]
    exact ⟨has_del_same, fun z => atKey_del_same _⟩
  · rw [if_neg e]
    exact ⟨by rw [has_del_other (key_ne e)]; exact (h2 j hj).1, fun z => by rw [atKey_del_other (key_ne e)]; exact (h2 j hj).2 z⟩
theorem MapIs.look {w : World} {b n : Nat} {f : Nat → Option Pend} (h : MapIs w b n f) (i : Nat) (hi : i < 1000) (p : Pend) (hp : f i = some p) :
    (Instr.lookup 83 (.map (some b)) (.int .i64 (i : Int)) false).run Tryz.prog w = .ok (.agg #[.int .i64 p.1, .string p.2]) w := by
  obtain ⟨D, h1, h2⟩ := h
  obtain ⟨v, ps, hr, hv⟩ := h1.lookup keyd Tryz.underlying83 (zeroE w) (rP_mk (0, ⟨#[]⟩)) (key_of i hi)
  rw [(h2 i hi).2, hp] at hv
  rw [hr, rP_inv hv]
theorem MapIs.look_yes {w : World} {b n : Nat} {f : Nat → Option Pend} (h : MapIs w b n f) (i : Nat) (hi : i < 1000) (p : Pend) (hp : f i = some p) :
    (Instr.lookup 83 (.map (some b)) (.int .i64 (i : Int)) true).run Tryz.prog w = .ok (.tuple #[.agg #[.int .i64 p.1, .string p.2], .bool true]) w := by
  obtain ⟨D, h1, h2⟩ := h
  obtain ⟨v, ps, hr, hv⟩ := h1.look_ok keyd Tryz.underlying83 (zeroE w) (rP_mk (0, ⟨#[]⟩)) (key_of i hi)
  rw [(h2 i hi).2, hp] at hv
  rw [hr, rP_inv hv, (h2 i hi).1, hp]; rfl
theorem MapIs.look_no {w : World} {b n : Nat} {f : Nat → Option Pend} (h : MapIs w b n f) (i : Nat) (hi : i < 1000) (hp : f i = none) :
    (Instr.lookup 83 (.map (some b)) (.int .i64 (i : Int)) true).run Tryz.prog w = .ok (.tuple #[.agg #[.int .i64 0, .string ⟨#[]⟩], .bool false]) w := by
  obtain ⟨D, h1, h2⟩ := h
  obtain ⟨v, ps, hr, hv⟩ := h1.look_ok keyd Tryz.underlying83 (zeroE w) (rP_mk (0, ⟨#[]⟩)) (key_of i hi)
  rw [(h2 i hi).2, hp] at hv
  rw [hr, rP_inv (p := (0, ⟨#[]⟩)) hv, (h2 i hi).1, hp]; rfl
end Go.Proofs.YtfiabbfdnmldjaaGreatDoor.T6

/-
  The program's disk at work: its sectors copied, what is pending in a map by its place.
-/
namespace Go.Proofs.YtfiabbfdnmldjaaGreatDoor.T7
open Go.RowKit
open Go.Proofs.YtfiabbfdnmldjaaGreatDoor.C0 Go.Proofs.YtfiabbfdnmldjaaGreatDoor.S0 Go.Proofs.YtfiabbfdnmldjaaGreatDoor.S1 Go.Proofs.YtfiabbfdnmldjaaGreatDoor.S2 Go.Proofs.YtfiabbfdnmldjaaGreatDoor.S3 Go.Proofs.YtfiabbfdnmldjaaGreatDoor.O1 Go.Proofs.YtfiabbfdnmldjaaGreatDoor.T2 Go.Proofs.YtfiabbfdnmldjaaGreatDoor.T3 Go.Proofs.YtfiabbfdnmldjaaGreatDoor.T6

theorem k_box (w : World) (x y : Obj) : ((w.alloc x).alloc y).heap[w.heap.size]? = some x ∧ ((w.alloc x).alloc y).heap[w.heap.size + 1]? = some y ∧ Below w.heap.size w ((w.alloc x).alloc y) ∧ ((w.alloc x).alloc y).heap.size = w.heap.size + 2 :=
  ⟨carryA (heap_alloc_new w x) y, by have := heap_alloc_new (w.alloc x) y; rwa [asz] at this, ((Below.refl _ _).alloc (Nat.le_refl _) _).alloc (by simp) _, by simp⟩
theorem keepB {W w' : World} {g : Nat} {a b : Value} {T : TypeId} (k0 : W.heap[g]? = some (.cells #[a, b] T)) (h : Below W.heap.size W w') : w'.cell? ⟨g, 0, none⟩ = some a ∧ w'.cell? ⟨g, 1, none⟩ = some b :=
  ⟨(blk2 (carry k0 h)).1, (blk2 (carry k0 h)).2.1⟩
theorem one_in {W wS : World} {o : Obj} (hb : Below (W.alloc o).drew.heap.size (W.alloc o).drew wS) : wS.heap[W.heap.size]? = some o := carry (heap_alloc_new W o) (undrew hb)
theorem two_in {W wS : World} {x y : Obj} (hb : Below ((W.alloc x).alloc y).drew.heap.size ((W.alloc x).alloc y).drew wS) : wS.heap[W.heap.size]? = some x ∧ wS.heap[W.heap.size + 1]? = some y :=
  ⟨carry (k_box W x y).1 (undrew hb), carry (k_box W x y).2.1 (undrew hb)⟩
theorem bset3 {B g : Nat} {a0 w : World} (h : Below B a0 w) (hg : B ≤ g) (a b c : Value) : Below B a0 (((w.setCell ⟨g, 0, none⟩ a).setCell ⟨g, 1, none⟩ b).setCell ⟨g, 2, none⟩ c) :=
  ((h.setCell (p := ⟨g, 0, none⟩) hg _).setCell (p := ⟨g, 1, none⟩) hg _).setCell (p := ⟨g, 2, none⟩) hg _
/-- What is there when the sectors are copied and the map is made. -/
def RW (W : World) (ss : List ByteArray) (n : Nat) (s : Value) (wx : World) : Prop :=
  ∃ (lb mb : Nat) (a : Option Addr) (c : Nat), s = .pointer (some ⟨lb, 0, none⟩) ∧ wx.heap[lb]? = some (.cells #[.slice a ss.length c, .map (some mb), .int .i64 (n : Nat)] 85) ∧
    OStrs W.heap.size wx (.slice a ss.length c) ss ∧ MapIs wx mb 0 (fun _ => none) ∧ Below W.heap.size W wx ∧ W.heap.size ≤ lb ∧ W.heap.size ≤ mb
theorem RW.of {W X : World} {ss : List ByteArray} {n lb mb : Nat} {a : Option Addr} {c : Nat} (hl : X.heap[lb]? = some (.cells #[.slice a ss.length c, .map (some mb), .int .i64 (n : Nat)] 85)) (hm : X.heap[mb]? = some (.map #[] 0)) (ho : OStrs W.heap.size X (.slice a ss.length c) ss)
    (hB : Below W.heap.size W X) (h1 : W.heap.size ≤ lb) (h2 : W.heap.size ≤ mb) : RW W ss n (.pointer (some ⟨lb, 0, none⟩)) X :=
  ⟨lb, mb, a, c, rfl, hl, ho, ⟨.map [], ⟨#[], 0, hm, ⟨by simp, MapKept.stamped_empty 0, by simp⟩, Nat.le_refl _, rfl⟩, fun _ _ => ⟨rfl, fun _ => rfl⟩⟩, hB, h1, h2⟩
theorem set3_at {w : World} {g : Nat} {x y z : Value} {T : TypeId} (h : w.heap[g]? = some (.cells #[x, y, z] T (0, 0))) (a b c : Value) : (((w.setCell ⟨g, 0, none⟩ a).setCell ⟨g, 1, none⟩ b).setCell ⟨g, 2, none⟩ c).heap[g]? = some (.cells #[a, b, c] T (0, 0)) := by
  have h1 := heap_setCell_same w g 0 _ _ a h
  have h2 := heap_setCell_same _ g 1 _ _ b h1
  have h3 := heap_setCell_same _ g 2 _ _ c h2
  simpa using h3
theorem set3_other {w : World} {g k : Nat} {o : Obj} (h : w.heap[k]? = some o) (hne : k ≠ g) (a b c : Value) : (((w.setCell ⟨g, 0, none⟩ a).setCell ⟨g, 1, none⟩ b).setCell ⟨g, 2, none⟩ c).heap[k]? = some o := by
  rw [Below.heap_setCell _ _ _ _ hne, Below.heap_setCell _ _ _ _ hne, Below.heap_setCell _ _ _ _ hne]; exact h
theorem oset3 {B g : Nat} {w : World} {v : Value} {l : List ByteArray} (h : OStrs B w v l) (hg : g < B) (a b c : Value) : OStrs B (((w.setCell ⟨g, 0, none⟩ a).setCell ⟨g, 1, none⟩ b).setCell ⟨g, 2, none⟩ c) v l :=
  ((h.set (p := ⟨g, 0, none⟩) hg a).set (p := ⟨g, 1, none⟩) hg b).set (p := ⟨g, 2, none⟩) hg c
/-- .. and round by round. -/
def RX (W : World) (ss : List ByteArray) (ps : List Pend) (lb mb : Nat) (a : Option Addr) (c : Nat) (i : Value) (wr : World) : Prop :=
  ∃ k : Nat, k ≤ ps.length ∧ i = .int .i64 k ∧ wr.heap[lb]? = some (.cells #[.slice a ss.length c, .map (some mb), .int .i64 (ps.length : Nat)] 85) ∧ OStrs W.heap.size wr (.slice a ss.length c) ss ∧ MapIs wr mb k (fun i => if i < k then ps[i]? else none) ∧ Below W.heap.size W wr
theorem RX.step {W wr w2 : World} {ss : List ByteArray} {ps : List Pend} {lb mb k : Nat} {a : Option Addr} {c : Nat} {p : Pend} {o : Obj} (hk : k < ps.length) (hpk : ps[k]? = some p) (hl : wr.heap[lb]? = some (.cells #[.slice a ss.length c, .map (some mb), .int .i64 (ps.length : Nat)] 85))
    (ho : OStrs W.heap.size wr (.slice a ss.length c) ss) (hW : Below W.heap.size W wr) (hmb : W.heap.size ≤ mb) (hm : MapIs wr mb k (fun i => if i < k then ps[i]? else none)) (hm2 : MapIs w2 mb (k + 1) (upd (fun i => if i < k then ps[i]? else none) k (some p))) (hg : (wr.alloc o).grownBy w2 (some mb)) :
    RX W ss ps lb mb a c (.int .i64 ((k : Int) + 1)) w2 := by
  have hmz := hm.lt
  obtain ⟨D, ⟨es, cl, hmb', _⟩, _⟩ := hm
  have hne : ∀ {g cs T fr}, wr.heap[g]? = some (.cells cs T fr) → g ≠ mb := fun h e => by subst e; rw [h] at hmb'; cases hmb'
  refine ⟨k + 1, by omega, by simp, ?_, ?_, hm2.congr (fun i _ => ?_), ?_⟩
  · rw [hg.block lb (by have := lt_some hl; simp; omega) (fun e => hne hl (by simpa using e))]
    exact carryA hl o
  · refine own_keep ho fun g hgo => ?_
    have hlt := (ho.lt g hgo).2
    rw [hg.block g (by simp; omega) (fun e => ?_)]
    · exact Below.heap_alloc _ _ _ hlt
    · have e' : g = mb := by simpa using e
      rcases ho.2 with ⟨h1, _⟩ | ⟨g', cap, cur, h1, _, hg', _⟩
      · rw [h1] at hgo; simp [Value.ownBlock] at hgo
      · rw [h1] at hgo; simp [Value.ownBlock] at hgo; subst hgo; exact hne hg' e'
  · show (if i = k then some p else if i < k then ps[i]? else none) = if i < k + 1 then ps[i]? else none
    by_cases e : i = k
    · subst e; rw [if_pos rfl, if_pos (by omega), hpk]
    · rw [if_neg e]
      by_cases h : i < k
      · rw [if_pos h, if_pos (by omega)]
      · rw [if_neg h, if_neg (by omega)]
  · exact (balloc hW o).grown hg (by simp; have := hW.size; omega) (fun g e => by cases e; exact hmb)
set_option maxRecDepth 100000 in
set_option maxHeartbeats 4000000 in
theorem atWork_any (vs vp : Value) (ss : List ByteArray) (ps : List Pend) (w : World) (hs : Strs w vs ss) (hp : Pends w vp ps) (hz : ss.length ≤ 64) (hzp : ps.length ≤ 200) :
    Calls Tryz.prog 54 #[.agg #[vs, vp]] w fun e w' => ∃ a c m n, e = .returned (.agg #[.slice a ss.length c, .map (some m), .int .i64 (ps.length : Nat)]) ∧ OStrs w.heap.size w' (.slice a ss.length c) ss ∧ MapIs w' m n (fun i => ps[i]?) ∧ n ≤ 200 ∧ w.heap.size ≤ m ∧ Below w.heap.size w w' := by
  obtain ⟨sa, sc, rfl⟩ : ∃ a c, vs = .slice a ss.length c := hs.len
  obtain ⟨pa, pc, rfl⟩ : ∃ a c, vp = .slice a ps.length c := by obtain ⟨a, c, e, _⟩ := hp; exact ⟨a, c, e⟩
  obtain ⟨k0, k1, b0, e2⟩ := k_box w (.cells #[.slice sa ss.length sc, .slice pa ps.length pc] 26) (.cells #[.slice none 0 0, .map none, .int .i64 0] 85)
  have hmm := @run_makeMap Tryz.prog
  go_enter Tryz.func54, Tryz.ntmps54
  go_wp2_with fail
  obtain ⟨W, hW⟩ : ∃ W, (w.alloc (.cells #[.slice sa ss.length sc, .slice pa ps.length pc] 26)).alloc (.cells #[.slice none 0 0, .map none, .int .i64 0] 85) = W := ⟨_, rfl⟩
  rw [hW] at k0 k1 b0 e2 ⊢
  clear hW
  have hs1 := hs.below b0
  have hp1 := hp.below b0
  obtain ⟨q0, q1, -, q9⟩ := blk2 k0
  have E2 : Hid (W.heap.size = w.heap.size + 2) := e2
  clear e2
  go_cut [3] (fun s3 wx => RW W ss ps.length s3 wx)
  case first =>
    go_region_held3 (fun w' => w'.cell? ⟨w.heap.size, 0, none⟩ = some (.slice sa ss.length sc) ∧ w'.cell? ⟨w.heap.size, 1, none⟩ = some (.slice pa ps.length pc))
      (first
        | exact keepB k0 BS
        | exact keepB k0 (balloc BS _)
        | exact keepB k0 (balloc (balloc BS _) _)
        | exact keepB k0 (bset3 BS (by omega) _ _ _)
        | exact keepB k0 (balloc (bset3 BS (by omega) _ _ _) _)
        | exact keepB k0 (Below.refl _ _).drew
        | exact keepB k0 (balloc (Below.refl _ _) _).drew
        | exact keepB k0 (balloc (balloc (Below.refl _ _) _) _).drew
        | go_keep)
      (first
        | (go_at_call 75
           first
           | (refine (cloneS_any _ ss _ (drewS hs1) (by omega)).mono ?_; rintro e wS ⟨a, c, rfl, hoS, hbS'⟩; have BS : Below W.heap.size W wS := undrew hbS'; have oB : OStrs W.heap.size wS (.slice a ss.length c) ss := hoS)
           | (refine (cloneS_any _ ss _ (hs1.below (balloc (Below.refl _ _) _).drew) (by omega)).mono ?_; rintro e wS ⟨a, c, rfl, hoS, hbS⟩; have BS : Below W.heap.size W wS := bel2 (balloc (Below.refl _ _) _) (undrew hbS); have i1 := one_in hbS; have z1 := lt_some i1; have oB : OStrs (W.heap.size + 1) wS (.slice a ss.length c) ss := hoS.mono (Nat.le_of_eq (asz W _).symm); try (obtain ⟨l0, l1, l2, lf, -⟩ := blk3 i1))
           | (refine (cloneS_any _ ss _ (hs1.below (balloc (balloc (Below.refl _ _) _) _).drew) (by omega)).mono ?_; rintro e wS ⟨a, c, rfl, hoS, hbS⟩; have BS : Below W.heap.size W wS := bel2 (balloc (balloc (Below.refl _ _) _) _) (undrew hbS); obtain ⟨i1, i2⟩ := two_in hbS; have oB : OStrs (W.heap.size + 2) wS (.slice a ss.length c) ss := hoS.mono (Nat.le_of_eq ((k_box W _ _).2.2.2).symm); have z1 := lt_some i1; have z2 := lt_some i2; first | (obtain ⟨l0, l1, l2, lf, -⟩ := blk3 i1) | (obtain ⟨l0, l1, l2, lf, -⟩ := blk3 i2))))
    · have hle := BS.size
      go_wp2_with fail
      go_meet
      case rel => exact RW.of (lb := wS.heap.size + 1) (mb := wS.heap.size) (a := a) (c := c) (alloc_at (by simp)) (carryA (heap_alloc_new wS _) _) (OStrs.below (OStrs.below oB (albel _ _)) (albel _ _)) (balloc (balloc BS _) _) (by omega) (by omega)
    · have hle := BS.size
      go_wp2_with fail
      go_meet
      case rel => exact RW.of (lb := wS.heap.size) (mb := wS.heap.size + 1) (a := a) (c := c) (carryA (heap_alloc_new wS _) _) (alloc_at (by simp)) (OStrs.below (OStrs.below oB (albel _ _)) (albel _ _)) (balloc (balloc BS _) _) (by omega) (by omega)
    · have hle := BS.size
      go_wp2_with fail
      go_meet
      case rel => exact RW.of (lb := wS.heap.size) (mb := W.heap.size) (a := a) (c := c) (heap_alloc_new wS _) (carryA i1 _) (OStrs.mono (OStrs.below oB (albel _ _)) (by omega)) (balloc BS _) (by omega) (by omega)
    · have hle := BS.size
      go_wp2_with fail
      go_meet
      case rel => exact RW.of (lb := W.heap.size + 1) (mb := W.heap.size) (a := a) (c := c) (set3_at i2 _ _ _) (set3_other i1 (by omega) _ _ _) (OStrs.mono (oset3 oB (by omega) _ _ _) (by omega)) (bset3 BS (by omega) _ _ _) (by omega) (by omega)
    · have hle := BS.size
      go_wp2_with fail
      go_meet
      case rel => exact RW.of (lb := W.heap.size) (mb := wS.heap.size) (a := a) (c := c) (carryA (set3_at i1 _ _ _) _) (alloc_at (by simp)) (OStrs.mono (OStrs.below (oset3 oB (by omega) _ _ _) (albel _ _)) (by omega)) (balloc (bset3 BS (by omega) _ _ _) _) (by omega) (by omega)
    · have hle := BS.size
      go_wp2_with fail
      go_meet
      case rel => exact RW.of (lb := W.heap.size) (mb := W.heap.size + 1) (a := a) (c := c) (set3_at i1 _ _ _) (set3_other i2 (by omega) _ _ _) (OStrs.mono (oset3 oB (by omega) _ _ _) (by omega)) (bset3 BS (by omega) _ _ _) (by omega) (by omega)
  case rest =>
    obtain ⟨lb, mb, a, c, rfl, hl, ho, hm, hB, h1, h2⟩ := hcut
    have kr := carry k0 hB
    obtain ⟨s0, s1, -, -⟩ := blk2 kr
    have H0 : Hid (RX W ss ps lb mb a c (.int .i64 0) wc) := ⟨0, Nat.zero_le _, rfl, hl, ho, hm.congr (fun i _ => by simp), hB⟩
    clear q0 q1 hs1 hm hl ho kr
    obtain ⟨pa', cap2, e, hl2, hc2⟩ := hp1
    simp only [Value.slice.injEq] at e
    obtain ⟨rfl, -, rfl⟩ := e
    go_wp2
    clear hmm
    go_loopw [17] (fun i wr => RX W ss ps lb mb a c i wr) (fun i _ => ps.length - (intOf i).toNat)
    case atStart => exact H0.out
    case round =>
      clear H0 hB s0 s1
      obtain ⟨k, hk, rfl, hl, ho, hm, hB⟩ := hrel
      obtain ⟨l0, l1, l2, lf, l9⟩ := blk3 hl
      by_cases hlt : k < ps.length
      · have hlt' : (k : Int) < (ps.length : Int) := by omega
        obtain ⟨b2, off2, rfl, hbb2, hcc2⟩ := hc2 (by omega)
        obtain ⟨p, hpk⟩ : ∃ p, ps[k]? = some p := ⟨_, List.getElem?_eq_getElem hlt⟩
        obtain ⟨d0, d1⟩ := hcc2 k p hpk
        rw [← hB.cell (p := ⟨b2, off2 + k * 2, none⟩) hbb2] at d0
        rw [← hB.cell (p := ⟨b2, off2 + k * 2 + 1, none⟩) hbb2] at d1
        obtain ⟨w2, hr2, hm2, hg2⟩ := (hm.alloc (.cells #[.int .i64 p.1, .string p.2] 82)).store (by omega) k (by omega) p
        have HN : Hid (RX W ss ps lb mb a c (.int .i64 ((k : Int) + 1)) w2) := RX.step hlt hpk hl ho hB h2 hm hm2 hg2
        clear hpk hcc2 hm hm2 hg2 hl ho hB
        go_wp2
        go_roundw
        case rel => exact HN.out
        case measure => simp [intOf]; omega
      · obtain rfl : k = ps.length := by omega
        have kr := carry k1 hB
        obtain ⟨r0, r1, r2, rf, -⟩ := blk3 kr
        have e2 := E2.out
        have HF : Hid (∀ x y z, OStrs w.heap.size (((wr.setCell ⟨w.heap.size + 1, 0, none⟩ x).setCell ⟨w.heap.size + 1, 1, none⟩ y).setCell ⟨w.heap.size + 1, 2, none⟩ z) (.slice a ss.length c) ss ∧ MapIs (((wr.setCell ⟨w.heap.size + 1, 0, none⟩ x).setCell ⟨w.heap.size + 1, 1, none⟩ y).setCell ⟨w.heap.size + 1, 2, none⟩ z) mb ps.length (fun i => ps[i]?) ∧
            Below w.heap.size w (((wr.setCell ⟨w.heap.size + 1, 0, none⟩ x).setCell ⟨w.heap.size + 1, 1, none⟩ y).setCell ⟨w.heap.size + 1, 2, none⟩ z) ∧ w.heap.size ≤ mb) := fun x y z =>
          ⟨(oset3 ho (by omega) x y z).mono (by omega), (((hm.setCell (a := ⟨w.heap.size + 1, 0, none⟩) (by show mb ≠ w.heap.size + 1; omega) x).setCell (a := ⟨w.heap.size + 1, 1, none⟩) (by show mb ≠ w.heap.size + 1; omega) y).setCell (a := ⟨w.heap.size + 1, 2, none⟩) (by show mb ≠ w.heap.size + 1; omega) z).congr (fun i _ => by
              by_cases h : i < ps.length
              · rw [if_pos h]
              · rw [if_neg h, List.getElem?_eq_none (by omega)]), bset3 (b0.trans (hB.mono b0.size)) (by omega) x y z, by omega⟩
        clear e2 hm ho hB kr hl
        go_wp2
        exact bodyPost_ret (v := .agg #[.slice a ss.length c, .map (some mb), .int .i64 (ps.length : Nat)]) (by simp [results, Tryz.results54, go_sem, r0, r1, r2]) rfl ⟨a, c, mb, ps.length, rfl, (HF.out _ _ _).1, (HF.out _ _ _).2.1, hzp, (HF.out (.int .i64 0) (.int .i64 0) (.int .i64 0)).2.2.2, (HF.out _ _ _).2.2.1⟩
end Go.Proofs.YtfiabbfdnmldjaaGreatDoor.T7

/-
  The program's disk at work: a sector read, a place flushed, the disk told again.
-/
namespace Go.Proofs.YtfiabbfdnmldjaaGreatDoor.T8
open Go.RowKit
open Go.Proofs.YtfiabbfdnmldjaaGreatDoor.C0 Go.Proofs.YtfiabbfdnmldjaaGreatDoor.S0 Go.Proofs.YtfiabbfdnmldjaaGreatDoor.S1 Go.Proofs.YtfiabbfdnmldjaaGreatDoor.S2 Go.Proofs.YtfiabbfdnmldjaaGreatDoor.S3 Go.Proofs.YtfiabbfdnmldjaaGreatDoor.S4 Go.Proofs.YtfiabbfdnmldjaaGreatDoor.O1 Go.Proofs.YtfiabbfdnmldjaaGreatDoor.T2 Go.Proofs.YtfiabbfdnmldjaaGreatDoor.T3 Go.Proofs.YtfiabbfdnmldjaaGreatDoor.T6 Go.Proofs.YtfiabbfdnmldjaaGreatDoor.T7
open Go.Proofs.YtfiabbfdnmldjaaGreatDoor.Dk (readOf readOf_none readOf_found putOne)
def RelG (ps : List Pend) (i : Int) (W : World) (x : Value) (wr : World) : Prop := ∃ k : Nat, k ≤ ps.length ∧ x = .int .i64 ((k : Int) - 1) ∧ (∀ q ∈ ps.drop k, q.1 ≠ i) ∧ Below W.heap.size W wr
theorem drop_step {ps : List Pend} {k : Nat} {p : Pend} {i : Int} (hp : ps[k]? = some p) (hne : p.1 ≠ i) (h : ∀ q ∈ ps.drop (k + 1), q.1 ≠ i) : ∀ q ∈ ps.drop k, q.1 ≠ i := by
  have hk := (List.getElem?_eq_some_iff.1 hp).1
  have e : ps.drop k = p :: ps.drop (k + 1) := by
    rw [List.drop_eq_getElem_cons hk]
    congr 1
    exact (List.getElem?_eq_some_iff.1 hp).2
  rw [e]
  intro q hq
  rcases List.mem_cons.1 hq with rfl | hq
  · exact hne
  · exact h q hq
set_option maxRecDepth 100000 in
set_option maxHeartbeats 1600000 in
theorem read_any (a : Option Addr) (c m n : Nat) (ss : List ByteArray) (ps : List Pend) (j : Nat) (t : ByteArray) (w : World) (hs : Strs w (.slice a ss.length c) ss) (hm : MapIs w m n (fun i => ps[i]?)) (hzp : ps.length ≤ 200) (ht : ss[j]? = some t) (hz : ss.length ≤ 64) :
    Calls Tryz.prog 97 #[.agg #[.slice a ss.length c, .map (some m), .int .i64 (ps.length : Nat)], .int .i64 j] w fun e w' => e = .returned (.string (readOf t ps j)) ∧ Below w.heap.size w w' := by
  have hj := (List.getElem?_eq_some_iff.1 ht).1
  have b0 := albel w (.cells #[.slice a ss.length c, .map (some m), .int .i64 (ps.length : Nat)] 85)
  have H0 : Hid (RelG ps j (w.alloc (.cells #[.slice a ss.length c, .map (some m), .int .i64 (ps.length : Nat)] 85)) (.int .i64 ((ps.length : Int) - 1)) (w.alloc (.cells #[.slice a ss.length c, .map (some m), .int .i64 (ps.length : Nat)] 85))) := ⟨ps.length, Nat.le_refl _, rfl, by simp, Below.refl _ _⟩
  have HT : Hid (ss[j]? = some t) := ht
  clear ht
  go_enter Tryz.func97, Tryz.ntmps97
  go_wp2
  obtain ⟨W, hW⟩ : ∃ W, w.alloc (.cells #[.slice a ss.length c, .map (some m), .int .i64 (ps.length : Nat)] 85) = W := ⟨_, rfl⟩
  have kW : W.heap[w.heap.size]? = some (.cells #[.slice a ss.length c, .map (some m), .int .i64 (ps.length : Nat)] 85) := by rw [← hW]; exact heap_alloc_new w _
  rw [hW] at H0 b0 ⊢
  clear hW
  go_loopw [5] (fun x wr => RelG ps j W x wr) (fun x _ => (intOf x + 1).toNat)
  case atStart => exact H0.out
  case round =>
    clear H0
    obtain ⟨k, hk, rfl, hd, hB⟩ := hrel
    have kr := carry kW hB
    obtain ⟨l0, l1, l2, lf, l9⟩ := blk3 kr
    have B1 := bel2 b0 hB
    by_cases hlt : 0 < k
    · obtain ⟨k', rfl⟩ : ∃ k', k = k' + 1 := ⟨k - 1, by omega⟩
      have e1 : ((k' + 1 : Nat) : Int) - 1 = (k' : Int) := by omega
      rw [e1]
      obtain ⟨p, hpk⟩ : ∃ p, ps[k']? = some p := ⟨_, List.getElem?_eq_getElem (by omega)⟩
      have hr := (hm.below B1).look_yes k' (by omega) p hpk
      have HP : Hid (ps[k']? = some p) := hpk
      have HB : Hid (Below W.heap.size W wr) := hB
      have HB1 : Hid (Below w.heap.size w wr) := B1
      have HD : Hid (∀ q ∈ ps.drop (k' + 1), q.1 ≠ (j : Int)) := hd
      clear hpk hd hB B1 kr
      by_cases he : p.1 = (j : Int)
      · have he' : (p.1 == (j : Int)) = true := by simpa using he
        have HF : Hid (readOf t ps j = p.2) := readOf_found t j ps k' p HP.out he HD.out
        clear he
        go_wp2
        go_ret
        exact ⟨by rw [HF.out]; rfl, balloc HB1.out _⟩
      · have he' : (p.1 == (j : Int)) = false := by simpa using he
        have HN : Hid (∀ q ∈ ps.drop k', q.1 ≠ (j : Int)) := drop_step HP.out he HD.out
        clear he
        go_wp2
        go_roundw
        case rel => exact ⟨k', by omega, rfl, HN.out, balloc HB.out _⟩
        case measure => simp [intOf]
    · obtain rfl : k = 0 := by omega
      have HF : Hid (readOf t ps j = t) := readOf_none t j ps (by simpa using hd)
      obtain ⟨a', cap, e, hl, hc⟩ := hs.below B1
      simp only [Value.slice.injEq] at e
      obtain ⟨rfl, -, rfl⟩ := e
      obtain ⟨b, off, rfl, hbb, hcc⟩ := hc (by omega)
      have c0 := hcc j t HT.out
      have hj' : (j : Int) < (ss.length : Int) := by omega
      have HB1 : Hid (Below w.heap.size w wr) := B1
      clear hcc hc hd hB B1 kr
      go_wp2
      go_ret
      exact ⟨by rw [HF.out]; rfl, HB1.out⟩
theorem MapIs.ne_cells {w : World} {b n g : Nat} {f : Nat → Option Pend} {cs : Array Value} {T : TypeId} {fr : Nat × Nat} (h : MapIs w b n f) (hg : w.heap[g]? = some (.cells cs T fr)) : g ≠ b := by
  obtain ⟨D, ⟨es, cl, h1, _⟩, _⟩ := h
  intro e
  subst e
  rw [hg] at h1; cases h1
theorem ne_row {B : Nat} {w : World} {b n : Nat} {f : Nat → Option Pend} {v : Value} {l : List ByteArray} (h : MapIs w b n f) (ho : OStrs B w v l) : v.ownBlock ≠ some b := by
  intro e
  rcases ho.2 with ⟨h1, _⟩ | ⟨g', cap, cur, h1, _, hg', _⟩
  · rw [h1] at e; simp [Value.ownBlock] at e
  · rw [h1] at e; simp [Value.ownBlock] at e; subst e; exact MapIs.ne_cells h hg' rfl
set_option maxRecDepth 100000 in
set_option maxHeartbeats 1600000 in
theorem flush_any (B : Nat) (a : Option Addr) (c m n k : Nat) (f : Nat → Option Pend) (ss : List ByteArray) (p : Pend) (x : Value) (w : World) (hs : OStrs B w (.slice a ss.length c) ss) (hm : MapIs w m n f) (hf : f k = some p) (hk : k < 1000) (hp0 : 0 ≤ p.1) (hp1 : p.1 < ss.length) (hz : ss.length ≤ 64) :
    Calls Tryz.prog 55 #[.agg #[.slice a ss.length c, .map (some m), x], .int .i64 k] w fun e w' => e = .returned (.tuple #[]) ∧ OStrs B w' (.slice a ss.length c) (putOne ss p) ∧ MapIs w' m n (upd f k none) ∧ Wrote (fun g => g = m ∨ mine (.slice a ss.length c) g) w w' := by
  obtain ⟨g, rfl, -, hBg, hgz⟩ := form_strs hs (by omega)
  obtain ⟨z, d⟩ := p
  dsimp only at hp0 hp1
  obtain ⟨q, rfl⟩ : ∃ q : Nat, z = q := ⟨z.toNat, by omega⟩
  have hq : (q : Int) < (ss.length : Int) := hp1
  have hne := ne_row hm hs
  have hgm : g ≠ m := fun e => hne (by rw [e]; rfl)
  obtain ⟨⟨o, ho⟩, hfo⟩ := own_cell_s hs q (by omega)
  have hr := (hm.alloc (.cells #[.slice (some ⟨g, 0, none⟩) ss.length c, .map (some m), x] 85)).look k hk _ hf
  have al := bel2 (albel (w.setCell ⟨g, q, none⟩ (.string d)) (.cells #[.slice (some ⟨g, 0, none⟩) ss.length c, .map (some m), x] 85)) (albel _ (.cells #[.int .i64 q, .string d] 82))
  obtain ⟨w2, hdel, hm2, hg2⟩ := ((hm.setCell (a := ⟨g, q, none⟩) (fun e => hgm e.symm) (.string d)).below al).drop k hk 0
  have HS : Hid (OStrs B w2 (.slice (some ⟨g, 0, none⟩) ss.length c) (putOne ss (q, d))) := by
    have h1 := (stored_strs hs rfl q d).below al
    exact own_keep h1 fun g' hg' => hg2.block g' (h1.lt g' hg').2 (fun e => hgm (by simp [Value.ownBlock] at hg'; rw [hg']; simpa using e))
  have HW : Hid (Wrote (fun g' => g' = m ∨ mine (.slice (some ⟨g, 0, none⟩) ss.length c) g') w w2) :=
    (((Wrote.refl _ w).setCell (p := ⟨g, q, none⟩) (.inr (.inr rfl)) (.string d)).trans (Wrote.of_below al)).trans (Wrote.of_grown hg2 (fun k' e => .inl (by simpa using e.symm)))
  have HM : Hid (MapIs w2 m n (upd f k none)) := hm2
  clear al hm hs hne hf hm2 hg2
  go_enter Tryz.func55, Tryz.ntmps55
  go_wp2
  go_end0
  exact ⟨rfl, HS.out, HM.out, HW.out⟩
def RelE (N : Nat) (W : World) (x : Value) (wr : World) : Prop := ∃ k : Nat, k ≤ N ∧ x = .int .i64 k ∧ Below W.heap.size W wr
theorem k_box3 (w : World) (x y z : Obj) : (((w.alloc x).alloc y).alloc z).heap[w.heap.size]? = some x ∧ (((w.alloc x).alloc y).alloc z).heap[w.heap.size + 1]? = some y ∧ (((w.alloc x).alloc y).alloc z).heap[w.heap.size + 1 + 1]? = some z ∧ Below w.heap.size w (((w.alloc x).alloc y).alloc z) :=
  ⟨carryA (k_box w x y).1 z, carryA (k_box w x y).2.1 z, alloc_at (by simp), balloc (k_box w x y).2.2.1 z⟩
set_option maxRecDepth 100000 in
set_option maxHeartbeats 1600000 in
theorem disk_any (a : Option Addr) (l c m n N : Nat) (f : Nat → Option Pend) (w : World) (hm : MapIs w m n f) (hf : ∀ i, i < N → f i = none) (hN : N ≤ 200) :
    Calls Tryz.prog 56 #[.agg #[.slice a l c, .map (some m), .int .i64 (N : Nat)]] w fun e w' => e = .returned (.agg #[.slice a l c, .slice none 0 0]) ∧ Below w.heap.size w w' := by
  obtain ⟨k0, k1, k2, b0⟩ := k_box3 w (.cells #[.slice a l c, .map (some m), .int .i64 (N : Nat)] 85) (.cells #[.slice none 0 0, .slice none 0 0] 26) (.cells #[.slice a l c, .slice none 0 0] 26)
  go_enter Tryz.func56, Tryz.ntmps56
  go_wp2
  obtain ⟨W, hW⟩ : ∃ W, ((w.alloc (.cells #[.slice a l c, .map (some m), .int .i64 (N : Nat)] 85)).alloc (.cells #[.slice none 0 0, .slice none 0 0] 26)).alloc (.cells #[.slice a l c, .slice none 0 0] 26) = W := ⟨_, rfl⟩
  rw [hW] at k0 k1 k2 b0 ⊢
  clear hW
  have H0 : Hid (RelE N W (.int .i64 0) W) := ⟨0, Nat.zero_le _, rfl, Below.refl _ _⟩
  go_loopw [12] (fun x wr => RelE N W x wr) (fun x _ => N - (intOf x).toNat)
  case atStart => exact H0.out
  case round =>
    clear H0
    obtain ⟨k, hk, rfl, hB⟩ := hrel
    obtain ⟨l0, l1, l2, lf, l9⟩ := blk3 (carry k0 hB)
    obtain ⟨s0, s1, sf, s9⟩ := blk2 (carry k1 hB)
    obtain ⟨t0, t1, tf, t9⟩ := blk2 (carry k2 hB)
    have B1 := bel2 b0 hB
    have HB : Hid (Below W.heap.size W wr) := hB
    have HB1 : Hid (Below w.heap.size w wr) := B1
    by_cases hlt : k < N
    · have hlt' : (k : Int) < (N : Int) := by omega
      have hr := (hm.below B1).look_no k (by omega) (hf k hlt)
      clear hB B1
      go_wp2
      go_roundw
      case rel => exact ⟨k + 1, by omega, by go_num, balloc HB.out _⟩
      case measure => simp [intOf]; omega
    · clear hB B1
      go_wp2
      exact bodyPost_ret (v := .agg #[.slice a l c, .slice none 0 0]) (by simp [results, Tryz.results56, go_sem, s0, s1]) rfl ⟨rfl, (HB1.out.setCell (p := ⟨w.heap.size + 1, 0, none⟩) (by show w.heap.size ≤ w.heap.size + 1; omega) _).setCell (p := ⟨w.heap.size + 1, 1, none⟩) (by show w.heap.size ≤ w.heap.size + 1; omega) _⟩
end Go.Proofs.YtfiabbfdnmldjaaGreatDoor.T8

/-
  The program's reading of a sector.
-/
namespace Go.Proofs.YtfiabbfdnmldjaaGreatDoor.T9
open Go.RowKit
open Go.Proofs.YtfiabbfdnmldjaaGreatDoor.C0 Go.Proofs.YtfiabbfdnmldjaaGreatDoor.S0 Go.Proofs.YtfiabbfdnmldjaaGreatDoor.S1 Go.Proofs.YtfiabbfdnmldjaaGreatDoor.S2 Go.Proofs.YtfiabbfdnmldjaaGreatDoor.S3 Go.Proofs.YtfiabbfdnmldjaaGreatDoor.O1 Go.Proofs.YtfiabbfdnmldjaaGreatDoor.T0 Go.Proofs.YtfiabbfdnmldjaaGreatDoor.T1 Go.Proofs.YtfiabbfdnmldjaaGreatDoor.T2 Go.Proofs.YtfiabbfdnmldjaaGreatDoor.T3 Go.Proofs.YtfiabbfdnmldjaaGreatDoor.T4 Go.Proofs.YtfiabbfdnmldjaaGreatDoor.T5 Go.Proofs.YtfiabbfdnmldjaaGreatDoor.T6 Go.Proofs.YtfiabbfdnmldjaaGreatDoor.T7 Go.Proofs.YtfiabbfdnmldjaaGreatDoor.T8
open Go.Proofs.YtfiabbfdnmldjaaGreatDoor.Dk (Out ill readR readOf rightB right_iff)
set_option maxRecDepth 100000 in
set_option maxHeartbeats 1600000 in
theorem read_impl (vs vp : Value) (ss : List ByteArray) (ps : List Pend) (i : Int) (w : World) (hs : Strs w vs ss) (hp : Pends w vp ps) (hz : ∀ s ∈ ss, s.size ≤ maxLen) (hzp : ∀ p ∈ ps, p.2.size ≤ maxLen) :
    Calls Tryz.prog 70 #[.agg #[vs, vp], .int .i64 i] w fun e w' => OT w (readR ss ps i) e w' := by
  obtain ⟨sa, sc, rfl⟩ : ∃ a c, vs = .slice a ss.length c := hs.len
  obtain ⟨pa, pc, rfl⟩ : ∃ a c, vp = .slice a ps.length c := by obtain ⟨a, c, e, _⟩ := hp; exact ⟨a, c, e⟩
  obtain ⟨k0, k1, b0, z0⟩ := T5.k_box w (.cells #[.slice sa ss.length sc, .slice pa ps.length pc] 26) (.cells #[.slice none 0 0, .slice none 0 0, .string ⟨#[]⟩, .int .i64 0] 72)
  by_cases hR : rightB ss ps = false
  · have hO : readR ss ps i = ill 1 := by unfold readR; rw [if_pos hR]
    rw [hO]
    clear hO
    go_enter Tryz.func70, Tryz.ntmps70
    go_wp2_with fail
    refine (right_impl _ _ ss ps _ (hs.below b0) (hp.below b0) hz hzp).mono ?_
    rintro e w1 ⟨rfl, hb1⟩
    have B1 := b0.trans (hb1.mono b0.size)
    obtain ⟨q0, q1, -, -⟩ := blk2 (carry k0 hb1)
    obtain ⟨r0, r1, r2, r3, rf, -⟩ := blk4 (carry k1 hb1)
    clear k0 k1 hb1 z0 b0
    rw [hR]
    have HF : Hid (∀ p q r s, OT w (ill 1) (.returned (.agg #[.slice none 0 0, .slice none 0 0, .string ⟨#[]⟩, .int .i64 1])) (set4 w1 (w.heap.size + 1) p q r s)) := fin_ill B1
    go_wp2
    exact bodyPost_ret (v := .agg #[.slice none 0 0, .slice none 0 0, .string ⟨#[]⟩, .int .i64 1]) (by simp [results, Tryz.results70, go_sem, r0, r1, r2, r3]) rfl (HF.out _ _ _ _)
  have hR1 : rightB ss ps = true := by simpa using hR
  obtain ⟨n1, n2, n3, -, -⟩ := (right_iff ss ps).1 hR1
  by_cases hin : 0 ≤ i ∧ i < ss.length
  case neg =>
    have hO : readR ss ps i = ill 8 := by unfold readR; rw [if_neg hR, if_neg hin]
    rw [hO]
    clear hO
    go_enter Tryz.func70, Tryz.ntmps70
    go_wp2_with fail
    refine (right_impl _ _ ss ps _ (hs.below b0) (hp.below b0) hz hzp).mono ?_
    rintro e w1 ⟨rfl, hb1⟩
    have B1 := b0.trans (hb1.mono b0.size)
    have k01 := carry k0 hb1
    have k11 := carry k1 hb1
    obtain ⟨q0, q1, -, -⟩ := blk2 k01
    clear k0 k1 hb1 z0 b0
    rw [hR1]
    go_wp2_with fail
    refine (has_no _ _ _ _ _ _ hin).mono ?_
    rintro e w2 ⟨rfl, hb2⟩
    obtain ⟨r0, r1, r2, r3, rf, -⟩ := blk4 (carry k11 hb2)
    have HF : Hid (∀ p q r s, OT w (ill 8) (.returned (.agg #[.slice none 0 0, .slice none 0 0, .string ⟨#[]⟩, .int .i64 8])) (set4 w2 (w.heap.size + 1) p q r s)) := fin_ill (B1.trans (hb2.mono B1.size))
    go_wp2
    exact bodyPost_ret (v := .agg #[.slice none 0 0, .slice none 0 0, .string ⟨#[]⟩, .int .i64 8]) (by simp [results, Tryz.results70, go_sem, r0, r1, r2, r3]) rfl (HF.out _ _ _ _)
  obtain ⟨i0, i1⟩ := hin
  obtain ⟨j, rfl⟩ : ∃ j : Nat, i = j := ⟨i.toNat, by omega⟩
  have hj : j < ss.length := by omega
  obtain ⟨t, ht⟩ : ∃ t, ss[j]? = some t := ⟨_, List.getElem?_eq_getElem hj⟩
  have hO : readR ss ps j = ⟨ss, ps, readOf t ps j, 0⟩ := by
    unfold readR; rw [if_neg hR, if_pos ⟨i0, i1⟩]
    simp [List.getD_eq_getElem?_getD, ht]
  rw [hO]
  clear hO hR
  have HT : Hid (ss[j]? = some t) := ht
  clear ht
  go_enter Tryz.func70, Tryz.ntmps70
  go_wp2_with fail
  refine (right_impl _ _ ss ps _ (hs.below b0) (hp.below b0) hz hzp).mono ?_
  rintro e w1 ⟨rfl, hb1⟩
  have B1 := b0.trans (hb1.mono b0.size)
  have k01 := carry k0 hb1
  have k11 := carry k1 hb1
  obtain ⟨q0, q1, -, -⟩ := blk2 k01
  clear k0 k1 hb1 b0
  rw [hR1]
  go_wp2_with fail
  refine (has_yes _ _ _ _ _ _ i0 i1).mono ?_
  rintro e w2 ⟨rfl, hb2⟩
  have B2 := bel2 B1 hb2
  have k02 := carry k01 hb2
  have k12 := carry k11 hb2
  clear q0 q1 k01 k11 hb2 B1
  obtain ⟨q0, q1, -, -⟩ := blk2 k02
  go_wp2_with fail
  refine (atWork_any _ _ ss ps _ (hs.below B2) (hp.below B2) n2 n3).mono ?_
  rintro e w3 ⟨a, c, m, n, rfl, o3, m3, hn, hm, hb3⟩
  have B3 := bel2 B2 hb3
  have k03 := carry k02 hb3
  have k13 := carry k12 hb3
  clear q0 q1 k02 k12 hb3 B2
  obtain ⟨q0, q1, -, -⟩ := blk2 k03
  go_wp2_with fail
  refine (copied_any _ _ ss ps _ (hs.below B3) (hp.below B3) (by omega) (by omega)).mono ?_
  rintro e w4 ⟨f, d, f', d', rfl, g4, hb4⟩
  have B4 := bel2 B3 hb4
  have k14 := carry k13 hb4
  have m4 := m3.below hb4
  have o4 := o3.below hb4
  have z4 : Hid (w.heap.size + 2 ≤ w3.heap.size) := lt_some k13
  clear q0 q1 k03 k13 hb4 B3 m3 o3
  go_wp2_with fail
  refine (read_any a c m n ss ps j t _ o4.strs m4 n3 HT.out n2).mono ?_
  rintro e w5 ⟨rfl, hb5⟩
  obtain ⟨r0, r1, r2, r3, rf, -⟩ := blk4 (carry k14 hb5)
  have HF : Hid (∀ p q r s, OTold w ss ps (readOf t ps j) 0 (.returned (.agg #[.slice f ss.length d, .slice f' ps.length d', .string (readOf t ps j), .int .i64 0])) (set4 w5 (w.heap.size + 1) p q r s)) := fin_out (bel2 B4 hb5) (g4.below hb5) z4.out
  go_wp2
  exact bodyPost_ret (v := .agg #[.slice f ss.length d, .slice f' ps.length d', .string (readOf t ps j), .int .i64 0]) (by simp [results, Tryz.results70, go_sem, r0, r1, r2, r3]) rfl (HF.out _ _ _ _)
end Go.Proofs.YtfiabbfdnmldjaaGreatDoor.T9
