/-
  A map from places to Pending of the call's own: made, stored into, asked, struck out of.
-/
import Derived.Test.YtfiabbfdnmldjaaDoorS3
import Derived.Maps.OwnSet
import Derived.Maps.OwnOps
namespace Go.Proofs.YtfiabbfdnmldjaaDoor.T6
open Go.RowKit Go.Maps
open Go.Proofs.YtfiabbfdnmldjaaDoor.C0 Go.Proofs.YtfiabbfdnmldjaaDoor.S0

def rP (v : Value) : Option (DataW Unit × List MemPlace) :=
  match v with
  | .agg cs => match cs.toList with
    | [.int .i64 a, .string s] => some (.agg [.lit (.int .i64 a), .lit (.string s.data.toList)], [])
    | _ => none
  | _ => none
def dat (p : Pend) : DataW Unit := .agg [.lit (.int .i64 p.1), .lit (.string p.2.data.toList)]
theorem rP_mk (p : Pend) : rP (.agg #[.int .i64 p.1, .string p.2]) = some (dat p, []) := rfl
theorem rP_inv {v : Value} {p : Pend} {ps : List MemPlace} (h : rP v = some (dat p, ps)) : v = .agg #[.int .i64 p.1, .string p.2] := by
  unfold rP at h
  split at h
  · rename_i cs
    split at h
    · rename_i a s e
      simp only [dat, Option.some.injEq, Prod.mk.injEq, DataW.agg.injEq, List.cons.injEq, DataW.lit.injEq, Lit.int.injEq, Lit.string.injEq, and_true, true_and] at h
      obtain ⟨⟨rfl, h2⟩, _⟩ := h
      have hs : s = p.2 := by
        obtain ⟨⟨l⟩⟩ := s
        obtain ⟨z, ⟨⟨l'⟩⟩⟩ := p
        simp at h2
        rw [h2]
      have hc : cs = #[.int .i64 p.1, .string s] := by
        cases cs; simpa using e
      rw [hc, hs]
    · cases h
  · cases h
abbrev key (i : Nat) : Lit := .int .i64 (i : Int)
theorem key_ne {i j : Nat} (h : i ≠ j) : key i ≠ key j := fun e => h (by simp at e; omega)
theorem key_lit (i : Nat) : WideAt.IsKeyLit (key i) := trivial
theorem keyd : Keyed Tryd.prog 3 := int_keyed Tryd.underlying3
theorem key_of (i : Nat) (hi : i < 1000) : keyOf Tryd.prog 3 (.int .i64 (i : Int)) = some (key i) := keyOf_int_mk Tryd.underlying3 (WalkArith.wf_i64 (by omega))
theorem zeroE (w : World) : (zeroValue 73).run Tryd.prog w = .ok (.agg #[.int .i64 0, .string ⟨#[]⟩]) w := by kernel_rfl
/-- Block b is a map that holds at each place what f says. -/
def MapIs (w : World) (b n : Nat) (f : Nat → Option Pend) : Prop :=
  ∃ D : DataW Unit, w.ownsMap Tryd.prog 3 rP b n D ∧ ∀ i : Nat, i < 1000 → Maps.has D (key i) = (f i).isSome ∧ ∀ z, D.atKey (key i) z = match f i with | some p => dat p | none => z
def upd (f : Nat → Option Pend) (i : Nat) (x : Option Pend) : Nat → Option Pend := fun j => if j = i then x else f j
theorem MapIs.made (w : World) : MapIs (w.alloc (.map #[] 0)) w.heap.size 0 (fun _ => none) :=
  ⟨.map [], World.ownsMap_made w _ _ _, fun _ _ => ⟨rfl, fun _ => rfl⟩⟩
theorem MapIs.kept {w w' : World} {b n : Nat} {f : Nat → Option Pend} {row : Option Nat} (h : MapIs w b n f) (hg : w.grownBy w' row) (hne : some b ≠ row) : MapIs w' b n f := by
  obtain ⟨D, h1, h2⟩ := h
  exact ⟨D, h1.kept hg hne, h2⟩
theorem MapIs.lt {w : World} {b n : Nat} {f : Nat → Option Pend} (h : MapIs w b n f) : b < w.heap.size := by obtain ⟨D, h1, _⟩ := h; exact h1.lt
theorem MapIs.block {w w' : World} {b n : Nat} {f : Nat → Option Pend} (h : MapIs w b n f) (e : w'.heap[b]? = w.heap[b]?) : MapIs w' b n f := by
  obtain ⟨D, ⟨es, cl, h1, r⟩, h2⟩ := h
  exact ⟨D, ⟨es, cl, e.trans h1, r⟩, h2⟩
theorem MapIs.below {w w' : World} {b n : Nat} {f : Nat → Option Pend} (h : MapIs w b n f) (hb : Below w.heap.size w w') : MapIs w' b n f := h.block (hb.block b h.lt)
theorem MapIs.alloc {w : World} {b n : Nat} {f : Nat → Option Pend} (h : MapIs w b n f) (o : Obj) : MapIs (w.alloc o) b n f := h.below ((Below.refl _ _).alloc (Nat.le_refl _) o)
theorem MapIs.setCell {w : World} {b n : Nat} {f : Nat → Option Pend} (h : MapIs w b n f) {a : Addr} (ha : b ≠ a.block) (u : Value) : MapIs (w.setCell a u) b n f := h.block (Below.heap_setCell _ _ _ _ ha)
theorem MapIs.congr {w : World} {b n : Nat} {f g : Nat → Option Pend} (h : MapIs w b n f) (e : ∀ i, i < 1000 → f i = g i) : MapIs w b n g := by
  obtain ⟨D, h1, h2⟩ := h
  exact ⟨D, h1, fun i hi => by rw [← e i hi]; exact h2 i hi⟩
theorem MapIs.store {w : World} {b n : Nat} {f : Nat → Option Pend} (h : MapIs w b n f) (hn : n < 1000) (i : Nat) (hi : i < 1000) (p : Pend) :
    ∃ w', (Instr.mapUpdate 105 (.map (some b)) (.int .i64 (i : Int)) (.agg #[.int .i64 p.1, .string p.2])).run Tryd.prog w = .ok () w' ∧ MapIs w' b (n + 1) (upd f i (some p)) ∧ w.grownBy w' (some b) := by
  obtain ⟨D, h1, h2⟩ := h
  obtain ⟨w', hr, h3, h4⟩ := h1.store keyd Tryd.underlying105 (by unfold maxLen; omega) (key_of i hi) (rP_mk p)
  refine ⟨w', hr, ⟨_, h3, fun j hj => ?_⟩, h4.grown⟩
  unfold upd
  by_cases e : j = i
  · subst e
    rw [if_pos rfl]
    exact ⟨has_put_same h1.isMap (key_lit j) _, fun z => atKey_put_same h1.isMap (key_lit j) _ _⟩
  · rw [if_neg e]
    exact ⟨by rw [has_put_other (key_ne e)]; exact (h2 j hj).1, fun z => by rw [atKey_put_other (key_ne e)]; exact (h2 j hj).2 z⟩
theorem MapIs.drop {w : World} {b n : Nat} {f : Nat → Option Pend} (h : MapIs w b n f) (i : Nat) (hi : i < 1000) (ty : TypeId) :
    ∃ w', (Builtin.delete_ #[105, 3] ty #[.map (some b), .int .i64 (i : Int)]).run Tryd.prog w = .ok (.tuple #[]) w' ∧ MapIs w' b n (upd f i none) ∧ w.grownBy w' (some b) := by
  obtain ⟨D, h1, h2⟩ := h
  obtain ⟨w', hr, h3, h4⟩ := h1.drop keyd Tryd.underlying105 (key_of i hi) ty
  refine ⟨w', hr, ⟨_, h3, fun j hj => ?_⟩, h4.grown⟩
  unfold upd
  by_cases e : j = i
  · subst e
    rw [if_pos rfl]
    exact ⟨has_del_same, fun z => atKey_del_same _⟩
  · rw [if_neg e]
    exact ⟨by rw [has_del_other (key_ne e)]; exact (h2 j hj).1, fun z => by rw [atKey_del_other (key_ne e)]; exact (h2 j hj).2 z⟩
theorem MapIs.look {w : World} {b n : Nat} {f : Nat → Option Pend} (h : MapIs w b n f) (i : Nat) (hi : i < 1000) (p : Pend) (hp : f i = some p) :
    (Instr.lookup 105 (.map (some b)) (.int .i64 (i : Int)) false).run Tryd.prog w = .ok (.agg #[.int .i64 p.1, .string p.2]) w := by
  obtain ⟨D, h1, h2⟩ := h
  obtain ⟨v, ps, hr, hv⟩ := h1.lookup keyd Tryd.underlying105 (zeroE w) (rP_mk (0, ⟨#[]⟩)) (key_of i hi)
  rw [(h2 i hi).2, hp] at hv
  rw [hr, rP_inv hv]
theorem MapIs.look_yes {w : World} {b n : Nat} {f : Nat → Option Pend} (h : MapIs w b n f) (i : Nat) (hi : i < 1000) (p : Pend) (hp : f i = some p) :
    (Instr.lookup 105 (.map (some b)) (.int .i64 (i : Int)) true).run Tryd.prog w = .ok (.tuple #[.agg #[.int .i64 p.1, .string p.2], .bool true]) w := by
  obtain ⟨D, h1, h2⟩ := h
  obtain ⟨v, ps, hr, hv⟩ := h1.look_ok keyd Tryd.underlying105 (zeroE w) (rP_mk (0, ⟨#[]⟩)) (key_of i hi)
  rw [(h2 i hi).2, hp] at hv
  rw [hr, rP_inv hv, (h2 i hi).1, hp]; rfl
theorem MapIs.look_no {w : World} {b n : Nat} {f : Nat → Option Pend} (h : MapIs w b n f) (i : Nat) (hi : i < 1000) (hp : f i = none) :
    (Instr.lookup 105 (.map (some b)) (.int .i64 (i : Int)) true).run Tryd.prog w = .ok (.tuple #[.agg #[.int .i64 0, .string ⟨#[]⟩], .bool false]) w := by
  obtain ⟨D, h1, h2⟩ := h
  obtain ⟨v, ps, hr, hv⟩ := h1.look_ok keyd Tryd.underlying105 (zeroE w) (rP_mk (0, ⟨#[]⟩)) (key_of i hi)
  rw [(h2 i hi).2, hp] at hv
  rw [hr, rP_inv (p := (0, ⟨#[]⟩)) hv, (h2 i hi).1, hp]; rfl
end Go.Proofs.YtfiabbfdnmldjaaDoor.T6
