/-
  One operation of a region that draws its order, taken ahead of the others.
-/
import Derived.Test.YtkpjdmmgdmbmnaaDoorQB
import Derived.Deep.RegionHeld3
import Derived.Laws.Tables
namespace Go.Proofs.YtkpjdmmgdmbmnaaDoor.TK
open Go Go.RowKit
theorem take_at {P : Program} {ops : Array Oper} {Q : Exit → Act → World → Prop} {md : Region.Mode} {S : World → Prop} (i : Nat) (d : Option Tmp) {oi : Oper} {v : Value} {fuel : Nat} {listed : Array Bool} {a : Act} {w : World} (hi : ops[i]? = some oi) (hd : oi.dst = d)
    (hs : Region.noSelect ops = true) (hf : Region.free md ops listed i = true) (hr : (Region.ready md ops listed).contains i = true)
    (hQ : ∀ c a w, Q (.panic c) (a.put d v) w → Q (.panic c) a w) (hy : YieldsIf P ops S oi v a) (hS : S w)
    (h : wpAnyH P md ops Q S fuel (listed.setIfInBounds i true) (a.put d v) w) : wpAnyH P md ops Q S (fuel + 1) listed a w := by
  subst hd
  exact wpAnyH_take hi hs hf hr hQ hy hS h
/-- A struct that is built, by the fact on what it is built of. -/
theorem build_at {P : Program} {ev : Operand → Value} {o : Oper} {w : World} (t : TypeId) (parts : Array (Nat × Operand)) (cells : Array Value) (ho : o.op = .build t parts)
    (h : P.built t (parts.map fun (i, x) => (i, ev x)).toList = some cells) : (execOp ev o).run P w = .ok (.value (.agg cells)) w := by
  unfold execOp
  simp only [ho, Sem.run_bind, run_build w t _ cells h, Result.andThen_ok]
  rfl
/-- The same of one part. -/
theorem build_one_at {P : Program} {ev : Operand → Value} {o : Oper} {w : World} (t : TypeId) (i : Nat) (x : Operand) (c : Value) (cells : Array Value) (ho : o.op = .build t #[(i, x)]) (hx : ev x = c)
    (h : P.built t [(i, c)] = some cells) : (execOp ev o).run P w = .ok (.value (.agg cells)) w := by
  subst hx
  exact build_at t #[(i, x)] cells ho (by simpa using h)
/-- A whole struct stored into a block. -/
theorem store_if {P : Program} {ops : Array Oper} {Q : Exit → Act → World → Prop} {o : Oper} {a : Act} {w w' : World} {K' : Act → World → Prop} (hw : Region.wanted o (yielded ops a.tmps) = true) (t : TypeId) (p q : Operand) (ad : Addr) (v : Value)
    (hop : o.op = .store t p q) (hp : a.eval p = .pointer (some ad)) (hq : a.eval q = v) (hd : o.dst = none) (hrun : (Instr.storeAt t (.pointer (some ad)) v).run P w = .ok () w') (h : K' a w') :
    if Region.wanted o (yielded ops a.tmps) = true then Oper.wp P o a w K' Q else K' (a.put o.dst undef) w := by
  rw [if_pos hw]
  unfold Oper.wp
  simp [execOp, hop, hp, hq, hrun, Result.andThen, Oper.upon]
  first
    | exact .inl h
    | (rw [hd]; exact .inl h)
    | (rw [hd]; exact h)
    | exact h
end Go.Proofs.YtkpjdmmgdmbmnaaDoor.TK
