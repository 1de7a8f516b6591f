/-
  What the listed variables give a walk: the four sentinels, each at a place of its own, and the variable that errors.As reads.
-/
import Derived.Test.YtfiabbfdnmldjaaDoorU1
import Derived.Stop.LaidTwo
import Derived.LaidLaws
import Derived.OpenVars
import Derived.ProofKit
namespace Go.Proofs.YtfiabbfdnmldjaaDoor.U7
open Go.RowKit
open Go.Proofs.YtfiabbfdnmldjaaDoor.U1
theorem vars_length {H : Type} {enc : TypeId × Value → H} {P : Program} {w : World} {sp : Nat → Bool} : ∀ (ns : List String) (gs : List (DataW H)) (ps : List MemPlace), DataW.TrodVars enc P w sp ns gs ps → gs.length = ns.length
  | [], [], _, _ => rfl
  | _ :: ns, _ :: gs, _, h => by
    obtain ⟨_, _, _, _, _, q, _, _, _, _, h', _⟩ := h
    simp [vars_length ns gs q h']
  | [], _ :: _, _, h => h.elim
  | _ :: _, [], _, h => h.elim
theorem four_of {H : Type} {gs : List (DataW H)} (h : gs.length = 4) : ∃ a b c d, gs = [a, b, c, d] := by
  match gs, h with
  | [a, b, c, d], _ => exact ⟨a, b, c, d, rfl⟩
abbrev dat (t : List UInt8) : DataW Unit := .iface "*errors.errorString" (.ptr (.agg [.lit (.string t)]))
def txtOf : DataW Unit → List UInt8
  | .iface _ (.ptr (.agg [.lit (.string t)])) => t
  | _ => []
theorem star : "*" ++ "errors.errorString" = "*errors.errorString" := by decide
theorem rowE (u : TypeId) (h : Tryd.prog.typeName? 3 u = some "*errors.errorString") : u = 153 :=
  typeName_ptr_named (nm := "errors.errorString") (by rw [star]; kernel_rfl) (by kernel_rfl) (by decide) u (by rw [star]; exact h)
theorem cellsE : Tryd.prog.cellsOf 173 = 1 := by kernel_rfl
theorem cellsS : Tryd.prog.cellsOf 9 = 1 := by kernel_rfl
theorem skip {P : Program} {x y : String × DataW Unit} {r : List (String × DataW Unit)} {w : World} (h : laidMet P (x :: y :: r) w) : laidMet P (x :: r) w := by
  obtain ⟨ps, hv, hnd, hrows⟩ := h
  obtain ⟨n, d⟩ := x
  obtain ⟨m, d'⟩ := y
  obtain ⟨g, t, cs, fuel, p, q, h1, h2, h3, h4, ⟨g', t', cs', fuel', p', q', _, _, _, _, hq, rfl⟩, rfl⟩ := hv
  refine ⟨_, ⟨g, t, cs, fuel, p, q', h1, h2, h3, h4, hq, rfl⟩, ?_, fun b off hm => hrows b off ?_⟩
  · exact List.Nodup.sublist (List.Sublist.append_left (List.sublist_append_right _ _) _) hnd
  · rcases List.mem_append.1 hm with h | h
    · exact List.mem_append_left _ h
    · exact List.mem_append_right _ (List.mem_append_right _ h)
abbrev nE : String := "*errors.errorString"
theorem pair {n0 n1 : String} {t0 t1 : List UInt8} {r : List (String × DataW Unit)} {W : World} {g0 g1 : Nat} (h : laidMet Tryd.prog ((n0, dat t0) :: (n1, dat t1) :: r) W) (hg0 : Tryd.prog.globalNamed n0 = some g0) (ht0 : (Tryd.prog.globals[g0]?).map (·.type) = some 51) (hg1 : Tryd.prog.globalNamed n1 = some g1) (ht1 : (Tryd.prog.globals[g1]?).map (·.type) = some 51) :
    ∃ a b, W.cell? ⟨g0, 0, none⟩ = some (sent a) ∧ W.cell? ⟨g1, 0, none⟩ = some (sent b) ∧ a ≠ b ∧ (∃ c t, W.heap[a.block]? = some (.cells c t (0, 0))) ∧ ∃ c t, W.heap[b.block]? = some (.cells c t (0, 0)) := by
  obtain ⟨a0, a1, s0, s1, c0, c1, u0, u1, hv0, hv1, -, -, -, -, -, -, hne, hb0, hb1⟩ := laid_sentinels2 h hg0 ht0 hg1 ht1 Tryd.underlying51 rowE Tryd.underlying153 Tryd.underlying173 rfl rfl Tryd.underlying9 cellsE cellsS
  exact ⟨a0, a1, by simpa using World.var?_cell hg0 hv0 0, by simpa using World.var?_cell hg1 hv1 0, hne, ⟨c0, u0, hb0⟩, ⟨c1, u1, hb1⟩⟩
theorem same_sent {W : World} {g : Nat} {a b : Addr} (h : W.cell? ⟨g, 0, none⟩ = some (sent a)) (k : W.cell? ⟨g, 0, none⟩ = some (sent b)) : a = b := by
  rw [h] at k
  simpa [sent] using k
/-- The variables' numbers and types, as the program has them. -/
theorem ty1 : (Tryd.prog.globals[0]?).map (·.type) = some 51 := by kernel_rfl
theorem ty3 : (Tryd.prog.globals[2]?).map (·.type) = some 51 := by kernel_rfl
theorem ty5 : (Tryd.prog.globals[3]?).map (·.type) = some 51 := by kernel_rfl
theorem ty9 : (Tryd.prog.globals[1]?).map (·.type) = some 51 := by kernel_rfl
theorem sents_of {W : World} {n1 n3 n5 n9 : String} {t1 t3 t5 t9 : List UInt8} (h : laidMet Tryd.prog [(n1, dat t1), (n3, dat t3), (n5, dat t5), (n9, dat t9)] W) (g1 : Tryd.prog.globalNamed n1 = some 0) (g3 : Tryd.prog.globalNamed n3 = some 2) (g5 : Tryd.prog.globalNamed n5 = some 3) (g9 : Tryd.prog.globalNamed n9 = some 1) (hL : CF.Laid W) :
    ∃ a1 a3 a5 a9, Sents W a1 a3 a5 a9 := by
  obtain ⟨a1, a3, c1, c3, n13, h1, h3⟩ := pair h g1 ty1 g3 ty3
  obtain ⟨b1, a5, d1, c5, n15, -, h5⟩ := pair (skip h) g1 ty1 g5 ty5
  obtain ⟨e1, a9, f1, c9, n19, -, h9⟩ := pair (skip (skip h)) g1 ty1 g9 ty9
  obtain ⟨b3, b5, d3, d5, n35, -, -⟩ := pair h.tail g3 ty3 g5 ty5
  obtain ⟨e3, b9, f3, d9, n39, -, -⟩ := pair (skip h.tail) g3 ty3 g9 ty9
  obtain ⟨e5, e9, f5, f9, n59, -, -⟩ := pair h.tail.tail g5 ty5 g9 ty9
  obtain rfl := same_sent c1 d1
  obtain rfl := same_sent c1 f1
  obtain rfl := same_sent c3 d3
  obtain rfl := same_sent c3 f3
  obtain rfl := same_sent c5 d5
  obtain rfl := same_sent c5 f5
  obtain rfl := same_sent c9 d9
  obtain rfl := same_sent c9 f9
  exact ⟨a1, a3, a5, a9, c1, c3, c5, c9, n13, n15, n19, n35, n39, n59, h1, h3, h5, h9, hL⟩
end Go.Proofs.YtfiabbfdnmldjaaDoor.U7
