/-
  At every disk the program's AreaFormat answers as the specification's, every field; it writes into no argument, its answer owns its memory, and nothing that was in memory is written. Conditions: the four errors of the layer and the variable that errors.As reads start as the program's text lays them (the card ties them).
-/
import Derived.Test.YtfiabbfdnmldjaaDoorRows
import Derived.Test.YtfiabbfdnmldjaaDoorTie
import Derived.Test.YtfiabbfdnmldjaaDoorCards
import Derived.Test.YtfiabbfdnmldjaaDoorYAFormat
import Derived.Test.YtfiabbfdnmldjaaDoorPK
import Derived.Test.YtfiabbfdnmldjaaDoorPC
import Derived.ProofKit
import Derived.OpenShut
import Derived.ShutString
import Derived.ChangeOld
import Derived.ChangeSame
import Derived.ChangeVars
import Derived.OpenVars
import Derived.Carry
import Derived.JoinedOf
import Derived.RowKit
import Derived.RowKitTokens
import Derived.LaidLaws
import Derived.LaidHandle
import Derived.Lib.LaidTab
import Derived.Stop.Joined
import Derived.SevenTiedAt
import Derived.Below
namespace Go.Proofs.YtfiabbfdnmldjaaDoor.XFnExactAreaFormat
open Go.ChangeShapes Go.WideShapes Go.ChangeAt Go.RowKit
open Go.ChangeMaps (open_string shut_string)
open Go.Proofs.YtfiabbfdnmldjaaDoor.U7
theorem own : ownKnob Tryd.prog.godebug = none := by kernel_rfl
theorem laidOut : laidOutB Tryd.prog = true := by kernel_rfl
abbrev laidL : List (String × DataW Unit) := Rows.fnExactAreaFormatRow.laid
abbrev nm (i : Nat) : String := (laidL.map (·.1)).getD i ""
abbrev tx (i : Nat) : List UInt8 := (laidL.map (fun x => txtOf x.2)).getD i []
theorem split (W : World) : laidMetH Tryd.prog laidL W = (laidMet Tryd.prog [(nm 1, dat (tx 1)), (nm 2, dat (tx 2)), (nm 3, dat (tx 3)), (nm 4, dat (tx 4))] W ∧ handlesMet Tryd.prog [("errors.errorType", Rows.laid_errors_errorType)] W) := by kernel_rfl
theorem gN1 : Tryd.prog.globalNamed (nm 1) = some 0 := by kernel_rfl
theorem gN2 : Tryd.prog.globalNamed (nm 2) = some 2 := by kernel_rfl
theorem gN3 : Tryd.prog.globalNamed (nm 3) = some 3 := by kernel_rfl
theorem gN4 : Tryd.prog.globalNamed (nm 4) = some 1 := by kernel_rfl
theorem et : Tryd.prog.globalNamed "errors.errorType" = some 4 := by kernel_rfl
theorem oneRow : ((List.range 185).filter fun t => Tryd.prog.rowNamed t [101, 114, 114, 111, 114]) = [51] := by kernel_rfl
theorem tsize : Tryd.prog.types.size = 185 := by kernel_rfl
/-- What the condition gives a walk: the variable's one cell. -/
theorem handle_of {W : World} (h : handlesMet Tryd.prog [("errors.errorType", Rows.laid_errors_errorType)] W) : CF.Laid W := by
  obtain ⟨name, u, ty, e1, e2, e3, e4, e5⟩ := h _ (List.mem_singleton.2 rfl)
  have en : name = [101, 114, 114, 111, 114] := (Option.some.inj e1).symm
  subst en
  obtain rfl : u = 126 := Option.some.inj (e2.symm.trans (by kernel_rfl))
  have hm : ty ∈ (List.range 185).filter fun t => Tryd.prog.rowNamed t [101, 114, 114, 111, 114] := List.mem_filter.2 ⟨List.mem_range.2 (by rw [← tsize]; exact e3), e4⟩
  rw [oneRow] at hm
  obtain rfl := List.mem_singleton.1 hm
  have hh : typeHandle Tryd.prog 51 = .pointer (some ⟨5, 51, none⟩) := by kernel_rfl
  rw [hh] at e5
  unfold CF.Laid
  simpa using World.var?_cell et e5 0
theorem sents {W : World} (h : laidMetH Tryd.prog laidL W) : ∃ a1 a3 a5 a9, U1.Sents W a1 a3 a5 a9 := by
  rw [split] at h
  exact sents_of h.1 gN1 gN2 gN3 gN4 (handle_of h.2)
set_option maxRecDepth 100000 in
theorem lifted (os : Os) (started : os.Started) (H : Type) (enc : TypeId × Value → H) :
    ReturnsInHanded {} Tryd.checked os 3 .any (fun w args => (Rows.fnExactAreaFormatSpec.pre enc Tryd.prog Tryd.f3 [] false w args ∧ laidMetH Tryd.prog laidL w) ∧ sizedMet enc Tryd.prog Tryd.f3 (OpenSpec.ofChange Rows.fnExactAreaFormatSpec) false w args)
      (Rows.fnExactAreaFormatSpec.post enc Tryd.prog Tryd.f3 false true false false) := by
  refine returnsInHanded_of_change_and (C := Tryd.checked) (X := fun w _ => laidMetH Tryd.prog laidL w) (fun _ _ _ hh h => h.of_heap hh) own started (by kernel_rfl) Tryd.func3
    (ChangeSpec.witness_at (enc := enc) (C := Tryd.checked) (os := os) (X := fun w _ => laidMetH Tryd.prog laidL w) false ({ World.holding Tryd.prog os ⟨#[.cells #[.string ⟨(tx 1).toArray⟩] 173, .cells #[.string ⟨(tx 2).toArray⟩] 173, .cells #[.string ⟨(tx 3).toArray⟩] 173, .cells #[.string ⟨(tx 4).toArray⟩] 173], #[], []⟩ with heap := ((((((World.holding Tryd.prog os ⟨#[.cells #[.string ⟨(tx 1).toArray⟩] 173, .cells #[.string ⟨(tx 2).toArray⟩] 173, .cells #[.string ⟨(tx 3).toArray⟩] 173, .cells #[.string ⟨(tx 4).toArray⟩] 173], #[], []⟩).heap).modify 4 fun | .cells _ t frozen => .cells #[.iface 126 (.agg #[.pointer (some ⟨5, 51, none⟩)])] t frozen | o => o).modify 0 fun | .cells _ t frozen => .cells #[.iface 153 (.pointer (some ⟨(World.holding Tryd.prog default ⟨#[], #[], []⟩).heap.size + 0, 0, none⟩))] t frozen | o => o).modify 2 fun | .cells _ t frozen => .cells #[.iface 153 (.pointer (some ⟨(World.holding Tryd.prog default ⟨#[], #[], []⟩).heap.size + 1, 0, none⟩))] t frozen | o => o).modify 3 fun | .cells _ t frozen => .cells #[.iface 153 (.pointer (some ⟨(World.holding Tryd.prog default ⟨#[], #[], []⟩).heap.size + 2, 0, none⟩))] t frozen | o => o).modify 1 fun | .cells _ t frozen => .cells #[.iface 153 (.pointer (some ⟨(World.holding Tryd.prog default ⟨#[], #[], []⟩).heap.size + 3, 0, none⟩))] t frozen | o => o }) #[.agg #[.slice none 0 0, .slice none 0 0]] 8 rfl (by kernel_rfl) (by kernel_rfl) (by kernel_rfl) (by kernel_rfl) (by kernel_rfl) (laidMetH_of_parts (laidMet_of_run' 8 (by kernel_rfl) (by kernel_rfl)) (by kernel_rfl))) ?_
  intro W base args ds gs before hval0 hW _ _ hL _
  have hval : ∀ (j : Nat) t v, Tryd.f3.params[j]? = some t → args[j]? = some v → Value.okWide Tryd.prog W .any base t v := hval0
  have hW' := hW
  obtain ⟨p, q, hA0, hV0, rfl, hfz, hnd⟩ := hW
  have hA : DataW.TrodAll enc Tryd.prog W 0 (fun _ => true) true Tryd.f3.params.toList args.toList ds p := hA0
  have hV : DataW.TrodVars enc Tryd.prog W (fun _ => true) Rows.fnExactAreaFormatSpec.vars gs q := hV0
  rw [Tryd.params3] at hA hval
  obtain ⟨v0, vs0, d0, ds0, p0, q0, hargs, rfl, rfl, h0, r0⟩ := trodAll_cons hA
  obtain ⟨rfl, rfl, rfl⟩ := trodAll_nil r0
  obtain rfl : args = #[v0] := by cases args; simp_all
  have lt0 : ∀ x ∈ p0, x.block < W.heap.size := by obtain ⟨m, hm⟩ := h0; exact DataW.trod_lt m _ _ _ hm
  obtain ⟨vs0, vp0, ss0, ps0, rfl, hs0, hp0, hz0, hzp0⟩ := O1.disk_of (hval 0 25 v0 rfl rfl) h0
  obtain ⟨b1, b3, b5, b9, hS⟩ := sents hL
  obtain ⟨g1, g2, g3, g4, rfl⟩ := four_of (vars_length _ _ _ hV)
  clear hA0 hval0 hV0
  refine (YAFormat.walk b1 b3 b5 b9 vs0 vp0 ss0 ps0 W hS hs0 hp0 hz0 hzp0).mono fun e W' ⟨he, bel⟩ => ?_
  subst he
  exact ⟨_, rfl, _, _, _, [], _, _, hW', trodAll_mk1 (shut_bool Tryd.underlying4 _), (trodAll_cons_mk (Below.trod laidOut (by kernel_rfl) (of_decide_eq_true (by kernel_rfl)) h0 bel lt0) trodAll_mk0), Below.trodVars laidOut bel (by kernel_rfl) hV, bel.frame _, fun h => by cases h⟩
theorem over : Rows.FnExactAreaFormatSaid :=
  OpenClaim.holds_of_wide 3 Tryd.f3 rfl rfl rfl rfl rfl rfl rfl ⟨rfl, rfl, rfl, rfl, rfl⟩ rfl rfl rfl rfl rfl (by kernel_rfl) Tryd.func3 (by kernel_rfl)
    (of_decide_eq_true (by kernel_rfl)) (by unfold Func.isWrapper; first | (rw [if_pos (by decide +kernel)]; kernel_rfl) | (rw [if_neg (by decide +kernel)]; exact ⟨rfl, rfl⟩))
    (fun os started H enc _ => lifted os started H enc)
theorem card : Rows.FnExactAreaFormatCardSaid :=
  Claim7.holds_tied_plain_at .later [] _ _ _ _
    over (fun _ h => by cases h) (by kernel_rfl) (fun _ h => by cases h) fnExactAreaFormat_row_tie rfl ⟨rfl, rfl⟩ (by kernel_rfl) rfl
    (fun f fn hf hfn => by
      obtain rfl : f = 3 := Option.some.inj ((show Tryd.prog.funcNamed Rows.fnExactAreaFormatRow.func = some 3 by kernel_rfl).symm.trans hf) |>.symm
      obtain rfl : fn = Tryd.f3 := (Option.some.inj (Tryd.func3.symm.trans hfn)).symm
      exact ⟨by kernel_rfl, fun j t ht => by
        rw [Tryd.params3] at ht
        rcases j with _ | j
        · obtain rfl : t = 25 := by simpa using ht.symm
          exact (show Tryd.prog.wantsStandIn 25 = false by kernel_rfl)
        · simp at ht⟩)
    (by kernel_rfl)
end Go.Proofs.YtfiabbfdnmldjaaDoor.XFnExactAreaFormat
namespace Go.Proofs.YtfiabbfdnmldjaaDoor
theorem fnExactAreaFormat_holds : Rows.FnExactAreaFormatCardSaid := XFnExactAreaFormat.card
#print axioms fnExactAreaFormat_holds
end Go.Proofs.YtfiabbfdnmldjaaDoor
