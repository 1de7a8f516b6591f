/-
  At every disk, text and number of steps the program's AreaPut answers as the specification's, every field; it writes into no argument, its answer owns its memory, and nothing that was in memory is written. Conditions: the four errors of the layer and the variable that errors.As reads start as the program's text lays them (the card ties them).
-/
import Derived.Test.YtfiabbfdnmldjaaGreatDoorRows
import Derived.Test.YtfiabbfdnmldjaaGreatDoorTie
import Derived.Test.YtfiabbfdnmldjaaGreatDoorCards
import Derived.Test.YtfiabbfdnmldjaaGreatDoorYAPut
import Derived.Test.YtfiabbfdnmldjaaGreatDoorPK
import Derived.Test.YtfiabbfdnmldjaaGreatDoorPC
import Derived.ProofKit
import Derived.OpenShut
import Derived.ShutString
import Derived.ChangeOld
import Derived.ChangeSame
import Derived.ChangeVars
import Derived.OpenVars
import Derived.Carry
import Derived.JoinedOf
import Derived.RowKit
import Derived.RowKitTokens
import Derived.LaidLaws
import Derived.LaidHandle
import Derived.Lib.LaidTab
import Derived.Stop.Joined
import Derived.SevenTiedAt
import Derived.Below
namespace Go.Proofs.YtfiabbfdnmldjaaGreatDoor.XFnExactAreaPut
open Go.ChangeShapes Go.WideShapes Go.ChangeAt Go.RowKit
open Go.ChangeMaps (open_string shut_string)
open Go.Proofs.YtfiabbfdnmldjaaGreatDoor.U7
theorem own : ownKnob Tryz.prog.godebug = none := by kernel_rfl
theorem laidOut : laidOutB Tryz.prog = true := by kernel_rfl
abbrev laidL : List (String × DataW Unit) := Rows.fnExactAreaPutRow.laid
abbrev nm (i : Nat) : String := (laidL.map (·.1)).getD i ""
abbrev tx (i : Nat) : List UInt8 := (laidL.map (fun x => txtOf x.2)).getD i []
theorem split (W : World) : laidMetH Tryz.prog laidL W = (laidMet Tryz.prog [(nm 1, dat (tx 1)), (nm 2, dat (tx 2)), (nm 3, dat (tx 3)), (nm 4, dat (tx 4))] W ∧ handlesMet Tryz.prog [("errors.errorType", Rows.laid_errors_errorType)] W) := by kernel_rfl
theorem gN1 : Tryz.prog.globalNamed (nm 1) = some 0 := by kernel_rfl
theorem gN2 : Tryz.prog.globalNamed (nm 2) = some 1 := by kernel_rfl
theorem gN3 : Tryz.prog.globalNamed (nm 3) = some 2 := by kernel_rfl
theorem gN4 : Tryz.prog.globalNamed (nm 4) = some 3 := by kernel_rfl
theorem et : Tryz.prog.globalNamed "errors.errorType" = some 4 := by kernel_rfl
theorem oneRow : ((List.range 205).filter fun t => Tryz.prog.rowNamed t [101, 114, 114, 111, 114]) = [59] := by kernel_rfl
theorem tsize : Tryz.prog.types.size = 205 := by kernel_rfl
/-- What the condition gives a walk: the variable's one cell. -/
theorem handle_of {W : World} (h : handlesMet Tryz.prog [("errors.errorType", Rows.laid_errors_errorType)] W) : CF.Laid W := by
  obtain ⟨name, u, ty, e1, e2, e3, e4, e5⟩ := h _ (List.mem_singleton.2 rfl)
  have en : name = [101, 114, 114, 111, 114] := (Option.some.inj e1).symm
  subst en
  obtain rfl : u = 145 := Option.some.inj (e2.symm.trans (by kernel_rfl))
  have hm : ty ∈ (List.range 205).filter fun t => Tryz.prog.rowNamed t [101, 114, 114, 111, 114] := List.mem_filter.2 ⟨List.mem_range.2 (by rw [← tsize]; exact e3), e4⟩
  rw [oneRow] at hm
  obtain rfl := List.mem_singleton.1 hm
  have hh : typeHandle Tryz.prog 59 = .pointer (some ⟨5, 59, none⟩) := by kernel_rfl
  rw [hh] at e5
  unfold CF.Laid
  simpa using World.var?_cell et e5 0
theorem sents {W : World} (h : laidMetH Tryz.prog laidL W) : ∃ a1 a3 a5 a9, U1.Sents W a1 a3 a5 a9 := by
  rw [split] at h
  exact sents_of h.1 gN1 gN2 gN3 gN4 (handle_of h.2)
set_option maxRecDepth 100000 in
theorem lifted (os : Os) (started : os.Started) (H : Type) (enc : TypeId × Value → H) :
    ReturnsInHanded {} Tryz.checked os 5 .any (fun w args => (Rows.fnExactAreaPutSpec.pre enc Tryz.prog Tryz.f5 [] false w args ∧ laidMetH Tryz.prog laidL w) ∧ sizedMet enc Tryz.prog Tryz.f5 (OpenSpec.ofChange Rows.fnExactAreaPutSpec) false w args)
      (Rows.fnExactAreaPutSpec.post enc Tryz.prog Tryz.f5 false true false false) := by
  refine returnsInHanded_of_change_and (C := Tryz.checked) (X := fun w _ => laidMetH Tryz.prog laidL w) (fun _ _ _ hh h => h.of_heap hh) own started (by kernel_rfl) Tryz.func5
    (ChangeSpec.witness_at (enc := enc) (C := Tryz.checked) (os := os) (X := fun w _ => laidMetH Tryz.prog laidL w) false ({ World.holding Tryz.prog os ⟨#[.cells #[.string ⟨(tx 1).toArray⟩] 193, .cells #[.string ⟨(tx 2).toArray⟩] 193, .cells #[.string ⟨(tx 3).toArray⟩] 193, .cells #[.string ⟨(tx 4).toArray⟩] 193], #[], []⟩ with heap := ((((((World.holding Tryz.prog os ⟨#[.cells #[.string ⟨(tx 1).toArray⟩] 193, .cells #[.string ⟨(tx 2).toArray⟩] 193, .cells #[.string ⟨(tx 3).toArray⟩] 193, .cells #[.string ⟨(tx 4).toArray⟩] 193], #[], []⟩).heap).modify 4 fun | .cells _ t frozen => .cells #[.iface 145 (.agg #[.pointer (some ⟨5, 59, none⟩)])] t frozen | o => o).modify 0 fun | .cells _ t frozen => .cells #[.iface 172 (.pointer (some ⟨(World.holding Tryz.prog default ⟨#[], #[], []⟩).heap.size + 0, 0, none⟩))] t frozen | o => o).modify 1 fun | .cells _ t frozen => .cells #[.iface 172 (.pointer (some ⟨(World.holding Tryz.prog default ⟨#[], #[], []⟩).heap.size + 1, 0, none⟩))] t frozen | o => o).modify 2 fun | .cells _ t frozen => .cells #[.iface 172 (.pointer (some ⟨(World.holding Tryz.prog default ⟨#[], #[], []⟩).heap.size + 2, 0, none⟩))] t frozen | o => o).modify 3 fun | .cells _ t frozen => .cells #[.iface 172 (.pointer (some ⟨(World.holding Tryz.prog default ⟨#[], #[], []⟩).heap.size + 3, 0, none⟩))] t frozen | o => o }) #[.agg #[.slice none 0 0, .slice none 0 0], .string ByteArray.empty, .int .i64 0] 8 rfl (by kernel_rfl) (by kernel_rfl) (by kernel_rfl) (by kernel_rfl) (by kernel_rfl) (laidMetH_of_parts (laidMet_of_run' 8 (by kernel_rfl) (by kernel_rfl)) (by kernel_rfl))) ?_
  intro W base args ds gs before hval0 hW _ _ hL _
  have hval : ∀ (j : Nat) t v, Tryz.f5.params[j]? = some t → args[j]? = some v → Value.okWide Tryz.prog W .any base t v := hval0
  have hW' := hW
  obtain ⟨p, q, hA0, hV0, rfl, hfz, hnd⟩ := hW
  have hA : DataW.TrodAll enc Tryz.prog W 0 (fun _ => true) true Tryz.f5.params.toList args.toList ds p := hA0
  have hV : DataW.TrodVars enc Tryz.prog W (fun _ => true) Rows.fnExactAreaPutSpec.vars gs q := hV0
  rw [Tryz.params5] at hA hval
  obtain ⟨v0, vs0, d0, ds0, p0, q0, hargs, rfl, rfl, h0, r0⟩ := trodAll_cons hA
  obtain ⟨v1, vs1, d1, ds1, p1, q1, rfl, rfl, rfl, h1, r1⟩ := trodAll_cons r0
  obtain ⟨v2, vs2, d2, ds2, p2, q2, rfl, rfl, rfl, h2, r2⟩ := trodAll_cons r1
  obtain ⟨rfl, rfl, rfl⟩ := trodAll_nil r2
  obtain rfl : args = #[v0, v1, v2] := by cases args; simp_all
  have lt0 : ∀ x ∈ p0, x.block < W.heap.size := by obtain ⟨m, hm⟩ := h0; exact DataW.trod_lt m _ _ _ hm
  obtain ⟨vs0, vp0, ss0, ps0, rfl, hs0, hp0, hz0, hzp0⟩ := O1.disk_of (hval 0 44 v0 rfl rfl) h0
  obtain ⟨a1, rfl, rfl, rfl, w1⟩ := open_string Tryz.underlying9 (hval 1 9 v1 rfl rfl) h1
  obtain ⟨a2, rfl, rfl, rfl, w2⟩ := open_int Tryz.underlying2 (hval 2 2 v2 rfl rfl) h2
  have wb2 := bounds_i64 w2
  obtain ⟨b1, b3, b5, b9, hS⟩ := sents hL
  obtain ⟨g1, g2, g3, g4, rfl⟩ := four_of (vars_length _ _ _ hV)
  clear hA0 hval0 hV0
  refine (YAPut.walk b1 b3 b5 b9 vs0 vp0 ss0 ps0 a1 a2 W hS hs0 hp0 hz0 hzp0 w1 wb2).mono fun e W' ⟨he, bel⟩ => ?_
  subst he
  exact ⟨_, rfl, _, _, _, [], _, _, hW', trodAll_mk1 (shut_bool Tryz.underlying4 _), (trodAll_cons_mk (Below.trod laidOut (by kernel_rfl) (of_decide_eq_true (by kernel_rfl)) h0 bel lt0) (trodAll_cons_mk (shut_string Tryz.underlying9 w1) (trodAll_cons_mk (shut_int Tryz.underlying2 w2) trodAll_mk0))), Below.trodVars laidOut bel (by kernel_rfl) hV, bel.frame _, fun h => by cases h⟩
theorem over : Rows.FnExactAreaPutSaid :=
  OpenClaim.holds_of_wide 5 Tryz.f5 rfl rfl rfl rfl rfl rfl rfl ⟨rfl, rfl, rfl, rfl, rfl⟩ rfl rfl rfl rfl rfl (by kernel_rfl) Tryz.func5 (by kernel_rfl)
    (of_decide_eq_true (by kernel_rfl)) (by unfold Func.isWrapper; first | (rw [if_pos (by decide +kernel)]; kernel_rfl) | (rw [if_neg (by decide +kernel)]; exact ⟨rfl, rfl⟩))
    (fun os started H enc _ => lifted os started H enc)
theorem card : Rows.FnExactAreaPutCardSaid :=
  Claim7.holds_tied_plain_at .later [] _ _ _ _
    over (fun _ h => by cases h) (by kernel_rfl) (fun _ h => by cases h) fnExactAreaPut_row_tie rfl ⟨rfl, rfl⟩ (by kernel_rfl) rfl
    (fun f fn hf hfn => by
      obtain rfl : f = 5 := Option.some.inj ((show Tryz.prog.funcNamed Rows.fnExactAreaPutRow.func = some 5 by kernel_rfl).symm.trans hf) |>.symm
      obtain rfl : fn = Tryz.f5 := (Option.some.inj (Tryz.func5.symm.trans hfn)).symm
      exact ⟨by kernel_rfl, fun j t ht => by
        rw [Tryz.params5] at ht
        rcases j with _ | _ | _ | j
        · obtain rfl : t = 44 := by simpa using ht.symm
          exact (show Tryz.prog.wantsStandIn 44 = false by kernel_rfl)
        · obtain rfl : t = 9 := by simpa using ht.symm
          exact (show Tryz.prog.wantsStandIn 9 = false by kernel_rfl)
        · obtain rfl : t = 2 := by simpa using ht.symm
          exact (show Tryz.prog.wantsStandIn 2 = false by kernel_rfl)
        · simp at ht⟩)
    (by kernel_rfl)
end Go.Proofs.YtfiabbfdnmldjaaGreatDoor.XFnExactAreaPut
namespace Go.Proofs.YtfiabbfdnmldjaaGreatDoor
theorem fnExactAreaPut_holds : Rows.FnExactAreaPutCardSaid := XFnExactAreaPut.card
#print axioms fnExactAreaPut_holds
end Go.Proofs.YtfiabbfdnmldjaaGreatDoor
