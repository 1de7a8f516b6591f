/-
  NARROWER THAN 'FOR EVERY INPUT', by the rows' own cells (each row's printed sentence says how): FnArea: ifaces, laid · FnAreaTorn: ifaces, laid · FnExactAreaPut: ifaces, laid.
  DERIVED. THE GIVEN ROWS OF THIS SEAT. 3 by the template 'for every input the law returns true; each argument reads behind the call as it read before'; 0 by the template 'total and deterministic' (their statements: YtfiabbfdnmldjaaGreatDoorTotals.lean).
  GIVEN WITH THE SEED: the statements are not yours to turn. If you find one false, say at which input.
  Laid BY PROGRAM, IN A SANDBOX (cutbox-rows.mjs): the forced cells as the released guide's own fill.sh prints them over the translation 99e96e589040be62… (all of the seat's roots in one cut). By AI agents, Wed Nov 11 2026. No macro, syntax, notation, axiom, sorry.
-/
import Derived.Test.YtfiabbfdnmldjaaGreatDoorChecked
import GoSem.Claim
import GoSem.ClaimJoined
import GoSem.ClaimMapViews
import Derived.JoinedTies
import Derived.KernelRfl
namespace Go.Proofs.YtfiabbfdnmldjaaGreatDoor
/- THE CELL 'sum', in the pinned program and in every row, IS THE sha256 OF THE DUMP (.gsa) THAT YtfiabbfdnmldjaaGreatDoorProg.lean LOADS. Nothing in Lean hashes anything: it is a label: what it is worth is what the hold of that sum in a sandbox is worth. -/
noncomputable def Tryz.pinned : Pinned := { name := "ytfiabbfdnmldjaagreatdoor", sum := "99e96e589040be629424731ed38fcd8f2bfeeac94e5547cdb00ec501aca9111c", checked := Tryz.checked }
namespace Rows
def none {H : Type} : Left H := { results := [], args := [] }

/- WHAT THE LISTED PACKAGE-LEVEL VARIABLES READ AS WHEN THE CALL BEGINS. Each datum BY PROGRAM (the guide's laid-datum.mjs) off the statement by which the dump's own 'gosem.cut.vars' lays the variable. In a bare row this is a premise. The card (YtfiabbfdnmldjaaGreatDoorCards.lean) ties it to the program's text. -/
def laid_errors_errorType {H : Type} : DataW H := .iface "internal/reflectlite.rtype" (.agg [.ptr (.lit (.string [101, 114, 114, 111, 114]))])
def laid_loop_example_g00629_impl_errNotRight {H : Type} : DataW H := .iface "*errors.errorString" (.ptr (.agg [.lit (.string [97, 114, 101, 97, 58, 32, 116, 104, 101, 32, 100, 105, 115, 107, 32, 105, 115, 32, 110, 111, 116, 32, 114, 105, 103, 104, 116])]))
def laid_loop_example_g00629_impl_errNoHead {H : Type} : DataW H := .iface "*errors.errorString" (.ptr (.agg [.lit (.string [97, 114, 101, 97, 58, 32, 83, 101, 99, 116, 111, 114, 32, 48, 32, 105, 115, 32, 115, 101, 97, 108, 101, 100, 44, 32, 97, 110, 100, 32, 105, 115, 32, 110, 111, 32, 104, 101, 97, 100, 32, 111, 102, 32, 116, 104, 105, 115, 32, 100, 105, 115, 107])]))
def laid_loop_example_g00629_impl_errLacking {H : Type} : DataW H := .iface "*errors.errorString" (.ptr (.agg [.lit (.string [97, 114, 101, 97, 58, 32, 97, 32, 83, 101, 99, 116, 111, 114, 32, 111, 102, 32, 116, 104, 101, 32, 115, 105, 100, 101, 32, 104, 97, 115, 32, 102, 101, 119, 101, 114, 32, 98, 121, 116, 101, 115, 32, 116, 104, 97, 110, 32, 115, 116, 97, 110, 100, 32, 105, 110, 32, 105, 116])]))
def laid_loop_example_g00629_impl_errNoRoom {H : Type} : DataW H := .iface "*errors.errorString" (.ptr (.agg [.lit (.string [97, 114, 101, 97, 58, 32, 116, 104, 101, 114, 101, 32, 105, 115, 32, 110, 111, 32, 114, 111, 111, 109, 44, 32, 111, 114, 32, 110, 111, 32, 102, 117, 114, 116, 104, 101, 114, 32, 110, 117, 109, 98, 101, 114])]))

/-- 'laws.FnArea': WHATEVER THE INPUT: true; the input reads as it did. -/
def fnAreaSpec : ChangeSpec := { name := "fnArea", vars := ["loop.example/g00629/impl.errNotRight", "loop.example/g00629/impl.errNoHead", "loop.example/g00629/impl.errLacking", "loop.example/g00629/impl.errNoRoom"], fn := fun _ => fun
  | [d1, d2, g1, g2, g3, g4] => { results := [.lit (.bool true)], args := [d1, d2], vars := [g1, g2, g3, g4] }
  | _ => none }
def fnAreaRow : OpenClaim := { program := "ytfiabbfdnmldjaagreatdoor", sum := "99e96e589040be629424731ed38fcd8f2bfeeac94e5547cdb00ec501aca9111c", func := "loop.example/g00629/laws.FnArea", spec := "fnArea", inPlace := ["internal/reflectlite.TypeOf", "internal/reflectlite.ValueOf", "(internal/reflectlite.Value).Type", "(internal/reflectlite.Value).IsNil", "(internal/reflectlite.Value).Elem", "(internal/reflectlite.Value).Set"], unfollowed := true, recurses := true, named := ["loop.example/g00629/impl.errNotRight", "loop.example/g00629/impl.errNoHead", "loop.example/g00629/impl.errLacking", "loop.example/g00629/impl.errNoRoom", "errors.errorType"], ifaces := true, apart := false, laid := [("errors.errorType", laid_errors_errorType), ("loop.example/g00629/impl.errNotRight", laid_loop_example_g00629_impl_errNotRight), ("loop.example/g00629/impl.errNoHead", laid_loop_example_g00629_impl_errNoHead), ("loop.example/g00629/impl.errLacking", laid_loop_example_g00629_impl_errLacking), ("loop.example/g00629/impl.errNoRoom", laid_loop_example_g00629_impl_errNoRoom)] }
def FnAreaSaid : Prop := fnAreaRow.holds Tryz.pinned (OpenSpec.ofChange fnAreaSpec)

/-- ITS FALSE NEIGHBOUR: 'it returns false'. Refute it at one input. -/
def fnAreaWrong : ChangeSpec := { name := "fnArea", vars := ["loop.example/g00629/impl.errNotRight", "loop.example/g00629/impl.errNoHead", "loop.example/g00629/impl.errLacking", "loop.example/g00629/impl.errNoRoom"], fn := fun _ => fun
  | [d1, d2, g1, g2, g3, g4] => { results := [.lit (.bool false)], args := [d1, d2], vars := [g1, g2, g3, g4] }
  | _ => none }
def FnAreaWrongFalsely : Prop := fnAreaRow.holds Tryz.pinned (OpenSpec.ofChange fnAreaWrong)

/-- 'laws.FnAreaTorn': WHATEVER THE INPUT: true; the input reads as it did. -/
def fnAreaTornSpec : ChangeSpec := { name := "fnAreaTorn", vars := ["loop.example/g00629/impl.errNoRoom", "loop.example/g00629/impl.errNotRight", "loop.example/g00629/impl.errNoHead", "loop.example/g00629/impl.errLacking"], fn := fun _ => fun
  | [d1, d2, g1, g2, g3, g4] => { results := [.lit (.bool true)], args := [d1, d2], vars := [g1, g2, g3, g4] }
  | _ => none }
def fnAreaTornRow : OpenClaim := { program := "ytfiabbfdnmldjaagreatdoor", sum := "99e96e589040be629424731ed38fcd8f2bfeeac94e5547cdb00ec501aca9111c", func := "loop.example/g00629/laws.FnAreaTorn", spec := "fnAreaTorn", inPlace := ["internal/reflectlite.TypeOf", "internal/reflectlite.ValueOf", "(internal/reflectlite.Value).Type", "(internal/reflectlite.Value).IsNil", "(internal/reflectlite.Value).Elem", "(internal/reflectlite.Value).Set"], unfollowed := true, recurses := true, named := ["loop.example/g00629/impl.errNoRoom", "loop.example/g00629/impl.errNotRight", "loop.example/g00629/impl.errNoHead", "loop.example/g00629/impl.errLacking", "errors.errorType"], ifaces := true, apart := false, laid := [("errors.errorType", laid_errors_errorType), ("loop.example/g00629/impl.errNotRight", laid_loop_example_g00629_impl_errNotRight), ("loop.example/g00629/impl.errNoHead", laid_loop_example_g00629_impl_errNoHead), ("loop.example/g00629/impl.errLacking", laid_loop_example_g00629_impl_errLacking), ("loop.example/g00629/impl.errNoRoom", laid_loop_example_g00629_impl_errNoRoom)] }
def FnAreaTornSaid : Prop := fnAreaTornRow.holds Tryz.pinned (OpenSpec.ofChange fnAreaTornSpec)

/-- ITS FALSE NEIGHBOUR: 'it returns false'. Refute it at one input. -/
def fnAreaTornWrong : ChangeSpec := { name := "fnAreaTorn", vars := ["loop.example/g00629/impl.errNoRoom", "loop.example/g00629/impl.errNotRight", "loop.example/g00629/impl.errNoHead", "loop.example/g00629/impl.errLacking"], fn := fun _ => fun
  | [d1, d2, g1, g2, g3, g4] => { results := [.lit (.bool false)], args := [d1, d2], vars := [g1, g2, g3, g4] }
  | _ => none }
def FnAreaTornWrongFalsely : Prop := fnAreaTornRow.holds Tryz.pinned (OpenSpec.ofChange fnAreaTornWrong)

/-- 'laws.FnExactAreaPut': WHATEVER THE INPUT: true; the input reads as it did. -/
def fnExactAreaPutSpec : ChangeSpec := { name := "fnExactAreaPut", vars := ["loop.example/g00629/impl.errNoRoom", "loop.example/g00629/impl.errNotRight", "loop.example/g00629/impl.errNoHead", "loop.example/g00629/impl.errLacking"], fn := fun _ => fun
  | [d1, d2, d3, g1, g2, g3, g4] => { results := [.lit (.bool true)], args := [d1, d2, d3], vars := [g1, g2, g3, g4] }
  | _ => none }
def fnExactAreaPutRow : OpenClaim := { program := "ytfiabbfdnmldjaagreatdoor", sum := "99e96e589040be629424731ed38fcd8f2bfeeac94e5547cdb00ec501aca9111c", func := "loop.example/g00629/laws.FnExactAreaPut", spec := "fnExactAreaPut", inPlace := ["internal/reflectlite.TypeOf", "internal/reflectlite.ValueOf", "(internal/reflectlite.Value).Type", "(internal/reflectlite.Value).IsNil", "(internal/reflectlite.Value).Elem", "(internal/reflectlite.Value).Set"], unfollowed := true, recurses := true, named := ["loop.example/g00629/impl.errNoRoom", "loop.example/g00629/impl.errNotRight", "loop.example/g00629/impl.errNoHead", "loop.example/g00629/impl.errLacking", "errors.errorType"], ifaces := true, apart := false, laid := [("errors.errorType", laid_errors_errorType), ("loop.example/g00629/impl.errNotRight", laid_loop_example_g00629_impl_errNotRight), ("loop.example/g00629/impl.errNoHead", laid_loop_example_g00629_impl_errNoHead), ("loop.example/g00629/impl.errLacking", laid_loop_example_g00629_impl_errLacking), ("loop.example/g00629/impl.errNoRoom", laid_loop_example_g00629_impl_errNoRoom)] }
def FnExactAreaPutSaid : Prop := fnExactAreaPutRow.holds Tryz.pinned (OpenSpec.ofChange fnExactAreaPutSpec)

/-- ITS FALSE NEIGHBOUR: 'it returns false'. Refute it at one input. -/
def fnExactAreaPutWrong : ChangeSpec := { name := "fnExactAreaPut", vars := ["loop.example/g00629/impl.errNoRoom", "loop.example/g00629/impl.errNotRight", "loop.example/g00629/impl.errNoHead", "loop.example/g00629/impl.errLacking"], fn := fun _ => fun
  | [d1, d2, d3, g1, g2, g3, g4] => { results := [.lit (.bool false)], args := [d1, d2, d3], vars := [g1, g2, g3, g4] }
  | _ => none }
def FnExactAreaPutWrongFalsely : Prop := fnExactAreaPutRow.holds Tryz.pinned (OpenSpec.ofChange fnExactAreaPutWrong)

/- THE SECOND FORM. 'bulk': how many values and letters a reading holds, each counted each time it is reached (what is shared counts as often as it is met; a slice's spare places count too). A statement '..UptoSaid' is the law's where the arguments, and the package variables that the reading takes, are together of bulk at most 1048576: NARROWER than '..Said'. Prove '..Said' where nothing that the law and all that it calls make is longer than what came in: it says more and counts as full. Else prove '..UptoSaid'. A law counts once. -/
mutual
def uptoBulk {H : Type} : DataW H → Nat
  | .lit (.string bytes) => bytes.length + 1
  | .lit _ => 1
  | .nil => 1
  | .ptr d => uptoBulk d + 1
  | .slice elems spare => uptoBulkAll elems + uptoBulkAll spare + 1
  | .agg parts => uptoBulkAll parts + 1
  | .iface _ d => uptoBulk d + 1
  | .map entries => uptoBulkEntries entries + 1
  | .held _ => 1
def uptoBulkAll {H : Type} : List (DataW H) → Nat
  | [] => 0
  | d :: r => uptoBulk d + uptoBulkAll r
def uptoBulkEntries {H : Type} : List (Lit × DataW H) → Nat
  | [] => 0
  | x :: r => uptoBulkEntry x + uptoBulkEntries r
def uptoBulkEntry {H : Type} : Lit × DataW H → Nat
  | (.string bytes, d) => bytes.length + uptoBulk d + 1
  | (_, d) => uptoBulk d + 1
 end
def uptoSmall : (H : Type) → List (DataW H) → Bool := fun _ ds => decide (uptoBulkAll ds ≤ 1048576)
def OpenSpec.upto (s : _root_.Go.ChangeSpec) : _root_.Go.OpenSpec := { _root_.Go.OpenSpec.ofChange s with cond := some uptoSmall }

/-- 'laws.FnArea', WHERE WHAT IT READS IS OF BULK AT MOST 1048576: true; the input reads as it did. -/
def fnAreaUptoRow : OpenClaim := { program := "ytfiabbfdnmldjaagreatdoor", sum := "99e96e589040be629424731ed38fcd8f2bfeeac94e5547cdb00ec501aca9111c", func := "loop.example/g00629/laws.FnArea", spec := "fnArea", inPlace := ["internal/reflectlite.TypeOf", "internal/reflectlite.ValueOf", "(internal/reflectlite.Value).Type", "(internal/reflectlite.Value).IsNil", "(internal/reflectlite.Value).Elem", "(internal/reflectlite.Value).Set"], unfollowed := true, recurses := true, named := ["loop.example/g00629/impl.errNotRight", "loop.example/g00629/impl.errNoHead", "loop.example/g00629/impl.errLacking", "loop.example/g00629/impl.errNoRoom", "errors.errorType"], ifaces := true, apart := false, laid := [("errors.errorType", laid_errors_errorType), ("loop.example/g00629/impl.errNotRight", laid_loop_example_g00629_impl_errNotRight), ("loop.example/g00629/impl.errNoHead", laid_loop_example_g00629_impl_errNoHead), ("loop.example/g00629/impl.errLacking", laid_loop_example_g00629_impl_errLacking), ("loop.example/g00629/impl.errNoRoom", laid_loop_example_g00629_impl_errNoRoom)], narrowed := true }
def FnAreaUptoSaid : Prop := fnAreaUptoRow.holds Tryz.pinned (OpenSpec.upto fnAreaSpec)

/-- 'laws.FnAreaTorn', WHERE WHAT IT READS IS OF BULK AT MOST 1048576: true; the input reads as it did. -/
def fnAreaTornUptoRow : OpenClaim := { program := "ytfiabbfdnmldjaagreatdoor", sum := "99e96e589040be629424731ed38fcd8f2bfeeac94e5547cdb00ec501aca9111c", func := "loop.example/g00629/laws.FnAreaTorn", spec := "fnAreaTorn", inPlace := ["internal/reflectlite.TypeOf", "internal/reflectlite.ValueOf", "(internal/reflectlite.Value).Type", "(internal/reflectlite.Value).IsNil", "(internal/reflectlite.Value).Elem", "(internal/reflectlite.Value).Set"], unfollowed := true, recurses := true, named := ["loop.example/g00629/impl.errNoRoom", "loop.example/g00629/impl.errNotRight", "loop.example/g00629/impl.errNoHead", "loop.example/g00629/impl.errLacking", "errors.errorType"], ifaces := true, apart := false, laid := [("errors.errorType", laid_errors_errorType), ("loop.example/g00629/impl.errNotRight", laid_loop_example_g00629_impl_errNotRight), ("loop.example/g00629/impl.errNoHead", laid_loop_example_g00629_impl_errNoHead), ("loop.example/g00629/impl.errLacking", laid_loop_example_g00629_impl_errLacking), ("loop.example/g00629/impl.errNoRoom", laid_loop_example_g00629_impl_errNoRoom)], narrowed := true }
def FnAreaTornUptoSaid : Prop := fnAreaTornUptoRow.holds Tryz.pinned (OpenSpec.upto fnAreaTornSpec)

/-- 'laws.FnExactAreaPut', WHERE WHAT IT READS IS OF BULK AT MOST 1048576: true; the input reads as it did. -/
def fnExactAreaPutUptoRow : OpenClaim := { program := "ytfiabbfdnmldjaagreatdoor", sum := "99e96e589040be629424731ed38fcd8f2bfeeac94e5547cdb00ec501aca9111c", func := "loop.example/g00629/laws.FnExactAreaPut", spec := "fnExactAreaPut", inPlace := ["internal/reflectlite.TypeOf", "internal/reflectlite.ValueOf", "(internal/reflectlite.Value).Type", "(internal/reflectlite.Value).IsNil", "(internal/reflectlite.Value).Elem", "(internal/reflectlite.Value).Set"], unfollowed := true, recurses := true, named := ["loop.example/g00629/impl.errNoRoom", "loop.example/g00629/impl.errNotRight", "loop.example/g00629/impl.errNoHead", "loop.example/g00629/impl.errLacking", "errors.errorType"], ifaces := true, apart := false, laid := [("errors.errorType", laid_errors_errorType), ("loop.example/g00629/impl.errNotRight", laid_loop_example_g00629_impl_errNotRight), ("loop.example/g00629/impl.errNoHead", laid_loop_example_g00629_impl_errNoHead), ("loop.example/g00629/impl.errLacking", laid_loop_example_g00629_impl_errLacking), ("loop.example/g00629/impl.errNoRoom", laid_loop_example_g00629_impl_errNoRoom)], narrowed := true }
def FnExactAreaPutUptoSaid : Prop := fnExactAreaPutUptoRow.holds Tryz.pinned (OpenSpec.upto fnExactAreaPutSpec)

end Rows
end Go.Proofs.YtfiabbfdnmldjaaGreatDoor
