/-
  No cell of these rows narrows 'for every input' (looked for: loops, veiled, ifaces, maps, wideKeys, modest, calm, conditions, laid).
  DERIVED. THE GIVEN ROWS OF THIS SEAT. 2 by the template 'for every input the law returns true; each argument reads behind the call as it read before'; 0 by the template 'total and deterministic' (their statements: YtgmejbnolfmcdabTotals.lean).
  GIVEN WITH THE SEED: the statements are not yours to turn. If you find one false, say at which input.
  Laid BY PROGRAM, IN A SANDBOX (cutbox-rows.mjs): the forced cells as the released guide's own fill.sh prints them over the translation 849230d1a97c7718… (all of the seat's roots in one cut). By AI agents, Wed Nov 11 2026. No macro, syntax, notation, axiom, sorry.
-/
import Derived.Test.YtgmejbnolfmcdabChecked
import GoSem.Claim
import GoSem.ClaimJoined
import GoSem.ClaimMapViews
import Derived.JoinedTies
import Derived.KernelRfl
namespace Go.Proofs.Ytgmejbnolfmcdab
/- THE CELL 'sum', in the pinned program and in every row, IS THE sha256 OF THE DUMP (.gsa) THAT YtgmejbnolfmcdabProg.lean LOADS. Nothing in Lean hashes anything: it is a label: what it is worth is what the hold of that sum in a sandbox is worth. -/
noncomputable def Try.pinned : Pinned := { name := "ytgmejbnolfmcdab", sum := "849230d1a97c771801bd562960c5d098ab11580031b9468531026fa6fc820eff", checked := Try.checked }
namespace Rows
def none {H : Type} : Left H := { results := [], args := [] }

/-- 'laws.FnExactCardBytes': WHATEVER THE INPUT: true; the input reads as it did. -/
def fnExactCardBytesSpec : ChangeSpec := { name := "fnExactCardBytes", fn := fun _ => fun
  | [d] => { results := [.lit (.bool true)], args := [d] }
  | _ => none }
def fnExactCardBytesRow : OpenClaim := { program := "ytgmejbnolfmcdab", sum := "849230d1a97c771801bd562960c5d098ab11580031b9468531026fa6fc820eff", func := "loop.example/g00629/laws.FnExactCardBytes", spec := "fnExactCardBytes", apart := false }
def FnExactCardBytesSaid : Prop := fnExactCardBytesRow.holds Try.pinned (OpenSpec.ofChange fnExactCardBytesSpec)

/-- ITS FALSE NEIGHBOUR: 'it returns false'. Refute it at one input. -/
def fnExactCardBytesWrong : ChangeSpec := { name := "fnExactCardBytes", fn := fun _ => fun
  | [d] => { results := [.lit (.bool false)], args := [d] }
  | _ => none }
def FnExactCardBytesWrongFalsely : Prop := fnExactCardBytesRow.holds Try.pinned (OpenSpec.ofChange fnExactCardBytesWrong)

/-- 'laws.FnExactCardRead': WHATEVER THE INPUT: true; the input reads as it did. -/
def fnExactCardReadSpec : ChangeSpec := { name := "fnExactCardRead", fn := fun _ => fun
  | [d] => { results := [.lit (.bool true)], args := [d] }
  | _ => none }
def fnExactCardReadRow : OpenClaim := { program := "ytgmejbnolfmcdab", sum := "849230d1a97c771801bd562960c5d098ab11580031b9468531026fa6fc820eff", func := "loop.example/g00629/laws.FnExactCardRead", spec := "fnExactCardRead", apart := false }
def FnExactCardReadSaid : Prop := fnExactCardReadRow.holds Try.pinned (OpenSpec.ofChange fnExactCardReadSpec)

/-- ITS FALSE NEIGHBOUR: 'it returns false'. Refute it at one input. -/
def fnExactCardReadWrong : ChangeSpec := { name := "fnExactCardRead", fn := fun _ => fun
  | [d] => { results := [.lit (.bool false)], args := [d] }
  | _ => none }
def FnExactCardReadWrongFalsely : Prop := fnExactCardReadRow.holds Try.pinned (OpenSpec.ofChange fnExactCardReadWrong)

/- THE SECOND FORM. 'bulk': how many values and letters a reading holds, each counted each time it is reached (what is shared counts as often as it is met; a slice's spare places count too). A statement '..UptoSaid' is the law's where the arguments, and the package variables that the reading takes, are together of bulk at most 1048576: NARROWER than '..Said'. Prove '..Said' where nothing that the law and all that it calls make is longer than what came in: it says more and counts as full. Else prove '..UptoSaid'. A law counts once. -/
mutual
def uptoBulk {H : Type} : DataW H → Nat
  | .lit (.string bytes) => bytes.length + 1
  | .lit _ => 1
  | .nil => 1
  | .ptr d => uptoBulk d + 1
  | .slice elems spare => uptoBulkAll elems + uptoBulkAll spare + 1
  | .agg parts => uptoBulkAll parts + 1
  | .iface _ d => uptoBulk d + 1
  | .map entries => uptoBulkEntries entries + 1
  | .held _ => 1
def uptoBulkAll {H : Type} : List (DataW H) → Nat
  | [] => 0
  | d :: r => uptoBulk d + uptoBulkAll r
def uptoBulkEntries {H : Type} : List (Lit × DataW H) → Nat
  | [] => 0
  | x :: r => uptoBulkEntry x + uptoBulkEntries r
def uptoBulkEntry {H : Type} : Lit × DataW H → Nat
  | (.string bytes, d) => bytes.length + uptoBulk d + 1
  | (_, d) => uptoBulk d + 1
 end
def uptoSmall : (H : Type) → List (DataW H) → Bool := fun _ ds => decide (uptoBulkAll ds ≤ 1048576)
def OpenSpec.upto (s : _root_.Go.ChangeSpec) : _root_.Go.OpenSpec := { _root_.Go.OpenSpec.ofChange s with cond := some uptoSmall }

/-- 'laws.FnExactCardBytes', WHERE WHAT IT READS IS OF BULK AT MOST 1048576: true; the input reads as it did. -/
def fnExactCardBytesUptoRow : OpenClaim := { program := "ytgmejbnolfmcdab", sum := "849230d1a97c771801bd562960c5d098ab11580031b9468531026fa6fc820eff", func := "loop.example/g00629/laws.FnExactCardBytes", spec := "fnExactCardBytes", apart := false, narrowed := true }
def FnExactCardBytesUptoSaid : Prop := fnExactCardBytesUptoRow.holds Try.pinned (OpenSpec.upto fnExactCardBytesSpec)

/-- 'laws.FnExactCardRead', WHERE WHAT IT READS IS OF BULK AT MOST 1048576: true; the input reads as it did. -/
def fnExactCardReadUptoRow : OpenClaim := { program := "ytgmejbnolfmcdab", sum := "849230d1a97c771801bd562960c5d098ab11580031b9468531026fa6fc820eff", func := "loop.example/g00629/laws.FnExactCardRead", spec := "fnExactCardRead", apart := false, narrowed := true }
def FnExactCardReadUptoSaid : Prop := fnExactCardReadUptoRow.holds Try.pinned (OpenSpec.upto fnExactCardReadSpec)

end Rows
end Go.Proofs.Ytgmejbnolfmcdab
