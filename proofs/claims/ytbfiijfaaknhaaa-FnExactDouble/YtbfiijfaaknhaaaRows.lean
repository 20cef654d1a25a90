/-
  No cell of these rows narrows 'for every input' (looked for: loops, veiled, ifaces, maps, wideKeys, modest, calm, conditions, laid).
  DERIVED. THE GIVEN ROWS OF THIS SEAT. 4 by the template 'for every input the law returns true; each argument reads behind the call as it read before'; 0 by the template 'total and deterministic' (their statements: YtbfiijfaaknhaaaTotals.lean).
  GIVEN WITH THE SEED: the statements are not yours to turn. If you find one false, say at which input.
  Laid BY PROGRAM, IN A SANDBOX (cutbox-rows.mjs): the forced cells as the released guide's own fill.sh prints them over the translation 85b77a015f37f500… (all of the seat's roots in one cut). By AI agents, Wed Nov 11 2026. No macro, syntax, notation, axiom, sorry.
-/
import Derived.Test.YtbfiijfaaknhaaaChecked
import GoSem.Claim
import GoSem.ClaimJoined
import GoSem.ClaimMapViews
import Derived.JoinedTies
import Derived.KernelRfl
namespace Go.Proofs.Ytbfiijfaaknhaaa
/- THE CELL 'sum', in the pinned program and in every row, IS THE sha256 OF THE DUMP (.gsa) THAT YtbfiijfaaknhaaaProg.lean LOADS. Nothing in Lean hashes anything: it is a label: what it is worth is what the hold of that sum in a sandbox is worth. -/
noncomputable def Try.pinned : Pinned := { name := "ytbfiijfaaknhaaa", sum := "85b77a015f37f50033b06f002e18d3c7fde11a54f60cf37bde7d8fecfcdb72c7", checked := Try.checked }
namespace Rows
def none {H : Type} : Left H := { results := [], args := [] }

/-- 'laws.FnExactMethodOf': WHATEVER THE INPUT: true; the input reads as it did. -/
def fnExactMethodOfSpec : ChangeSpec := { name := "fnExactMethodOf", fn := fun _ => fun
  | [d1, d2, d3] => { results := [.lit (.bool true)], args := [d1, d2, d3] }
  | _ => none }
def fnExactMethodOfRow : OpenClaim := { program := "ytbfiijfaaknhaaa", sum := "85b77a015f37f50033b06f002e18d3c7fde11a54f60cf37bde7d8fecfcdb72c7", func := "loop.example/g00334/laws.FnExactMethodOf", spec := "fnExactMethodOf", apart := false }
def FnExactMethodOfSaid : Prop := fnExactMethodOfRow.holds Try.pinned (OpenSpec.ofChange fnExactMethodOfSpec)

/-- ITS FALSE NEIGHBOUR: 'it returns false'. Refute it at one input. -/
def fnExactMethodOfWrong : ChangeSpec := { name := "fnExactMethodOf", fn := fun _ => fun
  | [d1, d2, d3] => { results := [.lit (.bool false)], args := [d1, d2, d3] }
  | _ => none }
def FnExactMethodOfWrongFalsely : Prop := fnExactMethodOfRow.holds Try.pinned (OpenSpec.ofChange fnExactMethodOfWrong)

/-- 'laws.FnExactDouble': WHATEVER THE INPUT: true; the input reads as it did. -/
def fnExactDoubleSpec : ChangeSpec := { name := "fnExactDouble", fn := fun _ => fun
  | [d1, d2, d3] => { results := [.lit (.bool true)], args := [d1, d2, d3] }
  | _ => none }
def fnExactDoubleRow : OpenClaim := { program := "ytbfiijfaaknhaaa", sum := "85b77a015f37f50033b06f002e18d3c7fde11a54f60cf37bde7d8fecfcdb72c7", func := "loop.example/g00334/laws.FnExactDouble", spec := "fnExactDouble", unfollowed := true, recurses := true, apart := false }
def FnExactDoubleSaid : Prop := fnExactDoubleRow.holds Try.pinned (OpenSpec.ofChange fnExactDoubleSpec)

/-- ITS FALSE NEIGHBOUR: 'it returns false'. Refute it at one input. -/
def fnExactDoubleWrong : ChangeSpec := { name := "fnExactDouble", fn := fun _ => fun
  | [d1, d2, d3] => { results := [.lit (.bool false)], args := [d1, d2, d3] }
  | _ => none }
def FnExactDoubleWrongFalsely : Prop := fnExactDoubleRow.holds Try.pinned (OpenSpec.ofChange fnExactDoubleWrong)

/-- 'laws.FnExactDoubles': WHATEVER THE INPUT: true; the input reads as it did. -/
def fnExactDoublesSpec : ChangeSpec := { name := "fnExactDoubles", fn := fun _ => fun
  | [d] => { results := [.lit (.bool true)], args := [d] }
  | _ => none }
def fnExactDoublesRow : OpenClaim := { program := "ytbfiijfaaknhaaa", sum := "85b77a015f37f50033b06f002e18d3c7fde11a54f60cf37bde7d8fecfcdb72c7", func := "loop.example/g00334/laws.FnExactDoubles", spec := "fnExactDoubles", unfollowed := true, recurses := true, apart := false }
def FnExactDoublesSaid : Prop := fnExactDoublesRow.holds Try.pinned (OpenSpec.ofChange fnExactDoublesSpec)

/-- ITS FALSE NEIGHBOUR: 'it returns false'. Refute it at one input. -/
def fnExactDoublesWrong : ChangeSpec := { name := "fnExactDoubles", fn := fun _ => fun
  | [d] => { results := [.lit (.bool false)], args := [d] }
  | _ => none }
def FnExactDoublesWrongFalsely : Prop := fnExactDoublesRow.holds Try.pinned (OpenSpec.ofChange fnExactDoublesWrong)

/-- 'laws.FnExactSingle': WHATEVER THE INPUT: true; the input reads as it did. -/
def fnExactSingleSpec : ChangeSpec := { name := "fnExactSingle", fn := fun _ => fun
  | [d] => { results := [.lit (.bool true)], args := [d] }
  | _ => none }
def fnExactSingleRow : OpenClaim := { program := "ytbfiijfaaknhaaa", sum := "85b77a015f37f50033b06f002e18d3c7fde11a54f60cf37bde7d8fecfcdb72c7", func := "loop.example/g00334/laws.FnExactSingle", spec := "fnExactSingle", unfollowed := true, recurses := true, apart := false }
def FnExactSingleSaid : Prop := fnExactSingleRow.holds Try.pinned (OpenSpec.ofChange fnExactSingleSpec)

/-- ITS FALSE NEIGHBOUR: 'it returns false'. Refute it at one input. -/
def fnExactSingleWrong : ChangeSpec := { name := "fnExactSingle", fn := fun _ => fun
  | [d] => { results := [.lit (.bool false)], args := [d] }
  | _ => none }
def FnExactSingleWrongFalsely : Prop := fnExactSingleRow.holds Try.pinned (OpenSpec.ofChange fnExactSingleWrong)

/- THE SECOND FORM. 'bulk': how many values and letters a reading holds, each counted each time it is reached (what is shared counts as often as it is met; a slice's spare places count too). A statement '..UptoSaid' is the law's where the arguments, and the package variables that the reading takes, are together of bulk at most 1048576: NARROWER than '..Said'. Prove '..Said' where nothing that the law and all that it calls make is longer than what came in: it says more and counts as full. Else prove '..UptoSaid'. A law counts once. -/
mutual
def uptoBulk {H : Type} : DataW H → Nat
  | .lit (.string bytes) => bytes.length + 1
  | .lit _ => 1
  | .nil => 1
  | .ptr d => uptoBulk d + 1
  | .slice elems spare => uptoBulkAll elems + uptoBulkAll spare + 1
  | .agg parts => uptoBulkAll parts + 1
  | .iface _ d => uptoBulk d + 1
  | .map entries => uptoBulkEntries entries + 1
  | .held _ => 1
def uptoBulkAll {H : Type} : List (DataW H) → Nat
  | [] => 0
  | d :: r => uptoBulk d + uptoBulkAll r
def uptoBulkEntries {H : Type} : List (Lit × DataW H) → Nat
  | [] => 0
  | x :: r => uptoBulkEntry x + uptoBulkEntries r
def uptoBulkEntry {H : Type} : Lit × DataW H → Nat
  | (.string bytes, d) => bytes.length + uptoBulk d + 1
  | (_, d) => uptoBulk d + 1
 end
def uptoSmall : (H : Type) → List (DataW H) → Bool := fun _ ds => decide (uptoBulkAll ds ≤ 1048576)
def OpenSpec.upto (s : _root_.Go.ChangeSpec) : _root_.Go.OpenSpec := { _root_.Go.OpenSpec.ofChange s with cond := some uptoSmall }

/-- 'laws.FnExactMethodOf', WHERE WHAT IT READS IS OF BULK AT MOST 1048576: true; the input reads as it did. -/
def fnExactMethodOfUptoRow : OpenClaim := { program := "ytbfiijfaaknhaaa", sum := "85b77a015f37f50033b06f002e18d3c7fde11a54f60cf37bde7d8fecfcdb72c7", func := "loop.example/g00334/laws.FnExactMethodOf", spec := "fnExactMethodOf", apart := false, narrowed := true }
def FnExactMethodOfUptoSaid : Prop := fnExactMethodOfUptoRow.holds Try.pinned (OpenSpec.upto fnExactMethodOfSpec)

/-- 'laws.FnExactDouble', WHERE WHAT IT READS IS OF BULK AT MOST 1048576: true; the input reads as it did. -/
def fnExactDoubleUptoRow : OpenClaim := { program := "ytbfiijfaaknhaaa", sum := "85b77a015f37f50033b06f002e18d3c7fde11a54f60cf37bde7d8fecfcdb72c7", func := "loop.example/g00334/laws.FnExactDouble", spec := "fnExactDouble", unfollowed := true, recurses := true, apart := false, narrowed := true }
def FnExactDoubleUptoSaid : Prop := fnExactDoubleUptoRow.holds Try.pinned (OpenSpec.upto fnExactDoubleSpec)

/-- 'laws.FnExactDoubles', WHERE WHAT IT READS IS OF BULK AT MOST 1048576: true; the input reads as it did. -/
def fnExactDoublesUptoRow : OpenClaim := { program := "ytbfiijfaaknhaaa", sum := "85b77a015f37f50033b06f002e18d3c7fde11a54f60cf37bde7d8fecfcdb72c7", func := "loop.example/g00334/laws.FnExactDoubles", spec := "fnExactDoubles", unfollowed := true, recurses := true, apart := false, narrowed := true }
def FnExactDoublesUptoSaid : Prop := fnExactDoublesUptoRow.holds Try.pinned (OpenSpec.upto fnExactDoublesSpec)

/-- 'laws.FnExactSingle', WHERE WHAT IT READS IS OF BULK AT MOST 1048576: true; the input reads as it did. -/
def fnExactSingleUptoRow : OpenClaim := { program := "ytbfiijfaaknhaaa", sum := "85b77a015f37f50033b06f002e18d3c7fde11a54f60cf37bde7d8fecfcdb72c7", func := "loop.example/g00334/laws.FnExactSingle", spec := "fnExactSingle", unfollowed := true, recurses := true, apart := false, narrowed := true }
def FnExactSingleUptoSaid : Prop := fnExactSingleUptoRow.holds Try.pinned (OpenSpec.upto fnExactSingleSpec)

end Rows
end Go.Proofs.Ytbfiijfaaknhaaa
