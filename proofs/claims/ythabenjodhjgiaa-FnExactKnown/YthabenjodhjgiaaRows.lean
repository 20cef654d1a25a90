/-
  No cell of these rows narrows 'for every input' (looked for: loops, veiled, ifaces, maps, wideKeys, modest, calm, conditions, laid).
  DERIVED. THE GIVEN ROWS OF THIS SEAT. 6 by the template 'for every input the law returns true; each argument reads behind the call as it read before'; 0 by the template 'total and deterministic' (their statements: YthabenjodhjgiaaTotals.lean).
  GIVEN WITH THE SEED: the statements are not yours to turn. If you find one false, say at which input.
  Laid BY PROGRAM, IN A SANDBOX (cutbox-rows.mjs): the forced cells as the released guide's own fill.sh prints them over the translation 4bc180ee6451a0b5… (all of the seat's roots in one cut). By AI agents, Wed Nov 11 2026. No macro, syntax, notation, axiom, sorry.
-/
import Derived.Test.YthabenjodhjgiaaChecked
import GoSem.Claim
import GoSem.ClaimJoined
import GoSem.ClaimMapViews
import Derived.JoinedTies
import Derived.KernelRfl
namespace Go.Proofs.Ythabenjodhjgiaa
/- THE CELL 'sum', in the pinned program and in every row, IS THE sha256 OF THE DUMP (.gsa) THAT YthabenjodhjgiaaProg.lean LOADS. Nothing in Lean hashes anything: it is a label: what it is worth is what the hold of that sum in a sandbox is worth. -/
noncomputable def Try.pinned : Pinned := { name := "ythabenjodhjgiaa", sum := "4bc180ee6451a0b5f3b4a502cf2fb192fd66c0e4e1fa5d57fa904d350964ca49", checked := Try.checked }
namespace Rows
def none {H : Type} : Left H := { results := [], args := [] }

/-- 'laws.FnExactKnown': WHATEVER THE INPUT: true; the input reads as it did. -/
def fnExactKnownSpec : ChangeSpec := { name := "fnExactKnown", fn := fun _ => fun
  | [d] => { results := [.lit (.bool true)], args := [d] }
  | _ => none }
def fnExactKnownRow : OpenClaim := { program := "ythabenjodhjgiaa", sum := "4bc180ee6451a0b5f3b4a502cf2fb192fd66c0e4e1fa5d57fa904d350964ca49", func := "loop.example/g00334/laws.FnExactKnown", spec := "fnExactKnown", plainKeys := false, apart := false }
def FnExactKnownSaid : Prop := fnExactKnownRow.holds Try.pinned (OpenSpec.ofChange fnExactKnownSpec)

/-- ITS FALSE NEIGHBOUR: 'it returns false'. Refute it at one input. -/
def fnExactKnownWrong : ChangeSpec := { name := "fnExactKnown", fn := fun _ => fun
  | [d] => { results := [.lit (.bool false)], args := [d] }
  | _ => none }
def FnExactKnownWrongFalsely : Prop := fnExactKnownRow.holds Try.pinned (OpenSpec.ofChange fnExactKnownWrong)

/-- 'laws.FnExactLoaded': WHATEVER THE INPUT: true; the input reads as it did. -/
def fnExactLoadedSpec : ChangeSpec := { name := "fnExactLoaded", fn := fun _ => fun
  | [d] => { results := [.lit (.bool true)], args := [d] }
  | _ => none }
def fnExactLoadedRow : OpenClaim := { program := "ythabenjodhjgiaa", sum := "4bc180ee6451a0b5f3b4a502cf2fb192fd66c0e4e1fa5d57fa904d350964ca49", func := "loop.example/g00334/laws.FnExactLoaded", spec := "fnExactLoaded", plainKeys := false, apart := false }
def FnExactLoadedSaid : Prop := fnExactLoadedRow.holds Try.pinned (OpenSpec.ofChange fnExactLoadedSpec)

/-- ITS FALSE NEIGHBOUR: 'it returns false'. Refute it at one input. -/
def fnExactLoadedWrong : ChangeSpec := { name := "fnExactLoaded", fn := fun _ => fun
  | [d] => { results := [.lit (.bool false)], args := [d] }
  | _ => none }
def FnExactLoadedWrongFalsely : Prop := fnExactLoadedRow.holds Try.pinned (OpenSpec.ofChange fnExactLoadedWrong)

/-- 'laws.FnExactFoldedAll': WHATEVER THE INPUT: true; the input reads as it did. -/
def fnExactFoldedAllSpec : ChangeSpec := { name := "fnExactFoldedAll", fn := fun _ => fun
  | [d] => { results := [.lit (.bool true)], args := [d] }
  | _ => none }
def fnExactFoldedAllRow : OpenClaim := { program := "ythabenjodhjgiaa", sum := "4bc180ee6451a0b5f3b4a502cf2fb192fd66c0e4e1fa5d57fa904d350964ca49", func := "loop.example/g00334/laws.FnExactFoldedAll", spec := "fnExactFoldedAll", unfollowed := true, recurses := true, plainKeys := false, apart := false }
def FnExactFoldedAllSaid : Prop := fnExactFoldedAllRow.holds Try.pinned (OpenSpec.ofChange fnExactFoldedAllSpec)

/-- ITS FALSE NEIGHBOUR: 'it returns false'. Refute it at one input. -/
def fnExactFoldedAllWrong : ChangeSpec := { name := "fnExactFoldedAll", fn := fun _ => fun
  | [d] => { results := [.lit (.bool false)], args := [d] }
  | _ => none }
def FnExactFoldedAllWrongFalsely : Prop := fnExactFoldedAllRow.holds Try.pinned (OpenSpec.ofChange fnExactFoldedAllWrong)

/-- 'laws.FnExactPeepAt': WHATEVER THE INPUT: true; the input reads as it did. -/
def fnExactPeepAtSpec : ChangeSpec := { name := "fnExactPeepAt", fn := fun _ => fun
  | [d1, d2] => { results := [.lit (.bool true)], args := [d1, d2] }
  | _ => none }
def fnExactPeepAtRow : OpenClaim := { program := "ythabenjodhjgiaa", sum := "4bc180ee6451a0b5f3b4a502cf2fb192fd66c0e4e1fa5d57fa904d350964ca49", func := "loop.example/g00334/laws.FnExactPeepAt", spec := "fnExactPeepAt", plainKeys := false, apart := false }
def FnExactPeepAtSaid : Prop := fnExactPeepAtRow.holds Try.pinned (OpenSpec.ofChange fnExactPeepAtSpec)

/-- ITS FALSE NEIGHBOUR: 'it returns false'. Refute it at one input. -/
def fnExactPeepAtWrong : ChangeSpec := { name := "fnExactPeepAt", fn := fun _ => fun
  | [d1, d2] => { results := [.lit (.bool false)], args := [d1, d2] }
  | _ => none }
def FnExactPeepAtWrongFalsely : Prop := fnExactPeepAtRow.holds Try.pinned (OpenSpec.ofChange fnExactPeepAtWrong)

/-- 'laws.FnExactPeeps': WHATEVER THE INPUT: true; the input reads as it did. -/
def fnExactPeepsSpec : ChangeSpec := { name := "fnExactPeeps", fn := fun _ => fun
  | [d] => { results := [.lit (.bool true)], args := [d] }
  | _ => none }
def fnExactPeepsRow : OpenClaim := { program := "ythabenjodhjgiaa", sum := "4bc180ee6451a0b5f3b4a502cf2fb192fd66c0e4e1fa5d57fa904d350964ca49", func := "loop.example/g00334/laws.FnExactPeeps", spec := "fnExactPeeps", plainKeys := false, apart := false }
def FnExactPeepsSaid : Prop := fnExactPeepsRow.holds Try.pinned (OpenSpec.ofChange fnExactPeepsSpec)

/-- ITS FALSE NEIGHBOUR: 'it returns false'. Refute it at one input. -/
def fnExactPeepsWrong : ChangeSpec := { name := "fnExactPeeps", fn := fun _ => fun
  | [d] => { results := [.lit (.bool false)], args := [d] }
  | _ => none }
def FnExactPeepsWrongFalsely : Prop := fnExactPeepsRow.holds Try.pinned (OpenSpec.ofChange fnExactPeepsWrong)

/-- 'laws.FnExactPeepedAll': WHATEVER THE INPUT: true; the input reads as it did. -/
def fnExactPeepedAllSpec : ChangeSpec := { name := "fnExactPeepedAll", fn := fun _ => fun
  | [d] => { results := [.lit (.bool true)], args := [d] }
  | _ => none }
def fnExactPeepedAllRow : OpenClaim := { program := "ythabenjodhjgiaa", sum := "4bc180ee6451a0b5f3b4a502cf2fb192fd66c0e4e1fa5d57fa904d350964ca49", func := "loop.example/g00334/laws.FnExactPeepedAll", spec := "fnExactPeepedAll", plainKeys := false, apart := false }
def FnExactPeepedAllSaid : Prop := fnExactPeepedAllRow.holds Try.pinned (OpenSpec.ofChange fnExactPeepedAllSpec)

/-- ITS FALSE NEIGHBOUR: 'it returns false'. Refute it at one input. -/
def fnExactPeepedAllWrong : ChangeSpec := { name := "fnExactPeepedAll", fn := fun _ => fun
  | [d] => { results := [.lit (.bool false)], args := [d] }
  | _ => none }
def FnExactPeepedAllWrongFalsely : Prop := fnExactPeepedAllRow.holds Try.pinned (OpenSpec.ofChange fnExactPeepedAllWrong)

/- THE SECOND FORM. 'bulk': how many values and letters a reading holds, each counted each time it is reached (what is shared counts as often as it is met; a slice's spare places count too). A statement '..UptoSaid' is the law's where the arguments, and the package variables that the reading takes, are together of bulk at most 1048576: NARROWER than '..Said'. Prove '..Said' where nothing that the law and all that it calls make is longer than what came in: it says more and counts as full. Else prove '..UptoSaid'. A law counts once. -/
mutual
def uptoBulk {H : Type} : DataW H → Nat
  | .lit (.string bytes) => bytes.length + 1
  | .lit _ => 1
  | .nil => 1
  | .ptr d => uptoBulk d + 1
  | .slice elems spare => uptoBulkAll elems + uptoBulkAll spare + 1
  | .agg parts => uptoBulkAll parts + 1
  | .iface _ d => uptoBulk d + 1
  | .map entries => uptoBulkEntries entries + 1
  | .held _ => 1
def uptoBulkAll {H : Type} : List (DataW H) → Nat
  | [] => 0
  | d :: r => uptoBulk d + uptoBulkAll r
def uptoBulkEntries {H : Type} : List (Lit × DataW H) → Nat
  | [] => 0
  | x :: r => uptoBulkEntry x + uptoBulkEntries r
def uptoBulkEntry {H : Type} : Lit × DataW H → Nat
  | (.string bytes, d) => bytes.length + uptoBulk d + 1
  | (_, d) => uptoBulk d + 1
 end
def uptoSmall : (H : Type) → List (DataW H) → Bool := fun _ ds => decide (uptoBulkAll ds ≤ 1048576)
def OpenSpec.upto (s : _root_.Go.ChangeSpec) : _root_.Go.OpenSpec := { _root_.Go.OpenSpec.ofChange s with cond := some uptoSmall }

/-- 'laws.FnExactKnown', WHERE WHAT IT READS IS OF BULK AT MOST 1048576: true; the input reads as it did. -/
def fnExactKnownUptoRow : OpenClaim := { program := "ythabenjodhjgiaa", sum := "4bc180ee6451a0b5f3b4a502cf2fb192fd66c0e4e1fa5d57fa904d350964ca49", func := "loop.example/g00334/laws.FnExactKnown", spec := "fnExactKnown", plainKeys := false, apart := false, narrowed := true }
def FnExactKnownUptoSaid : Prop := fnExactKnownUptoRow.holds Try.pinned (OpenSpec.upto fnExactKnownSpec)

/-- 'laws.FnExactLoaded', WHERE WHAT IT READS IS OF BULK AT MOST 1048576: true; the input reads as it did. -/
def fnExactLoadedUptoRow : OpenClaim := { program := "ythabenjodhjgiaa", sum := "4bc180ee6451a0b5f3b4a502cf2fb192fd66c0e4e1fa5d57fa904d350964ca49", func := "loop.example/g00334/laws.FnExactLoaded", spec := "fnExactLoaded", plainKeys := false, apart := false, narrowed := true }
def FnExactLoadedUptoSaid : Prop := fnExactLoadedUptoRow.holds Try.pinned (OpenSpec.upto fnExactLoadedSpec)

/-- 'laws.FnExactFoldedAll', WHERE WHAT IT READS IS OF BULK AT MOST 1048576: true; the input reads as it did. -/
def fnExactFoldedAllUptoRow : OpenClaim := { program := "ythabenjodhjgiaa", sum := "4bc180ee6451a0b5f3b4a502cf2fb192fd66c0e4e1fa5d57fa904d350964ca49", func := "loop.example/g00334/laws.FnExactFoldedAll", spec := "fnExactFoldedAll", unfollowed := true, recurses := true, plainKeys := false, apart := false, narrowed := true }
def FnExactFoldedAllUptoSaid : Prop := fnExactFoldedAllUptoRow.holds Try.pinned (OpenSpec.upto fnExactFoldedAllSpec)

/-- 'laws.FnExactPeepAt', WHERE WHAT IT READS IS OF BULK AT MOST 1048576: true; the input reads as it did. -/
def fnExactPeepAtUptoRow : OpenClaim := { program := "ythabenjodhjgiaa", sum := "4bc180ee6451a0b5f3b4a502cf2fb192fd66c0e4e1fa5d57fa904d350964ca49", func := "loop.example/g00334/laws.FnExactPeepAt", spec := "fnExactPeepAt", plainKeys := false, apart := false, narrowed := true }
def FnExactPeepAtUptoSaid : Prop := fnExactPeepAtUptoRow.holds Try.pinned (OpenSpec.upto fnExactPeepAtSpec)

/-- 'laws.FnExactPeeps', WHERE WHAT IT READS IS OF BULK AT MOST 1048576: true; the input reads as it did. -/
def fnExactPeepsUptoRow : OpenClaim := { program := "ythabenjodhjgiaa", sum := "4bc180ee6451a0b5f3b4a502cf2fb192fd66c0e4e1fa5d57fa904d350964ca49", func := "loop.example/g00334/laws.FnExactPeeps", spec := "fnExactPeeps", plainKeys := false, apart := false, narrowed := true }
def FnExactPeepsUptoSaid : Prop := fnExactPeepsUptoRow.holds Try.pinned (OpenSpec.upto fnExactPeepsSpec)

/-- 'laws.FnExactPeepedAll', WHERE WHAT IT READS IS OF BULK AT MOST 1048576: true; the input reads as it did. -/
def fnExactPeepedAllUptoRow : OpenClaim := { program := "ythabenjodhjgiaa", sum := "4bc180ee6451a0b5f3b4a502cf2fb192fd66c0e4e1fa5d57fa904d350964ca49", func := "loop.example/g00334/laws.FnExactPeepedAll", spec := "fnExactPeepedAll", plainKeys := false, apart := false, narrowed := true }
def FnExactPeepedAllUptoSaid : Prop := fnExactPeepedAllUptoRow.holds Try.pinned (OpenSpec.upto fnExactPeepedAllSpec)

end Rows
end Go.Proofs.Ythabenjodhjgiaa
