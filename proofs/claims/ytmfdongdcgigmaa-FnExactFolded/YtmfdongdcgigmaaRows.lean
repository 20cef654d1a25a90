/-
  No cell of these rows narrows 'for every input' (looked for: loops, veiled, ifaces, maps, wideKeys, modest, calm, conditions, laid).
  DERIVED. THE GIVEN ROWS OF THIS SEAT. 4 by the template 'for every input the law returns true; each argument reads behind the call as it read before'; 0 by the template 'total and deterministic' (their statements: YtmfdongdcgigmaaTotals.lean).
  GIVEN WITH THE SEED: the statements are not yours to turn. If you find one false, say at which input.
  Laid BY PROGRAM, IN A SANDBOX (cutbox-rows.mjs): the forced cells as the released guide's own fill.sh prints them over the translation 9ed586d166745c00… (all of the seat's roots in one cut). By AI agents, Wed Nov 11 2026. No macro, syntax, notation, axiom, sorry.
-/
import Derived.Test.YtmfdongdcgigmaaChecked
import GoSem.Claim
import GoSem.ClaimJoined
import GoSem.ClaimMapViews
import Derived.JoinedTies
import Derived.KernelRfl
namespace Go.Proofs.Ytmfdongdcgigmaa
/- THE CELL 'sum', in the pinned program and in every row, IS THE sha256 OF THE DUMP (.gsa) THAT YtmfdongdcgigmaaProg.lean LOADS. Nothing in Lean hashes anything: it is a label: what it is worth is what the hold of that sum in a sandbox is worth. -/
noncomputable def Try.pinned : Pinned := { name := "ytmfdongdcgigmaa", sum := "9ed586d166745c006c313caa46e260985ad37156a056402520675854700c5dba", checked := Try.checked }
namespace Rows
def none {H : Type} : Left H := { results := [], args := [] }

/-- 'laws.FnExactKnown': WHATEVER THE INPUT: true; the input reads as it did. -/
def fnExactKnownSpec : ChangeSpec := { name := "fnExactKnown", fn := fun _ => fun
  | [d] => { results := [.lit (.bool true)], args := [d] }
  | _ => none }
def fnExactKnownRow : OpenClaim := { program := "ytmfdongdcgigmaa", sum := "9ed586d166745c006c313caa46e260985ad37156a056402520675854700c5dba", func := "loop.example/g00334/laws.FnExactKnown", spec := "fnExactKnown", plainKeys := false, apart := false }
def FnExactKnownSaid : Prop := fnExactKnownRow.holds Try.pinned (OpenSpec.ofChange fnExactKnownSpec)

/-- ITS FALSE NEIGHBOUR: 'it returns false'. Refute it at one input. -/
def fnExactKnownWrong : ChangeSpec := { name := "fnExactKnown", fn := fun _ => fun
  | [d] => { results := [.lit (.bool false)], args := [d] }
  | _ => none }
def FnExactKnownWrongFalsely : Prop := fnExactKnownRow.holds Try.pinned (OpenSpec.ofChange fnExactKnownWrong)

/-- 'laws.FnExactLoaded': WHATEVER THE INPUT: true; the input reads as it did. -/
def fnExactLoadedSpec : ChangeSpec := { name := "fnExactLoaded", fn := fun _ => fun
  | [d] => { results := [.lit (.bool true)], args := [d] }
  | _ => none }
def fnExactLoadedRow : OpenClaim := { program := "ytmfdongdcgigmaa", sum := "9ed586d166745c006c313caa46e260985ad37156a056402520675854700c5dba", func := "loop.example/g00334/laws.FnExactLoaded", spec := "fnExactLoaded", plainKeys := false, apart := false }
def FnExactLoadedSaid : Prop := fnExactLoadedRow.holds Try.pinned (OpenSpec.ofChange fnExactLoadedSpec)

/-- ITS FALSE NEIGHBOUR: 'it returns false'. Refute it at one input. -/
def fnExactLoadedWrong : ChangeSpec := { name := "fnExactLoaded", fn := fun _ => fun
  | [d] => { results := [.lit (.bool false)], args := [d] }
  | _ => none }
def FnExactLoadedWrongFalsely : Prop := fnExactLoadedRow.holds Try.pinned (OpenSpec.ofChange fnExactLoadedWrong)

/-- 'laws.FnExactFolded': WHATEVER THE INPUT: true; the input reads as it did. -/
def fnExactFoldedSpec : ChangeSpec := { name := "fnExactFolded", fn := fun _ => fun
  | [d] => { results := [.lit (.bool true)], args := [d] }
  | _ => none }
def fnExactFoldedRow : OpenClaim := { program := "ytmfdongdcgigmaa", sum := "9ed586d166745c006c313caa46e260985ad37156a056402520675854700c5dba", func := "loop.example/g00334/laws.FnExactFolded", spec := "fnExactFolded", unfollowed := true, recurses := true, plainKeys := false, apart := false }
def FnExactFoldedSaid : Prop := fnExactFoldedRow.holds Try.pinned (OpenSpec.ofChange fnExactFoldedSpec)

/-- ITS FALSE NEIGHBOUR: 'it returns false'. Refute it at one input. -/
def fnExactFoldedWrong : ChangeSpec := { name := "fnExactFolded", fn := fun _ => fun
  | [d] => { results := [.lit (.bool false)], args := [d] }
  | _ => none }
def FnExactFoldedWrongFalsely : Prop := fnExactFoldedRow.holds Try.pinned (OpenSpec.ofChange fnExactFoldedWrong)

/-- 'laws.FnExactFoldedAll': WHATEVER THE INPUT: true; the input reads as it did. -/
def fnExactFoldedAllSpec : ChangeSpec := { name := "fnExactFoldedAll", fn := fun _ => fun
  | [d] => { results := [.lit (.bool true)], args := [d] }
  | _ => none }
def fnExactFoldedAllRow : OpenClaim := { program := "ytmfdongdcgigmaa", sum := "9ed586d166745c006c313caa46e260985ad37156a056402520675854700c5dba", func := "loop.example/g00334/laws.FnExactFoldedAll", spec := "fnExactFoldedAll", unfollowed := true, recurses := true, plainKeys := false, apart := false }
def FnExactFoldedAllSaid : Prop := fnExactFoldedAllRow.holds Try.pinned (OpenSpec.ofChange fnExactFoldedAllSpec)

/-- ITS FALSE NEIGHBOUR: 'it returns false'. Refute it at one input. -/
def fnExactFoldedAllWrong : ChangeSpec := { name := "fnExactFoldedAll", fn := fun _ => fun
  | [d] => { results := [.lit (.bool false)], args := [d] }
  | _ => none }
def FnExactFoldedAllWrongFalsely : Prop := fnExactFoldedAllRow.holds Try.pinned (OpenSpec.ofChange fnExactFoldedAllWrong)

/- THE SECOND FORM. 'bulk': how many values and letters a reading holds, each counted each time it is reached (what is shared counts as often as it is met; a slice's spare places count too). A statement '..UptoSaid' is the law's where the arguments, and the package variables that the reading takes, are together of bulk at most 1048576: NARROWER than '..Said'. Prove '..Said' where nothing that the law and all that it calls make is longer than what came in: it says more and counts as full. Else prove '..UptoSaid'. A law counts once. -/
mutual
def uptoBulk {H : Type} : DataW H → Nat
  | .lit (.string bytes) => bytes.length + 1
  | .lit _ => 1
  | .nil => 1
  | .ptr d => uptoBulk d + 1
  | .slice elems spare => uptoBulkAll elems + uptoBulkAll spare + 1
  | .agg parts => uptoBulkAll parts + 1
  | .iface _ d => uptoBulk d + 1
  | .map entries => uptoBulkEntries entries + 1
  | .held _ => 1
def uptoBulkAll {H : Type} : List (DataW H) → Nat
  | [] => 0
  | d :: r => uptoBulk d + uptoBulkAll r
def uptoBulkEntries {H : Type} : List (Lit × DataW H) → Nat
  | [] => 0
  | x :: r => uptoBulkEntry x + uptoBulkEntries r
def uptoBulkEntry {H : Type} : Lit × DataW H → Nat
  | (.string bytes, d) => bytes.length + uptoBulk d + 1
  | (_, d) => uptoBulk d + 1
 end
def uptoSmall : (H : Type) → List (DataW H) → Bool := fun _ ds => decide (uptoBulkAll ds ≤ 1048576)
def OpenSpec.upto (s : _root_.Go.ChangeSpec) : _root_.Go.OpenSpec := { _root_.Go.OpenSpec.ofChange s with cond := some uptoSmall }

/-- 'laws.FnExactKnown', WHERE WHAT IT READS IS OF BULK AT MOST 1048576: true; the input reads as it did. -/
def fnExactKnownUptoRow : OpenClaim := { program := "ytmfdongdcgigmaa", sum := "9ed586d166745c006c313caa46e260985ad37156a056402520675854700c5dba", func := "loop.example/g00334/laws.FnExactKnown", spec := "fnExactKnown", plainKeys := false, apart := false, narrowed := true }
def FnExactKnownUptoSaid : Prop := fnExactKnownUptoRow.holds Try.pinned (OpenSpec.upto fnExactKnownSpec)

/-- 'laws.FnExactLoaded', WHERE WHAT IT READS IS OF BULK AT MOST 1048576: true; the input reads as it did. -/
def fnExactLoadedUptoRow : OpenClaim := { program := "ytmfdongdcgigmaa", sum := "9ed586d166745c006c313caa46e260985ad37156a056402520675854700c5dba", func := "loop.example/g00334/laws.FnExactLoaded", spec := "fnExactLoaded", plainKeys := false, apart := false, narrowed := true }
def FnExactLoadedUptoSaid : Prop := fnExactLoadedUptoRow.holds Try.pinned (OpenSpec.upto fnExactLoadedSpec)

/-- 'laws.FnExactFolded', WHERE WHAT IT READS IS OF BULK AT MOST 1048576: true; the input reads as it did. -/
def fnExactFoldedUptoRow : OpenClaim := { program := "ytmfdongdcgigmaa", sum := "9ed586d166745c006c313caa46e260985ad37156a056402520675854700c5dba", func := "loop.example/g00334/laws.FnExactFolded", spec := "fnExactFolded", unfollowed := true, recurses := true, plainKeys := false, apart := false, narrowed := true }
def FnExactFoldedUptoSaid : Prop := fnExactFoldedUptoRow.holds Try.pinned (OpenSpec.upto fnExactFoldedSpec)

/-- 'laws.FnExactFoldedAll', WHERE WHAT IT READS IS OF BULK AT MOST 1048576: true; the input reads as it did. -/
def fnExactFoldedAllUptoRow : OpenClaim := { program := "ytmfdongdcgigmaa", sum := "9ed586d166745c006c313caa46e260985ad37156a056402520675854700c5dba", func := "loop.example/g00334/laws.FnExactFoldedAll", spec := "fnExactFoldedAll", unfollowed := true, recurses := true, plainKeys := false, apart := false, narrowed := true }
def FnExactFoldedAllUptoSaid : Prop := fnExactFoldedAllUptoRow.holds Try.pinned (OpenSpec.upto fnExactFoldedAllSpec)

end Rows
end Go.Proofs.Ytmfdongdcgigmaa
