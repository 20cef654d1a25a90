/-
  No cell of these rows narrows 'for every input' (looked for: loops, veiled, ifaces, maps, wideKeys, modest, calm, conditions, laid).
  DERIVED. THE GIVEN ROWS OF THIS SEAT. 4 by the template 'for every input the law returns true; each argument reads behind the call as it read before'; 0 by the template 'total and deterministic' (their statements: YtinanjjhkddikaaGreatTotals.lean).
  GIVEN WITH THE SEED: the statements are not yours to turn. If you find one false, say at which input.
  Laid BY PROGRAM, IN A SANDBOX (cutbox-rows.mjs): the forced cells as the released guide's own fill.sh prints them over the translation a84b4854b68f386d… (all of the seat's roots in one cut). By AI agents, Wed Nov 11 2026. No macro, syntax, notation, axiom, sorry.
-/
import Derived.Test.YtinanjjhkddikaaGreatChecked
import GoSem.Claim
import GoSem.ClaimJoined
import GoSem.ClaimMapViews
import Derived.JoinedTies
import Derived.KernelRfl
namespace Go.Proofs.YtinanjjhkddikaaGreat
/- THE CELL 'sum', in the pinned program and in every row, IS THE sha256 OF THE DUMP (.gsa) THAT YtinanjjhkddikaaGreatProg.lean LOADS. Nothing in Lean hashes anything: it is a label: what it is worth is what the hold of that sum in a sandbox is worth. -/
noncomputable def Tryz.pinned : Pinned := { name := "ytinanjjhkddikaagreat", sum := "a84b4854b68f386d573e4805b112167b6c7f14cbdcdb15b8feb0d80723334ff1", checked := Tryz.checked }
namespace Rows
def none {H : Type} : Left H := { results := [], args := [] }

/-- 'laws.FnExactMade': WHATEVER THE INPUT: true; the input reads as it did. -/
def fnExactMadeSpec : ChangeSpec := { name := "fnExactMade", fn := fun _ => fun
  | [d] => { results := [.lit (.bool true)], args := [d] }
  | _ => none }
def fnExactMadeRow : OpenClaim := { program := "ytinanjjhkddikaagreat", sum := "a84b4854b68f386d573e4805b112167b6c7f14cbdcdb15b8feb0d80723334ff1", func := "loop.example/g00334/laws.FnExactMade", spec := "fnExactMade", unfollowed := true, recurses := true, plainKeys := false, apart := false }
def FnExactMadeSaid : Prop := fnExactMadeRow.holds Tryz.pinned (OpenSpec.ofChange fnExactMadeSpec)

/-- ITS FALSE NEIGHBOUR: 'it returns false'. Refute it at one input. -/
def fnExactMadeWrong : ChangeSpec := { name := "fnExactMade", fn := fun _ => fun
  | [d] => { results := [.lit (.bool false)], args := [d] }
  | _ => none }
def FnExactMadeWrongFalsely : Prop := fnExactMadeRow.holds Tryz.pinned (OpenSpec.ofChange fnExactMadeWrong)

/-- 'laws.FnExactLiveMethods': WHATEVER THE INPUT: true; the input reads as it did. -/
def fnExactLiveMethodsSpec : ChangeSpec := { name := "fnExactLiveMethods", fn := fun _ => fun
  | [d] => { results := [.lit (.bool true)], args := [d] }
  | _ => none }
def fnExactLiveMethodsRow : OpenClaim := { program := "ytinanjjhkddikaagreat", sum := "a84b4854b68f386d573e4805b112167b6c7f14cbdcdb15b8feb0d80723334ff1", func := "loop.example/g00334/laws.FnExactLiveMethods", spec := "fnExactLiveMethods", unfollowed := true, recurses := true, plainKeys := false, apart := false }
def FnExactLiveMethodsSaid : Prop := fnExactLiveMethodsRow.holds Tryz.pinned (OpenSpec.ofChange fnExactLiveMethodsSpec)

/-- ITS FALSE NEIGHBOUR: 'it returns false'. Refute it at one input. -/
def fnExactLiveMethodsWrong : ChangeSpec := { name := "fnExactLiveMethods", fn := fun _ => fun
  | [d] => { results := [.lit (.bool false)], args := [d] }
  | _ => none }
def FnExactLiveMethodsWrongFalsely : Prop := fnExactLiveMethodsRow.holds Tryz.pinned (OpenSpec.ofChange fnExactLiveMethodsWrong)

/-- 'laws.FnExactNeeded': WHATEVER THE INPUT: true; the input reads as it did. -/
def fnExactNeededSpec : ChangeSpec := { name := "fnExactNeeded", fn := fun _ => fun
  | [d] => { results := [.lit (.bool true)], args := [d] }
  | _ => none }
def fnExactNeededRow : OpenClaim := { program := "ytinanjjhkddikaagreat", sum := "a84b4854b68f386d573e4805b112167b6c7f14cbdcdb15b8feb0d80723334ff1", func := "loop.example/g00334/laws.FnExactNeeded", spec := "fnExactNeeded", unfollowed := true, recurses := true, plainKeys := false, apart := false }
def FnExactNeededSaid : Prop := fnExactNeededRow.holds Tryz.pinned (OpenSpec.ofChange fnExactNeededSpec)

/-- ITS FALSE NEIGHBOUR: 'it returns false'. Refute it at one input. -/
def fnExactNeededWrong : ChangeSpec := { name := "fnExactNeeded", fn := fun _ => fun
  | [d] => { results := [.lit (.bool false)], args := [d] }
  | _ => none }
def FnExactNeededWrongFalsely : Prop := fnExactNeededRow.holds Tryz.pinned (OpenSpec.ofChange fnExactNeededWrong)

/-- 'laws.FnExactNewNumbers': WHATEVER THE INPUT: true; the input reads as it did. -/
def fnExactNewNumbersSpec : ChangeSpec := { name := "fnExactNewNumbers", fn := fun _ => fun
  | [d1, d2] => { results := [.lit (.bool true)], args := [d1, d2] }
  | _ => none }
def fnExactNewNumbersRow : OpenClaim := { program := "ytinanjjhkddikaagreat", sum := "a84b4854b68f386d573e4805b112167b6c7f14cbdcdb15b8feb0d80723334ff1", func := "loop.example/g00334/laws.FnExactNewNumbers", spec := "fnExactNewNumbers", unfollowed := true, recurses := true, plainKeys := false, apart := false }
def FnExactNewNumbersSaid : Prop := fnExactNewNumbersRow.holds Tryz.pinned (OpenSpec.ofChange fnExactNewNumbersSpec)

/-- ITS FALSE NEIGHBOUR: 'it returns false'. Refute it at one input. -/
def fnExactNewNumbersWrong : ChangeSpec := { name := "fnExactNewNumbers", fn := fun _ => fun
  | [d1, d2] => { results := [.lit (.bool false)], args := [d1, d2] }
  | _ => none }
def FnExactNewNumbersWrongFalsely : Prop := fnExactNewNumbersRow.holds Tryz.pinned (OpenSpec.ofChange fnExactNewNumbersWrong)

/- THE SECOND FORM. 'bulk': how many values and letters a reading holds, each counted each time it is reached (what is shared counts as often as it is met; a slice's spare places count too). A statement '..UptoSaid' is the law's where the arguments, and the package variables that the reading takes, are together of bulk at most 1048576: NARROWER than '..Said'. Prove '..Said' where nothing that the law and all that it calls make is longer than what came in: it says more and counts as full. Else prove '..UptoSaid'. A law counts once. -/
mutual
def uptoBulk {H : Type} : DataW H → Nat
  | .lit (.string bytes) => bytes.length + 1
  | .lit _ => 1
  | .nil => 1
  | .ptr d => uptoBulk d + 1
  | .slice elems spare => uptoBulkAll elems + uptoBulkAll spare + 1
  | .agg parts => uptoBulkAll parts + 1
  | .iface _ d => uptoBulk d + 1
  | .map entries => uptoBulkEntries entries + 1
  | .held _ => 1
def uptoBulkAll {H : Type} : List (DataW H) → Nat
  | [] => 0
  | d :: r => uptoBulk d + uptoBulkAll r
def uptoBulkEntries {H : Type} : List (Lit × DataW H) → Nat
  | [] => 0
  | x :: r => uptoBulkEntry x + uptoBulkEntries r
def uptoBulkEntry {H : Type} : Lit × DataW H → Nat
  | (.string bytes, d) => bytes.length + uptoBulk d + 1
  | (_, d) => uptoBulk d + 1
 end
def uptoSmall : (H : Type) → List (DataW H) → Bool := fun _ ds => decide (uptoBulkAll ds ≤ 1048576)
def OpenSpec.upto (s : _root_.Go.ChangeSpec) : _root_.Go.OpenSpec := { _root_.Go.OpenSpec.ofChange s with cond := some uptoSmall }

/-- 'laws.FnExactMade', WHERE WHAT IT READS IS OF BULK AT MOST 1048576: true; the input reads as it did. -/
def fnExactMadeUptoRow : OpenClaim := { program := "ytinanjjhkddikaagreat", sum := "a84b4854b68f386d573e4805b112167b6c7f14cbdcdb15b8feb0d80723334ff1", func := "loop.example/g00334/laws.FnExactMade", spec := "fnExactMade", unfollowed := true, recurses := true, plainKeys := false, apart := false, narrowed := true }
def FnExactMadeUptoSaid : Prop := fnExactMadeUptoRow.holds Tryz.pinned (OpenSpec.upto fnExactMadeSpec)

/-- 'laws.FnExactLiveMethods', WHERE WHAT IT READS IS OF BULK AT MOST 1048576: true; the input reads as it did. -/
def fnExactLiveMethodsUptoRow : OpenClaim := { program := "ytinanjjhkddikaagreat", sum := "a84b4854b68f386d573e4805b112167b6c7f14cbdcdb15b8feb0d80723334ff1", func := "loop.example/g00334/laws.FnExactLiveMethods", spec := "fnExactLiveMethods", unfollowed := true, recurses := true, plainKeys := false, apart := false, narrowed := true }
def FnExactLiveMethodsUptoSaid : Prop := fnExactLiveMethodsUptoRow.holds Tryz.pinned (OpenSpec.upto fnExactLiveMethodsSpec)

/-- 'laws.FnExactNeeded', WHERE WHAT IT READS IS OF BULK AT MOST 1048576: true; the input reads as it did. -/
def fnExactNeededUptoRow : OpenClaim := { program := "ytinanjjhkddikaagreat", sum := "a84b4854b68f386d573e4805b112167b6c7f14cbdcdb15b8feb0d80723334ff1", func := "loop.example/g00334/laws.FnExactNeeded", spec := "fnExactNeeded", unfollowed := true, recurses := true, plainKeys := false, apart := false, narrowed := true }
def FnExactNeededUptoSaid : Prop := fnExactNeededUptoRow.holds Tryz.pinned (OpenSpec.upto fnExactNeededSpec)

/-- 'laws.FnExactNewNumbers', WHERE WHAT IT READS IS OF BULK AT MOST 1048576: true; the input reads as it did. -/
def fnExactNewNumbersUptoRow : OpenClaim := { program := "ytinanjjhkddikaagreat", sum := "a84b4854b68f386d573e4805b112167b6c7f14cbdcdb15b8feb0d80723334ff1", func := "loop.example/g00334/laws.FnExactNewNumbers", spec := "fnExactNewNumbers", unfollowed := true, recurses := true, plainKeys := false, apart := false, narrowed := true }
def FnExactNewNumbersUptoSaid : Prop := fnExactNewNumbersUptoRow.holds Tryz.pinned (OpenSpec.upto fnExactNewNumbersSpec)

end Rows
end Go.Proofs.YtinanjjhkddikaaGreat
