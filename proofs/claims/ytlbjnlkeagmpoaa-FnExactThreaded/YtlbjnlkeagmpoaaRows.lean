/-
  No cell of these rows narrows 'for every input' (looked for: loops, veiled, ifaces, maps, wideKeys, modest, calm, conditions, laid).
  DERIVED. THE GIVEN ROWS OF THIS SEAT. 5 by the template 'for every input the law returns true; each argument reads behind the call as it read before'; 0 by the template 'total and deterministic' (their statements: YtlbjnlkeagmpoaaTotals.lean).
  GIVEN WITH THE SEED: the statements are not yours to turn. If you find one false, say at which input.
  Laid BY PROGRAM, IN A SANDBOX (cutbox-rows.mjs): the forced cells as the released guide's own fill.sh prints them over the translation 7cfe5f10cf579c91… (all of the seat's roots in one cut). By AI agents, Wed Nov 11 2026. No macro, syntax, notation, axiom, sorry.
-/
import Derived.Test.YtlbjnlkeagmpoaaChecked
import GoSem.Claim
import GoSem.ClaimJoined
import GoSem.ClaimMapViews
import Derived.JoinedTies
import Derived.KernelRfl
namespace Go.Proofs.Ytlbjnlkeagmpoaa
/- THE CELL 'sum', in the pinned program and in every row, IS THE sha256 OF THE DUMP (.gsa) THAT YtlbjnlkeagmpoaaProg.lean LOADS. Nothing in Lean hashes anything: it is a label: what it is worth is what the hold of that sum in a sandbox is worth. -/
noncomputable def Try.pinned : Pinned := { name := "ytlbjnlkeagmpoaa", sum := "7cfe5f10cf579c91e7d0afd039eeb452bd322f6f846c760c6ecc5b0777cffef4", checked := Try.checked }
namespace Rows
def none {H : Type} : Left H := { results := [], args := [] }

/-- 'laws.FnExactEndUp': WHATEVER THE INPUT: true; the input reads as it did. -/
def fnExactEndUpSpec : ChangeSpec := { name := "fnExactEndUp", fn := fun _ => fun
  | [d1, d2] => { results := [.lit (.bool true)], args := [d1, d2] }
  | _ => none }
def fnExactEndUpRow : OpenClaim := { program := "ytlbjnlkeagmpoaa", sum := "7cfe5f10cf579c91e7d0afd039eeb452bd322f6f846c760c6ecc5b0777cffef4", func := "loop.example/g00334/laws.FnExactEndUp", spec := "fnExactEndUp", unfollowed := true, recurses := true, apart := false }
def FnExactEndUpSaid : Prop := fnExactEndUpRow.holds Try.pinned (OpenSpec.ofChange fnExactEndUpSpec)

/-- ITS FALSE NEIGHBOUR: 'it returns false'. Refute it at one input. -/
def fnExactEndUpWrong : ChangeSpec := { name := "fnExactEndUp", fn := fun _ => fun
  | [d1, d2] => { results := [.lit (.bool false)], args := [d1, d2] }
  | _ => none }
def FnExactEndUpWrongFalsely : Prop := fnExactEndUpRow.holds Try.pinned (OpenSpec.ofChange fnExactEndUpWrong)

/-- 'laws.FnExactThreaded': WHATEVER THE INPUT: true; the input reads as it did. -/
def fnExactThreadedSpec : ChangeSpec := { name := "fnExactThreaded", fn := fun _ => fun
  | [d] => { results := [.lit (.bool true)], args := [d] }
  | _ => none }
def fnExactThreadedRow : OpenClaim := { program := "ytlbjnlkeagmpoaa", sum := "7cfe5f10cf579c91e7d0afd039eeb452bd322f6f846c760c6ecc5b0777cffef4", func := "loop.example/g00334/laws.FnExactThreaded", spec := "fnExactThreaded", unfollowed := true, recurses := true, apart := false }
def FnExactThreadedSaid : Prop := fnExactThreadedRow.holds Try.pinned (OpenSpec.ofChange fnExactThreadedSpec)

/-- ITS FALSE NEIGHBOUR: 'it returns false'. Refute it at one input. -/
def fnExactThreadedWrong : ChangeSpec := { name := "fnExactThreaded", fn := fun _ => fun
  | [d] => { results := [.lit (.bool false)], args := [d] }
  | _ => none }
def FnExactThreadedWrongFalsely : Prop := fnExactThreadedRow.holds Try.pinned (OpenSpec.ofChange fnExactThreadedWrong)

/-- 'laws.FnExactStays': WHATEVER THE INPUT: true; the input reads as it did. -/
def fnExactStaysSpec : ChangeSpec := { name := "fnExactStays", fn := fun _ => fun
  | [d] => { results := [.lit (.bool true)], args := [d] }
  | _ => none }
def fnExactStaysRow : OpenClaim := { program := "ytlbjnlkeagmpoaa", sum := "7cfe5f10cf579c91e7d0afd039eeb452bd322f6f846c760c6ecc5b0777cffef4", func := "loop.example/g00334/laws.FnExactStays", spec := "fnExactStays", apart := false }
def FnExactStaysSaid : Prop := fnExactStaysRow.holds Try.pinned (OpenSpec.ofChange fnExactStaysSpec)

/-- ITS FALSE NEIGHBOUR: 'it returns false'. Refute it at one input. -/
def fnExactStaysWrong : ChangeSpec := { name := "fnExactStays", fn := fun _ => fun
  | [d] => { results := [.lit (.bool false)], args := [d] }
  | _ => none }
def FnExactStaysWrongFalsely : Prop := fnExactStaysRow.holds Try.pinned (OpenSpec.ofChange fnExactStaysWrong)

/-- 'laws.FnExactSwept': WHATEVER THE INPUT: true; the input reads as it did. -/
def fnExactSweptSpec : ChangeSpec := { name := "fnExactSwept", fn := fun _ => fun
  | [d] => { results := [.lit (.bool true)], args := [d] }
  | _ => none }
def fnExactSweptRow : OpenClaim := { program := "ytlbjnlkeagmpoaa", sum := "7cfe5f10cf579c91e7d0afd039eeb452bd322f6f846c760c6ecc5b0777cffef4", func := "loop.example/g00334/laws.FnExactSwept", spec := "fnExactSwept", apart := false }
def FnExactSweptSaid : Prop := fnExactSweptRow.holds Try.pinned (OpenSpec.ofChange fnExactSweptSpec)

/-- ITS FALSE NEIGHBOUR: 'it returns false'. Refute it at one input. -/
def fnExactSweptWrong : ChangeSpec := { name := "fnExactSwept", fn := fun _ => fun
  | [d] => { results := [.lit (.bool false)], args := [d] }
  | _ => none }
def FnExactSweptWrongFalsely : Prop := fnExactSweptRow.holds Try.pinned (OpenSpec.ofChange fnExactSweptWrong)

/-- 'laws.FnExactTidied': WHATEVER THE INPUT: true; the input reads as it did. -/
def fnExactTidiedSpec : ChangeSpec := { name := "fnExactTidied", fn := fun _ => fun
  | [d] => { results := [.lit (.bool true)], args := [d] }
  | _ => none }
def fnExactTidiedRow : OpenClaim := { program := "ytlbjnlkeagmpoaa", sum := "7cfe5f10cf579c91e7d0afd039eeb452bd322f6f846c760c6ecc5b0777cffef4", func := "loop.example/g00334/laws.FnExactTidied", spec := "fnExactTidied", unfollowed := true, recurses := true, apart := false }
def FnExactTidiedSaid : Prop := fnExactTidiedRow.holds Try.pinned (OpenSpec.ofChange fnExactTidiedSpec)

/-- ITS FALSE NEIGHBOUR: 'it returns false'. Refute it at one input. -/
def fnExactTidiedWrong : ChangeSpec := { name := "fnExactTidied", fn := fun _ => fun
  | [d] => { results := [.lit (.bool false)], args := [d] }
  | _ => none }
def FnExactTidiedWrongFalsely : Prop := fnExactTidiedRow.holds Try.pinned (OpenSpec.ofChange fnExactTidiedWrong)

/- THE SECOND FORM. 'bulk': how many values and letters a reading holds, each counted each time it is reached (what is shared counts as often as it is met; a slice's spare places count too). A statement '..UptoSaid' is the law's where the arguments, and the package variables that the reading takes, are together of bulk at most 1048576: NARROWER than '..Said'. Prove '..Said' where nothing that the law and all that it calls make is longer than what came in: it says more and counts as full. Else prove '..UptoSaid'. A law counts once. -/
mutual
def uptoBulk {H : Type} : DataW H → Nat
  | .lit (.string bytes) => bytes.length + 1
  | .lit _ => 1
  | .nil => 1
  | .ptr d => uptoBulk d + 1
  | .slice elems spare => uptoBulkAll elems + uptoBulkAll spare + 1
  | .agg parts => uptoBulkAll parts + 1
  | .iface _ d => uptoBulk d + 1
  | .map entries => uptoBulkEntries entries + 1
  | .held _ => 1
def uptoBulkAll {H : Type} : List (DataW H) → Nat
  | [] => 0
  | d :: r => uptoBulk d + uptoBulkAll r
def uptoBulkEntries {H : Type} : List (Lit × DataW H) → Nat
  | [] => 0
  | x :: r => uptoBulkEntry x + uptoBulkEntries r
def uptoBulkEntry {H : Type} : Lit × DataW H → Nat
  | (.string bytes, d) => bytes.length + uptoBulk d + 1
  | (_, d) => uptoBulk d + 1
 end
def uptoSmall : (H : Type) → List (DataW H) → Bool := fun _ ds => decide (uptoBulkAll ds ≤ 1048576)
def OpenSpec.upto (s : _root_.Go.ChangeSpec) : _root_.Go.OpenSpec := { _root_.Go.OpenSpec.ofChange s with cond := some uptoSmall }

/-- 'laws.FnExactEndUp', WHERE WHAT IT READS IS OF BULK AT MOST 1048576: true; the input reads as it did. -/
def fnExactEndUpUptoRow : OpenClaim := { program := "ytlbjnlkeagmpoaa", sum := "7cfe5f10cf579c91e7d0afd039eeb452bd322f6f846c760c6ecc5b0777cffef4", func := "loop.example/g00334/laws.FnExactEndUp", spec := "fnExactEndUp", unfollowed := true, recurses := true, apart := false, narrowed := true }
def FnExactEndUpUptoSaid : Prop := fnExactEndUpUptoRow.holds Try.pinned (OpenSpec.upto fnExactEndUpSpec)

/-- 'laws.FnExactThreaded', WHERE WHAT IT READS IS OF BULK AT MOST 1048576: true; the input reads as it did. -/
def fnExactThreadedUptoRow : OpenClaim := { program := "ytlbjnlkeagmpoaa", sum := "7cfe5f10cf579c91e7d0afd039eeb452bd322f6f846c760c6ecc5b0777cffef4", func := "loop.example/g00334/laws.FnExactThreaded", spec := "fnExactThreaded", unfollowed := true, recurses := true, apart := false, narrowed := true }
def FnExactThreadedUptoSaid : Prop := fnExactThreadedUptoRow.holds Try.pinned (OpenSpec.upto fnExactThreadedSpec)

/-- 'laws.FnExactStays', WHERE WHAT IT READS IS OF BULK AT MOST 1048576: true; the input reads as it did. -/
def fnExactStaysUptoRow : OpenClaim := { program := "ytlbjnlkeagmpoaa", sum := "7cfe5f10cf579c91e7d0afd039eeb452bd322f6f846c760c6ecc5b0777cffef4", func := "loop.example/g00334/laws.FnExactStays", spec := "fnExactStays", apart := false, narrowed := true }
def FnExactStaysUptoSaid : Prop := fnExactStaysUptoRow.holds Try.pinned (OpenSpec.upto fnExactStaysSpec)

/-- 'laws.FnExactSwept', WHERE WHAT IT READS IS OF BULK AT MOST 1048576: true; the input reads as it did. -/
def fnExactSweptUptoRow : OpenClaim := { program := "ytlbjnlkeagmpoaa", sum := "7cfe5f10cf579c91e7d0afd039eeb452bd322f6f846c760c6ecc5b0777cffef4", func := "loop.example/g00334/laws.FnExactSwept", spec := "fnExactSwept", apart := false, narrowed := true }
def FnExactSweptUptoSaid : Prop := fnExactSweptUptoRow.holds Try.pinned (OpenSpec.upto fnExactSweptSpec)

/-- 'laws.FnExactTidied', WHERE WHAT IT READS IS OF BULK AT MOST 1048576: true; the input reads as it did. -/
def fnExactTidiedUptoRow : OpenClaim := { program := "ytlbjnlkeagmpoaa", sum := "7cfe5f10cf579c91e7d0afd039eeb452bd322f6f846c760c6ecc5b0777cffef4", func := "loop.example/g00334/laws.FnExactTidied", spec := "fnExactTidied", unfollowed := true, recurses := true, apart := false, narrowed := true }
def FnExactTidiedUptoSaid : Prop := fnExactTidiedUptoRow.holds Try.pinned (OpenSpec.upto fnExactTidiedSpec)

end Rows
end Go.Proofs.Ytlbjnlkeagmpoaa
