/-
  DERIVED. GIVEN WITH THE SEED: THE CARDS: each row of YtogbkdhejdcpeaaDoorRows.lean that lists a variable, with what it lists TIED to the program's text (the seventh form; the later family's looks); each row that meets fmt, with fmt's text TOLD by the authors' own Lean function (tested against real Go, not proved from fmt's source: count such statements apart). THE CARD IS WHAT COUNTS. Prove the row's statement (the work); the ties are given (YtogbkdhejdcpeaaDoorTie.lean); close each card by the builder's one call (the guide's Derived/Test/ToyasCard.lean, 'card_holds'). Laid BY PROGRAM, IN A SANDBOX (cutbox-door.mjs). By AI agents, Wed Nov 11 2026. No macro, syntax, notation, axiom, sorry.
-/
import Derived.Test.YtogbkdhejdcpeaaDoorRows
import GoSem.ClaimSeven
namespace Go.Proofs.YtogbkdhejdcpeaaDoor
namespace Rows

/-- THE TIED CARD OF 'laws.FnPrograms'. -/
def fnProgramsCard : Claim7 := { stood := { row := fnProgramsRow, standIns := [], harness := (true, "ca30debf09d6528224b47317a69d18e364c7d1309acd609de407b83dae6b8f72"), looks := false }, kinds := [], alts := [], laidByText := true, laidKinds := [.data, .data, .data], laidTests := true, laidLooks := .later }
def FnProgramsCardSaid : Prop := Claim7.holds Tryd.pinned (.plain (OpenSpec.ofChange fnProgramsSpec)) fnProgramsCard

/-- THE TIED CARD OF 'laws.FnExactShowProgram'. -/
def fnExactShowProgramCard : Claim7 := { stood := { row := fnExactShowProgramRow, standIns := [], harness := (true, "ca30debf09d6528224b47317a69d18e364c7d1309acd609de407b83dae6b8f72"), looks := false }, kinds := [], alts := [], laidByText := true, laidKinds := [.data, .data, .data], laidTests := true, laidLooks := .later }
def FnExactShowProgramCardSaid : Prop := Claim7.holds Tryd.pinned (.plain (OpenSpec.ofChange fnExactShowProgramSpec)) fnExactShowProgramCard

/-- THE SECOND FORM's CARD OF 'laws.FnPrograms'. -/
def fnProgramsUptoCard : Claim7 := { stood := { row := fnProgramsUptoRow, standIns := [], harness := (true, "ca30debf09d6528224b47317a69d18e364c7d1309acd609de407b83dae6b8f72"), looks := false }, kinds := [], alts := [], laidByText := true, laidKinds := [.data, .data, .data], laidTests := true, laidLooks := .later }
def FnProgramsUptoCardSaid : Prop := Claim7.holds Tryd.pinned (.plain (OpenSpec.upto fnProgramsSpec)) fnProgramsUptoCard

/-- THE SECOND FORM's CARD OF 'laws.FnExactShowProgram'. -/
def fnExactShowProgramUptoCard : Claim7 := { stood := { row := fnExactShowProgramUptoRow, standIns := [], harness := (true, "ca30debf09d6528224b47317a69d18e364c7d1309acd609de407b83dae6b8f72"), looks := false }, kinds := [], alts := [], laidByText := true, laidKinds := [.data, .data, .data], laidTests := true, laidLooks := .later }
def FnExactShowProgramUptoCardSaid : Prop := Claim7.holds Tryd.pinned (.plain (OpenSpec.upto fnExactShowProgramSpec)) fnExactShowProgramUptoCard
end Rows
end Go.Proofs.YtogbkdhejdcpeaaDoor
