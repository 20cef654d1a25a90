/-
  DERIVED. GIVEN WITH THE SEED: THE CARDS: each row of YtkjoljcgbjodlaaDoorRows.lean that lists a variable, with what it lists TIED to the program's text (the seventh form; the later family's looks); each row that meets fmt, with fmt's text TOLD by the authors' own Lean function (tested against real Go, not proved from fmt's source: count such statements apart). THE CARD IS WHAT COUNTS. Prove the row's statement (the work); the ties are given (YtkjoljcgbjodlaaDoorTie.lean); close each card by the builder's one call (the guide's Derived/Test/ToyasCard.lean, 'card_holds'). Laid BY PROGRAM, IN A SANDBOX (cutbox-door.mjs). By AI agents, Wed Nov 11 2026. No macro, syntax, notation, axiom, sorry.
-/
import Derived.Test.YtkjoljcgbjodlaaDoorRows
import GoSem.ClaimSeven
namespace Go.Proofs.YtkjoljcgbjodlaaDoor
namespace Rows

/-- THE TIED CARD OF 'laws.FnExactShowProgram'. -/
def fnExactShowProgramCard : Claim7 := { stood := { row := fnExactShowProgramRow, standIns := [], harness := (true, "0b43960ab3b3e6fca5dfa976784a3d28bf421d236bee84c59fd3243e98edddd0"), looks := false }, kinds := [], alts := [], laidByText := true, laidKinds := [.data, .data, .data], laidTests := true, laidLooks := .later }
def FnExactShowProgramCardSaid : Prop := Claim7.holds Tryd.pinned (.plain (OpenSpec.ofChange fnExactShowProgramSpec)) fnExactShowProgramCard

/-- THE TIED CARD OF 'laws.FnExactHeard'. -/
def fnExactHeardCard : Claim7 := { stood := { row := fnExactHeardRow, standIns := [], harness := (true, "0b43960ab3b3e6fca5dfa976784a3d28bf421d236bee84c59fd3243e98edddd0"), looks := false }, kinds := [], alts := [], laidByText := true, laidKinds := [.data, .data, .data], laidTests := true, laidLooks := .later }
def FnExactHeardCardSaid : Prop := Claim7.holds Tryd.pinned (.plain (OpenSpec.ofChange fnExactHeardSpec)) fnExactHeardCard

/-- THE SECOND FORM's CARD OF 'laws.FnExactShowProgram'. -/
def fnExactShowProgramUptoCard : Claim7 := { stood := { row := fnExactShowProgramUptoRow, standIns := [], harness := (true, "0b43960ab3b3e6fca5dfa976784a3d28bf421d236bee84c59fd3243e98edddd0"), looks := false }, kinds := [], alts := [], laidByText := true, laidKinds := [.data, .data, .data], laidTests := true, laidLooks := .later }
def FnExactShowProgramUptoCardSaid : Prop := Claim7.holds Tryd.pinned (.plain (OpenSpec.upto fnExactShowProgramSpec)) fnExactShowProgramUptoCard

/-- THE SECOND FORM's CARD OF 'laws.FnExactHeard'. -/
def fnExactHeardUptoCard : Claim7 := { stood := { row := fnExactHeardUptoRow, standIns := [], harness := (true, "0b43960ab3b3e6fca5dfa976784a3d28bf421d236bee84c59fd3243e98edddd0"), looks := false }, kinds := [], alts := [], laidByText := true, laidKinds := [.data, .data, .data], laidTests := true, laidLooks := .later }
def FnExactHeardUptoCardSaid : Prop := Claim7.holds Tryd.pinned (.plain (OpenSpec.upto fnExactHeardSpec)) fnExactHeardUptoCard
end Rows
end Go.Proofs.YtkjoljcgbjodlaaDoor
