/-
  DERIVED. GIVEN WITH THE SEED: THE CARDS: each row of YtkcbbpfclfncpaaDoorRows.lean that lists a variable, with what it lists TIED to the program's text (the seventh form; the later family's looks); each row that meets fmt, with fmt's text TOLD by the authors' own Lean function (tested against real Go, not proved from fmt's source: count such statements apart). THE CARD IS WHAT COUNTS. Prove the row's statement (the work); the ties are given (YtkcbbpfclfncpaaDoorTie.lean); close each card by the builder's one call (the guide's Derived/Test/ToyasCard.lean, 'card_holds'). Laid BY PROGRAM, IN A SANDBOX (cutbox-door.mjs). By AI agents, Wed Nov 11 2026. No macro, syntax, notation, axiom, sorry.
-/
import Derived.Test.YtkcbbpfclfncpaaDoorRows
import GoSem.ClaimSeven
namespace Go.Proofs.YtkcbbpfclfncpaaDoor
namespace Rows

/-- THE TIED CARD OF 'laws.FnExactEntry'. -/
def fnExactEntryCard : Claim7 := { stood := { row := fnExactEntryRow, standIns := [], harness := (true, "4cbd052e388158e1362984960eea3e6ee61848aa5cd449fd8719b58a8a171cae"), looks := true }, kinds := [], alts := [], laidByText := true, laidKinds := [.sentinel], laidTests := true, laidLooks := .later }
def FnExactEntryCardSaid : Prop := Claim7.holds Tryd.pinned (.plain (OpenSpec.ofChange fnExactEntrySpec)) fnExactEntryCard

/-- THE SECOND FORM's CARD OF 'laws.FnExactEntry'. -/
def fnExactEntryUptoCard : Claim7 := { stood := { row := fnExactEntryUptoRow, standIns := [], harness := (true, "4cbd052e388158e1362984960eea3e6ee61848aa5cd449fd8719b58a8a171cae"), looks := true }, kinds := [], alts := [], laidByText := true, laidKinds := [.sentinel], laidTests := true, laidLooks := .later }
def FnExactEntryUptoCardSaid : Prop := Claim7.holds Tryd.pinned (.plain (OpenSpec.upto fnExactEntrySpec)) fnExactEntryUptoCard
end Rows
end Go.Proofs.YtkcbbpfclfncpaaDoor
