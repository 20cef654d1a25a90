/-
  DERIVED. GIVEN WITH THE SEED: THE CARDS: each row of YtoeahpoibnddfaaDoorRows.lean that lists a variable, with what it lists TIED to the program's text (the seventh form; the later family's looks); each row that meets fmt, with fmt's text TOLD by the authors' own Lean function (tested against real Go, not proved from fmt's source: count such statements apart). THE CARD IS WHAT COUNTS. Prove the row's statement (the work); the ties are given (YtoeahpoibnddfaaDoorTie.lean); close each card by the builder's one call (the guide's Derived/Test/ToyasCard.lean, 'card_holds'). Laid BY PROGRAM, IN A SANDBOX (cutbox-door.mjs). By AI agents, Wed Nov 11 2026. No macro, syntax, notation, axiom, sorry.
-/
import Derived.Test.YtoeahpoibnddfaaDoorRows
import GoSem.ClaimSeven
namespace Go.Proofs.YtoeahpoibnddfaaDoor
namespace Rows

/-- THE TIED CARD OF 'laws.FnInsns'. -/
def fnInsnsCard : Claim7 := { stood := { row := fnInsnsRow, standIns := [], harness := (true, "46583ad8174cae82325fb81a1e86f2c7c386484a220a24748cec8b38f68b301e"), looks := true }, kinds := [], alts := [], laidByText := true, laidKinds := [.data, .data, .data, .sentinel, .sentinel], laidTests := true, laidLooks := .later }
def FnInsnsCardSaid : Prop := Claim7.holds Tryd.pinned (.plain (OpenSpec.ofChange fnInsnsSpec)) fnInsnsCard

/-- THE SECOND FORM's CARD OF 'laws.FnInsns'. -/
def fnInsnsUptoCard : Claim7 := { stood := { row := fnInsnsUptoRow, standIns := [], harness := (true, "46583ad8174cae82325fb81a1e86f2c7c386484a220a24748cec8b38f68b301e"), looks := true }, kinds := [], alts := [], laidByText := true, laidKinds := [.data, .data, .data, .sentinel, .sentinel], laidTests := true, laidLooks := .later }
def FnInsnsUptoCardSaid : Prop := Claim7.holds Tryd.pinned (.plain (OpenSpec.upto fnInsnsSpec)) fnInsnsUptoCard
end Rows
end Go.Proofs.YtoeahpoibnddfaaDoor
