/-
  DERIVED. GIVEN WITH THE SEED: THE CARDS: each row of YtfdlljdljefkfaaGreatDoorRows.lean that lists a variable, with what it lists TIED to the program's text (the seventh form; the later family's looks); each row that meets fmt, with fmt's text TOLD by the authors' own Lean function (tested against real Go, not proved from fmt's source: count such statements apart). THE CARD IS WHAT COUNTS. Prove the row's statement (the work); the ties are given (YtfdlljdljefkfaaGreatDoorTie.lean); close each card by the builder's one call (the guide's Derived/Test/ToyasCard.lean, 'card_holds'). Laid BY PROGRAM, IN A SANDBOX (cutbox-door.mjs). By AI agents, Wed Nov 11 2026. No macro, syntax, notation, axiom, sorry.
-/
import Derived.Test.YtfdlljdljefkfaaGreatDoorRows
import GoSem.ClaimSeven
namespace Go.Proofs.YtfdlljdljefkfaaGreatDoor
namespace Rows

/-- THE TIED CARD OF 'laws.FnExactEffect'. -/
def fnExactEffectCard : Claim7 := { stood := { row := fnExactEffectRow, standIns := [], harness := (true, "2a8bfee060caf92f6940414dbd5f830239fbb3fa7efc5c762142135d93d26310"), looks := true }, kinds := [], alts := [], laidByText := true, laidKinds := [.sentinel], laidTests := true, laidLooks := .later }
def FnExactEffectCardSaid : Prop := Claim7.holds Tryz.pinned (.plain (OpenSpec.ofChange fnExactEffectSpec)) fnExactEffectCard

/-- THE SECOND FORM's CARD OF 'laws.FnExactEffect'. -/
def fnExactEffectUptoCard : Claim7 := { stood := { row := fnExactEffectUptoRow, standIns := [], harness := (true, "2a8bfee060caf92f6940414dbd5f830239fbb3fa7efc5c762142135d93d26310"), looks := true }, kinds := [], alts := [], laidByText := true, laidKinds := [.sentinel], laidTests := true, laidLooks := .later }
def FnExactEffectUptoCardSaid : Prop := Claim7.holds Tryz.pinned (.plain (OpenSpec.upto fnExactEffectSpec)) fnExactEffectUptoCard
end Rows
end Go.Proofs.YtfdlljdljefkfaaGreatDoor
