/-
  DERIVED. GIVEN WITH THE SEED: THE CARDS: each row of YtfgiemhbkbllmaaDoorRows.lean that lists a variable, with what it lists TIED to the program's text (the seventh form; the later family's looks); each row that meets fmt, with fmt's text TOLD by the authors' own Lean function (tested against real Go, not proved from fmt's source: count such statements apart). THE CARD IS WHAT COUNTS. Prove the row's statement (the work); the ties are given (YtfgiemhbkbllmaaDoorTie.lean); close each card by the builder's one call (the guide's Derived/Test/ToyasCard.lean, 'card_holds'). Laid BY PROGRAM, IN A SANDBOX (cutbox-door.mjs). By AI agents, Wed Nov 11 2026. No macro, syntax, notation, axiom, sorry.
-/
import Derived.Test.YtfgiemhbkbllmaaDoorRows
import GoSem.ClaimSeven
namespace Go.Proofs.YtfgiemhbkbllmaaDoor
namespace Rows

/-- THE TIED CARD OF 'laws.FnInsns'. -/
def fnInsnsCard : Claim7 := { stood := { row := fnInsnsRow, standIns := [], harness := (true, "0162e6556f8d04aadd846f0701725a640ddda6f0f9c36d83da8f89c7720c7e36"), looks := true }, kinds := [], alts := [], laidByText := true, laidKinds := [.data, .data, .data, .sentinel, .sentinel], laidTests := true, laidLooks := .later }
def FnInsnsCardSaid : Prop := Claim7.holds Tryd.pinned (.plain (OpenSpec.ofChange fnInsnsSpec)) fnInsnsCard

/-- THE TIED CARD OF 'laws.FnExactShowInsn'. -/
def fnExactShowInsnCard : Claim7 := { stood := { row := fnExactShowInsnRow, standIns := [], harness := (true, "0162e6556f8d04aadd846f0701725a640ddda6f0f9c36d83da8f89c7720c7e36"), looks := true }, kinds := [], alts := [], laidByText := true, laidKinds := [.data, .data, .data], laidTests := true, laidLooks := .later }
def FnExactShowInsnCardSaid : Prop := Claim7.holds Tryd.pinned (.plain (OpenSpec.ofChange fnExactShowInsnSpec)) fnExactShowInsnCard

/-- THE TIED CARD OF 'laws.FnExactReadInsn'. -/
def fnExactReadInsnCard : Claim7 := { stood := { row := fnExactReadInsnRow, standIns := [], harness := (true, "0162e6556f8d04aadd846f0701725a640ddda6f0f9c36d83da8f89c7720c7e36"), looks := true }, kinds := [], alts := [], laidByText := true, laidKinds := [.data, .data, .data, .sentinel, .sentinel], laidTests := true, laidLooks := .later }
def FnExactReadInsnCardSaid : Prop := Claim7.holds Tryd.pinned (.plain (OpenSpec.ofChange fnExactReadInsnSpec)) fnExactReadInsnCard

/-- THE TIED CARD OF 'laws.FnExactShowCode'. -/
def fnExactShowCodeCard : Claim7 := { stood := { row := fnExactShowCodeRow, standIns := [], harness := (true, "0162e6556f8d04aadd846f0701725a640ddda6f0f9c36d83da8f89c7720c7e36"), looks := true }, kinds := [], alts := [], laidByText := true, laidKinds := [.data, .data, .data], laidTests := true, laidLooks := .later }
def FnExactShowCodeCardSaid : Prop := Claim7.holds Tryd.pinned (.plain (OpenSpec.ofChange fnExactShowCodeSpec)) fnExactShowCodeCard

/-- THE SECOND FORM's CARD OF 'laws.FnInsns'. -/
def fnInsnsUptoCard : Claim7 := { stood := { row := fnInsnsUptoRow, standIns := [], harness := (true, "0162e6556f8d04aadd846f0701725a640ddda6f0f9c36d83da8f89c7720c7e36"), looks := true }, kinds := [], alts := [], laidByText := true, laidKinds := [.data, .data, .data, .sentinel, .sentinel], laidTests := true, laidLooks := .later }
def FnInsnsUptoCardSaid : Prop := Claim7.holds Tryd.pinned (.plain (OpenSpec.upto fnInsnsSpec)) fnInsnsUptoCard

/-- THE SECOND FORM's CARD OF 'laws.FnExactShowInsn'. -/
def fnExactShowInsnUptoCard : Claim7 := { stood := { row := fnExactShowInsnUptoRow, standIns := [], harness := (true, "0162e6556f8d04aadd846f0701725a640ddda6f0f9c36d83da8f89c7720c7e36"), looks := true }, kinds := [], alts := [], laidByText := true, laidKinds := [.data, .data, .data], laidTests := true, laidLooks := .later }
def FnExactShowInsnUptoCardSaid : Prop := Claim7.holds Tryd.pinned (.plain (OpenSpec.upto fnExactShowInsnSpec)) fnExactShowInsnUptoCard

/-- THE SECOND FORM's CARD OF 'laws.FnExactReadInsn'. -/
def fnExactReadInsnUptoCard : Claim7 := { stood := { row := fnExactReadInsnUptoRow, standIns := [], harness := (true, "0162e6556f8d04aadd846f0701725a640ddda6f0f9c36d83da8f89c7720c7e36"), looks := true }, kinds := [], alts := [], laidByText := true, laidKinds := [.data, .data, .data, .sentinel, .sentinel], laidTests := true, laidLooks := .later }
def FnExactReadInsnUptoCardSaid : Prop := Claim7.holds Tryd.pinned (.plain (OpenSpec.upto fnExactReadInsnSpec)) fnExactReadInsnUptoCard

/-- THE SECOND FORM's CARD OF 'laws.FnExactShowCode'. -/
def fnExactShowCodeUptoCard : Claim7 := { stood := { row := fnExactShowCodeUptoRow, standIns := [], harness := (true, "0162e6556f8d04aadd846f0701725a640ddda6f0f9c36d83da8f89c7720c7e36"), looks := true }, kinds := [], alts := [], laidByText := true, laidKinds := [.data, .data, .data], laidTests := true, laidLooks := .later }
def FnExactShowCodeUptoCardSaid : Prop := Claim7.holds Tryd.pinned (.plain (OpenSpec.upto fnExactShowCodeSpec)) fnExactShowCodeUptoCard
end Rows
end Go.Proofs.YtfgiemhbkbllmaaDoor
