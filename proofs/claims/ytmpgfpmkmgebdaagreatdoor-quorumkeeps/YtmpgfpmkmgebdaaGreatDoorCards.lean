/-
  DERIVED. GIVEN WITH THE SEED: THE CARDS: each row of YtmpgfpmkmgebdaaGreatDoorRows.lean that lists a variable, with what it lists TIED to the program's text (the seventh form; the later family's looks); each row that meets fmt, with fmt's text TOLD by the authors' own Lean function (tested against real Go, not proved from fmt's source: count such statements apart). THE CARD IS WHAT COUNTS. Prove the row's statement (the work); the ties are given (YtmpgfpmkmgebdaaGreatDoorTie.lean); close each card by the builder's one call (the guide's Derived/Test/ToyasCard.lean, 'card_holds'). Laid BY PROGRAM, IN A SANDBOX (cutbox-door.mjs). By AI agents, Wed Nov 11 2026. No macro, syntax, notation, axiom, sorry.
-/
import Derived.Test.YtmpgfpmkmgebdaaGreatDoorRows
import GoSem.ClaimSeven
namespace Go.Proofs.YtmpgfpmkmgebdaaGreatDoor
namespace Rows

/-- THE TIED CARD OF 'strongboxlaw12.QuorumKeeps'. -/
def quorumKeepsCard : Claim7 := { stood := { row := quorumKeepsRow, standIns := [], harness := (true, "7da538e467d9c8f65fa08b2c1fa8204ba1384816de66bc09ad9c7b5269457900"), looks := true }, kinds := [], alts := [], laidByText := true, laidKinds := [.data, .data, .data, .data, .data], laidTests := true, laidLooks := .later }
def QuorumKeepsCardSaid : Prop := Claim7.holds Tryz.pinned (.plain (OpenSpec.ofChange quorumKeepsSpec)) quorumKeepsCard

/-- THE SECOND FORM's CARD OF 'strongboxlaw12.QuorumKeeps'. -/
def quorumKeepsUptoCard : Claim7 := { stood := { row := quorumKeepsUptoRow, standIns := [], harness := (true, "7da538e467d9c8f65fa08b2c1fa8204ba1384816de66bc09ad9c7b5269457900"), looks := true }, kinds := [], alts := [], laidByText := true, laidKinds := [.data, .data, .data, .data, .data], laidTests := true, laidLooks := .later }
def QuorumKeepsUptoCardSaid : Prop := Claim7.holds Tryz.pinned (.plain (OpenSpec.upto quorumKeepsSpec)) quorumKeepsUptoCard
end Rows
end Go.Proofs.YtmpgfpmkmgebdaaGreatDoor
