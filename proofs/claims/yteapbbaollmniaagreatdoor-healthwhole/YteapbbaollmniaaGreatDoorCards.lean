/-
  DERIVED. GIVEN WITH THE SEED: THE CARDS: each row of YteapbbaollmniaaGreatDoorRows.lean that lists a variable, with what it lists TIED to the program's text (the seventh form; the later family's looks); each row that meets fmt, with fmt's text TOLD by the authors' own Lean function (tested against real Go, not proved from fmt's source: count such statements apart). THE CARD IS WHAT COUNTS. Prove the row's statement (the work); the ties are given (YteapbbaollmniaaGreatDoorTie.lean); close each card by the builder's one call (the guide's Derived/Test/ToyasCard.lean, 'card_holds'). Laid BY PROGRAM, IN A SANDBOX (cutbox-door.mjs). By AI agents, Wed Nov 11 2026. No macro, syntax, notation, axiom, sorry.
-/
import Derived.Test.YteapbbaollmniaaGreatDoorRows
import GoSem.ClaimSeven
namespace Go.Proofs.YteapbbaollmniaaGreatDoor
namespace Rows

/-- THE TIED CARD OF 'strongboxlaw10.HealthPlays'. -/
def healthPlaysCard : Claim7 := { stood := { row := healthPlaysRow, standIns := [], harness := (true, "f88204850b75a723e2b868709aae3895bfbecc110b473328c90d1b489432180e"), looks := true }, kinds := [], alts := [], laidByText := true, laidKinds := [.data, .data, .data, .data, .data], laidTests := true, laidLooks := .later }
def HealthPlaysCardSaid : Prop := Claim7.holds Tryz.pinned (.plain (OpenSpec.ofChange healthPlaysSpec)) healthPlaysCard

/-- THE TIED CARD OF 'strongboxlaw10.HealthNames'. -/
def healthNamesCard : Claim7 := { stood := { row := healthNamesRow, standIns := [], harness := (true, "f88204850b75a723e2b868709aae3895bfbecc110b473328c90d1b489432180e"), looks := true }, kinds := [], alts := [], laidByText := true, laidKinds := [.data, .data, .data, .data, .data], laidTests := true, laidLooks := .later }
def HealthNamesCardSaid : Prop := Claim7.holds Tryz.pinned (.plain (OpenSpec.ofChange healthNamesSpec)) healthNamesCard

/-- THE TIED CARD OF 'strongboxlaw10.HealthWhole'. -/
def healthWholeCard : Claim7 := { stood := { row := healthWholeRow, standIns := [], harness := (true, "f88204850b75a723e2b868709aae3895bfbecc110b473328c90d1b489432180e"), looks := true }, kinds := [], alts := [], laidByText := true, laidKinds := [.data, .data, .data, .data, .data], laidTests := true, laidLooks := .later }
def HealthWholeCardSaid : Prop := Claim7.holds Tryz.pinned (.plain (OpenSpec.ofChange healthWholeSpec)) healthWholeCard

/-- THE SECOND FORM's CARD OF 'strongboxlaw10.HealthPlays'. -/
def healthPlaysUptoCard : Claim7 := { stood := { row := healthPlaysUptoRow, standIns := [], harness := (true, "f88204850b75a723e2b868709aae3895bfbecc110b473328c90d1b489432180e"), looks := true }, kinds := [], alts := [], laidByText := true, laidKinds := [.data, .data, .data, .data, .data], laidTests := true, laidLooks := .later }
def HealthPlaysUptoCardSaid : Prop := Claim7.holds Tryz.pinned (.plain (OpenSpec.upto healthPlaysSpec)) healthPlaysUptoCard

/-- THE SECOND FORM's CARD OF 'strongboxlaw10.HealthNames'. -/
def healthNamesUptoCard : Claim7 := { stood := { row := healthNamesUptoRow, standIns := [], harness := (true, "f88204850b75a723e2b868709aae3895bfbecc110b473328c90d1b489432180e"), looks := true }, kinds := [], alts := [], laidByText := true, laidKinds := [.data, .data, .data, .data, .data], laidTests := true, laidLooks := .later }
def HealthNamesUptoCardSaid : Prop := Claim7.holds Tryz.pinned (.plain (OpenSpec.upto healthNamesSpec)) healthNamesUptoCard

/-- THE SECOND FORM's CARD OF 'strongboxlaw10.HealthWhole'. -/
def healthWholeUptoCard : Claim7 := { stood := { row := healthWholeUptoRow, standIns := [], harness := (true, "f88204850b75a723e2b868709aae3895bfbecc110b473328c90d1b489432180e"), looks := true }, kinds := [], alts := [], laidByText := true, laidKinds := [.data, .data, .data, .data, .data], laidTests := true, laidLooks := .later }
def HealthWholeUptoCardSaid : Prop := Claim7.holds Tryz.pinned (.plain (OpenSpec.upto healthWholeSpec)) healthWholeUptoCard
end Rows
end Go.Proofs.YteapbbaollmniaaGreatDoor
