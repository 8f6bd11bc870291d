/-
  DERIVED. GIVEN WITH THE SEED: THE CARDS: each row of YtnhekngmgjnodaaDoorRows.lean that lists a variable, with what it lists TIED to the program's text (the seventh form; the later family's looks); each row that meets fmt, with fmt's text TOLD by the authors' own Lean function (tested against real Go, not proved from fmt's source: count such statements apart). THE CARD IS WHAT COUNTS. Prove the row's statement (the work); the ties are given (YtnhekngmgjnodaaDoorTie.lean); close each card by the builder's one call (the guide's Derived/Test/ToyasCard.lean, 'card_holds'). Laid BY PROGRAM, IN A SANDBOX (cutbox-door.mjs). By AI agents, Wed Nov 11 2026. No macro, syntax, notation, axiom, sorry.
-/
import Derived.Test.YtnhekngmgjnodaaDoorRows
import GoSem.ClaimSeven
namespace Go.Proofs.YtnhekngmgjnodaaDoor
namespace Rows

/-- THE TIED CARD OF 'strongboxlaw18.PathTells'. -/
def pathTellsCard : Claim7 := { stood := { row := pathTellsRow, standIns := [], harness := (true, "ea7d9c684486ef6ca10f2c947c79af5ea6cf0acedcee8f179e7057cdae9230ed"), looks := false }, kinds := [], alts := [], laidByText := true, laidKinds := [.data, .pinned], laidTests := true, laidLooks := .later }
def PathTellsCardSaid : Prop := Claim7.holds Tryd.pinned (.plain (OpenSpec.ofChange pathTellsSpec)) pathTellsCard

/-- THE TIED CARD OF 'strongboxlaw18.PathNames'. -/
def pathNamesCard : Claim7 := { stood := { row := pathNamesRow, standIns := [], harness := (true, "ea7d9c684486ef6ca10f2c947c79af5ea6cf0acedcee8f179e7057cdae9230ed"), looks := false }, kinds := [], alts := [], laidByText := true, laidKinds := [.data, .pinned], laidTests := true, laidLooks := .later }
def PathNamesCardSaid : Prop := Claim7.holds Tryd.pinned (.plain (OpenSpec.ofChange pathNamesSpec)) pathNamesCard

/-- THE TIED CARD OF 'strongboxlaw18.PathWhole'. -/
def pathWholeCard : Claim7 := { stood := { row := pathWholeRow, standIns := [], harness := (true, "ea7d9c684486ef6ca10f2c947c79af5ea6cf0acedcee8f179e7057cdae9230ed"), looks := false }, kinds := [], alts := [], laidByText := true, laidKinds := [.data, .pinned], laidTests := true, laidLooks := .later }
def PathWholeCardSaid : Prop := Claim7.holds Tryd.pinned (.plain (OpenSpec.ofChange pathWholeSpec)) pathWholeCard

/-- THE SECOND FORM's CARD OF 'strongboxlaw18.PathTells'. -/
def pathTellsUptoCard : Claim7 := { stood := { row := pathTellsUptoRow, standIns := [], harness := (true, "ea7d9c684486ef6ca10f2c947c79af5ea6cf0acedcee8f179e7057cdae9230ed"), looks := false }, kinds := [], alts := [], laidByText := true, laidKinds := [.data, .pinned], laidTests := true, laidLooks := .later }
def PathTellsUptoCardSaid : Prop := Claim7.holds Tryd.pinned (.plain (OpenSpec.upto pathTellsSpec)) pathTellsUptoCard

/-- THE SECOND FORM's CARD OF 'strongboxlaw18.PathNames'. -/
def pathNamesUptoCard : Claim7 := { stood := { row := pathNamesUptoRow, standIns := [], harness := (true, "ea7d9c684486ef6ca10f2c947c79af5ea6cf0acedcee8f179e7057cdae9230ed"), looks := false }, kinds := [], alts := [], laidByText := true, laidKinds := [.data, .pinned], laidTests := true, laidLooks := .later }
def PathNamesUptoCardSaid : Prop := Claim7.holds Tryd.pinned (.plain (OpenSpec.upto pathNamesSpec)) pathNamesUptoCard

/-- THE SECOND FORM's CARD OF 'strongboxlaw18.PathWhole'. -/
def pathWholeUptoCard : Claim7 := { stood := { row := pathWholeUptoRow, standIns := [], harness := (true, "ea7d9c684486ef6ca10f2c947c79af5ea6cf0acedcee8f179e7057cdae9230ed"), looks := false }, kinds := [], alts := [], laidByText := true, laidKinds := [.data, .pinned], laidTests := true, laidLooks := .later }
def PathWholeUptoCardSaid : Prop := Claim7.holds Tryd.pinned (.plain (OpenSpec.upto pathWholeSpec)) pathWholeUptoCard
end Rows
end Go.Proofs.YtnhekngmgjnodaaDoor
