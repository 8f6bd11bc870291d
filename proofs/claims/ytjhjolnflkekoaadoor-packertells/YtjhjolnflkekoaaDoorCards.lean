/-
  DERIVED. GIVEN WITH THE SEED: THE CARDS: each row of YtjhjolnflkekoaaDoorRows.lean that lists a variable, with what it lists TIED to the program's text (the seventh form; the later family's looks); each row that meets fmt, with fmt's text TOLD by the authors' own Lean function (tested against real Go, not proved from fmt's source: count such statements apart). THE CARD IS WHAT COUNTS. Prove the row's statement (the work); the ties are given (YtjhjolnflkekoaaDoorTie.lean); close each card by the builder's one call (the guide's Derived/Test/ToyasCard.lean, 'card_holds'). Laid BY PROGRAM, IN A SANDBOX (cutbox-door.mjs). By AI agents, Wed Nov 11 2026. No macro, syntax, notation, axiom, sorry.
-/
import Derived.Test.YtjhjolnflkekoaaDoorRows
import GoSem.ClaimSeven
namespace Go.Proofs.YtjhjolnflkekoaaDoor
namespace Rows

/-- THE TIED CARD OF 'strongboxlaw16.PackerTells'. -/
def packerTellsCard : Claim7 := { stood := { row := packerTellsRow, standIns := [], harness := (true, "85244941d5598a731ef107c6d0130101831185ea67c97b9e1f8c2514795ed16e"), looks := false }, kinds := [], alts := [], laidByText := true, laidKinds := [.data, .data], laidTests := true, laidLooks := .later }
def PackerTellsCardSaid : Prop := Claim7.holds Tryd.pinned (.plain (OpenSpec.ofChange packerTellsSpec)) packerTellsCard

/-- THE TIED CARD OF 'strongboxlaw16.PackerNames'. -/
def packerNamesCard : Claim7 := { stood := { row := packerNamesRow, standIns := [], harness := (true, "85244941d5598a731ef107c6d0130101831185ea67c97b9e1f8c2514795ed16e"), looks := false }, kinds := [], alts := [], laidByText := true, laidKinds := [.data, .data], laidTests := true, laidLooks := .later }
def PackerNamesCardSaid : Prop := Claim7.holds Tryd.pinned (.plain (OpenSpec.ofChange packerNamesSpec)) packerNamesCard

/-- THE TIED CARD OF 'strongboxlaw16.PackerOnce'. -/
def packerOnceCard : Claim7 := { stood := { row := packerOnceRow, standIns := [], harness := (true, "85244941d5598a731ef107c6d0130101831185ea67c97b9e1f8c2514795ed16e"), looks := false }, kinds := [], alts := [], laidByText := true, laidKinds := [.data, .data], laidTests := true, laidLooks := .later }
def PackerOnceCardSaid : Prop := Claim7.holds Tryd.pinned (.plain (OpenSpec.ofChange packerOnceSpec)) packerOnceCard

/-- THE SECOND FORM's CARD OF 'strongboxlaw16.PackerTells'. -/
def packerTellsUptoCard : Claim7 := { stood := { row := packerTellsUptoRow, standIns := [], harness := (true, "85244941d5598a731ef107c6d0130101831185ea67c97b9e1f8c2514795ed16e"), looks := false }, kinds := [], alts := [], laidByText := true, laidKinds := [.data, .data], laidTests := true, laidLooks := .later }
def PackerTellsUptoCardSaid : Prop := Claim7.holds Tryd.pinned (.plain (OpenSpec.upto packerTellsSpec)) packerTellsUptoCard

/-- THE SECOND FORM's CARD OF 'strongboxlaw16.PackerNames'. -/
def packerNamesUptoCard : Claim7 := { stood := { row := packerNamesUptoRow, standIns := [], harness := (true, "85244941d5598a731ef107c6d0130101831185ea67c97b9e1f8c2514795ed16e"), looks := false }, kinds := [], alts := [], laidByText := true, laidKinds := [.data, .data], laidTests := true, laidLooks := .later }
def PackerNamesUptoCardSaid : Prop := Claim7.holds Tryd.pinned (.plain (OpenSpec.upto packerNamesSpec)) packerNamesUptoCard

/-- THE SECOND FORM's CARD OF 'strongboxlaw16.PackerOnce'. -/
def packerOnceUptoCard : Claim7 := { stood := { row := packerOnceUptoRow, standIns := [], harness := (true, "85244941d5598a731ef107c6d0130101831185ea67c97b9e1f8c2514795ed16e"), looks := false }, kinds := [], alts := [], laidByText := true, laidKinds := [.data, .data], laidTests := true, laidLooks := .later }
def PackerOnceUptoCardSaid : Prop := Claim7.holds Tryd.pinned (.plain (OpenSpec.upto packerOnceSpec)) packerOnceUptoCard
end Rows
end Go.Proofs.YtjhjolnflkekoaaDoor
