/-
  DERIVED. GIVEN WITH THE SEED: THE CARDS: each row of YtffhobkoagnhhaaGreatDoorRows.lean that lists a variable, with what it lists TIED to the program's text (the seventh form; the later family's looks); each row that meets fmt, with fmt's text TOLD by the authors' own Lean function (tested against real Go, not proved from fmt's source: count such statements apart). THE CARD IS WHAT COUNTS. Prove the row's statement (the work); the ties are given (YtffhobkoagnhhaaGreatDoorTie.lean); close each card by the builder's one call (the guide's Derived/Test/ToyasCard.lean, 'card_holds'). Laid BY PROGRAM, IN A SANDBOX (cutbox-door.mjs). By AI agents, Wed Nov 11 2026. No macro, syntax, notation, axiom, sorry.
-/
import Derived.Test.YtffhobkoagnhhaaGreatDoorRows
import GoSem.ClaimSeven
namespace Go.Proofs.YtffhobkoagnhhaaGreatDoor
namespace Rows

/-- THE TIED CARD OF 'strongboxlaw09.StripeNames'. -/
def stripeNamesCard : Claim7 := { stood := { row := stripeNamesRow, standIns := [], harness := (true, "02f03a4972d7450527f6a3cc2b59a690a7c61751727d61570971b33011553345"), looks := true }, kinds := [], alts := [], laidByText := true, laidKinds := [.data, .data, .data, .data, .data], laidTests := true, laidLooks := .later }
def StripeNamesCardSaid : Prop := Claim7.holds Tryz.pinned (.plain (OpenSpec.ofChange stripeNamesSpec)) stripeNamesCard

/-- THE TIED CARD OF 'strongboxlaw09.StripePlays'. -/
def stripePlaysCard : Claim7 := { stood := { row := stripePlaysRow, standIns := [], harness := (true, "02f03a4972d7450527f6a3cc2b59a690a7c61751727d61570971b33011553345"), looks := true }, kinds := [], alts := [], laidByText := true, laidKinds := [.data, .data, .data, .data, .data], laidTests := true, laidLooks := .later }
def StripePlaysCardSaid : Prop := Claim7.holds Tryz.pinned (.plain (OpenSpec.ofChange stripePlaysSpec)) stripePlaysCard

/-- THE TIED CARD OF 'strongboxlaw09.StripeKept'. -/
def stripeKeptCard : Claim7 := { stood := { row := stripeKeptRow, standIns := [], harness := (true, "02f03a4972d7450527f6a3cc2b59a690a7c61751727d61570971b33011553345"), looks := true }, kinds := [], alts := [], laidByText := true, laidKinds := [.data, .data, .data, .data, .data], laidTests := true, laidLooks := .later }
def StripeKeptCardSaid : Prop := Claim7.holds Tryz.pinned (.plain (OpenSpec.ofChange stripeKeptSpec)) stripeKeptCard

/-- THE TIED CARD OF 'strongboxlaw09.StripeWorse'. -/
def stripeWorseCard : Claim7 := { stood := { row := stripeWorseRow, standIns := [], harness := (true, "02f03a4972d7450527f6a3cc2b59a690a7c61751727d61570971b33011553345"), looks := true }, kinds := [], alts := [], laidByText := true, laidKinds := [.data, .data, .data, .data, .data], laidTests := true, laidLooks := .later }
def StripeWorseCardSaid : Prop := Claim7.holds Tryz.pinned (.plain (OpenSpec.ofChange stripeWorseSpec)) stripeWorseCard

/-- THE SECOND FORM's CARD OF 'strongboxlaw09.StripeNames'. -/
def stripeNamesUptoCard : Claim7 := { stood := { row := stripeNamesUptoRow, standIns := [], harness := (true, "02f03a4972d7450527f6a3cc2b59a690a7c61751727d61570971b33011553345"), looks := true }, kinds := [], alts := [], laidByText := true, laidKinds := [.data, .data, .data, .data, .data], laidTests := true, laidLooks := .later }
def StripeNamesUptoCardSaid : Prop := Claim7.holds Tryz.pinned (.plain (OpenSpec.upto stripeNamesSpec)) stripeNamesUptoCard

/-- THE SECOND FORM's CARD OF 'strongboxlaw09.StripePlays'. -/
def stripePlaysUptoCard : Claim7 := { stood := { row := stripePlaysUptoRow, standIns := [], harness := (true, "02f03a4972d7450527f6a3cc2b59a690a7c61751727d61570971b33011553345"), looks := true }, kinds := [], alts := [], laidByText := true, laidKinds := [.data, .data, .data, .data, .data], laidTests := true, laidLooks := .later }
def StripePlaysUptoCardSaid : Prop := Claim7.holds Tryz.pinned (.plain (OpenSpec.upto stripePlaysSpec)) stripePlaysUptoCard

/-- THE SECOND FORM's CARD OF 'strongboxlaw09.StripeKept'. -/
def stripeKeptUptoCard : Claim7 := { stood := { row := stripeKeptUptoRow, standIns := [], harness := (true, "02f03a4972d7450527f6a3cc2b59a690a7c61751727d61570971b33011553345"), looks := true }, kinds := [], alts := [], laidByText := true, laidKinds := [.data, .data, .data, .data, .data], laidTests := true, laidLooks := .later }
def StripeKeptUptoCardSaid : Prop := Claim7.holds Tryz.pinned (.plain (OpenSpec.upto stripeKeptSpec)) stripeKeptUptoCard

/-- THE SECOND FORM's CARD OF 'strongboxlaw09.StripeWorse'. -/
def stripeWorseUptoCard : Claim7 := { stood := { row := stripeWorseUptoRow, standIns := [], harness := (true, "02f03a4972d7450527f6a3cc2b59a690a7c61751727d61570971b33011553345"), looks := true }, kinds := [], alts := [], laidByText := true, laidKinds := [.data, .data, .data, .data, .data], laidTests := true, laidLooks := .later }
def StripeWorseUptoCardSaid : Prop := Claim7.holds Tryz.pinned (.plain (OpenSpec.upto stripeWorseSpec)) stripeWorseUptoCard
end Rows
end Go.Proofs.YtffhobkoagnhhaaGreatDoor
