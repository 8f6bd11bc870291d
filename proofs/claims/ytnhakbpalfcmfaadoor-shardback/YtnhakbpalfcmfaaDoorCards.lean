/-
  DERIVED. GIVEN WITH THE SEED: THE CARDS: each row of YtnhakbpalfcmfaaDoorRows.lean that lists a variable, with what it lists TIED to the program's text (the seventh form; the later family's looks); each row that meets fmt, with fmt's text TOLD by the authors' own Lean function (tested against real Go, not proved from fmt's source: count such statements apart). THE CARD IS WHAT COUNTS. Prove the row's statement (the work); the ties are given (YtnhakbpalfcmfaaDoorTie.lean); close each card by the builder's one call (the guide's Derived/Test/ToyasCard.lean, 'card_holds'). Laid BY PROGRAM, IN A SANDBOX (cutbox-door.mjs). By AI agents, Wed Nov 11 2026. No macro, syntax, notation, axiom, sorry.
-/
import Derived.Test.YtnhakbpalfcmfaaDoorRows
import GoSem.ClaimSeven
namespace Go.Proofs.YtnhakbpalfcmfaaDoor
namespace Rows

/-- THE TIED CARD OF 'strongboxlaw06.ShardMakes'. -/
def shardMakesCard : Claim7 := { stood := { row := shardMakesRow, standIns := [], harness := (true, "a407e9a09d28977d29e87c0f7d399d40b60518d0f9b374f19d12b2684271c316"), looks := true }, kinds := [], alts := [], laidByText := true, laidKinds := [.data, .data, .data, .sentinel, .sentinel, .data, .data], laidTests := true, laidLooks := .later }
def ShardMakesCardSaid : Prop := Claim7.holds Tryd.pinned (.plain (OpenSpec.ofChange shardMakesSpec)) shardMakesCard

/-- THE TIED CARD OF 'strongboxlaw06.ShardNames'. -/
def shardNamesCard : Claim7 := { stood := { row := shardNamesRow, standIns := [], harness := (true, "a407e9a09d28977d29e87c0f7d399d40b60518d0f9b374f19d12b2684271c316"), looks := true }, kinds := [], alts := [], laidByText := true, laidKinds := [.data, .data, .data, .sentinel, .sentinel, .data, .data], laidTests := true, laidLooks := .later }
def ShardNamesCardSaid : Prop := Claim7.holds Tryd.pinned (.plain (OpenSpec.ofChange shardNamesSpec)) shardNamesCard

/-- THE TIED CARD OF 'strongboxlaw06.ShardBack'. -/
def shardBackCard : Claim7 := { stood := { row := shardBackRow, standIns := [], harness := (true, "a407e9a09d28977d29e87c0f7d399d40b60518d0f9b374f19d12b2684271c316"), looks := true }, kinds := [], alts := [], laidByText := true, laidKinds := [.data, .data, .data, .sentinel, .sentinel, .data, .data], laidTests := true, laidLooks := .later }
def ShardBackCardSaid : Prop := Claim7.holds Tryd.pinned (.plain (OpenSpec.ofChange shardBackSpec)) shardBackCard

/-- THE SECOND FORM's CARD OF 'strongboxlaw06.ShardMakes'. -/
def shardMakesUptoCard : Claim7 := { stood := { row := shardMakesUptoRow, standIns := [], harness := (true, "a407e9a09d28977d29e87c0f7d399d40b60518d0f9b374f19d12b2684271c316"), looks := true }, kinds := [], alts := [], laidByText := true, laidKinds := [.data, .data, .data, .sentinel, .sentinel, .data, .data], laidTests := true, laidLooks := .later }
def ShardMakesUptoCardSaid : Prop := Claim7.holds Tryd.pinned (.plain (OpenSpec.upto shardMakesSpec)) shardMakesUptoCard

/-- THE SECOND FORM's CARD OF 'strongboxlaw06.ShardNames'. -/
def shardNamesUptoCard : Claim7 := { stood := { row := shardNamesUptoRow, standIns := [], harness := (true, "a407e9a09d28977d29e87c0f7d399d40b60518d0f9b374f19d12b2684271c316"), looks := true }, kinds := [], alts := [], laidByText := true, laidKinds := [.data, .data, .data, .sentinel, .sentinel, .data, .data], laidTests := true, laidLooks := .later }
def ShardNamesUptoCardSaid : Prop := Claim7.holds Tryd.pinned (.plain (OpenSpec.upto shardNamesSpec)) shardNamesUptoCard

/-- THE SECOND FORM's CARD OF 'strongboxlaw06.ShardBack'. -/
def shardBackUptoCard : Claim7 := { stood := { row := shardBackUptoRow, standIns := [], harness := (true, "a407e9a09d28977d29e87c0f7d399d40b60518d0f9b374f19d12b2684271c316"), looks := true }, kinds := [], alts := [], laidByText := true, laidKinds := [.data, .data, .data, .sentinel, .sentinel, .data, .data], laidTests := true, laidLooks := .later }
def ShardBackUptoCardSaid : Prop := Claim7.holds Tryd.pinned (.plain (OpenSpec.upto shardBackSpec)) shardBackUptoCard
end Rows
end Go.Proofs.YtnhakbpalfcmfaaDoor
