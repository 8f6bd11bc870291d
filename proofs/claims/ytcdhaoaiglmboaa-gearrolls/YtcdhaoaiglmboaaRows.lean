/-
  No cell of these rows narrows 'for every input' (looked for: loops, veiled, ifaces, maps, wideKeys, modest, calm, conditions, laid).
  DERIVED. THE GIVEN ROWS OF THIS SEAT. 3 by the template 'for every input the law returns true; each argument reads behind the call as it read before'; 0 by the template 'total and deterministic' (their statements: YtcdhaoaiglmboaaTotals.lean).
  GIVEN WITH THE SEED: the statements are not yours to turn. If you find one false, say at which input.
  Laid BY PROGRAM, IN A SANDBOX (cutbox-rows.mjs): the forced cells as the released guide's own fill.sh prints them over the translation 05c8529157223cf3… (all of the seat's roots in one cut). By AI agents, Wed Nov 11 2026. No macro, syntax, notation, axiom, sorry.
-/
import Derived.Test.YtcdhaoaiglmboaaChecked
import GoSem.Claim
import GoSem.ClaimJoined
import GoSem.ClaimMapViews
import Derived.JoinedTies
import Derived.KernelRfl
namespace Go.Proofs.Ytcdhaoaiglmboaa
/- THE CELL 'sum', in the pinned program and in every row, IS THE sha256 OF THE DUMP (.gsa) THAT YtcdhaoaiglmboaaProg.lean LOADS. Nothing in Lean hashes anything: it is a label: what it is worth is what the hold of that sum in a sandbox is worth. -/
noncomputable def Try.pinned : Pinned := { name := "ytcdhaoaiglmboaa", sum := "05c8529157223cf32827417583ad94c85f5ff0ef806bba903baf1c688f72f419", checked := Try.checked }
namespace Rows
def none {H : Type} : Left H := { results := [], args := [] }

/-- 'strongboxlaw13.GearNames': WHATEVER THE INPUT: true; the input reads as it did. -/
def gearNamesSpec : ChangeSpec := { name := "gearNames", fn := fun _ => fun
  | [] => { results := [.lit (.bool true)], args := [] }
  | _ => none }
def gearNamesRow : OpenClaim := { program := "ytcdhaoaiglmboaa", sum := "05c8529157223cf32827417583ad94c85f5ff0ef806bba903baf1c688f72f419", func := "strongbox/strongboxlaw13.GearNames", spec := "gearNames", unfollowed := true, recurses := true, apart := false }
def GearNamesSaid : Prop := gearNamesRow.holds Try.pinned (OpenSpec.ofChange gearNamesSpec)

/-- ITS FALSE NEIGHBOUR: 'it returns false'. Refute it at one input. -/
def gearNamesWrong : ChangeSpec := { name := "gearNames", fn := fun _ => fun
  | [] => { results := [.lit (.bool false)], args := [] }
  | _ => none }
def GearNamesWrongFalsely : Prop := gearNamesRow.holds Try.pinned (OpenSpec.ofChange gearNamesWrong)

/-- 'strongboxlaw13.GearRolls': WHATEVER THE INPUT: true; the input reads as it did. -/
def gearRollsSpec : ChangeSpec := { name := "gearRolls", fn := fun _ => fun
  | [d1, d2, d3] => { results := [.lit (.bool true)], args := [d1, d2, d3] }
  | _ => none }
def gearRollsRow : OpenClaim := { program := "ytcdhaoaiglmboaa", sum := "05c8529157223cf32827417583ad94c85f5ff0ef806bba903baf1c688f72f419", func := "strongbox/strongboxlaw13.GearRolls", spec := "gearRolls", unfollowed := true, recurses := true, apart := false }
def GearRollsSaid : Prop := gearRollsRow.holds Try.pinned (OpenSpec.ofChange gearRollsSpec)

/-- ITS FALSE NEIGHBOUR: 'it returns false'. Refute it at one input. -/
def gearRollsWrong : ChangeSpec := { name := "gearRolls", fn := fun _ => fun
  | [d1, d2, d3] => { results := [.lit (.bool false)], args := [d1, d2, d3] }
  | _ => none }
def GearRollsWrongFalsely : Prop := gearRollsRow.holds Try.pinned (OpenSpec.ofChange gearRollsWrong)

/-- 'strongboxlaw13.GearWindow': WHATEVER THE INPUT: true; the input reads as it did. -/
def gearWindowSpec : ChangeSpec := { name := "gearWindow", fn := fun _ => fun
  | [d1, d2, d3] => { results := [.lit (.bool true)], args := [d1, d2, d3] }
  | _ => none }
def gearWindowRow : OpenClaim := { program := "ytcdhaoaiglmboaa", sum := "05c8529157223cf32827417583ad94c85f5ff0ef806bba903baf1c688f72f419", func := "strongbox/strongboxlaw13.GearWindow", spec := "gearWindow", unfollowed := true, recurses := true, apart := false }
def GearWindowSaid : Prop := gearWindowRow.holds Try.pinned (OpenSpec.ofChange gearWindowSpec)

/-- ITS FALSE NEIGHBOUR: 'it returns false'. Refute it at one input. -/
def gearWindowWrong : ChangeSpec := { name := "gearWindow", fn := fun _ => fun
  | [d1, d2, d3] => { results := [.lit (.bool false)], args := [d1, d2, d3] }
  | _ => none }
def GearWindowWrongFalsely : Prop := gearWindowRow.holds Try.pinned (OpenSpec.ofChange gearWindowWrong)

/- THE SECOND FORM. 'bulk': how many values and letters a reading holds, each counted each time it is reached (what is shared counts as often as it is met; a slice's spare places count too). A statement '..UptoSaid' is the law's where the arguments, and the package variables that the reading takes, are together of bulk at most 1048576: NARROWER than '..Said'. Prove '..Said' where nothing that the law and all that it calls make is longer than what came in: it says more and counts as full. Else prove '..UptoSaid'. A law counts once. -/
mutual
def uptoBulk {H : Type} : DataW H → Nat
  | .lit (.string bytes) => bytes.length + 1
  | .lit _ => 1
  | .nil => 1
  | .ptr d => uptoBulk d + 1
  | .slice elems spare => uptoBulkAll elems + uptoBulkAll spare + 1
  | .agg parts => uptoBulkAll parts + 1
  | .iface _ d => uptoBulk d + 1
  | .map entries => uptoBulkEntries entries + 1
  | .held _ => 1
def uptoBulkAll {H : Type} : List (DataW H) → Nat
  | [] => 0
  | d :: r => uptoBulk d + uptoBulkAll r
def uptoBulkEntries {H : Type} : List (Lit × DataW H) → Nat
  | [] => 0
  | x :: r => uptoBulkEntry x + uptoBulkEntries r
def uptoBulkEntry {H : Type} : Lit × DataW H → Nat
  | (.string bytes, d) => bytes.length + uptoBulk d + 1
  | (_, d) => uptoBulk d + 1
 end
def uptoSmall : (H : Type) → List (DataW H) → Bool := fun _ ds => decide (uptoBulkAll ds ≤ 1048576)
def OpenSpec.upto (s : _root_.Go.ChangeSpec) : _root_.Go.OpenSpec := { _root_.Go.OpenSpec.ofChange s with cond := some uptoSmall }

/-- 'strongboxlaw13.GearNames', WHERE WHAT IT READS IS OF BULK AT MOST 1048576: true; the input reads as it did. -/
def gearNamesUptoRow : OpenClaim := { program := "ytcdhaoaiglmboaa", sum := "05c8529157223cf32827417583ad94c85f5ff0ef806bba903baf1c688f72f419", func := "strongbox/strongboxlaw13.GearNames", spec := "gearNames", unfollowed := true, recurses := true, apart := false, narrowed := true }
def GearNamesUptoSaid : Prop := gearNamesUptoRow.holds Try.pinned (OpenSpec.upto gearNamesSpec)

/-- 'strongboxlaw13.GearRolls', WHERE WHAT IT READS IS OF BULK AT MOST 1048576: true; the input reads as it did. -/
def gearRollsUptoRow : OpenClaim := { program := "ytcdhaoaiglmboaa", sum := "05c8529157223cf32827417583ad94c85f5ff0ef806bba903baf1c688f72f419", func := "strongbox/strongboxlaw13.GearRolls", spec := "gearRolls", unfollowed := true, recurses := true, apart := false, narrowed := true }
def GearRollsUptoSaid : Prop := gearRollsUptoRow.holds Try.pinned (OpenSpec.upto gearRollsSpec)

/-- 'strongboxlaw13.GearWindow', WHERE WHAT IT READS IS OF BULK AT MOST 1048576: true; the input reads as it did. -/
def gearWindowUptoRow : OpenClaim := { program := "ytcdhaoaiglmboaa", sum := "05c8529157223cf32827417583ad94c85f5ff0ef806bba903baf1c688f72f419", func := "strongbox/strongboxlaw13.GearWindow", spec := "gearWindow", unfollowed := true, recurses := true, apart := false, narrowed := true }
def GearWindowUptoSaid : Prop := gearWindowUptoRow.holds Try.pinned (OpenSpec.upto gearWindowSpec)

end Rows
end Go.Proofs.Ytcdhaoaiglmboaa
