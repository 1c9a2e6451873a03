/-
  DERIVED. GIVEN WITH THE SEED: THE CARDS: each row of YtepdlghobopdbaaGreatDoorRows.lean that lists a variable, with what it lists TIED to the program's text (the seventh form; the later family's looks); each row that meets fmt, with fmt's text TOLD by the authors' own Lean function (tested against real Go, not proved from fmt's source: count such statements apart). THE CARD IS WHAT COUNTS. Prove the row's statement (the work); the ties are given (YtepdlghobopdbaaGreatDoorTie.lean); close each card by the builder's one call (the guide's Derived/Test/ToyasCard.lean, 'card_holds'). Laid BY PROGRAM, IN A SANDBOX (cutbox-door.mjs). By AI agents, Wed Nov 11 2026. No macro, syntax, notation, axiom, sorry.
-/
import Derived.Test.YtepdlghobopdbaaGreatDoorRows
import GoSem.ClaimSeven
namespace Go.Proofs.YtepdlghobopdbaaGreatDoor
namespace Rows

/-- THE TIED CARD OF 'ripostelaw04.ArenaReads'. -/
def arenaReadsCard : Claim7 := { stood := { row := arenaReadsRow, standIns := [], harness := (true, "f079d730aefd0369aef4b5daa1f2b434a051e5c9afc9db2b2f42bfcc7a1dbc20"), looks := true }, kinds := [], alts := [], laidByText := true, laidKinds := [.data, .data, .data, .data, .sentinel, .sentinel, .pinned], laidTests := true, laidLooks := .later }
def ArenaReadsCardSaid : Prop := Claim7.holds Tryz.pinned (.plain (OpenSpec.ofChange arenaReadsSpec)) arenaReadsCard

/-- THE TIED CARD OF 'ripostelaw04.ArenaNames'. -/
def arenaNamesCard : Claim7 := { stood := { row := arenaNamesRow, standIns := [], harness := (true, "f079d730aefd0369aef4b5daa1f2b434a051e5c9afc9db2b2f42bfcc7a1dbc20"), looks := true }, kinds := [], alts := [], laidByText := true, laidKinds := [.data, .data, .data, .data, .sentinel, .sentinel, .pinned], laidTests := true, laidLooks := .later }
def ArenaNamesCardSaid : Prop := Claim7.holds Tryz.pinned (.plain (OpenSpec.ofChange arenaNamesSpec)) arenaNamesCard

/-- THE TIED CARD OF 'ripostelaw04.ArenaBack'. -/
def arenaBackCard : Claim7 := { stood := { row := arenaBackRow, standIns := [], harness := (true, "f079d730aefd0369aef4b5daa1f2b434a051e5c9afc9db2b2f42bfcc7a1dbc20"), looks := true }, kinds := [], alts := [], laidByText := true, laidKinds := [.data, .data, .data, .data, .sentinel, .sentinel, .pinned], laidTests := true, laidLooks := .later }
def ArenaBackCardSaid : Prop := Claim7.holds Tryz.pinned (.plain (OpenSpec.ofChange arenaBackSpec)) arenaBackCard

/-- THE SECOND FORM's CARD OF 'ripostelaw04.ArenaReads'. -/
def arenaReadsUptoCard : Claim7 := { stood := { row := arenaReadsUptoRow, standIns := [], harness := (true, "f079d730aefd0369aef4b5daa1f2b434a051e5c9afc9db2b2f42bfcc7a1dbc20"), looks := true }, kinds := [], alts := [], laidByText := true, laidKinds := [.data, .data, .data, .data, .sentinel, .sentinel, .pinned], laidTests := true, laidLooks := .later }
def ArenaReadsUptoCardSaid : Prop := Claim7.holds Tryz.pinned (.plain (OpenSpec.upto arenaReadsSpec)) arenaReadsUptoCard

/-- THE SECOND FORM's CARD OF 'ripostelaw04.ArenaNames'. -/
def arenaNamesUptoCard : Claim7 := { stood := { row := arenaNamesUptoRow, standIns := [], harness := (true, "f079d730aefd0369aef4b5daa1f2b434a051e5c9afc9db2b2f42bfcc7a1dbc20"), looks := true }, kinds := [], alts := [], laidByText := true, laidKinds := [.data, .data, .data, .data, .sentinel, .sentinel, .pinned], laidTests := true, laidLooks := .later }
def ArenaNamesUptoCardSaid : Prop := Claim7.holds Tryz.pinned (.plain (OpenSpec.upto arenaNamesSpec)) arenaNamesUptoCard

/-- THE SECOND FORM's CARD OF 'ripostelaw04.ArenaBack'. -/
def arenaBackUptoCard : Claim7 := { stood := { row := arenaBackUptoRow, standIns := [], harness := (true, "f079d730aefd0369aef4b5daa1f2b434a051e5c9afc9db2b2f42bfcc7a1dbc20"), looks := true }, kinds := [], alts := [], laidByText := true, laidKinds := [.data, .data, .data, .data, .sentinel, .sentinel, .pinned], laidTests := true, laidLooks := .later }
def ArenaBackUptoCardSaid : Prop := Claim7.holds Tryz.pinned (.plain (OpenSpec.upto arenaBackSpec)) arenaBackUptoCard
end Rows
end Go.Proofs.YtepdlghobopdbaaGreatDoor
