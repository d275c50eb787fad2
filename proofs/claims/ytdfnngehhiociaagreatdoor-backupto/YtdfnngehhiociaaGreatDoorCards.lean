/-
  DERIVED. GIVEN WITH THE SEED: THE CARDS: each row of YtdfnngehhiociaaGreatDoorRows.lean that lists a variable, with what it lists TIED to the program's text (the seventh form; the later family's looks); each row that meets fmt, with fmt's text TOLD by the authors' own Lean function (tested against real Go, not proved from fmt's source: count such statements apart). THE CARD IS WHAT COUNTS. Prove the row's statement (the work); the ties are given (YtdfnngehhiociaaGreatDoorTie.lean); close each card by the builder's one call (the guide's Derived/Test/ToyasCard.lean, 'card_holds'). Laid BY PROGRAM, IN A SANDBOX (cutbox-door.mjs). By AI agents, Wed Nov 11 2026. No macro, syntax, notation, axiom, sorry.
-/
import Derived.Test.YtdfnngehhiociaaGreatDoorRows
import GoSem.ClaimSeven
namespace Go.Proofs.YtdfnngehhiociaaGreatDoor
namespace Rows

/-- THE TIED CARD OF 'glosslaw.Ranks'. -/
def ranksCard : Claim7 := { stood := { row := ranksRow, standIns := [], harness := (true, "418a91671c8c469267ab5a7ab31cb61d81d0cabed10deb45d411b1e0e207068d"), looks := true }, kinds := [], alts := [], laidByText := true, laidKinds := [.data, .data, .data, .data, .sentinel, .sentinel, .pinned], laidTests := true, laidLooks := .later }
def RanksCardSaid : Prop := Claim7.holds Tryz.pinned (.plain (OpenSpec.ofChange ranksSpec)) ranksCard

/-- THE TIED CARD OF 'glosslaw.Both'. -/
def bothCard : Claim7 := { stood := { row := bothRow, standIns := [], harness := (true, "418a91671c8c469267ab5a7ab31cb61d81d0cabed10deb45d411b1e0e207068d"), looks := true }, kinds := [], alts := [], laidByText := true, laidKinds := [.data, .data, .data, .data, .sentinel, .sentinel, .pinned], laidTests := true, laidLooks := .later }
def BothCardSaid : Prop := Claim7.holds Tryz.pinned (.plain (OpenSpec.ofChange bothSpec)) bothCard

/-- THE TIED CARD OF 'glosslaw.Fewer'. -/
def fewerCard : Claim7 := { stood := { row := fewerRow, standIns := [], harness := (true, "418a91671c8c469267ab5a7ab31cb61d81d0cabed10deb45d411b1e0e207068d"), looks := true }, kinds := [], alts := [], laidByText := true, laidKinds := [.data, .data, .data, .data, .sentinel, .sentinel, .pinned], laidTests := true, laidLooks := .later }
def FewerCardSaid : Prop := Claim7.holds Tryz.pinned (.plain (OpenSpec.ofChange fewerSpec)) fewerCard

/-- THE TIED CARD OF 'glosslaw.Back'. -/
def backCard : Claim7 := { stood := { row := backRow, standIns := [], harness := (true, "418a91671c8c469267ab5a7ab31cb61d81d0cabed10deb45d411b1e0e207068d"), looks := true }, kinds := [], alts := [], laidByText := true, laidKinds := [.data, .data, .data, .data, .sentinel, .sentinel, .pinned], laidTests := true, laidLooks := .later }
def BackCardSaid : Prop := Claim7.holds Tryz.pinned (.plain (OpenSpec.ofChange backSpec)) backCard

/-- THE SECOND FORM's CARD OF 'glosslaw.Ranks'. -/
def ranksUptoCard : Claim7 := { stood := { row := ranksUptoRow, standIns := [], harness := (true, "418a91671c8c469267ab5a7ab31cb61d81d0cabed10deb45d411b1e0e207068d"), looks := true }, kinds := [], alts := [], laidByText := true, laidKinds := [.data, .data, .data, .data, .sentinel, .sentinel, .pinned], laidTests := true, laidLooks := .later }
def RanksUptoCardSaid : Prop := Claim7.holds Tryz.pinned (.plain (OpenSpec.upto ranksSpec)) ranksUptoCard

/-- THE SECOND FORM's CARD OF 'glosslaw.Both'. -/
def bothUptoCard : Claim7 := { stood := { row := bothUptoRow, standIns := [], harness := (true, "418a91671c8c469267ab5a7ab31cb61d81d0cabed10deb45d411b1e0e207068d"), looks := true }, kinds := [], alts := [], laidByText := true, laidKinds := [.data, .data, .data, .data, .sentinel, .sentinel, .pinned], laidTests := true, laidLooks := .later }
def BothUptoCardSaid : Prop := Claim7.holds Tryz.pinned (.plain (OpenSpec.upto bothSpec)) bothUptoCard

/-- THE SECOND FORM's CARD OF 'glosslaw.Fewer'. -/
def fewerUptoCard : Claim7 := { stood := { row := fewerUptoRow, standIns := [], harness := (true, "418a91671c8c469267ab5a7ab31cb61d81d0cabed10deb45d411b1e0e207068d"), looks := true }, kinds := [], alts := [], laidByText := true, laidKinds := [.data, .data, .data, .data, .sentinel, .sentinel, .pinned], laidTests := true, laidLooks := .later }
def FewerUptoCardSaid : Prop := Claim7.holds Tryz.pinned (.plain (OpenSpec.upto fewerSpec)) fewerUptoCard

/-- THE SECOND FORM's CARD OF 'glosslaw.Back'. -/
def backUptoCard : Claim7 := { stood := { row := backUptoRow, standIns := [], harness := (true, "418a91671c8c469267ab5a7ab31cb61d81d0cabed10deb45d411b1e0e207068d"), looks := true }, kinds := [], alts := [], laidByText := true, laidKinds := [.data, .data, .data, .data, .sentinel, .sentinel, .pinned], laidTests := true, laidLooks := .later }
def BackUptoCardSaid : Prop := Claim7.holds Tryz.pinned (.plain (OpenSpec.upto backSpec)) backUptoCard
end Rows
end Go.Proofs.YtdfnngehhiociaaGreatDoor
