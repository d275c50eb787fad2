/-
  DERIVED. GIVEN WITH THE SEED: THE CARDS: each row of YthmkobpmdbimgaaDoorRows.lean that lists a variable, with what it lists TIED to the program's text (the seventh form; the later family's looks); each row that meets fmt, with fmt's text TOLD by the authors' own Lean function (tested against real Go, not proved from fmt's source: count such statements apart). THE CARD IS WHAT COUNTS. Prove the row's statement (the work); the ties are given (YthmkobpmdbimgaaDoorTie.lean); close each card by the builder's one call (the guide's Derived/Test/ToyasCard.lean, 'card_holds'). Laid BY PROGRAM, IN A SANDBOX (cutbox-door.mjs). By AI agents, Wed Nov 11 2026. No macro, syntax, notation, axiom, sorry.
-/
import Derived.Test.YthmkobpmdbimgaaDoorRows
import GoSem.ClaimSeven
namespace Go.Proofs.YthmkobpmdbimgaaDoor
namespace Rows

/-- THE TIED CARD OF 'glosslaw.Ranks'. -/
def ranksCard : Claim7 := { stood := { row := ranksRow, standIns := [], harness := (true, "f93d5e33c5fbaad18c047e6a66df10edf174c01642a56913cc7d08d20dd20960"), looks := false }, kinds := [], alts := [], laidByText := true, laidKinds := [.data, .pinned], laidTests := true, laidLooks := .later }
def RanksCardSaid : Prop := Claim7.holds Tryd.pinned (.plain (OpenSpec.ofChange ranksSpec)) ranksCard

/-- THE TIED CARD OF 'glosslaw.Both'. -/
def bothCard : Claim7 := { stood := { row := bothRow, standIns := [], harness := (true, "f93d5e33c5fbaad18c047e6a66df10edf174c01642a56913cc7d08d20dd20960"), looks := false }, kinds := [], alts := [], laidByText := true, laidKinds := [.data, .pinned], laidTests := true, laidLooks := .later }
def BothCardSaid : Prop := Claim7.holds Tryd.pinned (.plain (OpenSpec.ofChange bothSpec)) bothCard

/-- THE SECOND FORM's CARD OF 'glosslaw.Ranks'. -/
def ranksUptoCard : Claim7 := { stood := { row := ranksUptoRow, standIns := [], harness := (true, "f93d5e33c5fbaad18c047e6a66df10edf174c01642a56913cc7d08d20dd20960"), looks := false }, kinds := [], alts := [], laidByText := true, laidKinds := [.data, .pinned], laidTests := true, laidLooks := .later }
def RanksUptoCardSaid : Prop := Claim7.holds Tryd.pinned (.plain (OpenSpec.upto ranksSpec)) ranksUptoCard

/-- THE SECOND FORM's CARD OF 'glosslaw.Both'. -/
def bothUptoCard : Claim7 := { stood := { row := bothUptoRow, standIns := [], harness := (true, "f93d5e33c5fbaad18c047e6a66df10edf174c01642a56913cc7d08d20dd20960"), looks := false }, kinds := [], alts := [], laidByText := true, laidKinds := [.data, .pinned], laidTests := true, laidLooks := .later }
def BothUptoCardSaid : Prop := Claim7.holds Tryd.pinned (.plain (OpenSpec.upto bothSpec)) bothUptoCard
end Rows
end Go.Proofs.YthmkobpmdbimgaaDoor
