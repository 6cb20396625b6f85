/-
  DERIVED. GIVEN WITH THE SEED: THE CARDS: each row of YtiokabhidjafeaaDoorRows.lean that lists a variable, with what it lists TIED to the program's text (the seventh form; the later family's looks); each row that meets fmt, with fmt's text TOLD by the authors' own Lean function (tested against real Go, not proved from fmt's source: count such statements apart). THE CARD IS WHAT COUNTS. Prove the row's statement (the work); the ties are given (YtiokabhidjafeaaDoorTie.lean); close each card by the builder's one call (the guide's Derived/Test/ToyasCard.lean, 'card_holds'). Laid BY PROGRAM, IN A SANDBOX (cutbox-door.mjs). By AI agents, Wed Nov 11 2026. No macro, syntax, notation, axiom, sorry.
-/
import Derived.Test.YtiokabhidjafeaaDoorRows
import GoSem.ClaimSeven
namespace Go.Proofs.YtiokabhidjafeaaDoor
namespace Rows

/-- THE TIED CARD OF 'revertlaw08.RankGroups'. -/
def rankGroupsCard : Claim7 := { stood := { row := rankGroupsRow, standIns := [], harness := (true, "d9b361aea562f3d2aed6565441fbb507744ad5d0eaa4d72821defc934f0138aa"), looks := true }, kinds := [], alts := [], laidByText := true, laidKinds := [.data, .data, .data], laidTests := true, laidLooks := .later }
def RankGroupsCardSaid : Prop := Claim7.holds Tryd.pinned (.plain (OpenSpec.ofChange rankGroupsSpec)) rankGroupsCard

/-- THE TIED CARD OF 'revertlaw08.RankSees'. -/
def rankSeesCard : Claim7 := { stood := { row := rankSeesRow, standIns := [], harness := (true, "d9b361aea562f3d2aed6565441fbb507744ad5d0eaa4d72821defc934f0138aa"), looks := true }, kinds := [], alts := [], laidByText := true, laidKinds := [.data, .data, .data], laidTests := true, laidLooks := .later }
def RankSeesCardSaid : Prop := Claim7.holds Tryd.pinned (.plain (OpenSpec.ofChange rankSeesSpec)) rankSeesCard

/-- THE TIED CARD OF 'revertlaw08.RankAll'. -/
def rankAllCard : Claim7 := { stood := { row := rankAllRow, standIns := [], harness := (true, "d9b361aea562f3d2aed6565441fbb507744ad5d0eaa4d72821defc934f0138aa"), looks := true }, kinds := [], alts := [], laidByText := true, laidKinds := [.data, .data, .data, .sentinel, .sentinel], laidTests := true, laidLooks := .later }
def RankAllCardSaid : Prop := Claim7.holds Tryd.pinned (.plain (OpenSpec.ofChange rankAllSpec)) rankAllCard

/-- THE TIED CARD OF 'revertlaw08.RankSame'. -/
def rankSameCard : Claim7 := { stood := { row := rankSameRow, standIns := [], harness := (true, "d9b361aea562f3d2aed6565441fbb507744ad5d0eaa4d72821defc934f0138aa"), looks := true }, kinds := [], alts := [], laidByText := true, laidKinds := [.data, .data, .data], laidTests := true, laidLooks := .later }
def RankSameCardSaid : Prop := Claim7.holds Tryd.pinned (.plain (OpenSpec.ofChange rankSameSpec)) rankSameCard

/-- THE TIED CARD OF 'revertlaw08.RankKnown'. -/
def rankKnownCard : Claim7 := { stood := { row := rankKnownRow, standIns := [], harness := (true, "d9b361aea562f3d2aed6565441fbb507744ad5d0eaa4d72821defc934f0138aa"), looks := true }, kinds := [], alts := [], laidByText := true, laidKinds := [.data, .data, .data], laidTests := true, laidLooks := .later }
def RankKnownCardSaid : Prop := Claim7.holds Tryd.pinned (.plain (OpenSpec.ofChange rankKnownSpec)) rankKnownCard

/-- THE SECOND FORM's CARD OF 'revertlaw08.RankGroups'. -/
def rankGroupsUptoCard : Claim7 := { stood := { row := rankGroupsUptoRow, standIns := [], harness := (true, "d9b361aea562f3d2aed6565441fbb507744ad5d0eaa4d72821defc934f0138aa"), looks := true }, kinds := [], alts := [], laidByText := true, laidKinds := [.data, .data, .data], laidTests := true, laidLooks := .later }
def RankGroupsUptoCardSaid : Prop := Claim7.holds Tryd.pinned (.plain (OpenSpec.upto rankGroupsSpec)) rankGroupsUptoCard

/-- THE SECOND FORM's CARD OF 'revertlaw08.RankSees'. -/
def rankSeesUptoCard : Claim7 := { stood := { row := rankSeesUptoRow, standIns := [], harness := (true, "d9b361aea562f3d2aed6565441fbb507744ad5d0eaa4d72821defc934f0138aa"), looks := true }, kinds := [], alts := [], laidByText := true, laidKinds := [.data, .data, .data], laidTests := true, laidLooks := .later }
def RankSeesUptoCardSaid : Prop := Claim7.holds Tryd.pinned (.plain (OpenSpec.upto rankSeesSpec)) rankSeesUptoCard

/-- THE SECOND FORM's CARD OF 'revertlaw08.RankAll'. -/
def rankAllUptoCard : Claim7 := { stood := { row := rankAllUptoRow, standIns := [], harness := (true, "d9b361aea562f3d2aed6565441fbb507744ad5d0eaa4d72821defc934f0138aa"), looks := true }, kinds := [], alts := [], laidByText := true, laidKinds := [.data, .data, .data, .sentinel, .sentinel], laidTests := true, laidLooks := .later }
def RankAllUptoCardSaid : Prop := Claim7.holds Tryd.pinned (.plain (OpenSpec.upto rankAllSpec)) rankAllUptoCard

/-- THE SECOND FORM's CARD OF 'revertlaw08.RankSame'. -/
def rankSameUptoCard : Claim7 := { stood := { row := rankSameUptoRow, standIns := [], harness := (true, "d9b361aea562f3d2aed6565441fbb507744ad5d0eaa4d72821defc934f0138aa"), looks := true }, kinds := [], alts := [], laidByText := true, laidKinds := [.data, .data, .data], laidTests := true, laidLooks := .later }
def RankSameUptoCardSaid : Prop := Claim7.holds Tryd.pinned (.plain (OpenSpec.upto rankSameSpec)) rankSameUptoCard

/-- THE SECOND FORM's CARD OF 'revertlaw08.RankKnown'. -/
def rankKnownUptoCard : Claim7 := { stood := { row := rankKnownUptoRow, standIns := [], harness := (true, "d9b361aea562f3d2aed6565441fbb507744ad5d0eaa4d72821defc934f0138aa"), looks := true }, kinds := [], alts := [], laidByText := true, laidKinds := [.data, .data, .data], laidTests := true, laidLooks := .later }
def RankKnownUptoCardSaid : Prop := Claim7.holds Tryd.pinned (.plain (OpenSpec.upto rankKnownSpec)) rankKnownUptoCard
end Rows
end Go.Proofs.YtiokabhidjafeaaDoor
