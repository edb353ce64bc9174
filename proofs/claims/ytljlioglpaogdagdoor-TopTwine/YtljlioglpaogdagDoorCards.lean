/-
  DERIVED. GIVEN WITH THE SEED: THE CARDS: each row of YtljlioglpaogdagDoorRows.lean that lists a variable, with what it lists TIED to the program's text (the seventh form; the later family's looks); each row that meets fmt, with fmt's text TOLD by the authors' own Lean function (tested against real Go, not proved from fmt's source: count such statements apart). THE CARD IS WHAT COUNTS. Prove the row's statement (the work); the ties are given (YtljlioglpaogdagDoorTie.lean); close each card by the builder's one call (the guide's Derived/Test/ToyasCard.lean, 'card_holds'). Laid BY PROGRAM, IN A SANDBOX (cutbox-door.mjs). By AI agents, Wed Nov 11 2026. No macro, syntax, notation, axiom, sorry.
-/
import Derived.Test.YtljlioglpaogdagDoorRows
import GoSem.ClaimSeven
namespace Go.Proofs.YtljlioglpaogdagDoor
namespace Rows

/-- THE TIED CARD OF 'croftkeep.ListsOwn'. -/
def listsOwnCard : Claim7 := { stood := { row := listsOwnRow, standIns := [], harness := (true, "297e880e9a774aa402d19a910cc4e8e2ed9d593780e5d55ac2a15ad19d3ba297"), looks := false }, kinds := [], alts := [], laidByText := true, laidKinds := [.data], laidTests := true, laidLooks := .later }
def ListsOwnCardSaid : Prop := Claim7.holds Tryd.pinned (.plain (OpenSpec.ofChange listsOwnSpec)) listsOwnCard

/-- THE TIED CARD OF 'crofttop.TopRight'. -/
def topRightCard : Claim7 := { stood := { row := topRightRow, standIns := [], harness := (true, "297e880e9a774aa402d19a910cc4e8e2ed9d593780e5d55ac2a15ad19d3ba297"), looks := false }, kinds := [], alts := [], laidByText := true, laidKinds := [.data], laidTests := true, laidLooks := .later }
def TopRightCardSaid : Prop := Claim7.holds Tryd.pinned (.plain (OpenSpec.ofChange topRightSpec)) topRightCard

/-- THE TIED CARD OF 'crofttop.TopHidden'. -/
def topHiddenCard : Claim7 := { stood := { row := topHiddenRow, standIns := [], harness := (true, "297e880e9a774aa402d19a910cc4e8e2ed9d593780e5d55ac2a15ad19d3ba297"), looks := false }, kinds := [], alts := [], laidByText := true, laidKinds := [.data], laidTests := true, laidLooks := .later }
def TopHiddenCardSaid : Prop := Claim7.holds Tryd.pinned (.plain (OpenSpec.ofChange topHiddenSpec)) topHiddenCard

/-- THE TIED CARD OF 'crofttop.TopMends'. -/
def topMendsCard : Claim7 := { stood := { row := topMendsRow, standIns := [], harness := (true, "297e880e9a774aa402d19a910cc4e8e2ed9d593780e5d55ac2a15ad19d3ba297"), looks := false }, kinds := [], alts := [], laidByText := true, laidKinds := [.data], laidTests := true, laidLooks := .later }
def TopMendsCardSaid : Prop := Claim7.holds Tryd.pinned (.plain (OpenSpec.ofChange topMendsSpec)) topMendsCard

/-- THE TIED CARD OF 'crofttop.TopTwine'. -/
def topTwineCard : Claim7 := { stood := { row := topTwineRow, standIns := [], harness := (true, "297e880e9a774aa402d19a910cc4e8e2ed9d593780e5d55ac2a15ad19d3ba297"), looks := false }, kinds := [], alts := [], laidByText := true, laidKinds := [.data], laidTests := true, laidLooks := .later }
def TopTwineCardSaid : Prop := Claim7.holds Tryd.pinned (.plain (OpenSpec.ofChange topTwineSpec)) topTwineCard

/-- THE TIED CARD OF 'crofttop.TopKeys'. -/
def topKeysCard : Claim7 := { stood := { row := topKeysRow, standIns := [], harness := (true, "297e880e9a774aa402d19a910cc4e8e2ed9d593780e5d55ac2a15ad19d3ba297"), looks := false }, kinds := [], alts := [], laidByText := true, laidKinds := [.data], laidTests := true, laidLooks := .later }
def TopKeysCardSaid : Prop := Claim7.holds Tryd.pinned (.plain (OpenSpec.ofChange topKeysSpec)) topKeysCard

/-- THE SECOND FORM's CARD OF 'croftkeep.ListsOwn'. -/
def listsOwnUptoCard : Claim7 := { stood := { row := listsOwnUptoRow, standIns := [], harness := (true, "297e880e9a774aa402d19a910cc4e8e2ed9d593780e5d55ac2a15ad19d3ba297"), looks := false }, kinds := [], alts := [], laidByText := true, laidKinds := [.data], laidTests := true, laidLooks := .later }
def ListsOwnUptoCardSaid : Prop := Claim7.holds Tryd.pinned (.plain (OpenSpec.upto listsOwnSpec)) listsOwnUptoCard

/-- THE SECOND FORM's CARD OF 'crofttop.TopRight'. -/
def topRightUptoCard : Claim7 := { stood := { row := topRightUptoRow, standIns := [], harness := (true, "297e880e9a774aa402d19a910cc4e8e2ed9d593780e5d55ac2a15ad19d3ba297"), looks := false }, kinds := [], alts := [], laidByText := true, laidKinds := [.data], laidTests := true, laidLooks := .later }
def TopRightUptoCardSaid : Prop := Claim7.holds Tryd.pinned (.plain (OpenSpec.upto topRightSpec)) topRightUptoCard

/-- THE SECOND FORM's CARD OF 'crofttop.TopHidden'. -/
def topHiddenUptoCard : Claim7 := { stood := { row := topHiddenUptoRow, standIns := [], harness := (true, "297e880e9a774aa402d19a910cc4e8e2ed9d593780e5d55ac2a15ad19d3ba297"), looks := false }, kinds := [], alts := [], laidByText := true, laidKinds := [.data], laidTests := true, laidLooks := .later }
def TopHiddenUptoCardSaid : Prop := Claim7.holds Tryd.pinned (.plain (OpenSpec.upto topHiddenSpec)) topHiddenUptoCard

/-- THE SECOND FORM's CARD OF 'crofttop.TopMends'. -/
def topMendsUptoCard : Claim7 := { stood := { row := topMendsUptoRow, standIns := [], harness := (true, "297e880e9a774aa402d19a910cc4e8e2ed9d593780e5d55ac2a15ad19d3ba297"), looks := false }, kinds := [], alts := [], laidByText := true, laidKinds := [.data], laidTests := true, laidLooks := .later }
def TopMendsUptoCardSaid : Prop := Claim7.holds Tryd.pinned (.plain (OpenSpec.upto topMendsSpec)) topMendsUptoCard

/-- THE SECOND FORM's CARD OF 'crofttop.TopTwine'. -/
def topTwineUptoCard : Claim7 := { stood := { row := topTwineUptoRow, standIns := [], harness := (true, "297e880e9a774aa402d19a910cc4e8e2ed9d593780e5d55ac2a15ad19d3ba297"), looks := false }, kinds := [], alts := [], laidByText := true, laidKinds := [.data], laidTests := true, laidLooks := .later }
def TopTwineUptoCardSaid : Prop := Claim7.holds Tryd.pinned (.plain (OpenSpec.upto topTwineSpec)) topTwineUptoCard

/-- THE SECOND FORM's CARD OF 'crofttop.TopKeys'. -/
def topKeysUptoCard : Claim7 := { stood := { row := topKeysUptoRow, standIns := [], harness := (true, "297e880e9a774aa402d19a910cc4e8e2ed9d593780e5d55ac2a15ad19d3ba297"), looks := false }, kinds := [], alts := [], laidByText := true, laidKinds := [.data], laidTests := true, laidLooks := .later }
def TopKeysUptoCardSaid : Prop := Claim7.holds Tryd.pinned (.plain (OpenSpec.upto topKeysSpec)) topKeysUptoCard
end Rows
end Go.Proofs.YtljlioglpaogdagDoor
