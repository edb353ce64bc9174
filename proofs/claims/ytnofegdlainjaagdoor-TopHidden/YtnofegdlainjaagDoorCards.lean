/-
  DERIVED. GIVEN WITH THE SEED: THE CARDS: each row of YtnofegdlainjaagDoorRows.lean that lists a variable, with what it lists TIED to the program's text (the seventh form; the later family's looks); each row that meets fmt, with fmt's text TOLD by the authors' own Lean function (tested against real Go, not proved from fmt's source: count such statements apart). THE CARD IS WHAT COUNTS. Prove the row's statement (the work); the ties are given (YtnofegdlainjaagDoorTie.lean); close each card by the builder's one call (the guide's Derived/Test/ToyasCard.lean, 'card_holds'). Laid BY PROGRAM, IN A SANDBOX (cutbox-door.mjs). By AI agents, Wed Nov 11 2026. No macro, syntax, notation, axiom, sorry.
-/
import Derived.Test.YtnofegdlainjaagDoorRows
import GoSem.ClaimSeven
namespace Go.Proofs.YtnofegdlainjaagDoor
namespace Rows

/-- THE TIED CARD OF 'croftkeep.ListsOwn'. -/
def listsOwnCard : Claim7 := { stood := { row := listsOwnRow, standIns := [], harness := (true, "ff3c1abfe9b1309764af852331b501b0fa3c9457cdb2474367908c6858e64d02"), looks := false }, kinds := [], alts := [], laidByText := true, laidKinds := [.data], laidTests := true, laidLooks := .later }
def ListsOwnCardSaid : Prop := Claim7.holds Tryd.pinned (.plain (OpenSpec.ofChange listsOwnSpec)) listsOwnCard

/-- THE TIED CARD OF 'crofttop.TopRight'. -/
def topRightCard : Claim7 := { stood := { row := topRightRow, standIns := [], harness := (true, "ff3c1abfe9b1309764af852331b501b0fa3c9457cdb2474367908c6858e64d02"), looks := false }, kinds := [], alts := [], laidByText := true, laidKinds := [.data], laidTests := true, laidLooks := .later }
def TopRightCardSaid : Prop := Claim7.holds Tryd.pinned (.plain (OpenSpec.ofChange topRightSpec)) topRightCard

/-- THE TIED CARD OF 'crofttop.TopHidden'. -/
def topHiddenCard : Claim7 := { stood := { row := topHiddenRow, standIns := [], harness := (true, "ff3c1abfe9b1309764af852331b501b0fa3c9457cdb2474367908c6858e64d02"), looks := false }, kinds := [], alts := [], laidByText := true, laidKinds := [.data], laidTests := true, laidLooks := .later }
def TopHiddenCardSaid : Prop := Claim7.holds Tryd.pinned (.plain (OpenSpec.ofChange topHiddenSpec)) topHiddenCard

/-- THE TIED CARD OF 'crofttop.TopMends'. -/
def topMendsCard : Claim7 := { stood := { row := topMendsRow, standIns := [], harness := (true, "ff3c1abfe9b1309764af852331b501b0fa3c9457cdb2474367908c6858e64d02"), looks := false }, kinds := [], alts := [], laidByText := true, laidKinds := [.data], laidTests := true, laidLooks := .later }
def TopMendsCardSaid : Prop := Claim7.holds Tryd.pinned (.plain (OpenSpec.ofChange topMendsSpec)) topMendsCard

/-- THE TIED CARD OF 'crofttop.TopTwine'. -/
def topTwineCard : Claim7 := { stood := { row := topTwineRow, standIns := [], harness := (true, "ff3c1abfe9b1309764af852331b501b0fa3c9457cdb2474367908c6858e64d02"), looks := false }, kinds := [], alts := [], laidByText := true, laidKinds := [.data], laidTests := true, laidLooks := .later }
def TopTwineCardSaid : Prop := Claim7.holds Tryd.pinned (.plain (OpenSpec.ofChange topTwineSpec)) topTwineCard

/-- THE SECOND FORM's CARD OF 'croftkeep.ListsOwn'. -/
def listsOwnUptoCard : Claim7 := { stood := { row := listsOwnUptoRow, standIns := [], harness := (true, "ff3c1abfe9b1309764af852331b501b0fa3c9457cdb2474367908c6858e64d02"), looks := false }, kinds := [], alts := [], laidByText := true, laidKinds := [.data], laidTests := true, laidLooks := .later }
def ListsOwnUptoCardSaid : Prop := Claim7.holds Tryd.pinned (.plain (OpenSpec.upto listsOwnSpec)) listsOwnUptoCard

/-- THE SECOND FORM's CARD OF 'crofttop.TopRight'. -/
def topRightUptoCard : Claim7 := { stood := { row := topRightUptoRow, standIns := [], harness := (true, "ff3c1abfe9b1309764af852331b501b0fa3c9457cdb2474367908c6858e64d02"), looks := false }, kinds := [], alts := [], laidByText := true, laidKinds := [.data], laidTests := true, laidLooks := .later }
def TopRightUptoCardSaid : Prop := Claim7.holds Tryd.pinned (.plain (OpenSpec.upto topRightSpec)) topRightUptoCard

/-- THE SECOND FORM's CARD OF 'crofttop.TopHidden'. -/
def topHiddenUptoCard : Claim7 := { stood := { row := topHiddenUptoRow, standIns := [], harness := (true, "ff3c1abfe9b1309764af852331b501b0fa3c9457cdb2474367908c6858e64d02"), looks := false }, kinds := [], alts := [], laidByText := true, laidKinds := [.data], laidTests := true, laidLooks := .later }
def TopHiddenUptoCardSaid : Prop := Claim7.holds Tryd.pinned (.plain (OpenSpec.upto topHiddenSpec)) topHiddenUptoCard

/-- THE SECOND FORM's CARD OF 'crofttop.TopMends'. -/
def topMendsUptoCard : Claim7 := { stood := { row := topMendsUptoRow, standIns := [], harness := (true, "ff3c1abfe9b1309764af852331b501b0fa3c9457cdb2474367908c6858e64d02"), looks := false }, kinds := [], alts := [], laidByText := true, laidKinds := [.data], laidTests := true, laidLooks := .later }
def TopMendsUptoCardSaid : Prop := Claim7.holds Tryd.pinned (.plain (OpenSpec.upto topMendsSpec)) topMendsUptoCard

/-- THE SECOND FORM's CARD OF 'crofttop.TopTwine'. -/
def topTwineUptoCard : Claim7 := { stood := { row := topTwineUptoRow, standIns := [], harness := (true, "ff3c1abfe9b1309764af852331b501b0fa3c9457cdb2474367908c6858e64d02"), looks := false }, kinds := [], alts := [], laidByText := true, laidKinds := [.data], laidTests := true, laidLooks := .later }
def TopTwineUptoCardSaid : Prop := Claim7.holds Tryd.pinned (.plain (OpenSpec.upto topTwineSpec)) topTwineUptoCard
end Rows
end Go.Proofs.YtnofegdlainjaagDoor
