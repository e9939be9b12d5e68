/-
  DERIVED. GIVEN WITH THE SEED: THE CARDS: each row of YtnnmmkimdknbgaaDoorRows.lean that lists a variable, with what it lists TIED to the program's text (the seventh form; the later family's looks); each row that meets fmt, with fmt's text TOLD by the authors' own Lean function (tested against real Go, not proved from fmt's source: count such statements apart). THE CARD IS WHAT COUNTS. Prove the row's statement (the work); the ties are given (YtnnmmkimdknbgaaDoorTie.lean); close each card by the builder's one call (the guide's Derived/Test/ToyasCard.lean, 'card_holds'). Laid BY PROGRAM, IN A SANDBOX (cutbox-door.mjs). By AI agents, Wed Nov 11 2026. No macro, syntax, notation, axiom, sorry.
-/
import Derived.Test.YtnnmmkimdknbgaaDoorRows
import GoSem.ClaimSeven
namespace Go.Proofs.YtnnmmkimdknbgaaDoor
namespace Rows

/-- THE TIED CARD OF 'orpimentlaw01.CostsTexts'. -/
def costsTextsCard : Claim7 := { stood := { row := costsTextsRow, standIns := [], harness := (true, "853589aaa6cbf3acae16ea063cb224d8e0583ab90b59369aa4215c7d8f60163b"), looks := false }, kinds := [], alts := [], laidByText := true, laidKinds := [.data, .data, .data, .data], laidTests := true, laidLooks := .later }
def CostsTextsCardSaid : Prop := Claim7.holds Tryd.pinned (.plain (OpenSpec.ofChange costsTextsSpec)) costsTextsCard

/-- THE TIED CARD OF 'orpimentlaw01.CostsBack'. -/
def costsBackCard : Claim7 := { stood := { row := costsBackRow, standIns := [], harness := (true, "853589aaa6cbf3acae16ea063cb224d8e0583ab90b59369aa4215c7d8f60163b"), looks := false }, kinds := [], alts := [], laidByText := true, laidKinds := [.data, .data, .data, .data], laidTests := true, laidLooks := .later }
def CostsBackCardSaid : Prop := Claim7.holds Tryd.pinned (.plain (OpenSpec.ofChange costsBackSpec)) costsBackCard

/-- THE SECOND FORM's CARD OF 'orpimentlaw01.CostsTexts'. -/
def costsTextsUptoCard : Claim7 := { stood := { row := costsTextsUptoRow, standIns := [], harness := (true, "853589aaa6cbf3acae16ea063cb224d8e0583ab90b59369aa4215c7d8f60163b"), looks := false }, kinds := [], alts := [], laidByText := true, laidKinds := [.data, .data, .data, .data], laidTests := true, laidLooks := .later }
def CostsTextsUptoCardSaid : Prop := Claim7.holds Tryd.pinned (.plain (OpenSpec.upto costsTextsSpec)) costsTextsUptoCard

/-- THE SECOND FORM's CARD OF 'orpimentlaw01.CostsBack'. -/
def costsBackUptoCard : Claim7 := { stood := { row := costsBackUptoRow, standIns := [], harness := (true, "853589aaa6cbf3acae16ea063cb224d8e0583ab90b59369aa4215c7d8f60163b"), looks := false }, kinds := [], alts := [], laidByText := true, laidKinds := [.data, .data, .data, .data], laidTests := true, laidLooks := .later }
def CostsBackUptoCardSaid : Prop := Claim7.holds Tryd.pinned (.plain (OpenSpec.upto costsBackSpec)) costsBackUptoCard
end Rows
end Go.Proofs.YtnnmmkimdknbgaaDoor
