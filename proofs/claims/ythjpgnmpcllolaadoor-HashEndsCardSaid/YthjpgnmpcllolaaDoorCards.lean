/-
  DERIVED. GIVEN WITH THE SEED: THE CARDS: each row of YthjpgnmpcllolaaDoorRows.lean that lists a variable, with what it lists TIED to the program's text (the seventh form; the later family's looks); each row that meets fmt, with fmt's text TOLD by the authors' own Lean function (tested against real Go, not proved from fmt's source: count such statements apart). THE CARD IS WHAT COUNTS. Prove the row's statement (the work); the ties are given (YthjpgnmpcllolaaDoorTie.lean); close each card by the builder's one call (the guide's Derived/Test/ToyasCard.lean, 'card_holds'). Laid BY PROGRAM, IN A SANDBOX (cutbox-door.mjs). By AI agents, Wed Nov 11 2026. No macro, syntax, notation, axiom, sorry.
-/
import Derived.Test.YthjpgnmpcllolaaDoorRows
import GoSem.ClaimSeven
namespace Go.Proofs.YthjpgnmpcllolaaDoor
namespace Rows

/-- THE TIED CARD OF 'spencelaw02.HashSums'. -/
def hashSumsCard : Claim7 := { stood := { row := hashSumsRow, standIns := [], harness := (true, "26bdacfe2133fd3a8bf814746e43a6cb1853129722950e1862238aed1172928a"), looks := false }, kinds := [], alts := [], laidByText := true, laidKinds := [.data, .data], laidTests := true, laidLooks := .later }
def HashSumsCardSaid : Prop := Claim7.holds Tryd.pinned (.plain (OpenSpec.ofChange hashSumsSpec)) hashSumsCard

/-- THE TIED CARD OF 'spencelaw02.HashFolds'. -/
def hashFoldsCard : Claim7 := { stood := { row := hashFoldsRow, standIns := [], harness := (true, "26bdacfe2133fd3a8bf814746e43a6cb1853129722950e1862238aed1172928a"), looks := false }, kinds := [], alts := [], laidByText := true, laidKinds := [.data, .data], laidTests := true, laidLooks := .later }
def HashFoldsCardSaid : Prop := Claim7.holds Tryd.pinned (.plain (OpenSpec.ofChange hashFoldsSpec)) hashFoldsCard

/-- THE TIED CARD OF 'spencelaw02.HashEnds'. -/
def hashEndsCard : Claim7 := { stood := { row := hashEndsRow, standIns := [], harness := (true, "26bdacfe2133fd3a8bf814746e43a6cb1853129722950e1862238aed1172928a"), looks := false }, kinds := [], alts := [], laidByText := true, laidKinds := [.data, .data], laidTests := true, laidLooks := .later }
def HashEndsCardSaid : Prop := Claim7.holds Tryd.pinned (.plain (OpenSpec.ofChange hashEndsSpec)) hashEndsCard

/-- THE TIED CARD OF 'spencelaw02.HashParts'. -/
def hashPartsCard : Claim7 := { stood := { row := hashPartsRow, standIns := [], harness := (true, "26bdacfe2133fd3a8bf814746e43a6cb1853129722950e1862238aed1172928a"), looks := false }, kinds := [], alts := [], laidByText := true, laidKinds := [.data, .data], laidTests := true, laidLooks := .later }
def HashPartsCardSaid : Prop := Claim7.holds Tryd.pinned (.plain (OpenSpec.ofChange hashPartsSpec)) hashPartsCard

/-- THE TIED CARD OF 'spencelaw02.HashFold'. -/
def hashFoldCard : Claim7 := { stood := { row := hashFoldRow, standIns := [], harness := (true, "26bdacfe2133fd3a8bf814746e43a6cb1853129722950e1862238aed1172928a"), looks := false }, kinds := [], alts := [], laidByText := true, laidKinds := [.data, .data], laidTests := true, laidLooks := .later }
def HashFoldCardSaid : Prop := Claim7.holds Tryd.pinned (.plain (OpenSpec.ofChange hashFoldSpec)) hashFoldCard

/-- THE SECOND FORM's CARD OF 'spencelaw02.HashSums'. -/
def hashSumsUptoCard : Claim7 := { stood := { row := hashSumsUptoRow, standIns := [], harness := (true, "26bdacfe2133fd3a8bf814746e43a6cb1853129722950e1862238aed1172928a"), looks := false }, kinds := [], alts := [], laidByText := true, laidKinds := [.data, .data], laidTests := true, laidLooks := .later }
def HashSumsUptoCardSaid : Prop := Claim7.holds Tryd.pinned (.plain (OpenSpec.upto hashSumsSpec)) hashSumsUptoCard

/-- THE SECOND FORM's CARD OF 'spencelaw02.HashFolds'. -/
def hashFoldsUptoCard : Claim7 := { stood := { row := hashFoldsUptoRow, standIns := [], harness := (true, "26bdacfe2133fd3a8bf814746e43a6cb1853129722950e1862238aed1172928a"), looks := false }, kinds := [], alts := [], laidByText := true, laidKinds := [.data, .data], laidTests := true, laidLooks := .later }
def HashFoldsUptoCardSaid : Prop := Claim7.holds Tryd.pinned (.plain (OpenSpec.upto hashFoldsSpec)) hashFoldsUptoCard

/-- THE SECOND FORM's CARD OF 'spencelaw02.HashEnds'. -/
def hashEndsUptoCard : Claim7 := { stood := { row := hashEndsUptoRow, standIns := [], harness := (true, "26bdacfe2133fd3a8bf814746e43a6cb1853129722950e1862238aed1172928a"), looks := false }, kinds := [], alts := [], laidByText := true, laidKinds := [.data, .data], laidTests := true, laidLooks := .later }
def HashEndsUptoCardSaid : Prop := Claim7.holds Tryd.pinned (.plain (OpenSpec.upto hashEndsSpec)) hashEndsUptoCard

/-- THE SECOND FORM's CARD OF 'spencelaw02.HashParts'. -/
def hashPartsUptoCard : Claim7 := { stood := { row := hashPartsUptoRow, standIns := [], harness := (true, "26bdacfe2133fd3a8bf814746e43a6cb1853129722950e1862238aed1172928a"), looks := false }, kinds := [], alts := [], laidByText := true, laidKinds := [.data, .data], laidTests := true, laidLooks := .later }
def HashPartsUptoCardSaid : Prop := Claim7.holds Tryd.pinned (.plain (OpenSpec.upto hashPartsSpec)) hashPartsUptoCard

/-- THE SECOND FORM's CARD OF 'spencelaw02.HashFold'. -/
def hashFoldUptoCard : Claim7 := { stood := { row := hashFoldUptoRow, standIns := [], harness := (true, "26bdacfe2133fd3a8bf814746e43a6cb1853129722950e1862238aed1172928a"), looks := false }, kinds := [], alts := [], laidByText := true, laidKinds := [.data, .data], laidTests := true, laidLooks := .later }
def HashFoldUptoCardSaid : Prop := Claim7.holds Tryd.pinned (.plain (OpenSpec.upto hashFoldSpec)) hashFoldUptoCard
end Rows
end Go.Proofs.YthjpgnmpcllolaaDoor
