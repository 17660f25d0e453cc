/-
  DERIVED. GIVEN WITH THE SEED: THE CARDS: each row of YtfpokjhalbbeeaaDoorRows.lean that lists a variable, with what it lists TIED to the program's text (the seventh form; the later family's looks); each row that meets fmt, with fmt's text TOLD by the authors' own Lean function (tested against real Go, not proved from fmt's source: count such statements apart). THE CARD IS WHAT COUNTS. Prove the row's statement (the work); the ties are given (YtfpokjhalbbeeaaDoorTie.lean); close each card by the builder's one call (the guide's Derived/Test/ToyasCard.lean, 'card_holds'). Laid BY PROGRAM, IN A SANDBOX (cutbox-door.mjs). By AI agents, Wed Nov 11 2026. No macro, syntax, notation, axiom, sorry.
-/
import Derived.Test.YtfpokjhalbbeeaaDoorRows
import GoSem.ClaimSeven
namespace Go.Proofs.YtfpokjhalbbeeaaDoor
namespace Rows

/-- THE TIED CARD OF 'barographlaw.LockCodes'. -/
def lockCodesCard : Claim7 := { stood := { row := lockCodesRow, standIns := [], harness := (true, "32c70f36426dafac3c4ced96235e9a9417f9092e4a5ef05ab3dca715be5746ba"), looks := false }, kinds := [], alts := [], laidByText := true, laidKinds := [.data], laidTests := true, laidLooks := .later }
def LockCodesCardSaid : Prop := Claim7.holds Tryd.pinned (.plain (OpenSpec.ofChange lockCodesSpec)) lockCodesCard

/-- THE TIED CARD OF 'barographkeep.LockOne'. -/
def lockOneCard : Claim7 := { stood := { row := lockOneRow, standIns := [], harness := (true, "32c70f36426dafac3c4ced96235e9a9417f9092e4a5ef05ab3dca715be5746ba"), looks := false }, kinds := [], alts := [], laidByText := true, laidKinds := [.data], laidTests := true, laidLooks := .later }
def LockOneCardSaid : Prop := Claim7.holds Tryd.pinned (.plain (OpenSpec.ofChange lockOneSpec)) lockOneCard

/-- THE TIED CARD OF 'barographkeep.LockEnds'. -/
def lockEndsCard : Claim7 := { stood := { row := lockEndsRow, standIns := [], harness := (true, "32c70f36426dafac3c4ced96235e9a9417f9092e4a5ef05ab3dca715be5746ba"), looks := false }, kinds := [], alts := [], laidByText := true, laidKinds := [.data], laidTests := true, laidLooks := .later }
def LockEndsCardSaid : Prop := Claim7.holds Tryd.pinned (.plain (OpenSpec.ofChange lockEndsSpec)) lockEndsCard

/-- THE TIED CARD OF 'barographkeep.LockAlone'. -/
def lockAloneCard : Claim7 := { stood := { row := lockAloneRow, standIns := [], harness := (true, "32c70f36426dafac3c4ced96235e9a9417f9092e4a5ef05ab3dca715be5746ba"), looks := false }, kinds := [], alts := [], laidByText := true, laidKinds := [.data], laidTests := true, laidLooks := .later }
def LockAloneCardSaid : Prop := Claim7.holds Tryd.pinned (.plain (OpenSpec.ofChange lockAloneSpec)) lockAloneCard

/-- THE TIED CARD OF 'barographtop.TopGuardLock'. -/
def topGuardLockCard : Claim7 := { stood := { row := topGuardLockRow, standIns := [], harness := (true, "32c70f36426dafac3c4ced96235e9a9417f9092e4a5ef05ab3dca715be5746ba"), looks := false }, kinds := [], alts := [], laidByText := true, laidKinds := [.data], laidTests := true, laidLooks := .later }
def TopGuardLockCardSaid : Prop := Claim7.holds Tryd.pinned (.plain (OpenSpec.ofChange topGuardLockSpec)) topGuardLockCard

/-- THE SECOND FORM's CARD OF 'barographlaw.LockCodes'. -/
def lockCodesUptoCard : Claim7 := { stood := { row := lockCodesUptoRow, standIns := [], harness := (true, "32c70f36426dafac3c4ced96235e9a9417f9092e4a5ef05ab3dca715be5746ba"), looks := false }, kinds := [], alts := [], laidByText := true, laidKinds := [.data], laidTests := true, laidLooks := .later }
def LockCodesUptoCardSaid : Prop := Claim7.holds Tryd.pinned (.plain (OpenSpec.upto lockCodesSpec)) lockCodesUptoCard

/-- THE SECOND FORM's CARD OF 'barographkeep.LockOne'. -/
def lockOneUptoCard : Claim7 := { stood := { row := lockOneUptoRow, standIns := [], harness := (true, "32c70f36426dafac3c4ced96235e9a9417f9092e4a5ef05ab3dca715be5746ba"), looks := false }, kinds := [], alts := [], laidByText := true, laidKinds := [.data], laidTests := true, laidLooks := .later }
def LockOneUptoCardSaid : Prop := Claim7.holds Tryd.pinned (.plain (OpenSpec.upto lockOneSpec)) lockOneUptoCard

/-- THE SECOND FORM's CARD OF 'barographkeep.LockEnds'. -/
def lockEndsUptoCard : Claim7 := { stood := { row := lockEndsUptoRow, standIns := [], harness := (true, "32c70f36426dafac3c4ced96235e9a9417f9092e4a5ef05ab3dca715be5746ba"), looks := false }, kinds := [], alts := [], laidByText := true, laidKinds := [.data], laidTests := true, laidLooks := .later }
def LockEndsUptoCardSaid : Prop := Claim7.holds Tryd.pinned (.plain (OpenSpec.upto lockEndsSpec)) lockEndsUptoCard

/-- THE SECOND FORM's CARD OF 'barographkeep.LockAlone'. -/
def lockAloneUptoCard : Claim7 := { stood := { row := lockAloneUptoRow, standIns := [], harness := (true, "32c70f36426dafac3c4ced96235e9a9417f9092e4a5ef05ab3dca715be5746ba"), looks := false }, kinds := [], alts := [], laidByText := true, laidKinds := [.data], laidTests := true, laidLooks := .later }
def LockAloneUptoCardSaid : Prop := Claim7.holds Tryd.pinned (.plain (OpenSpec.upto lockAloneSpec)) lockAloneUptoCard

/-- THE SECOND FORM's CARD OF 'barographtop.TopGuardLock'. -/
def topGuardLockUptoCard : Claim7 := { stood := { row := topGuardLockUptoRow, standIns := [], harness := (true, "32c70f36426dafac3c4ced96235e9a9417f9092e4a5ef05ab3dca715be5746ba"), looks := false }, kinds := [], alts := [], laidByText := true, laidKinds := [.data], laidTests := true, laidLooks := .later }
def TopGuardLockUptoCardSaid : Prop := Claim7.holds Tryd.pinned (.plain (OpenSpec.upto topGuardLockSpec)) topGuardLockUptoCard
end Rows
end Go.Proofs.YtfpokjhalbbeeaaDoor
