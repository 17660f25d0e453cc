/-
  DERIVED. GIVEN WITH THE SEED: THE CARDS: each row of YtnchgdjdfhfedaaDoorRows.lean that lists a variable, with what it lists TIED to the program's text (the seventh form; the later family's looks); each row that meets fmt, with fmt's text TOLD by the authors' own Lean function (tested against real Go, not proved from fmt's source: count such statements apart). THE CARD IS WHAT COUNTS. Prove the row's statement (the work); the ties are given (YtnchgdjdfhfedaaDoorTie.lean); close each card by the builder's one call (the guide's Derived/Test/ToyasCard.lean, 'card_holds'). Laid BY PROGRAM, IN A SANDBOX (cutbox-door.mjs). By AI agents, Wed Nov 11 2026. No macro, syntax, notation, axiom, sorry.
-/
import Derived.Test.YtnchgdjdfhfedaaDoorRows
import GoSem.ClaimSeven
namespace Go.Proofs.YtnchgdjdfhfedaaDoor
namespace Rows

/-- THE TIED CARD OF 'barographlaw.CountCodes'. -/
def countCodesCard : Claim7 := { stood := { row := countCodesRow, standIns := [], harness := (true, "b15150153f3939ec42a77fd7f66395d413fdfd868a609e8213e6e5264607e997"), looks := true }, kinds := [], alts := [], laidByText := true, laidKinds := [.data], laidTests := true, laidLooks := .later }
def CountCodesCardSaid : Prop := Claim7.holds Tryd.pinned (.plain (OpenSpec.ofChange countCodesSpec)) countCodesCard

/-- THE TIED CARD OF 'barographkeep.CountLinear'. -/
def countLinearCard : Claim7 := { stood := { row := countLinearRow, standIns := [], harness := (true, "b15150153f3939ec42a77fd7f66395d413fdfd868a609e8213e6e5264607e997"), looks := true }, kinds := [], alts := [], laidByText := true, laidKinds := [.data], laidTests := true, laidLooks := .later }
def CountLinearCardSaid : Prop := Claim7.holds Tryd.pinned (.plain (OpenSpec.ofChange countLinearSpec)) countLinearCard

/-- THE TIED CARD OF 'barographkeep.CountAll'. -/
def countAllCard : Claim7 := { stood := { row := countAllRow, standIns := [], harness := (true, "b15150153f3939ec42a77fd7f66395d413fdfd868a609e8213e6e5264607e997"), looks := true }, kinds := [], alts := [], laidByText := true, laidKinds := [.data], laidTests := true, laidLooks := .later }
def CountAllCardSaid : Prop := Claim7.holds Tryd.pinned (.plain (OpenSpec.ofChange countAllSpec)) countAllCard

/-- THE TIED CARD OF 'barographkeep.CountTells'. -/
def countTellsCard : Claim7 := { stood := { row := countTellsRow, standIns := [], harness := (true, "b15150153f3939ec42a77fd7f66395d413fdfd868a609e8213e6e5264607e997"), looks := true }, kinds := [], alts := [], laidByText := true, laidKinds := [.data], laidTests := true, laidLooks := .later }
def CountTellsCardSaid : Prop := Claim7.holds Tryd.pinned (.plain (OpenSpec.ofChange countTellsSpec)) countTellsCard

/-- THE TIED CARD OF 'barographtop.TopCount'. -/
def topCountCard : Claim7 := { stood := { row := topCountRow, standIns := [], harness := (true, "b15150153f3939ec42a77fd7f66395d413fdfd868a609e8213e6e5264607e997"), looks := true }, kinds := [], alts := [], laidByText := true, laidKinds := [.data], laidTests := true, laidLooks := .later }
def TopCountCardSaid : Prop := Claim7.holds Tryd.pinned (.plain (OpenSpec.ofChange topCountSpec)) topCountCard

/-- THE SECOND FORM's CARD OF 'barographlaw.CountCodes'. -/
def countCodesUptoCard : Claim7 := { stood := { row := countCodesUptoRow, standIns := [], harness := (true, "b15150153f3939ec42a77fd7f66395d413fdfd868a609e8213e6e5264607e997"), looks := true }, kinds := [], alts := [], laidByText := true, laidKinds := [.data], laidTests := true, laidLooks := .later }
def CountCodesUptoCardSaid : Prop := Claim7.holds Tryd.pinned (.plain (OpenSpec.upto countCodesSpec)) countCodesUptoCard

/-- THE SECOND FORM's CARD OF 'barographkeep.CountLinear'. -/
def countLinearUptoCard : Claim7 := { stood := { row := countLinearUptoRow, standIns := [], harness := (true, "b15150153f3939ec42a77fd7f66395d413fdfd868a609e8213e6e5264607e997"), looks := true }, kinds := [], alts := [], laidByText := true, laidKinds := [.data], laidTests := true, laidLooks := .later }
def CountLinearUptoCardSaid : Prop := Claim7.holds Tryd.pinned (.plain (OpenSpec.upto countLinearSpec)) countLinearUptoCard

/-- THE SECOND FORM's CARD OF 'barographkeep.CountAll'. -/
def countAllUptoCard : Claim7 := { stood := { row := countAllUptoRow, standIns := [], harness := (true, "b15150153f3939ec42a77fd7f66395d413fdfd868a609e8213e6e5264607e997"), looks := true }, kinds := [], alts := [], laidByText := true, laidKinds := [.data], laidTests := true, laidLooks := .later }
def CountAllUptoCardSaid : Prop := Claim7.holds Tryd.pinned (.plain (OpenSpec.upto countAllSpec)) countAllUptoCard

/-- THE SECOND FORM's CARD OF 'barographkeep.CountTells'. -/
def countTellsUptoCard : Claim7 := { stood := { row := countTellsUptoRow, standIns := [], harness := (true, "b15150153f3939ec42a77fd7f66395d413fdfd868a609e8213e6e5264607e997"), looks := true }, kinds := [], alts := [], laidByText := true, laidKinds := [.data], laidTests := true, laidLooks := .later }
def CountTellsUptoCardSaid : Prop := Claim7.holds Tryd.pinned (.plain (OpenSpec.upto countTellsSpec)) countTellsUptoCard

/-- THE SECOND FORM's CARD OF 'barographtop.TopCount'. -/
def topCountUptoCard : Claim7 := { stood := { row := topCountUptoRow, standIns := [], harness := (true, "b15150153f3939ec42a77fd7f66395d413fdfd868a609e8213e6e5264607e997"), looks := true }, kinds := [], alts := [], laidByText := true, laidKinds := [.data], laidTests := true, laidLooks := .later }
def TopCountUptoCardSaid : Prop := Claim7.holds Tryd.pinned (.plain (OpenSpec.upto topCountSpec)) topCountUptoCard
end Rows
end Go.Proofs.YtnchgdjdfhfedaaDoor
