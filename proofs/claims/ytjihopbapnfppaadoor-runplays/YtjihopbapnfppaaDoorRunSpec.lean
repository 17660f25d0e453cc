/- What is asked of run.May and run.Play, of the code itself. No statement of the seat is proved here; no condition. -/
import Derived.Test.YtjihopbapnfppaaDoorDoorV
import Derived.Test.YtjihopbapnfppaaDoorOpenM
import Derived.Test.YtjihopbapnfppaaDoorLibE
import Derived.Test.YtjihopbapnfppaaDoorRunPure4
set_option linter.unusedSimpArgs false
set_option linter.unusedVariables false
namespace Go.Proofs.YtjihopbapnfppaaDoor
open Go.RowKit Go.Ord Go.Baro

/-- run.May, of a machine in memory. -/
def MaySpec : Prop := ∀ (w : World) (hT : Tab w) (Aw : Option Addr) (nw cw : Nat) (Ac : Option Addr) (nc cc : Nat) (At : Option Addr) (nt ct : Nat) (m : Mc) (r : Bool) (hm : InM w Aw nw cw Ac nc cc At nt ct m) (hr : r = true ↔ okMc m),
    Calls Tryd.prog 26 #[.agg #[.slice Aw nw cw, .slice Ac nc cc, .slice At nt ct]] w fun e w' => e = .returned (.bool r) ∧ Below w.heap.size w w'
/-- run.Play, of a machine and a schedule in memory. -/
def PlaySpec : Prop := ∀ (w : World) (hT : Tab w) (Aw : Option Addr) (nw cw : Nat) (Ac : Option Addr) (nc cc : Nat) (At : Option Addr) (nt ct : Nat) (m : Mc) (As : Option Addr) (ns cs : Nat) (s : List Int) (T : List Ev) (W : List Int) (E : Int) (hm : InM w Aw nw cw Ac nc cc At nt ct m)
    (hs : RI w w.heap.size .i64 As ns s) (hn : ns ≤ 140737488355328) (hR : PlR m s T W E), Calls Tryd.prog 28 #[.agg #[.slice Aw nw cw, .slice Ac nc cc, .slice At nt ct], .slice As ns cs] w (PlPost T W E w)
end Go.Proofs.YtjihopbapnfppaaDoor
