/-
  NARROWER THAN 'FOR EVERY INPUT', by the rows' own cells (each row's printed sentence says how): ChunkEncodes: laid · ChunkDecodes: laid · ChunkBack: laid · ChunkFixed: laid · ChunkSteady: laid · ChunkShift: laid.
  DERIVED. THE GIVEN ROWS OF THIS SEAT. 6 by the template 'for every input the law returns true; each argument reads behind the call as it read before'; 0 by the template 'total and deterministic' (their statements: YtekojlepmfmmpaaDoorTotals.lean).
  GIVEN WITH THE SEED: the statements are not yours to turn. If you find one false, say at which input.
  Laid BY PROGRAM, IN A SANDBOX (cutbox-rows.mjs): the forced cells as the released guide's own fill.sh prints them over the translation 69120e3146fb1265… (all of the seat's roots in one cut). By AI agents, Wed Nov 11 2026. No macro, syntax, notation, axiom, sorry.
-/
import Derived.Test.YtekojlepmfmmpaaDoorChecked
import GoSem.Claim
import GoSem.ClaimJoined
import GoSem.ClaimMapViews
import Derived.JoinedTies
import Derived.KernelRfl
namespace Go.Proofs.YtekojlepmfmmpaaDoor
/- THE CELL 'sum', in the pinned program and in every row, IS THE sha256 OF THE DUMP (.gsa) THAT YtekojlepmfmmpaaDoorProg.lean LOADS. Nothing in Lean hashes anything: it is a label: what it is worth is what the hold of that sum in a sandbox is worth. -/
noncomputable def Tryd.pinned : Pinned := { name := "ytekojlepmfmmpaadoor", sum := "69120e3146fb1265e6a3189cf071adcfa5ebbb753d930451122ee41e3317130a", checked := Tryd.checked }
namespace Rows
def none {H : Type} : Left H := { results := [], args := [] }

/- WHAT THE LISTED PACKAGE-LEVEL VARIABLES READ AS WHEN THE CALL BEGINS. Each datum BY PROGRAM (the guide's laid-datum.mjs) off the statement by which the dump's own 'gosem.cut.vars' lays the variable. In a bare row this is a premise. The card (YtekojlepmfmmpaaDoorCards.lean) ties it to the program's text. -/
def laid_barograph_zig_prefixes {H : Type} : DataW H := .agg [.agg [.lit (.int .i64 1), .lit (.int .i64 0), .lit (.int .i64 0)], .agg [.lit (.int .i64 2), .lit (.int .i64 2), .lit (.int .i64 6)], .agg [.lit (.int .i64 3), .lit (.int .i64 6), .lit (.int .i64 12)], .agg [.lit (.int .i64 4), .lit (.int .i64 14), .lit (.int .i64 24)], .agg [.lit (.int .i64 4), .lit (.int .i64 15), .lit (.int .i64 59)]]

/-- 'barographlaw.ChunkEncodes': WHATEVER THE INPUT: true; the input reads as it did. -/
def chunkEncodesSpec : ChangeSpec := { name := "chunkEncodes", fn := fun _ => fun
  | [d] => { results := [.lit (.bool true)], args := [d] }
  | _ => none }
def chunkEncodesRow : OpenClaim := { program := "ytekojlepmfmmpaadoor", sum := "69120e3146fb1265e6a3189cf071adcfa5ebbb753d930451122ee41e3317130a", func := "barograph/barographlaw.ChunkEncodes", spec := "chunkEncodes", named := ["barograph/zig.prefixes"], apart := false, laid := [("barograph/zig.prefixes", laid_barograph_zig_prefixes)] }
def ChunkEncodesSaid : Prop := chunkEncodesRow.holds Tryd.pinned (OpenSpec.ofChange chunkEncodesSpec)

/-- ITS FALSE NEIGHBOUR: 'it returns false'. Refute it at one input. -/
def chunkEncodesWrong : ChangeSpec := { name := "chunkEncodes", fn := fun _ => fun
  | [d] => { results := [.lit (.bool false)], args := [d] }
  | _ => none }
def ChunkEncodesWrongFalsely : Prop := chunkEncodesRow.holds Tryd.pinned (OpenSpec.ofChange chunkEncodesWrong)

/-- 'barographlaw.ChunkDecodes': WHATEVER THE INPUT: true; the input reads as it did. -/
def chunkDecodesSpec : ChangeSpec := { name := "chunkDecodes", fn := fun _ => fun
  | [d] => { results := [.lit (.bool true)], args := [d] }
  | _ => none }
def chunkDecodesRow : OpenClaim := { program := "ytekojlepmfmmpaadoor", sum := "69120e3146fb1265e6a3189cf071adcfa5ebbb753d930451122ee41e3317130a", func := "barograph/barographlaw.ChunkDecodes", spec := "chunkDecodes", named := ["barograph/zig.prefixes"], apart := false, laid := [("barograph/zig.prefixes", laid_barograph_zig_prefixes)] }
def ChunkDecodesSaid : Prop := chunkDecodesRow.holds Tryd.pinned (OpenSpec.ofChange chunkDecodesSpec)

/-- ITS FALSE NEIGHBOUR: 'it returns false'. Refute it at one input. -/
def chunkDecodesWrong : ChangeSpec := { name := "chunkDecodes", fn := fun _ => fun
  | [d] => { results := [.lit (.bool false)], args := [d] }
  | _ => none }
def ChunkDecodesWrongFalsely : Prop := chunkDecodesRow.holds Tryd.pinned (OpenSpec.ofChange chunkDecodesWrong)

/-- 'barographkeep.ChunkBack': WHATEVER THE INPUT: true; the input reads as it did. -/
def chunkBackSpec : ChangeSpec := { name := "chunkBack", fn := fun _ => fun
  | [d1, d2, d3, d4] => { results := [.lit (.bool true)], args := [d1, d2, d3, d4] }
  | _ => none }
def chunkBackRow : OpenClaim := { program := "ytekojlepmfmmpaadoor", sum := "69120e3146fb1265e6a3189cf071adcfa5ebbb753d930451122ee41e3317130a", func := "barograph/barographkeep.ChunkBack", spec := "chunkBack", named := ["barograph/zig.prefixes"], apart := false, laid := [("barograph/zig.prefixes", laid_barograph_zig_prefixes)] }
def ChunkBackSaid : Prop := chunkBackRow.holds Tryd.pinned (OpenSpec.ofChange chunkBackSpec)

/-- ITS FALSE NEIGHBOUR: 'it returns false'. Refute it at one input. -/
def chunkBackWrong : ChangeSpec := { name := "chunkBack", fn := fun _ => fun
  | [d1, d2, d3, d4] => { results := [.lit (.bool false)], args := [d1, d2, d3, d4] }
  | _ => none }
def ChunkBackWrongFalsely : Prop := chunkBackRow.holds Tryd.pinned (OpenSpec.ofChange chunkBackWrong)

/-- 'barographkeep.ChunkFixed': WHATEVER THE INPUT: true; the input reads as it did. -/
def chunkFixedSpec : ChangeSpec := { name := "chunkFixed", fn := fun _ => fun
  | [d] => { results := [.lit (.bool true)], args := [d] }
  | _ => none }
def chunkFixedRow : OpenClaim := { program := "ytekojlepmfmmpaadoor", sum := "69120e3146fb1265e6a3189cf071adcfa5ebbb753d930451122ee41e3317130a", func := "barograph/barographkeep.ChunkFixed", spec := "chunkFixed", named := ["barograph/zig.prefixes"], apart := false, laid := [("barograph/zig.prefixes", laid_barograph_zig_prefixes)] }
def ChunkFixedSaid : Prop := chunkFixedRow.holds Tryd.pinned (OpenSpec.ofChange chunkFixedSpec)

/-- ITS FALSE NEIGHBOUR: 'it returns false'. Refute it at one input. -/
def chunkFixedWrong : ChangeSpec := { name := "chunkFixed", fn := fun _ => fun
  | [d] => { results := [.lit (.bool false)], args := [d] }
  | _ => none }
def ChunkFixedWrongFalsely : Prop := chunkFixedRow.holds Tryd.pinned (OpenSpec.ofChange chunkFixedWrong)

/-- 'barographkeep.ChunkSteady': WHATEVER THE INPUT: true; the input reads as it did. -/
def chunkSteadySpec : ChangeSpec := { name := "chunkSteady", fn := fun _ => fun
  | [d1, d2, d3, d4] => { results := [.lit (.bool true)], args := [d1, d2, d3, d4] }
  | _ => none }
def chunkSteadyRow : OpenClaim := { program := "ytekojlepmfmmpaadoor", sum := "69120e3146fb1265e6a3189cf071adcfa5ebbb753d930451122ee41e3317130a", func := "barograph/barographkeep.ChunkSteady", spec := "chunkSteady", named := ["barograph/zig.prefixes"], apart := false, laid := [("barograph/zig.prefixes", laid_barograph_zig_prefixes)] }
def ChunkSteadySaid : Prop := chunkSteadyRow.holds Tryd.pinned (OpenSpec.ofChange chunkSteadySpec)

/-- ITS FALSE NEIGHBOUR: 'it returns false'. Refute it at one input. -/
def chunkSteadyWrong : ChangeSpec := { name := "chunkSteady", fn := fun _ => fun
  | [d1, d2, d3, d4] => { results := [.lit (.bool false)], args := [d1, d2, d3, d4] }
  | _ => none }
def ChunkSteadyWrongFalsely : Prop := chunkSteadyRow.holds Tryd.pinned (OpenSpec.ofChange chunkSteadyWrong)

/-- 'barographkeep.ChunkShift': WHATEVER THE INPUT: true; the input reads as it did. -/
def chunkShiftSpec : ChangeSpec := { name := "chunkShift", fn := fun _ => fun
  | [d1, d2, d3] => { results := [.lit (.bool true)], args := [d1, d2, d3] }
  | _ => none }
def chunkShiftRow : OpenClaim := { program := "ytekojlepmfmmpaadoor", sum := "69120e3146fb1265e6a3189cf071adcfa5ebbb753d930451122ee41e3317130a", func := "barograph/barographkeep.ChunkShift", spec := "chunkShift", named := ["barograph/zig.prefixes"], apart := false, laid := [("barograph/zig.prefixes", laid_barograph_zig_prefixes)] }
def ChunkShiftSaid : Prop := chunkShiftRow.holds Tryd.pinned (OpenSpec.ofChange chunkShiftSpec)

/-- ITS FALSE NEIGHBOUR: 'it returns false'. Refute it at one input. -/
def chunkShiftWrong : ChangeSpec := { name := "chunkShift", fn := fun _ => fun
  | [d1, d2, d3] => { results := [.lit (.bool false)], args := [d1, d2, d3] }
  | _ => none }
def ChunkShiftWrongFalsely : Prop := chunkShiftRow.holds Tryd.pinned (OpenSpec.ofChange chunkShiftWrong)

/- THE SECOND FORM. 'bulk': how many values and letters a reading holds, each counted each time it is reached (what is shared counts as often as it is met; a slice's spare places count too). A statement '..UptoSaid' is the law's where the arguments, and the package variables that the reading takes, are together of bulk at most 1048576: NARROWER than '..Said'. Prove '..Said' where nothing that the law and all that it calls make is longer than what came in: it says more and counts as full. Else prove '..UptoSaid'. A law counts once. -/
mutual
def uptoBulk {H : Type} : DataW H → Nat
  | .lit (.string bytes) => bytes.length + 1
  | .lit _ => 1
  | .nil => 1
  | .ptr d => uptoBulk d + 1
  | .slice elems spare => uptoBulkAll elems + uptoBulkAll spare + 1
  | .agg parts => uptoBulkAll parts + 1
  | .iface _ d => uptoBulk d + 1
  | .map entries => uptoBulkEntries entries + 1
  | .held _ => 1
def uptoBulkAll {H : Type} : List (DataW H) → Nat
  | [] => 0
  | d :: r => uptoBulk d + uptoBulkAll r
def uptoBulkEntries {H : Type} : List (Lit × DataW H) → Nat
  | [] => 0
  | x :: r => uptoBulkEntry x + uptoBulkEntries r
def uptoBulkEntry {H : Type} : Lit × DataW H → Nat
  | (.string bytes, d) => bytes.length + uptoBulk d + 1
  | (_, d) => uptoBulk d + 1
 end
def uptoSmall : (H : Type) → List (DataW H) → Bool := fun _ ds => decide (uptoBulkAll ds ≤ 1048576)
def OpenSpec.upto (s : _root_.Go.ChangeSpec) : _root_.Go.OpenSpec := { _root_.Go.OpenSpec.ofChange s with cond := some uptoSmall }

/-- 'barographlaw.ChunkEncodes', WHERE WHAT IT READS IS OF BULK AT MOST 1048576: true; the input reads as it did. -/
def chunkEncodesUptoRow : OpenClaim := { program := "ytekojlepmfmmpaadoor", sum := "69120e3146fb1265e6a3189cf071adcfa5ebbb753d930451122ee41e3317130a", func := "barograph/barographlaw.ChunkEncodes", spec := "chunkEncodes", named := ["barograph/zig.prefixes"], apart := false, laid := [("barograph/zig.prefixes", laid_barograph_zig_prefixes)], narrowed := true }
def ChunkEncodesUptoSaid : Prop := chunkEncodesUptoRow.holds Tryd.pinned (OpenSpec.upto chunkEncodesSpec)

/-- 'barographlaw.ChunkDecodes', WHERE WHAT IT READS IS OF BULK AT MOST 1048576: true; the input reads as it did. -/
def chunkDecodesUptoRow : OpenClaim := { program := "ytekojlepmfmmpaadoor", sum := "69120e3146fb1265e6a3189cf071adcfa5ebbb753d930451122ee41e3317130a", func := "barograph/barographlaw.ChunkDecodes", spec := "chunkDecodes", named := ["barograph/zig.prefixes"], apart := false, laid := [("barograph/zig.prefixes", laid_barograph_zig_prefixes)], narrowed := true }
def ChunkDecodesUptoSaid : Prop := chunkDecodesUptoRow.holds Tryd.pinned (OpenSpec.upto chunkDecodesSpec)

/-- 'barographkeep.ChunkBack', WHERE WHAT IT READS IS OF BULK AT MOST 1048576: true; the input reads as it did. -/
def chunkBackUptoRow : OpenClaim := { program := "ytekojlepmfmmpaadoor", sum := "69120e3146fb1265e6a3189cf071adcfa5ebbb753d930451122ee41e3317130a", func := "barograph/barographkeep.ChunkBack", spec := "chunkBack", named := ["barograph/zig.prefixes"], apart := false, laid := [("barograph/zig.prefixes", laid_barograph_zig_prefixes)], narrowed := true }
def ChunkBackUptoSaid : Prop := chunkBackUptoRow.holds Tryd.pinned (OpenSpec.upto chunkBackSpec)

/-- 'barographkeep.ChunkFixed', WHERE WHAT IT READS IS OF BULK AT MOST 1048576: true; the input reads as it did. -/
def chunkFixedUptoRow : OpenClaim := { program := "ytekojlepmfmmpaadoor", sum := "69120e3146fb1265e6a3189cf071adcfa5ebbb753d930451122ee41e3317130a", func := "barograph/barographkeep.ChunkFixed", spec := "chunkFixed", named := ["barograph/zig.prefixes"], apart := false, laid := [("barograph/zig.prefixes", laid_barograph_zig_prefixes)], narrowed := true }
def ChunkFixedUptoSaid : Prop := chunkFixedUptoRow.holds Tryd.pinned (OpenSpec.upto chunkFixedSpec)

/-- 'barographkeep.ChunkSteady', WHERE WHAT IT READS IS OF BULK AT MOST 1048576: true; the input reads as it did. -/
def chunkSteadyUptoRow : OpenClaim := { program := "ytekojlepmfmmpaadoor", sum := "69120e3146fb1265e6a3189cf071adcfa5ebbb753d930451122ee41e3317130a", func := "barograph/barographkeep.ChunkSteady", spec := "chunkSteady", named := ["barograph/zig.prefixes"], apart := false, laid := [("barograph/zig.prefixes", laid_barograph_zig_prefixes)], narrowed := true }
def ChunkSteadyUptoSaid : Prop := chunkSteadyUptoRow.holds Tryd.pinned (OpenSpec.upto chunkSteadySpec)

/-- 'barographkeep.ChunkShift', WHERE WHAT IT READS IS OF BULK AT MOST 1048576: true; the input reads as it did. -/
def chunkShiftUptoRow : OpenClaim := { program := "ytekojlepmfmmpaadoor", sum := "69120e3146fb1265e6a3189cf071adcfa5ebbb753d930451122ee41e3317130a", func := "barograph/barographkeep.ChunkShift", spec := "chunkShift", named := ["barograph/zig.prefixes"], apart := false, laid := [("barograph/zig.prefixes", laid_barograph_zig_prefixes)], narrowed := true }
def ChunkShiftUptoSaid : Prop := chunkShiftUptoRow.holds Tryd.pinned (OpenSpec.upto chunkShiftSpec)

end Rows
end Go.Proofs.YtekojlepmfmmpaaDoor
