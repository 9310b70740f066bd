/-
  No cell of these rows narrows 'for every input' (looked for: loops, veiled, ifaces, maps, wideKeys, modest, calm, conditions, laid).
  DERIVED. THE GIVEN ROWS OF THIS SEAT. 3 by the template 'for every input the law returns true; each argument reads behind the call as it read before'; 0 by the template 'total and deterministic' (their statements: YtnnjhikfbpcmfaaGreatTotals.lean).
  GIVEN WITH THE SEED: the statements are not yours to turn. If you find one false, say at which input.
  Laid BY PROGRAM, IN A SANDBOX (cutbox-rows.mjs): the forced cells as the released guide's own fill.sh prints them over the translation f07cca7c142eec00… (all of the seat's roots in one cut). By AI agents, Wed Nov 11 2026. No macro, syntax, notation, axiom, sorry.
-/
import Derived.Test.YtnnjhikfbpcmfaaGreatChecked
import GoSem.Claim
import GoSem.ClaimJoined
import GoSem.ClaimMapViews
import Derived.JoinedTies
import Derived.KernelRfl
namespace Go.Proofs.YtnnjhikfbpcmfaaGreat
/- THE CELL 'sum', in the pinned program and in every row, IS THE sha256 OF THE DUMP (.gsa) THAT YtnnjhikfbpcmfaaGreatProg.lean LOADS. Nothing in Lean hashes anything: it is a label: what it is worth is what the hold of that sum in a sandbox is worth. -/
noncomputable def Tryz.pinned : Pinned := { name := "ytnnjhikfbpcmfaagreat", sum := "f07cca7c142eec00ef79ff7fa93c262e0448e79e0e5ebbc68673e13222033d74", checked := Tryz.checked }
namespace Rows
def none {H : Type} : Left H := { results := [], args := [] }

/-- 'laws.FnExactLockCell': WHATEVER THE INPUT: true; the input reads as it did. -/
def fnExactLockCellSpec : ChangeSpec := { name := "fnExactLockCell", fn := fun _ => fun
  | [d1, d2, d3, d4] => { results := [.lit (.bool true)], args := [d1, d2, d3, d4] }
  | _ => none }
def fnExactLockCellRow : OpenClaim := { program := "ytnnjhikfbpcmfaagreat", sum := "f07cca7c142eec00ef79ff7fa93c262e0448e79e0e5ebbc68673e13222033d74", func := "loop.example/g00771/laws.FnExactLockCell", spec := "fnExactLockCell", unfollowed := true, recurses := true, apart := false }
def FnExactLockCellSaid : Prop := fnExactLockCellRow.holds Tryz.pinned (OpenSpec.ofChange fnExactLockCellSpec)

/-- ITS FALSE NEIGHBOUR: 'it returns false'. Refute it at one input. -/
def fnExactLockCellWrong : ChangeSpec := { name := "fnExactLockCell", fn := fun _ => fun
  | [d1, d2, d3, d4] => { results := [.lit (.bool false)], args := [d1, d2, d3, d4] }
  | _ => none }
def FnExactLockCellWrongFalsely : Prop := fnExactLockCellRow.holds Tryz.pinned (OpenSpec.ofChange fnExactLockCellWrong)

/-- 'laws.FnExactTryCell': WHATEVER THE INPUT: true; the input reads as it did. -/
def fnExactTryCellSpec : ChangeSpec := { name := "fnExactTryCell", fn := fun _ => fun
  | [d1, d2, d3, d4] => { results := [.lit (.bool true)], args := [d1, d2, d3, d4] }
  | _ => none }
def fnExactTryCellRow : OpenClaim := { program := "ytnnjhikfbpcmfaagreat", sum := "f07cca7c142eec00ef79ff7fa93c262e0448e79e0e5ebbc68673e13222033d74", func := "loop.example/g00771/laws.FnExactTryCell", spec := "fnExactTryCell", unfollowed := true, recurses := true, apart := false }
def FnExactTryCellSaid : Prop := fnExactTryCellRow.holds Tryz.pinned (OpenSpec.ofChange fnExactTryCellSpec)

/-- ITS FALSE NEIGHBOUR: 'it returns false'. Refute it at one input. -/
def fnExactTryCellWrong : ChangeSpec := { name := "fnExactTryCell", fn := fun _ => fun
  | [d1, d2, d3, d4] => { results := [.lit (.bool false)], args := [d1, d2, d3, d4] }
  | _ => none }
def FnExactTryCellWrongFalsely : Prop := fnExactTryCellRow.holds Tryz.pinned (OpenSpec.ofChange fnExactTryCellWrong)

/-- 'laws.FnExactLeaveCell': WHATEVER THE INPUT: true; the input reads as it did. -/
def fnExactLeaveCellSpec : ChangeSpec := { name := "fnExactLeaveCell", fn := fun _ => fun
  | [d1, d2, d3] => { results := [.lit (.bool true)], args := [d1, d2, d3] }
  | _ => none }
def fnExactLeaveCellRow : OpenClaim := { program := "ytnnjhikfbpcmfaagreat", sum := "f07cca7c142eec00ef79ff7fa93c262e0448e79e0e5ebbc68673e13222033d74", func := "loop.example/g00771/laws.FnExactLeaveCell", spec := "fnExactLeaveCell", unfollowed := true, recurses := true, apart := false }
def FnExactLeaveCellSaid : Prop := fnExactLeaveCellRow.holds Tryz.pinned (OpenSpec.ofChange fnExactLeaveCellSpec)

/-- ITS FALSE NEIGHBOUR: 'it returns false'. Refute it at one input. -/
def fnExactLeaveCellWrong : ChangeSpec := { name := "fnExactLeaveCell", fn := fun _ => fun
  | [d1, d2, d3] => { results := [.lit (.bool false)], args := [d1, d2, d3] }
  | _ => none }
def FnExactLeaveCellWrongFalsely : Prop := fnExactLeaveCellRow.holds Tryz.pinned (OpenSpec.ofChange fnExactLeaveCellWrong)

/- THE SECOND FORM. 'bulk': how many values and letters a reading holds, each counted each time it is reached (what is shared counts as often as it is met; a slice's spare places count too). A statement '..UptoSaid' is the law's where the arguments, and the package variables that the reading takes, are together of bulk at most 1048576: NARROWER than '..Said'. Prove '..Said' where nothing that the law and all that it calls make is longer than what came in: it says more and counts as full. Else prove '..UptoSaid'. A law counts once. -/
mutual
def uptoBulk {H : Type} : DataW H → Nat
  | .lit (.string bytes) => bytes.length + 1
  | .lit _ => 1
  | .nil => 1
  | .ptr d => uptoBulk d + 1
  | .slice elems spare => uptoBulkAll elems + uptoBulkAll spare + 1
  | .agg parts => uptoBulkAll parts + 1
  | .iface _ d => uptoBulk d + 1
  | .map entries => uptoBulkEntries entries + 1
  | .held _ => 1
def uptoBulkAll {H : Type} : List (DataW H) → Nat
  | [] => 0
  | d :: r => uptoBulk d + uptoBulkAll r
def uptoBulkEntries {H : Type} : List (Lit × DataW H) → Nat
  | [] => 0
  | x :: r => uptoBulkEntry x + uptoBulkEntries r
def uptoBulkEntry {H : Type} : Lit × DataW H → Nat
  | (.string bytes, d) => bytes.length + uptoBulk d + 1
  | (_, d) => uptoBulk d + 1
 end
def uptoSmall : (H : Type) → List (DataW H) → Bool := fun _ ds => decide (uptoBulkAll ds ≤ 1048576)
def OpenSpec.upto (s : _root_.Go.ChangeSpec) : _root_.Go.OpenSpec := { _root_.Go.OpenSpec.ofChange s with cond := some uptoSmall }

/-- 'laws.FnExactLockCell', WHERE WHAT IT READS IS OF BULK AT MOST 1048576: true; the input reads as it did. -/
def fnExactLockCellUptoRow : OpenClaim := { program := "ytnnjhikfbpcmfaagreat", sum := "f07cca7c142eec00ef79ff7fa93c262e0448e79e0e5ebbc68673e13222033d74", func := "loop.example/g00771/laws.FnExactLockCell", spec := "fnExactLockCell", unfollowed := true, recurses := true, apart := false, narrowed := true }
def FnExactLockCellUptoSaid : Prop := fnExactLockCellUptoRow.holds Tryz.pinned (OpenSpec.upto fnExactLockCellSpec)

/-- 'laws.FnExactTryCell', WHERE WHAT IT READS IS OF BULK AT MOST 1048576: true; the input reads as it did. -/
def fnExactTryCellUptoRow : OpenClaim := { program := "ytnnjhikfbpcmfaagreat", sum := "f07cca7c142eec00ef79ff7fa93c262e0448e79e0e5ebbc68673e13222033d74", func := "loop.example/g00771/laws.FnExactTryCell", spec := "fnExactTryCell", unfollowed := true, recurses := true, apart := false, narrowed := true }
def FnExactTryCellUptoSaid : Prop := fnExactTryCellUptoRow.holds Tryz.pinned (OpenSpec.upto fnExactTryCellSpec)

/-- 'laws.FnExactLeaveCell', WHERE WHAT IT READS IS OF BULK AT MOST 1048576: true; the input reads as it did. -/
def fnExactLeaveCellUptoRow : OpenClaim := { program := "ytnnjhikfbpcmfaagreat", sum := "f07cca7c142eec00ef79ff7fa93c262e0448e79e0e5ebbc68673e13222033d74", func := "loop.example/g00771/laws.FnExactLeaveCell", spec := "fnExactLeaveCell", unfollowed := true, recurses := true, apart := false, narrowed := true }
def FnExactLeaveCellUptoSaid : Prop := fnExactLeaveCellUptoRow.holds Tryz.pinned (OpenSpec.upto fnExactLeaveCellSpec)

end Rows
end Go.Proofs.YtnnjhikfbpcmfaaGreat
