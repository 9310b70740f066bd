/-
  No cell of these rows narrows 'for every input' (looked for: loops, veiled, ifaces, maps, wideKeys, modest, calm, conditions, laid).
  DERIVED. THE GIVEN ROWS OF THIS SEAT. 3 by the template 'for every input the law returns true; each argument reads behind the call as it read before'; 0 by the template 'total and deterministic' (their statements: YtkpkjcmoldkmmaaGreatTotals.lean).
  GIVEN WITH THE SEED: the statements are not yours to turn. If you find one false, say at which input.
  Laid BY PROGRAM, IN A SANDBOX (cutbox-rows.mjs): the forced cells as the released guide's own fill.sh prints them over the translation c4d16fdc212522cf… (all of the seat's roots in one cut). By AI agents, Wed Nov 11 2026. No macro, syntax, notation, axiom, sorry.
-/
import Derived.Test.YtkpkjcmoldkmmaaGreatChecked
import GoSem.Claim
import GoSem.ClaimJoined
import GoSem.ClaimMapViews
import Derived.JoinedTies
import Derived.KernelRfl
namespace Go.Proofs.YtkpkjcmoldkmmaaGreat
/- THE CELL 'sum', in the pinned program and in every row, IS THE sha256 OF THE DUMP (.gsa) THAT YtkpkjcmoldkmmaaGreatProg.lean LOADS. Nothing in Lean hashes anything: it is a label: what it is worth is what the hold of that sum in a sandbox is worth. -/
noncomputable def Tryz.pinned : Pinned := { name := "ytkpkjcmoldkmmaagreat", sum := "c4d16fdc212522cf354f1d5ef7f4dd8719d2b1ca00b17a677f2f18abdcdddc35", checked := Tryz.checked }
namespace Rows
def none {H : Type} : Left H := { results := [], args := [] }

/-- 'laws.FnExactSerialOk': WHATEVER THE INPUT: true; the input reads as it did. -/
def fnExactSerialOkSpec : ChangeSpec := { name := "fnExactSerialOk", fn := fun _ => fun
  | [d] => { results := [.lit (.bool true)], args := [d] }
  | _ => none }
def fnExactSerialOkRow : OpenClaim := { program := "ytkpkjcmoldkmmaagreat", sum := "c4d16fdc212522cf354f1d5ef7f4dd8719d2b1ca00b17a677f2f18abdcdddc35", func := "loop.example/g00771/laws.FnExactSerialOk", spec := "fnExactSerialOk", unfollowed := true, recurses := true, apart := false }
def FnExactSerialOkSaid : Prop := fnExactSerialOkRow.holds Tryz.pinned (OpenSpec.ofChange fnExactSerialOkSpec)

/-- ITS FALSE NEIGHBOUR: 'it returns false'. Refute it at one input. -/
def fnExactSerialOkWrong : ChangeSpec := { name := "fnExactSerialOk", fn := fun _ => fun
  | [d] => { results := [.lit (.bool false)], args := [d] }
  | _ => none }
def FnExactSerialOkWrongFalsely : Prop := fnExactSerialOkRow.holds Tryz.pinned (OpenSpec.ofChange fnExactSerialOkWrong)

/-- 'laws.FnExactWaitsFor': WHATEVER THE INPUT: true; the input reads as it did. -/
def fnExactWaitsForSpec : ChangeSpec := { name := "fnExactWaitsFor", fn := fun _ => fun
  | [d] => { results := [.lit (.bool true)], args := [d] }
  | _ => none }
def fnExactWaitsForRow : OpenClaim := { program := "ytkpkjcmoldkmmaagreat", sum := "c4d16fdc212522cf354f1d5ef7f4dd8719d2b1ca00b17a677f2f18abdcdddc35", func := "loop.example/g00771/laws.FnExactWaitsFor", spec := "fnExactWaitsFor", unfollowed := true, recurses := true, apart := false }
def FnExactWaitsForSaid : Prop := fnExactWaitsForRow.holds Tryz.pinned (OpenSpec.ofChange fnExactWaitsForSpec)

/-- ITS FALSE NEIGHBOUR: 'it returns false'. Refute it at one input. -/
def fnExactWaitsForWrong : ChangeSpec := { name := "fnExactWaitsFor", fn := fun _ => fun
  | [d] => { results := [.lit (.bool false)], args := [d] }
  | _ => none }
def FnExactWaitsForWrongFalsely : Prop := fnExactWaitsForRow.holds Tryz.pinned (OpenSpec.ofChange fnExactWaitsForWrong)

/-- 'laws.FnExactBlockedBy': WHATEVER THE INPUT: true; the input reads as it did. -/
def fnExactBlockedBySpec : ChangeSpec := { name := "fnExactBlockedBy", fn := fun _ => fun
  | [d1, d2] => { results := [.lit (.bool true)], args := [d1, d2] }
  | _ => none }
def fnExactBlockedByRow : OpenClaim := { program := "ytkpkjcmoldkmmaagreat", sum := "c4d16fdc212522cf354f1d5ef7f4dd8719d2b1ca00b17a677f2f18abdcdddc35", func := "loop.example/g00771/laws.FnExactBlockedBy", spec := "fnExactBlockedBy", unfollowed := true, recurses := true, apart := false }
def FnExactBlockedBySaid : Prop := fnExactBlockedByRow.holds Tryz.pinned (OpenSpec.ofChange fnExactBlockedBySpec)

/-- ITS FALSE NEIGHBOUR: 'it returns false'. Refute it at one input. -/
def fnExactBlockedByWrong : ChangeSpec := { name := "fnExactBlockedBy", fn := fun _ => fun
  | [d1, d2] => { results := [.lit (.bool false)], args := [d1, d2] }
  | _ => none }
def FnExactBlockedByWrongFalsely : Prop := fnExactBlockedByRow.holds Tryz.pinned (OpenSpec.ofChange fnExactBlockedByWrong)

/- THE SECOND FORM. 'bulk': how many values and letters a reading holds, each counted each time it is reached (what is shared counts as often as it is met; a slice's spare places count too). A statement '..UptoSaid' is the law's where the arguments, and the package variables that the reading takes, are together of bulk at most 1048576: NARROWER than '..Said'. Prove '..Said' where nothing that the law and all that it calls make is longer than what came in: it says more and counts as full. Else prove '..UptoSaid'. A law counts once. -/
mutual
def uptoBulk {H : Type} : DataW H → Nat
  | .lit (.string bytes) => bytes.length + 1
  | .lit _ => 1
  | .nil => 1
  | .ptr d => uptoBulk d + 1
  | .slice elems spare => uptoBulkAll elems + uptoBulkAll spare + 1
  | .agg parts => uptoBulkAll parts + 1
  | .iface _ d => uptoBulk d + 1
  | .map entries => uptoBulkEntries entries + 1
  | .held _ => 1
def uptoBulkAll {H : Type} : List (DataW H) → Nat
  | [] => 0
  | d :: r => uptoBulk d + uptoBulkAll r
def uptoBulkEntries {H : Type} : List (Lit × DataW H) → Nat
  | [] => 0
  | x :: r => uptoBulkEntry x + uptoBulkEntries r
def uptoBulkEntry {H : Type} : Lit × DataW H → Nat
  | (.string bytes, d) => bytes.length + uptoBulk d + 1
  | (_, d) => uptoBulk d + 1
 end
def uptoSmall : (H : Type) → List (DataW H) → Bool := fun _ ds => decide (uptoBulkAll ds ≤ 1048576)
def OpenSpec.upto (s : _root_.Go.ChangeSpec) : _root_.Go.OpenSpec := { _root_.Go.OpenSpec.ofChange s with cond := some uptoSmall }

/-- 'laws.FnExactSerialOk', WHERE WHAT IT READS IS OF BULK AT MOST 1048576: true; the input reads as it did. -/
def fnExactSerialOkUptoRow : OpenClaim := { program := "ytkpkjcmoldkmmaagreat", sum := "c4d16fdc212522cf354f1d5ef7f4dd8719d2b1ca00b17a677f2f18abdcdddc35", func := "loop.example/g00771/laws.FnExactSerialOk", spec := "fnExactSerialOk", unfollowed := true, recurses := true, apart := false, narrowed := true }
def FnExactSerialOkUptoSaid : Prop := fnExactSerialOkUptoRow.holds Tryz.pinned (OpenSpec.upto fnExactSerialOkSpec)

/-- 'laws.FnExactWaitsFor', WHERE WHAT IT READS IS OF BULK AT MOST 1048576: true; the input reads as it did. -/
def fnExactWaitsForUptoRow : OpenClaim := { program := "ytkpkjcmoldkmmaagreat", sum := "c4d16fdc212522cf354f1d5ef7f4dd8719d2b1ca00b17a677f2f18abdcdddc35", func := "loop.example/g00771/laws.FnExactWaitsFor", spec := "fnExactWaitsFor", unfollowed := true, recurses := true, apart := false, narrowed := true }
def FnExactWaitsForUptoSaid : Prop := fnExactWaitsForUptoRow.holds Tryz.pinned (OpenSpec.upto fnExactWaitsForSpec)

/-- 'laws.FnExactBlockedBy', WHERE WHAT IT READS IS OF BULK AT MOST 1048576: true; the input reads as it did. -/
def fnExactBlockedByUptoRow : OpenClaim := { program := "ytkpkjcmoldkmmaagreat", sum := "c4d16fdc212522cf354f1d5ef7f4dd8719d2b1ca00b17a677f2f18abdcdddc35", func := "loop.example/g00771/laws.FnExactBlockedBy", spec := "fnExactBlockedBy", unfollowed := true, recurses := true, apart := false, narrowed := true }
def FnExactBlockedByUptoSaid : Prop := fnExactBlockedByUptoRow.holds Tryz.pinned (OpenSpec.upto fnExactBlockedBySpec)

end Rows
end Go.Proofs.YtkpkjcmoldkmmaaGreat
