/-
  No cell of these rows narrows 'for every input' (looked for: loops, veiled, ifaces, maps, wideKeys, modest, calm, conditions, laid).
  DERIVED. THE GIVEN ROWS OF THIS SEAT. 8 by the template 'for every input the law returns true; each argument reads behind the call as it read before'; 0 by the template 'total and deterministic' (their statements: YtmphiomalhjciaaTotals.lean).
  GIVEN WITH THE SEED: the statements are not yours to turn. If you find one false, say at which input.
  Laid BY PROGRAM, IN A SANDBOX (cutbox-rows.mjs): the forced cells as the released guide's own fill.sh prints them over the translation 42d68c759bf3f542… (all of the seat's roots in one cut). By AI agents, Wed Nov 11 2026. No macro, syntax, notation, axiom, sorry.
-/
import Derived.Test.YtmphiomalhjciaaChecked
import GoSem.Claim
import GoSem.ClaimJoined
import GoSem.ClaimMapViews
import Derived.JoinedTies
import Derived.KernelRfl
namespace Go.Proofs.Ytmphiomalhjciaa
/- THE CELL 'sum', in the pinned program and in every row, IS THE sha256 OF THE DUMP (.gsa) THAT YtmphiomalhjciaaProg.lean LOADS. Nothing in Lean hashes anything: it is a label: what it is worth is what the hold of that sum in a sandbox is worth. -/
noncomputable def Try.pinned : Pinned := { name := "ytmphiomalhjciaa", sum := "42d68c759bf3f5421a86eca1b5610277b31fcabd95fc263ea89e0d62404a14f2", checked := Try.checked }
namespace Rows
def none {H : Type} : Left H := { results := [], args := [] }

/-- 'laws.FnExactNewEngine': WHATEVER THE INPUT: true; the input reads as it did. -/
def fnExactNewEngineSpec : ChangeSpec := { name := "fnExactNewEngine", fn := fun _ => fun
  | [d1, d2] => { results := [.lit (.bool true)], args := [d1, d2] }
  | _ => none }
def fnExactNewEngineRow : OpenClaim := { program := "ytmphiomalhjciaa", sum := "42d68c759bf3f5421a86eca1b5610277b31fcabd95fc263ea89e0d62404a14f2", func := "loop.example/g00771/laws.FnExactNewEngine", spec := "fnExactNewEngine", apart := false }
def FnExactNewEngineSaid : Prop := fnExactNewEngineRow.holds Try.pinned (OpenSpec.ofChange fnExactNewEngineSpec)

/-- ITS FALSE NEIGHBOUR: 'it returns false'. Refute it at one input. -/
def fnExactNewEngineWrong : ChangeSpec := { name := "fnExactNewEngine", fn := fun _ => fun
  | [d1, d2] => { results := [.lit (.bool false)], args := [d1, d2] }
  | _ => none }
def FnExactNewEngineWrongFalsely : Prop := fnExactNewEngineRow.holds Try.pinned (OpenSpec.ofChange fnExactNewEngineWrong)

/-- 'laws.FnExactLogOrder': WHATEVER THE INPUT: true; the input reads as it did. -/
def fnExactLogOrderSpec : ChangeSpec := { name := "fnExactLogOrder", fn := fun _ => fun
  | [d] => { results := [.lit (.bool true)], args := [d] }
  | _ => none }
def fnExactLogOrderRow : OpenClaim := { program := "ytmphiomalhjciaa", sum := "42d68c759bf3f5421a86eca1b5610277b31fcabd95fc263ea89e0d62404a14f2", func := "loop.example/g00771/laws.FnExactLogOrder", spec := "fnExactLogOrder", unfollowed := true, recurses := true, apart := false }
def FnExactLogOrderSaid : Prop := fnExactLogOrderRow.holds Try.pinned (OpenSpec.ofChange fnExactLogOrderSpec)

/-- ITS FALSE NEIGHBOUR: 'it returns false'. Refute it at one input. -/
def fnExactLogOrderWrong : ChangeSpec := { name := "fnExactLogOrder", fn := fun _ => fun
  | [d] => { results := [.lit (.bool false)], args := [d] }
  | _ => none }
def FnExactLogOrderWrongFalsely : Prop := fnExactLogOrderRow.holds Try.pinned (OpenSpec.ofChange fnExactLogOrderWrong)

/-- 'laws.FnExactReplayLog': WHATEVER THE INPUT: true; the input reads as it did. -/
def fnExactReplayLogSpec : ChangeSpec := { name := "fnExactReplayLog", fn := fun _ => fun
  | [d1, d2, d3] => { results := [.lit (.bool true)], args := [d1, d2, d3] }
  | _ => none }
def fnExactReplayLogRow : OpenClaim := { program := "ytmphiomalhjciaa", sum := "42d68c759bf3f5421a86eca1b5610277b31fcabd95fc263ea89e0d62404a14f2", func := "loop.example/g00771/laws.FnExactReplayLog", spec := "fnExactReplayLog", unfollowed := true, recurses := true, apart := false }
def FnExactReplayLogSaid : Prop := fnExactReplayLogRow.holds Try.pinned (OpenSpec.ofChange fnExactReplayLogSpec)

/-- ITS FALSE NEIGHBOUR: 'it returns false'. Refute it at one input. -/
def fnExactReplayLogWrong : ChangeSpec := { name := "fnExactReplayLog", fn := fun _ => fun
  | [d1, d2, d3] => { results := [.lit (.bool false)], args := [d1, d2, d3] }
  | _ => none }
def FnExactReplayLogWrongFalsely : Prop := fnExactReplayLogRow.holds Try.pinned (OpenSpec.ofChange fnExactReplayLogWrong)

/-- 'laws.FnExactIdsOk': WHATEVER THE INPUT: true; the input reads as it did. -/
def fnExactIdsOkSpec : ChangeSpec := { name := "fnExactIdsOk", fn := fun _ => fun
  | [d] => { results := [.lit (.bool true)], args := [d] }
  | _ => none }
def fnExactIdsOkRow : OpenClaim := { program := "ytmphiomalhjciaa", sum := "42d68c759bf3f5421a86eca1b5610277b31fcabd95fc263ea89e0d62404a14f2", func := "loop.example/g00771/laws.FnExactIdsOk", spec := "fnExactIdsOk", apart := false }
def FnExactIdsOkSaid : Prop := fnExactIdsOkRow.holds Try.pinned (OpenSpec.ofChange fnExactIdsOkSpec)

/-- ITS FALSE NEIGHBOUR: 'it returns false'. Refute it at one input. -/
def fnExactIdsOkWrong : ChangeSpec := { name := "fnExactIdsOk", fn := fun _ => fun
  | [d] => { results := [.lit (.bool false)], args := [d] }
  | _ => none }
def FnExactIdsOkWrongFalsely : Prop := fnExactIdsOkRow.holds Try.pinned (OpenSpec.ofChange fnExactIdsOkWrong)

/-- 'laws.FnExactOncePer': WHATEVER THE INPUT: true; the input reads as it did. -/
def fnExactOncePerSpec : ChangeSpec := { name := "fnExactOncePer", fn := fun _ => fun
  | [d] => { results := [.lit (.bool true)], args := [d] }
  | _ => none }
def fnExactOncePerRow : OpenClaim := { program := "ytmphiomalhjciaa", sum := "42d68c759bf3f5421a86eca1b5610277b31fcabd95fc263ea89e0d62404a14f2", func := "loop.example/g00771/laws.FnExactOncePer", spec := "fnExactOncePer", apart := false }
def FnExactOncePerSaid : Prop := fnExactOncePerRow.holds Try.pinned (OpenSpec.ofChange fnExactOncePerSpec)

/-- ITS FALSE NEIGHBOUR: 'it returns false'. Refute it at one input. -/
def fnExactOncePerWrong : ChangeSpec := { name := "fnExactOncePer", fn := fun _ => fun
  | [d] => { results := [.lit (.bool false)], args := [d] }
  | _ => none }
def FnExactOncePerWrongFalsely : Prop := fnExactOncePerRow.holds Try.pinned (OpenSpec.ofChange fnExactOncePerWrong)

/-- 'laws.FnExactClashesOf': WHATEVER THE INPUT: true; the input reads as it did. -/
def fnExactClashesOfSpec : ChangeSpec := { name := "fnExactClashesOf", fn := fun _ => fun
  | [d1, d2] => { results := [.lit (.bool true)], args := [d1, d2] }
  | _ => none }
def fnExactClashesOfRow : OpenClaim := { program := "ytmphiomalhjciaa", sum := "42d68c759bf3f5421a86eca1b5610277b31fcabd95fc263ea89e0d62404a14f2", func := "loop.example/g00771/laws.FnExactClashesOf", spec := "fnExactClashesOf", unfollowed := true, recurses := true, apart := false }
def FnExactClashesOfSaid : Prop := fnExactClashesOfRow.holds Try.pinned (OpenSpec.ofChange fnExactClashesOfSpec)

/-- ITS FALSE NEIGHBOUR: 'it returns false'. Refute it at one input. -/
def fnExactClashesOfWrong : ChangeSpec := { name := "fnExactClashesOf", fn := fun _ => fun
  | [d1, d2] => { results := [.lit (.bool false)], args := [d1, d2] }
  | _ => none }
def FnExactClashesOfWrongFalsely : Prop := fnExactClashesOfRow.holds Try.pinned (OpenSpec.ofChange fnExactClashesOfWrong)

/-- 'laws.FnExactTriesOf': WHATEVER THE INPUT: true; the input reads as it did. -/
def fnExactTriesOfSpec : ChangeSpec := { name := "fnExactTriesOf", fn := fun _ => fun
  | [d] => { results := [.lit (.bool true)], args := [d] }
  | _ => none }
def fnExactTriesOfRow : OpenClaim := { program := "ytmphiomalhjciaa", sum := "42d68c759bf3f5421a86eca1b5610277b31fcabd95fc263ea89e0d62404a14f2", func := "loop.example/g00771/laws.FnExactTriesOf", spec := "fnExactTriesOf", apart := false }
def FnExactTriesOfSaid : Prop := fnExactTriesOfRow.holds Try.pinned (OpenSpec.ofChange fnExactTriesOfSpec)

/-- ITS FALSE NEIGHBOUR: 'it returns false'. Refute it at one input. -/
def fnExactTriesOfWrong : ChangeSpec := { name := "fnExactTriesOf", fn := fun _ => fun
  | [d] => { results := [.lit (.bool false)], args := [d] }
  | _ => none }
def FnExactTriesOfWrongFalsely : Prop := fnExactTriesOfRow.holds Try.pinned (OpenSpec.ofChange fnExactTriesOfWrong)

/-- 'laws.FnExactSameLog': WHATEVER THE INPUT: true; the input reads as it did. -/
def fnExactSameLogSpec : ChangeSpec := { name := "fnExactSameLog", fn := fun _ => fun
  | [d1, d2] => { results := [.lit (.bool true)], args := [d1, d2] }
  | _ => none }
def fnExactSameLogRow : OpenClaim := { program := "ytmphiomalhjciaa", sum := "42d68c759bf3f5421a86eca1b5610277b31fcabd95fc263ea89e0d62404a14f2", func := "loop.example/g00771/laws.FnExactSameLog", spec := "fnExactSameLog", unfollowed := true, recurses := true, apart := false }
def FnExactSameLogSaid : Prop := fnExactSameLogRow.holds Try.pinned (OpenSpec.ofChange fnExactSameLogSpec)

/-- ITS FALSE NEIGHBOUR: 'it returns false'. Refute it at one input. -/
def fnExactSameLogWrong : ChangeSpec := { name := "fnExactSameLog", fn := fun _ => fun
  | [d1, d2] => { results := [.lit (.bool false)], args := [d1, d2] }
  | _ => none }
def FnExactSameLogWrongFalsely : Prop := fnExactSameLogRow.holds Try.pinned (OpenSpec.ofChange fnExactSameLogWrong)

/- THE SECOND FORM. 'bulk': how many values and letters a reading holds, each counted each time it is reached (what is shared counts as often as it is met; a slice's spare places count too). A statement '..UptoSaid' is the law's where the arguments, and the package variables that the reading takes, are together of bulk at most 1048576: NARROWER than '..Said'. Prove '..Said' where nothing that the law and all that it calls make is longer than what came in: it says more and counts as full. Else prove '..UptoSaid'. A law counts once. -/
mutual
def uptoBulk {H : Type} : DataW H → Nat
  | .lit (.string bytes) => bytes.length + 1
  | .lit _ => 1
  | .nil => 1
  | .ptr d => uptoBulk d + 1
  | .slice elems spare => uptoBulkAll elems + uptoBulkAll spare + 1
  | .agg parts => uptoBulkAll parts + 1
  | .iface _ d => uptoBulk d + 1
  | .map entries => uptoBulkEntries entries + 1
  | .held _ => 1
def uptoBulkAll {H : Type} : List (DataW H) → Nat
  | [] => 0
  | d :: r => uptoBulk d + uptoBulkAll r
def uptoBulkEntries {H : Type} : List (Lit × DataW H) → Nat
  | [] => 0
  | x :: r => uptoBulkEntry x + uptoBulkEntries r
def uptoBulkEntry {H : Type} : Lit × DataW H → Nat
  | (.string bytes, d) => bytes.length + uptoBulk d + 1
  | (_, d) => uptoBulk d + 1
 end
def uptoSmall : (H : Type) → List (DataW H) → Bool := fun _ ds => decide (uptoBulkAll ds ≤ 1048576)
def OpenSpec.upto (s : _root_.Go.ChangeSpec) : _root_.Go.OpenSpec := { _root_.Go.OpenSpec.ofChange s with cond := some uptoSmall }

/-- 'laws.FnExactNewEngine', WHERE WHAT IT READS IS OF BULK AT MOST 1048576: true; the input reads as it did. -/
def fnExactNewEngineUptoRow : OpenClaim := { program := "ytmphiomalhjciaa", sum := "42d68c759bf3f5421a86eca1b5610277b31fcabd95fc263ea89e0d62404a14f2", func := "loop.example/g00771/laws.FnExactNewEngine", spec := "fnExactNewEngine", apart := false, narrowed := true }
def FnExactNewEngineUptoSaid : Prop := fnExactNewEngineUptoRow.holds Try.pinned (OpenSpec.upto fnExactNewEngineSpec)

/-- 'laws.FnExactLogOrder', WHERE WHAT IT READS IS OF BULK AT MOST 1048576: true; the input reads as it did. -/
def fnExactLogOrderUptoRow : OpenClaim := { program := "ytmphiomalhjciaa", sum := "42d68c759bf3f5421a86eca1b5610277b31fcabd95fc263ea89e0d62404a14f2", func := "loop.example/g00771/laws.FnExactLogOrder", spec := "fnExactLogOrder", unfollowed := true, recurses := true, apart := false, narrowed := true }
def FnExactLogOrderUptoSaid : Prop := fnExactLogOrderUptoRow.holds Try.pinned (OpenSpec.upto fnExactLogOrderSpec)

/-- 'laws.FnExactReplayLog', WHERE WHAT IT READS IS OF BULK AT MOST 1048576: true; the input reads as it did. -/
def fnExactReplayLogUptoRow : OpenClaim := { program := "ytmphiomalhjciaa", sum := "42d68c759bf3f5421a86eca1b5610277b31fcabd95fc263ea89e0d62404a14f2", func := "loop.example/g00771/laws.FnExactReplayLog", spec := "fnExactReplayLog", unfollowed := true, recurses := true, apart := false, narrowed := true }
def FnExactReplayLogUptoSaid : Prop := fnExactReplayLogUptoRow.holds Try.pinned (OpenSpec.upto fnExactReplayLogSpec)

/-- 'laws.FnExactIdsOk', WHERE WHAT IT READS IS OF BULK AT MOST 1048576: true; the input reads as it did. -/
def fnExactIdsOkUptoRow : OpenClaim := { program := "ytmphiomalhjciaa", sum := "42d68c759bf3f5421a86eca1b5610277b31fcabd95fc263ea89e0d62404a14f2", func := "loop.example/g00771/laws.FnExactIdsOk", spec := "fnExactIdsOk", apart := false, narrowed := true }
def FnExactIdsOkUptoSaid : Prop := fnExactIdsOkUptoRow.holds Try.pinned (OpenSpec.upto fnExactIdsOkSpec)

/-- 'laws.FnExactOncePer', WHERE WHAT IT READS IS OF BULK AT MOST 1048576: true; the input reads as it did. -/
def fnExactOncePerUptoRow : OpenClaim := { program := "ytmphiomalhjciaa", sum := "42d68c759bf3f5421a86eca1b5610277b31fcabd95fc263ea89e0d62404a14f2", func := "loop.example/g00771/laws.FnExactOncePer", spec := "fnExactOncePer", apart := false, narrowed := true }
def FnExactOncePerUptoSaid : Prop := fnExactOncePerUptoRow.holds Try.pinned (OpenSpec.upto fnExactOncePerSpec)

/-- 'laws.FnExactClashesOf', WHERE WHAT IT READS IS OF BULK AT MOST 1048576: true; the input reads as it did. -/
def fnExactClashesOfUptoRow : OpenClaim := { program := "ytmphiomalhjciaa", sum := "42d68c759bf3f5421a86eca1b5610277b31fcabd95fc263ea89e0d62404a14f2", func := "loop.example/g00771/laws.FnExactClashesOf", spec := "fnExactClashesOf", unfollowed := true, recurses := true, apart := false, narrowed := true }
def FnExactClashesOfUptoSaid : Prop := fnExactClashesOfUptoRow.holds Try.pinned (OpenSpec.upto fnExactClashesOfSpec)

/-- 'laws.FnExactTriesOf', WHERE WHAT IT READS IS OF BULK AT MOST 1048576: true; the input reads as it did. -/
def fnExactTriesOfUptoRow : OpenClaim := { program := "ytmphiomalhjciaa", sum := "42d68c759bf3f5421a86eca1b5610277b31fcabd95fc263ea89e0d62404a14f2", func := "loop.example/g00771/laws.FnExactTriesOf", spec := "fnExactTriesOf", apart := false, narrowed := true }
def FnExactTriesOfUptoSaid : Prop := fnExactTriesOfUptoRow.holds Try.pinned (OpenSpec.upto fnExactTriesOfSpec)

/-- 'laws.FnExactSameLog', WHERE WHAT IT READS IS OF BULK AT MOST 1048576: true; the input reads as it did. -/
def fnExactSameLogUptoRow : OpenClaim := { program := "ytmphiomalhjciaa", sum := "42d68c759bf3f5421a86eca1b5610277b31fcabd95fc263ea89e0d62404a14f2", func := "loop.example/g00771/laws.FnExactSameLog", spec := "fnExactSameLog", unfollowed := true, recurses := true, apart := false, narrowed := true }
def FnExactSameLogUptoSaid : Prop := fnExactSameLogUptoRow.holds Try.pinned (OpenSpec.upto fnExactSameLogSpec)

end Rows
end Go.Proofs.Ytmphiomalhjciaa
