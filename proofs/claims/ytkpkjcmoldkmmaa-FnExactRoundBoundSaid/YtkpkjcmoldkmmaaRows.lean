/-
  No cell of these rows narrows 'for every input' (looked for: loops, veiled, ifaces, maps, wideKeys, modest, calm, conditions, laid).
  DERIVED. THE GIVEN ROWS OF THIS SEAT. 7 by the template 'for every input the law returns true; each argument reads behind the call as it read before'; 0 by the template 'total and deterministic' (their statements: YtkpkjcmoldkmmaaTotals.lean).
  GIVEN WITH THE SEED: the statements are not yours to turn. If you find one false, say at which input.
  Laid BY PROGRAM, IN A SANDBOX (cutbox-rows.mjs): the forced cells as the released guide's own fill.sh prints them over the translation c59d50f1008a056d… (all of the seat's roots in one cut). By AI agents, Wed Nov 11 2026. No macro, syntax, notation, axiom, sorry.
-/
import Derived.Test.YtkpkjcmoldkmmaaChecked
import GoSem.Claim
import GoSem.ClaimJoined
import GoSem.ClaimMapViews
import Derived.JoinedTies
import Derived.KernelRfl
namespace Go.Proofs.Ytkpkjcmoldkmmaa
/- THE CELL 'sum', in the pinned program and in every row, IS THE sha256 OF THE DUMP (.gsa) THAT YtkpkjcmoldkmmaaProg.lean LOADS. Nothing in Lean hashes anything: it is a label: what it is worth is what the hold of that sum in a sandbox is worth. -/
noncomputable def Try.pinned : Pinned := { name := "ytkpkjcmoldkmmaa", sum := "c59d50f1008a056dce9b56703377fab2f6ff10377e7964438694d6a482a77c04", checked := Try.checked }
namespace Rows
def none {H : Type} : Left H := { results := [], args := [] }

/-- 'laws.FnExactNewEngine': WHATEVER THE INPUT: true; the input reads as it did. -/
def fnExactNewEngineSpec : ChangeSpec := { name := "fnExactNewEngine", fn := fun _ => fun
  | [d1, d2] => { results := [.lit (.bool true)], args := [d1, d2] }
  | _ => none }
def fnExactNewEngineRow : OpenClaim := { program := "ytkpkjcmoldkmmaa", sum := "c59d50f1008a056dce9b56703377fab2f6ff10377e7964438694d6a482a77c04", func := "loop.example/g00771/laws.FnExactNewEngine", spec := "fnExactNewEngine", apart := false }
def FnExactNewEngineSaid : Prop := fnExactNewEngineRow.holds Try.pinned (OpenSpec.ofChange fnExactNewEngineSpec)

/-- ITS FALSE NEIGHBOUR: 'it returns false'. Refute it at one input. -/
def fnExactNewEngineWrong : ChangeSpec := { name := "fnExactNewEngine", fn := fun _ => fun
  | [d1, d2] => { results := [.lit (.bool false)], args := [d1, d2] }
  | _ => none }
def FnExactNewEngineWrongFalsely : Prop := fnExactNewEngineRow.holds Try.pinned (OpenSpec.ofChange fnExactNewEngineWrong)

/-- 'laws.FnExactLogOrder': WHATEVER THE INPUT: true; the input reads as it did. -/
def fnExactLogOrderSpec : ChangeSpec := { name := "fnExactLogOrder", fn := fun _ => fun
  | [d] => { results := [.lit (.bool true)], args := [d] }
  | _ => none }
def fnExactLogOrderRow : OpenClaim := { program := "ytkpkjcmoldkmmaa", sum := "c59d50f1008a056dce9b56703377fab2f6ff10377e7964438694d6a482a77c04", func := "loop.example/g00771/laws.FnExactLogOrder", spec := "fnExactLogOrder", unfollowed := true, recurses := true, apart := false }
def FnExactLogOrderSaid : Prop := fnExactLogOrderRow.holds Try.pinned (OpenSpec.ofChange fnExactLogOrderSpec)

/-- ITS FALSE NEIGHBOUR: 'it returns false'. Refute it at one input. -/
def fnExactLogOrderWrong : ChangeSpec := { name := "fnExactLogOrder", fn := fun _ => fun
  | [d] => { results := [.lit (.bool false)], args := [d] }
  | _ => none }
def FnExactLogOrderWrongFalsely : Prop := fnExactLogOrderRow.holds Try.pinned (OpenSpec.ofChange fnExactLogOrderWrong)

/-- 'laws.FnExactReplayLog': WHATEVER THE INPUT: true; the input reads as it did. -/
def fnExactReplayLogSpec : ChangeSpec := { name := "fnExactReplayLog", fn := fun _ => fun
  | [d1, d2, d3] => { results := [.lit (.bool true)], args := [d1, d2, d3] }
  | _ => none }
def fnExactReplayLogRow : OpenClaim := { program := "ytkpkjcmoldkmmaa", sum := "c59d50f1008a056dce9b56703377fab2f6ff10377e7964438694d6a482a77c04", func := "loop.example/g00771/laws.FnExactReplayLog", spec := "fnExactReplayLog", unfollowed := true, recurses := true, apart := false }
def FnExactReplayLogSaid : Prop := fnExactReplayLogRow.holds Try.pinned (OpenSpec.ofChange fnExactReplayLogSpec)

/-- ITS FALSE NEIGHBOUR: 'it returns false'. Refute it at one input. -/
def fnExactReplayLogWrong : ChangeSpec := { name := "fnExactReplayLog", fn := fun _ => fun
  | [d1, d2, d3] => { results := [.lit (.bool false)], args := [d1, d2, d3] }
  | _ => none }
def FnExactReplayLogWrongFalsely : Prop := fnExactReplayLogRow.holds Try.pinned (OpenSpec.ofChange fnExactReplayLogWrong)

/-- 'laws.FnExactRoundPicks': WHATEVER THE INPUT: true; the input reads as it did. -/
def fnExactRoundPicksSpec : ChangeSpec := { name := "fnExactRoundPicks", fn := fun _ => fun
  | [d1, d2] => { results := [.lit (.bool true)], args := [d1, d2] }
  | _ => none }
def fnExactRoundPicksRow : OpenClaim := { program := "ytkpkjcmoldkmmaa", sum := "c59d50f1008a056dce9b56703377fab2f6ff10377e7964438694d6a482a77c04", func := "loop.example/g00771/laws.FnExactRoundPicks", spec := "fnExactRoundPicks", apart := false }
def FnExactRoundPicksSaid : Prop := fnExactRoundPicksRow.holds Try.pinned (OpenSpec.ofChange fnExactRoundPicksSpec)

/-- ITS FALSE NEIGHBOUR: 'it returns false'. Refute it at one input. -/
def fnExactRoundPicksWrong : ChangeSpec := { name := "fnExactRoundPicks", fn := fun _ => fun
  | [d1, d2] => { results := [.lit (.bool false)], args := [d1, d2] }
  | _ => none }
def FnExactRoundPicksWrongFalsely : Prop := fnExactRoundPicksRow.holds Try.pinned (OpenSpec.ofChange fnExactRoundPicksWrong)

/-- 'laws.FnExactRoundBound': WHATEVER THE INPUT: true; the input reads as it did. -/
def fnExactRoundBoundSpec : ChangeSpec := { name := "fnExactRoundBound", fn := fun _ => fun
  | [d1, d2] => { results := [.lit (.bool true)], args := [d1, d2] }
  | _ => none }
def fnExactRoundBoundRow : OpenClaim := { program := "ytkpkjcmoldkmmaa", sum := "c59d50f1008a056dce9b56703377fab2f6ff10377e7964438694d6a482a77c04", func := "loop.example/g00771/laws.FnExactRoundBound", spec := "fnExactRoundBound", apart := false }
def FnExactRoundBoundSaid : Prop := fnExactRoundBoundRow.holds Try.pinned (OpenSpec.ofChange fnExactRoundBoundSpec)

/-- ITS FALSE NEIGHBOUR: 'it returns false'. Refute it at one input. -/
def fnExactRoundBoundWrong : ChangeSpec := { name := "fnExactRoundBound", fn := fun _ => fun
  | [d1, d2] => { results := [.lit (.bool false)], args := [d1, d2] }
  | _ => none }
def FnExactRoundBoundWrongFalsely : Prop := fnExactRoundBoundRow.holds Try.pinned (OpenSpec.ofChange fnExactRoundBoundWrong)

/-- 'laws.FnExactSoloPicks': WHATEVER THE INPUT: true; the input reads as it did. -/
def fnExactSoloPicksSpec : ChangeSpec := { name := "fnExactSoloPicks", fn := fun _ => fun
  | [d] => { results := [.lit (.bool true)], args := [d] }
  | _ => none }
def fnExactSoloPicksRow : OpenClaim := { program := "ytkpkjcmoldkmmaa", sum := "c59d50f1008a056dce9b56703377fab2f6ff10377e7964438694d6a482a77c04", func := "loop.example/g00771/laws.FnExactSoloPicks", spec := "fnExactSoloPicks", apart := false }
def FnExactSoloPicksSaid : Prop := fnExactSoloPicksRow.holds Try.pinned (OpenSpec.ofChange fnExactSoloPicksSpec)

/-- ITS FALSE NEIGHBOUR: 'it returns false'. Refute it at one input. -/
def fnExactSoloPicksWrong : ChangeSpec := { name := "fnExactSoloPicks", fn := fun _ => fun
  | [d] => { results := [.lit (.bool false)], args := [d] }
  | _ => none }
def FnExactSoloPicksWrongFalsely : Prop := fnExactSoloPicksRow.holds Try.pinned (OpenSpec.ofChange fnExactSoloPicksWrong)

/-- 'laws.FnExactSerialRun': WHATEVER THE INPUT: true; the input reads as it did. -/
def fnExactSerialRunSpec : ChangeSpec := { name := "fnExactSerialRun", fn := fun _ => fun
  | [d1, d2] => { results := [.lit (.bool true)], args := [d1, d2] }
  | _ => none }
def fnExactSerialRunRow : OpenClaim := { program := "ytkpkjcmoldkmmaa", sum := "c59d50f1008a056dce9b56703377fab2f6ff10377e7964438694d6a482a77c04", func := "loop.example/g00771/laws.FnExactSerialRun", spec := "fnExactSerialRun", unfollowed := true, recurses := true, apart := false }
def FnExactSerialRunSaid : Prop := fnExactSerialRunRow.holds Try.pinned (OpenSpec.ofChange fnExactSerialRunSpec)

/-- ITS FALSE NEIGHBOUR: 'it returns false'. Refute it at one input. -/
def fnExactSerialRunWrong : ChangeSpec := { name := "fnExactSerialRun", fn := fun _ => fun
  | [d1, d2] => { results := [.lit (.bool false)], args := [d1, d2] }
  | _ => none }
def FnExactSerialRunWrongFalsely : Prop := fnExactSerialRunRow.holds Try.pinned (OpenSpec.ofChange fnExactSerialRunWrong)

/- THE SECOND FORM. 'bulk': how many values and letters a reading holds, each counted each time it is reached (what is shared counts as often as it is met; a slice's spare places count too). A statement '..UptoSaid' is the law's where the arguments, and the package variables that the reading takes, are together of bulk at most 1048576: NARROWER than '..Said'. Prove '..Said' where nothing that the law and all that it calls make is longer than what came in: it says more and counts as full. Else prove '..UptoSaid'. A law counts once. -/
mutual
def uptoBulk {H : Type} : DataW H → Nat
  | .lit (.string bytes) => bytes.length + 1
  | .lit _ => 1
  | .nil => 1
  | .ptr d => uptoBulk d + 1
  | .slice elems spare => uptoBulkAll elems + uptoBulkAll spare + 1
  | .agg parts => uptoBulkAll parts + 1
  | .iface _ d => uptoBulk d + 1
  | .map entries => uptoBulkEntries entries + 1
  | .held _ => 1
def uptoBulkAll {H : Type} : List (DataW H) → Nat
  | [] => 0
  | d :: r => uptoBulk d + uptoBulkAll r
def uptoBulkEntries {H : Type} : List (Lit × DataW H) → Nat
  | [] => 0
  | x :: r => uptoBulkEntry x + uptoBulkEntries r
def uptoBulkEntry {H : Type} : Lit × DataW H → Nat
  | (.string bytes, d) => bytes.length + uptoBulk d + 1
  | (_, d) => uptoBulk d + 1
 end
def uptoSmall : (H : Type) → List (DataW H) → Bool := fun _ ds => decide (uptoBulkAll ds ≤ 1048576)
def OpenSpec.upto (s : _root_.Go.ChangeSpec) : _root_.Go.OpenSpec := { _root_.Go.OpenSpec.ofChange s with cond := some uptoSmall }

/-- 'laws.FnExactNewEngine', WHERE WHAT IT READS IS OF BULK AT MOST 1048576: true; the input reads as it did. -/
def fnExactNewEngineUptoRow : OpenClaim := { program := "ytkpkjcmoldkmmaa", sum := "c59d50f1008a056dce9b56703377fab2f6ff10377e7964438694d6a482a77c04", func := "loop.example/g00771/laws.FnExactNewEngine", spec := "fnExactNewEngine", apart := false, narrowed := true }
def FnExactNewEngineUptoSaid : Prop := fnExactNewEngineUptoRow.holds Try.pinned (OpenSpec.upto fnExactNewEngineSpec)

/-- 'laws.FnExactLogOrder', WHERE WHAT IT READS IS OF BULK AT MOST 1048576: true; the input reads as it did. -/
def fnExactLogOrderUptoRow : OpenClaim := { program := "ytkpkjcmoldkmmaa", sum := "c59d50f1008a056dce9b56703377fab2f6ff10377e7964438694d6a482a77c04", func := "loop.example/g00771/laws.FnExactLogOrder", spec := "fnExactLogOrder", unfollowed := true, recurses := true, apart := false, narrowed := true }
def FnExactLogOrderUptoSaid : Prop := fnExactLogOrderUptoRow.holds Try.pinned (OpenSpec.upto fnExactLogOrderSpec)

/-- 'laws.FnExactReplayLog', WHERE WHAT IT READS IS OF BULK AT MOST 1048576: true; the input reads as it did. -/
def fnExactReplayLogUptoRow : OpenClaim := { program := "ytkpkjcmoldkmmaa", sum := "c59d50f1008a056dce9b56703377fab2f6ff10377e7964438694d6a482a77c04", func := "loop.example/g00771/laws.FnExactReplayLog", spec := "fnExactReplayLog", unfollowed := true, recurses := true, apart := false, narrowed := true }
def FnExactReplayLogUptoSaid : Prop := fnExactReplayLogUptoRow.holds Try.pinned (OpenSpec.upto fnExactReplayLogSpec)

/-- 'laws.FnExactRoundPicks', WHERE WHAT IT READS IS OF BULK AT MOST 1048576: true; the input reads as it did. -/
def fnExactRoundPicksUptoRow : OpenClaim := { program := "ytkpkjcmoldkmmaa", sum := "c59d50f1008a056dce9b56703377fab2f6ff10377e7964438694d6a482a77c04", func := "loop.example/g00771/laws.FnExactRoundPicks", spec := "fnExactRoundPicks", apart := false, narrowed := true }
def FnExactRoundPicksUptoSaid : Prop := fnExactRoundPicksUptoRow.holds Try.pinned (OpenSpec.upto fnExactRoundPicksSpec)

/-- 'laws.FnExactRoundBound', WHERE WHAT IT READS IS OF BULK AT MOST 1048576: true; the input reads as it did. -/
def fnExactRoundBoundUptoRow : OpenClaim := { program := "ytkpkjcmoldkmmaa", sum := "c59d50f1008a056dce9b56703377fab2f6ff10377e7964438694d6a482a77c04", func := "loop.example/g00771/laws.FnExactRoundBound", spec := "fnExactRoundBound", apart := false, narrowed := true }
def FnExactRoundBoundUptoSaid : Prop := fnExactRoundBoundUptoRow.holds Try.pinned (OpenSpec.upto fnExactRoundBoundSpec)

/-- 'laws.FnExactSoloPicks', WHERE WHAT IT READS IS OF BULK AT MOST 1048576: true; the input reads as it did. -/
def fnExactSoloPicksUptoRow : OpenClaim := { program := "ytkpkjcmoldkmmaa", sum := "c59d50f1008a056dce9b56703377fab2f6ff10377e7964438694d6a482a77c04", func := "loop.example/g00771/laws.FnExactSoloPicks", spec := "fnExactSoloPicks", apart := false, narrowed := true }
def FnExactSoloPicksUptoSaid : Prop := fnExactSoloPicksUptoRow.holds Try.pinned (OpenSpec.upto fnExactSoloPicksSpec)

/-- 'laws.FnExactSerialRun', WHERE WHAT IT READS IS OF BULK AT MOST 1048576: true; the input reads as it did. -/
def fnExactSerialRunUptoRow : OpenClaim := { program := "ytkpkjcmoldkmmaa", sum := "c59d50f1008a056dce9b56703377fab2f6ff10377e7964438694d6a482a77c04", func := "loop.example/g00771/laws.FnExactSerialRun", spec := "fnExactSerialRun", unfollowed := true, recurses := true, apart := false, narrowed := true }
def FnExactSerialRunUptoSaid : Prop := fnExactSerialRunUptoRow.holds Try.pinned (OpenSpec.upto fnExactSerialRunSpec)

end Rows
end Go.Proofs.Ytkpkjcmoldkmmaa
