/-
  No cell of these rows narrows 'for every input' (looked for: loops, veiled, ifaces, maps, wideKeys, modest, calm, conditions, laid).
  DERIVED. THE GIVEN ROWS OF THIS SEAT. 11 by the template 'for every input the law returns true; each argument reads behind the call as it read before'; 0 by the template 'total and deterministic' (their statements: YtognfnfbmbfidaaTotals.lean).
  GIVEN WITH THE SEED: the statements are not yours to turn. If you find one false, say at which input.
  Laid BY PROGRAM, IN A SANDBOX (cutbox-rows.mjs): the forced cells as the released guide's own fill.sh prints them over the translation 16f5002d0aa7979d… (all of the seat's roots in one cut). By AI agents, Wed Nov 11 2026. No macro, syntax, notation, axiom, sorry.
-/
import Derived.Test.YtognfnfbmbfidaaChecked
import GoSem.Claim
import GoSem.ClaimJoined
import GoSem.ClaimMapViews
import Derived.JoinedTies
import Derived.KernelRfl
namespace Go.Proofs.Ytognfnfbmbfidaa
/- THE CELL 'sum', in the pinned program and in every row, IS THE sha256 OF THE DUMP (.gsa) THAT YtognfnfbmbfidaaProg.lean LOADS. Nothing in Lean hashes anything: it is a label: what it is worth is what the hold of that sum in a sandbox is worth. -/
noncomputable def Try.pinned : Pinned := { name := "ytognfnfbmbfidaa", sum := "16f5002d0aa7979d10280b9d982cdc0774dabae9c15331ded2d1fc918b18d37b", checked := Try.checked }
namespace Rows
def none {H : Type} : Left H := { results := [], args := [] }

/-- 'laws.FnWants': WHATEVER THE INPUT: true; the input reads as it did. -/
def fnWantsSpec : ChangeSpec := { name := "fnWants", fn := fun _ => fun
  | [d] => { results := [.lit (.bool true)], args := [d] }
  | _ => none }
def fnWantsRow : OpenClaim := { program := "ytognfnfbmbfidaa", sum := "16f5002d0aa7979d10280b9d982cdc0774dabae9c15331ded2d1fc918b18d37b", func := "loop.example/g00771/laws.FnWants", spec := "fnWants", unfollowed := true, recurses := true, apart := false }
def FnWantsSaid : Prop := fnWantsRow.holds Try.pinned (OpenSpec.ofChange fnWantsSpec)

/-- ITS FALSE NEIGHBOUR: 'it returns false'. Refute it at one input. -/
def fnWantsWrong : ChangeSpec := { name := "fnWants", fn := fun _ => fun
  | [d] => { results := [.lit (.bool false)], args := [d] }
  | _ => none }
def FnWantsWrongFalsely : Prop := fnWantsRow.holds Try.pinned (OpenSpec.ofChange fnWantsWrong)

/-- 'laws.FnExactHeatOk': WHATEVER THE INPUT: true; the input reads as it did. -/
def fnExactHeatOkSpec : ChangeSpec := { name := "fnExactHeatOk", fn := fun _ => fun
  | [d] => { results := [.lit (.bool true)], args := [d] }
  | _ => none }
def fnExactHeatOkRow : OpenClaim := { program := "ytognfnfbmbfidaa", sum := "16f5002d0aa7979d10280b9d982cdc0774dabae9c15331ded2d1fc918b18d37b", func := "loop.example/g00771/laws.FnExactHeatOk", spec := "fnExactHeatOk", apart := false }
def FnExactHeatOkSaid : Prop := fnExactHeatOkRow.holds Try.pinned (OpenSpec.ofChange fnExactHeatOkSpec)

/-- ITS FALSE NEIGHBOUR: 'it returns false'. Refute it at one input. -/
def fnExactHeatOkWrong : ChangeSpec := { name := "fnExactHeatOk", fn := fun _ => fun
  | [d] => { results := [.lit (.bool false)], args := [d] }
  | _ => none }
def FnExactHeatOkWrongFalsely : Prop := fnExactHeatOkRow.holds Try.pinned (OpenSpec.ofChange fnExactHeatOkWrong)

/-- 'laws.FnExactWarmKey': WHATEVER THE INPUT: true; the input reads as it did. -/
def fnExactWarmKeySpec : ChangeSpec := { name := "fnExactWarmKey", fn := fun _ => fun
  | [d1, d2, d3] => { results := [.lit (.bool true)], args := [d1, d2, d3] }
  | _ => none }
def fnExactWarmKeyRow : OpenClaim := { program := "ytognfnfbmbfidaa", sum := "16f5002d0aa7979d10280b9d982cdc0774dabae9c15331ded2d1fc918b18d37b", func := "loop.example/g00771/laws.FnExactWarmKey", spec := "fnExactWarmKey", apart := false }
def FnExactWarmKeySaid : Prop := fnExactWarmKeyRow.holds Try.pinned (OpenSpec.ofChange fnExactWarmKeySpec)

/-- ITS FALSE NEIGHBOUR: 'it returns false'. Refute it at one input. -/
def fnExactWarmKeyWrong : ChangeSpec := { name := "fnExactWarmKey", fn := fun _ => fun
  | [d1, d2, d3] => { results := [.lit (.bool false)], args := [d1, d2, d3] }
  | _ => none }
def FnExactWarmKeyWrongFalsely : Prop := fnExactWarmKeyRow.holds Try.pinned (OpenSpec.ofChange fnExactWarmKeyWrong)

/-- 'laws.FnExactCoolAll': WHATEVER THE INPUT: true; the input reads as it did. -/
def fnExactCoolAllSpec : ChangeSpec := { name := "fnExactCoolAll", fn := fun _ => fun
  | [d] => { results := [.lit (.bool true)], args := [d] }
  | _ => none }
def fnExactCoolAllRow : OpenClaim := { program := "ytognfnfbmbfidaa", sum := "16f5002d0aa7979d10280b9d982cdc0774dabae9c15331ded2d1fc918b18d37b", func := "loop.example/g00771/laws.FnExactCoolAll", spec := "fnExactCoolAll", apart := false }
def FnExactCoolAllSaid : Prop := fnExactCoolAllRow.holds Try.pinned (OpenSpec.ofChange fnExactCoolAllSpec)

/-- ITS FALSE NEIGHBOUR: 'it returns false'. Refute it at one input. -/
def fnExactCoolAllWrong : ChangeSpec := { name := "fnExactCoolAll", fn := fun _ => fun
  | [d] => { results := [.lit (.bool false)], args := [d] }
  | _ => none }
def FnExactCoolAllWrongFalsely : Prop := fnExactCoolAllRow.holds Try.pinned (OpenSpec.ofChange fnExactCoolAllWrong)

/-- 'laws.FnExactHotKeys': WHATEVER THE INPUT: true; the input reads as it did. -/
def fnExactHotKeysSpec : ChangeSpec := { name := "fnExactHotKeys", fn := fun _ => fun
  | [d1, d2] => { results := [.lit (.bool true)], args := [d1, d2] }
  | _ => none }
def fnExactHotKeysRow : OpenClaim := { program := "ytognfnfbmbfidaa", sum := "16f5002d0aa7979d10280b9d982cdc0774dabae9c15331ded2d1fc918b18d37b", func := "loop.example/g00771/laws.FnExactHotKeys", spec := "fnExactHotKeys", apart := false }
def FnExactHotKeysSaid : Prop := fnExactHotKeysRow.holds Try.pinned (OpenSpec.ofChange fnExactHotKeysSpec)

/-- ITS FALSE NEIGHBOUR: 'it returns false'. Refute it at one input. -/
def fnExactHotKeysWrong : ChangeSpec := { name := "fnExactHotKeys", fn := fun _ => fun
  | [d1, d2] => { results := [.lit (.bool false)], args := [d1, d2] }
  | _ => none }
def FnExactHotKeysWrongFalsely : Prop := fnExactHotKeysRow.holds Try.pinned (OpenSpec.ofChange fnExactHotKeysWrong)

/-- 'laws.FnExactWantsOk': WHATEVER THE INPUT: true; the input reads as it did. -/
def fnExactWantsOkSpec : ChangeSpec := { name := "fnExactWantsOk", fn := fun _ => fun
  | [d] => { results := [.lit (.bool true)], args := [d] }
  | _ => none }
def fnExactWantsOkRow : OpenClaim := { program := "ytognfnfbmbfidaa", sum := "16f5002d0aa7979d10280b9d982cdc0774dabae9c15331ded2d1fc918b18d37b", func := "loop.example/g00771/laws.FnExactWantsOk", spec := "fnExactWantsOk", apart := false }
def FnExactWantsOkSaid : Prop := fnExactWantsOkRow.holds Try.pinned (OpenSpec.ofChange fnExactWantsOkSpec)

/-- ITS FALSE NEIGHBOUR: 'it returns false'. Refute it at one input. -/
def fnExactWantsOkWrong : ChangeSpec := { name := "fnExactWantsOk", fn := fun _ => fun
  | [d] => { results := [.lit (.bool false)], args := [d] }
  | _ => none }
def FnExactWantsOkWrongFalsely : Prop := fnExactWantsOkRow.holds Try.pinned (OpenSpec.ofChange fnExactWantsOkWrong)

/-- 'laws.FnExactWantsOf': WHATEVER THE INPUT: true; the input reads as it did. -/
def fnExactWantsOfSpec : ChangeSpec := { name := "fnExactWantsOf", fn := fun _ => fun
  | [d1, d2] => { results := [.lit (.bool true)], args := [d1, d2] }
  | _ => none }
def fnExactWantsOfRow : OpenClaim := { program := "ytognfnfbmbfidaa", sum := "16f5002d0aa7979d10280b9d982cdc0774dabae9c15331ded2d1fc918b18d37b", func := "loop.example/g00771/laws.FnExactWantsOf", spec := "fnExactWantsOf", apart := false }
def FnExactWantsOfSaid : Prop := fnExactWantsOfRow.holds Try.pinned (OpenSpec.ofChange fnExactWantsOfSpec)

/-- ITS FALSE NEIGHBOUR: 'it returns false'. Refute it at one input. -/
def fnExactWantsOfWrong : ChangeSpec := { name := "fnExactWantsOf", fn := fun _ => fun
  | [d1, d2] => { results := [.lit (.bool false)], args := [d1, d2] }
  | _ => none }
def FnExactWantsOfWrongFalsely : Prop := fnExactWantsOfRow.holds Try.pinned (OpenSpec.ofChange fnExactWantsOfWrong)

/-- 'laws.FnExactMergeWants': WHATEVER THE INPUT: true; the input reads as it did. -/
def fnExactMergeWantsSpec : ChangeSpec := { name := "fnExactMergeWants", fn := fun _ => fun
  | [d1, d2] => { results := [.lit (.bool true)], args := [d1, d2] }
  | _ => none }
def fnExactMergeWantsRow : OpenClaim := { program := "ytognfnfbmbfidaa", sum := "16f5002d0aa7979d10280b9d982cdc0774dabae9c15331ded2d1fc918b18d37b", func := "loop.example/g00771/laws.FnExactMergeWants", spec := "fnExactMergeWants", unfollowed := true, recurses := true, apart := false }
def FnExactMergeWantsSaid : Prop := fnExactMergeWantsRow.holds Try.pinned (OpenSpec.ofChange fnExactMergeWantsSpec)

/-- ITS FALSE NEIGHBOUR: 'it returns false'. Refute it at one input. -/
def fnExactMergeWantsWrong : ChangeSpec := { name := "fnExactMergeWants", fn := fun _ => fun
  | [d1, d2] => { results := [.lit (.bool false)], args := [d1, d2] }
  | _ => none }
def FnExactMergeWantsWrongFalsely : Prop := fnExactMergeWantsRow.holds Try.pinned (OpenSpec.ofChange fnExactMergeWantsWrong)

/-- 'laws.FnExactCoversWants': WHATEVER THE INPUT: true; the input reads as it did. -/
def fnExactCoversWantsSpec : ChangeSpec := { name := "fnExactCoversWants", fn := fun _ => fun
  | [d1, d2] => { results := [.lit (.bool true)], args := [d1, d2] }
  | _ => none }
def fnExactCoversWantsRow : OpenClaim := { program := "ytognfnfbmbfidaa", sum := "16f5002d0aa7979d10280b9d982cdc0774dabae9c15331ded2d1fc918b18d37b", func := "loop.example/g00771/laws.FnExactCoversWants", spec := "fnExactCoversWants", unfollowed := true, recurses := true, apart := false }
def FnExactCoversWantsSaid : Prop := fnExactCoversWantsRow.holds Try.pinned (OpenSpec.ofChange fnExactCoversWantsSpec)

/-- ITS FALSE NEIGHBOUR: 'it returns false'. Refute it at one input. -/
def fnExactCoversWantsWrong : ChangeSpec := { name := "fnExactCoversWants", fn := fun _ => fun
  | [d1, d2] => { results := [.lit (.bool false)], args := [d1, d2] }
  | _ => none }
def FnExactCoversWantsWrongFalsely : Prop := fnExactCoversWantsRow.holds Try.pinned (OpenSpec.ofChange fnExactCoversWantsWrong)

/-- 'laws.FnExactNextWant': WHATEVER THE INPUT: true; the input reads as it did. -/
def fnExactNextWantSpec : ChangeSpec := { name := "fnExactNextWant", fn := fun _ => fun
  | [d1, d2] => { results := [.lit (.bool true)], args := [d1, d2] }
  | _ => none }
def fnExactNextWantRow : OpenClaim := { program := "ytognfnfbmbfidaa", sum := "16f5002d0aa7979d10280b9d982cdc0774dabae9c15331ded2d1fc918b18d37b", func := "loop.example/g00771/laws.FnExactNextWant", spec := "fnExactNextWant", apart := false }
def FnExactNextWantSaid : Prop := fnExactNextWantRow.holds Try.pinned (OpenSpec.ofChange fnExactNextWantSpec)

/-- ITS FALSE NEIGHBOUR: 'it returns false'. Refute it at one input. -/
def fnExactNextWantWrong : ChangeSpec := { name := "fnExactNextWant", fn := fun _ => fun
  | [d1, d2] => { results := [.lit (.bool false)], args := [d1, d2] }
  | _ => none }
def FnExactNextWantWrongFalsely : Prop := fnExactNextWantRow.holds Try.pinned (OpenSpec.ofChange fnExactNextWantWrong)

/-- 'laws.FnExactInOrder': WHATEVER THE INPUT: true; the input reads as it did. -/
def fnExactInOrderSpec : ChangeSpec := { name := "fnExactInOrder", fn := fun _ => fun
  | [d1, d2] => { results := [.lit (.bool true)], args := [d1, d2] }
  | _ => none }
def fnExactInOrderRow : OpenClaim := { program := "ytognfnfbmbfidaa", sum := "16f5002d0aa7979d10280b9d982cdc0774dabae9c15331ded2d1fc918b18d37b", func := "loop.example/g00771/laws.FnExactInOrder", spec := "fnExactInOrder", apart := false }
def FnExactInOrderSaid : Prop := fnExactInOrderRow.holds Try.pinned (OpenSpec.ofChange fnExactInOrderSpec)

/-- ITS FALSE NEIGHBOUR: 'it returns false'. Refute it at one input. -/
def fnExactInOrderWrong : ChangeSpec := { name := "fnExactInOrder", fn := fun _ => fun
  | [d1, d2] => { results := [.lit (.bool false)], args := [d1, d2] }
  | _ => none }
def FnExactInOrderWrongFalsely : Prop := fnExactInOrderRow.holds Try.pinned (OpenSpec.ofChange fnExactInOrderWrong)

/- THE SECOND FORM. 'bulk': how many values and letters a reading holds, each counted each time it is reached (what is shared counts as often as it is met; a slice's spare places count too). A statement '..UptoSaid' is the law's where the arguments, and the package variables that the reading takes, are together of bulk at most 1048576: NARROWER than '..Said'. Prove '..Said' where nothing that the law and all that it calls make is longer than what came in: it says more and counts as full. Else prove '..UptoSaid'. A law counts once. -/
mutual
def uptoBulk {H : Type} : DataW H → Nat
  | .lit (.string bytes) => bytes.length + 1
  | .lit _ => 1
  | .nil => 1
  | .ptr d => uptoBulk d + 1
  | .slice elems spare => uptoBulkAll elems + uptoBulkAll spare + 1
  | .agg parts => uptoBulkAll parts + 1
  | .iface _ d => uptoBulk d + 1
  | .map entries => uptoBulkEntries entries + 1
  | .held _ => 1
def uptoBulkAll {H : Type} : List (DataW H) → Nat
  | [] => 0
  | d :: r => uptoBulk d + uptoBulkAll r
def uptoBulkEntries {H : Type} : List (Lit × DataW H) → Nat
  | [] => 0
  | x :: r => uptoBulkEntry x + uptoBulkEntries r
def uptoBulkEntry {H : Type} : Lit × DataW H → Nat
  | (.string bytes, d) => bytes.length + uptoBulk d + 1
  | (_, d) => uptoBulk d + 1
 end
def uptoSmall : (H : Type) → List (DataW H) → Bool := fun _ ds => decide (uptoBulkAll ds ≤ 1048576)
def OpenSpec.upto (s : _root_.Go.ChangeSpec) : _root_.Go.OpenSpec := { _root_.Go.OpenSpec.ofChange s with cond := some uptoSmall }

/-- 'laws.FnWants', WHERE WHAT IT READS IS OF BULK AT MOST 1048576: true; the input reads as it did. -/
def fnWantsUptoRow : OpenClaim := { program := "ytognfnfbmbfidaa", sum := "16f5002d0aa7979d10280b9d982cdc0774dabae9c15331ded2d1fc918b18d37b", func := "loop.example/g00771/laws.FnWants", spec := "fnWants", unfollowed := true, recurses := true, apart := false, narrowed := true }
def FnWantsUptoSaid : Prop := fnWantsUptoRow.holds Try.pinned (OpenSpec.upto fnWantsSpec)

/-- 'laws.FnExactHeatOk', WHERE WHAT IT READS IS OF BULK AT MOST 1048576: true; the input reads as it did. -/
def fnExactHeatOkUptoRow : OpenClaim := { program := "ytognfnfbmbfidaa", sum := "16f5002d0aa7979d10280b9d982cdc0774dabae9c15331ded2d1fc918b18d37b", func := "loop.example/g00771/laws.FnExactHeatOk", spec := "fnExactHeatOk", apart := false, narrowed := true }
def FnExactHeatOkUptoSaid : Prop := fnExactHeatOkUptoRow.holds Try.pinned (OpenSpec.upto fnExactHeatOkSpec)

/-- 'laws.FnExactWarmKey', WHERE WHAT IT READS IS OF BULK AT MOST 1048576: true; the input reads as it did. -/
def fnExactWarmKeyUptoRow : OpenClaim := { program := "ytognfnfbmbfidaa", sum := "16f5002d0aa7979d10280b9d982cdc0774dabae9c15331ded2d1fc918b18d37b", func := "loop.example/g00771/laws.FnExactWarmKey", spec := "fnExactWarmKey", apart := false, narrowed := true }
def FnExactWarmKeyUptoSaid : Prop := fnExactWarmKeyUptoRow.holds Try.pinned (OpenSpec.upto fnExactWarmKeySpec)

/-- 'laws.FnExactCoolAll', WHERE WHAT IT READS IS OF BULK AT MOST 1048576: true; the input reads as it did. -/
def fnExactCoolAllUptoRow : OpenClaim := { program := "ytognfnfbmbfidaa", sum := "16f5002d0aa7979d10280b9d982cdc0774dabae9c15331ded2d1fc918b18d37b", func := "loop.example/g00771/laws.FnExactCoolAll", spec := "fnExactCoolAll", apart := false, narrowed := true }
def FnExactCoolAllUptoSaid : Prop := fnExactCoolAllUptoRow.holds Try.pinned (OpenSpec.upto fnExactCoolAllSpec)

/-- 'laws.FnExactHotKeys', WHERE WHAT IT READS IS OF BULK AT MOST 1048576: true; the input reads as it did. -/
def fnExactHotKeysUptoRow : OpenClaim := { program := "ytognfnfbmbfidaa", sum := "16f5002d0aa7979d10280b9d982cdc0774dabae9c15331ded2d1fc918b18d37b", func := "loop.example/g00771/laws.FnExactHotKeys", spec := "fnExactHotKeys", apart := false, narrowed := true }
def FnExactHotKeysUptoSaid : Prop := fnExactHotKeysUptoRow.holds Try.pinned (OpenSpec.upto fnExactHotKeysSpec)

/-- 'laws.FnExactWantsOk', WHERE WHAT IT READS IS OF BULK AT MOST 1048576: true; the input reads as it did. -/
def fnExactWantsOkUptoRow : OpenClaim := { program := "ytognfnfbmbfidaa", sum := "16f5002d0aa7979d10280b9d982cdc0774dabae9c15331ded2d1fc918b18d37b", func := "loop.example/g00771/laws.FnExactWantsOk", spec := "fnExactWantsOk", apart := false, narrowed := true }
def FnExactWantsOkUptoSaid : Prop := fnExactWantsOkUptoRow.holds Try.pinned (OpenSpec.upto fnExactWantsOkSpec)

/-- 'laws.FnExactWantsOf', WHERE WHAT IT READS IS OF BULK AT MOST 1048576: true; the input reads as it did. -/
def fnExactWantsOfUptoRow : OpenClaim := { program := "ytognfnfbmbfidaa", sum := "16f5002d0aa7979d10280b9d982cdc0774dabae9c15331ded2d1fc918b18d37b", func := "loop.example/g00771/laws.FnExactWantsOf", spec := "fnExactWantsOf", apart := false, narrowed := true }
def FnExactWantsOfUptoSaid : Prop := fnExactWantsOfUptoRow.holds Try.pinned (OpenSpec.upto fnExactWantsOfSpec)

/-- 'laws.FnExactMergeWants', WHERE WHAT IT READS IS OF BULK AT MOST 1048576: true; the input reads as it did. -/
def fnExactMergeWantsUptoRow : OpenClaim := { program := "ytognfnfbmbfidaa", sum := "16f5002d0aa7979d10280b9d982cdc0774dabae9c15331ded2d1fc918b18d37b", func := "loop.example/g00771/laws.FnExactMergeWants", spec := "fnExactMergeWants", unfollowed := true, recurses := true, apart := false, narrowed := true }
def FnExactMergeWantsUptoSaid : Prop := fnExactMergeWantsUptoRow.holds Try.pinned (OpenSpec.upto fnExactMergeWantsSpec)

/-- 'laws.FnExactCoversWants', WHERE WHAT IT READS IS OF BULK AT MOST 1048576: true; the input reads as it did. -/
def fnExactCoversWantsUptoRow : OpenClaim := { program := "ytognfnfbmbfidaa", sum := "16f5002d0aa7979d10280b9d982cdc0774dabae9c15331ded2d1fc918b18d37b", func := "loop.example/g00771/laws.FnExactCoversWants", spec := "fnExactCoversWants", unfollowed := true, recurses := true, apart := false, narrowed := true }
def FnExactCoversWantsUptoSaid : Prop := fnExactCoversWantsUptoRow.holds Try.pinned (OpenSpec.upto fnExactCoversWantsSpec)

/-- 'laws.FnExactNextWant', WHERE WHAT IT READS IS OF BULK AT MOST 1048576: true; the input reads as it did. -/
def fnExactNextWantUptoRow : OpenClaim := { program := "ytognfnfbmbfidaa", sum := "16f5002d0aa7979d10280b9d982cdc0774dabae9c15331ded2d1fc918b18d37b", func := "loop.example/g00771/laws.FnExactNextWant", spec := "fnExactNextWant", apart := false, narrowed := true }
def FnExactNextWantUptoSaid : Prop := fnExactNextWantUptoRow.holds Try.pinned (OpenSpec.upto fnExactNextWantSpec)

/-- 'laws.FnExactInOrder', WHERE WHAT IT READS IS OF BULK AT MOST 1048576: true; the input reads as it did. -/
def fnExactInOrderUptoRow : OpenClaim := { program := "ytognfnfbmbfidaa", sum := "16f5002d0aa7979d10280b9d982cdc0774dabae9c15331ded2d1fc918b18d37b", func := "loop.example/g00771/laws.FnExactInOrder", spec := "fnExactInOrder", apart := false, narrowed := true }
def FnExactInOrderUptoSaid : Prop := fnExactInOrderUptoRow.holds Try.pinned (OpenSpec.upto fnExactInOrderSpec)

end Rows
end Go.Proofs.Ytognfnfbmbfidaa
