/-
  No cell of these rows narrows 'for every input' (looked for: loops, veiled, ifaces, maps, wideKeys, modest, calm, conditions, laid).
  DERIVED. THE GIVEN ROWS OF THIS SEAT. 9 by the template 'for every input the law returns true; each argument reads behind the call as it read before'; 0 by the template 'total and deterministic' (their statements: YtmdonjkkpkcpnaaTotals.lean).
  GIVEN WITH THE SEED: the statements are not yours to turn. If you find one false, say at which input.
  Laid BY PROGRAM, IN A SANDBOX (cutbox-rows.mjs): the forced cells as the released guide's own fill.sh prints them over the translation c3b93ddb4a658e7d… (all of the seat's roots in one cut). By AI agents, Wed Nov 11 2026. No macro, syntax, notation, axiom, sorry.
-/
import Derived.Test.YtmdonjkkpkcpnaaChecked
import GoSem.Claim
import GoSem.ClaimJoined
import GoSem.ClaimMapViews
import Derived.JoinedTies
import Derived.KernelRfl
namespace Go.Proofs.Ytmdonjkkpkcpnaa
/- THE CELL 'sum', in the pinned program and in every row, IS THE sha256 OF THE DUMP (.gsa) THAT YtmdonjkkpkcpnaaProg.lean LOADS. Nothing in Lean hashes anything: it is a label: what it is worth is what the hold of that sum in a sandbox is worth. -/
noncomputable def Try.pinned : Pinned := { name := "ytmdonjkkpkcpnaa", sum := "c3b93ddb4a658e7d8de65d89b584633ec5cbe40097c1f8f8d1e559b3d1e6ada1", checked := Try.checked }
namespace Rows
def none {H : Type} : Left H := { results := [], args := [] }

/-- 'laws.FnLocks': WHATEVER THE INPUT: true; the input reads as it did. -/
def fnLocksSpec : ChangeSpec := { name := "fnLocks", fn := fun _ => fun
  | [d] => { results := [.lit (.bool true)], args := [d] }
  | _ => none }
def fnLocksRow : OpenClaim := { program := "ytmdonjkkpkcpnaa", sum := "c3b93ddb4a658e7d8de65d89b584633ec5cbe40097c1f8f8d1e559b3d1e6ada1", func := "loop.example/g00771/laws.FnLocks", spec := "fnLocks", unfollowed := true, recurses := true, apart := false }
def FnLocksSaid : Prop := fnLocksRow.holds Try.pinned (OpenSpec.ofChange fnLocksSpec)

/-- ITS FALSE NEIGHBOUR: 'it returns false'. Refute it at one input. -/
def fnLocksWrong : ChangeSpec := { name := "fnLocks", fn := fun _ => fun
  | [d] => { results := [.lit (.bool false)], args := [d] }
  | _ => none }
def FnLocksWrongFalsely : Prop := fnLocksRow.holds Try.pinned (OpenSpec.ofChange fnLocksWrong)

/-- 'laws.FnExactLockOk': WHATEVER THE INPUT: true; the input reads as it did. -/
def fnExactLockOkSpec : ChangeSpec := { name := "fnExactLockOk", fn := fun _ => fun
  | [d] => { results := [.lit (.bool true)], args := [d] }
  | _ => none }
def fnExactLockOkRow : OpenClaim := { program := "ytmdonjkkpkcpnaa", sum := "c3b93ddb4a658e7d8de65d89b584633ec5cbe40097c1f8f8d1e559b3d1e6ada1", func := "loop.example/g00771/laws.FnExactLockOk", spec := "fnExactLockOk", unfollowed := true, recurses := true, apart := false }
def FnExactLockOkSaid : Prop := fnExactLockOkRow.holds Try.pinned (OpenSpec.ofChange fnExactLockOkSpec)

/-- ITS FALSE NEIGHBOUR: 'it returns false'. Refute it at one input. -/
def fnExactLockOkWrong : ChangeSpec := { name := "fnExactLockOk", fn := fun _ => fun
  | [d] => { results := [.lit (.bool false)], args := [d] }
  | _ => none }
def FnExactLockOkWrongFalsely : Prop := fnExactLockOkRow.holds Try.pinned (OpenSpec.ofChange fnExactLockOkWrong)

/-- 'laws.FnExactAskLock': WHATEVER THE INPUT: true; the input reads as it did. -/
def fnExactAskLockSpec : ChangeSpec := { name := "fnExactAskLock", fn := fun _ => fun
  | [d1, d2, d3] => { results := [.lit (.bool true)], args := [d1, d2, d3] }
  | _ => none }
def fnExactAskLockRow : OpenClaim := { program := "ytmdonjkkpkcpnaa", sum := "c3b93ddb4a658e7d8de65d89b584633ec5cbe40097c1f8f8d1e559b3d1e6ada1", func := "loop.example/g00771/laws.FnExactAskLock", spec := "fnExactAskLock", unfollowed := true, recurses := true, apart := false }
def FnExactAskLockSaid : Prop := fnExactAskLockRow.holds Try.pinned (OpenSpec.ofChange fnExactAskLockSpec)

/-- ITS FALSE NEIGHBOUR: 'it returns false'. Refute it at one input. -/
def fnExactAskLockWrong : ChangeSpec := { name := "fnExactAskLock", fn := fun _ => fun
  | [d1, d2, d3] => { results := [.lit (.bool false)], args := [d1, d2, d3] }
  | _ => none }
def FnExactAskLockWrongFalsely : Prop := fnExactAskLockRow.holds Try.pinned (OpenSpec.ofChange fnExactAskLockWrong)

/-- 'laws.FnExactTryLock': WHATEVER THE INPUT: true; the input reads as it did. -/
def fnExactTryLockSpec : ChangeSpec := { name := "fnExactTryLock", fn := fun _ => fun
  | [d1, d2, d3] => { results := [.lit (.bool true)], args := [d1, d2, d3] }
  | _ => none }
def fnExactTryLockRow : OpenClaim := { program := "ytmdonjkkpkcpnaa", sum := "c3b93ddb4a658e7d8de65d89b584633ec5cbe40097c1f8f8d1e559b3d1e6ada1", func := "loop.example/g00771/laws.FnExactTryLock", spec := "fnExactTryLock", unfollowed := true, recurses := true, apart := false }
def FnExactTryLockSaid : Prop := fnExactTryLockRow.holds Try.pinned (OpenSpec.ofChange fnExactTryLockSpec)

/-- ITS FALSE NEIGHBOUR: 'it returns false'. Refute it at one input. -/
def fnExactTryLockWrong : ChangeSpec := { name := "fnExactTryLock", fn := fun _ => fun
  | [d1, d2, d3] => { results := [.lit (.bool false)], args := [d1, d2, d3] }
  | _ => none }
def FnExactTryLockWrongFalsely : Prop := fnExactTryLockRow.holds Try.pinned (OpenSpec.ofChange fnExactTryLockWrong)

/-- 'laws.FnExactLeaveLock': WHATEVER THE INPUT: true; the input reads as it did. -/
def fnExactLeaveLockSpec : ChangeSpec := { name := "fnExactLeaveLock", fn := fun _ => fun
  | [d1, d2] => { results := [.lit (.bool true)], args := [d1, d2] }
  | _ => none }
def fnExactLeaveLockRow : OpenClaim := { program := "ytmdonjkkpkcpnaa", sum := "c3b93ddb4a658e7d8de65d89b584633ec5cbe40097c1f8f8d1e559b3d1e6ada1", func := "loop.example/g00771/laws.FnExactLeaveLock", spec := "fnExactLeaveLock", unfollowed := true, recurses := true, apart := false }
def FnExactLeaveLockSaid : Prop := fnExactLeaveLockRow.holds Try.pinned (OpenSpec.ofChange fnExactLeaveLockSpec)

/-- ITS FALSE NEIGHBOUR: 'it returns false'. Refute it at one input. -/
def fnExactLeaveLockWrong : ChangeSpec := { name := "fnExactLeaveLock", fn := fun _ => fun
  | [d1, d2] => { results := [.lit (.bool false)], args := [d1, d2] }
  | _ => none }
def FnExactLeaveLockWrongFalsely : Prop := fnExactLeaveLockRow.holds Try.pinned (OpenSpec.ofChange fnExactLeaveLockWrong)

/-- 'laws.FnExactHoldsLock': WHATEVER THE INPUT: true; the input reads as it did. -/
def fnExactHoldsLockSpec : ChangeSpec := { name := "fnExactHoldsLock", fn := fun _ => fun
  | [d1, d2] => { results := [.lit (.bool true)], args := [d1, d2] }
  | _ => none }
def fnExactHoldsLockRow : OpenClaim := { program := "ytmdonjkkpkcpnaa", sum := "c3b93ddb4a658e7d8de65d89b584633ec5cbe40097c1f8f8d1e559b3d1e6ada1", func := "loop.example/g00771/laws.FnExactHoldsLock", spec := "fnExactHoldsLock", unfollowed := true, recurses := true, apart := false }
def FnExactHoldsLockSaid : Prop := fnExactHoldsLockRow.holds Try.pinned (OpenSpec.ofChange fnExactHoldsLockSpec)

/-- ITS FALSE NEIGHBOUR: 'it returns false'. Refute it at one input. -/
def fnExactHoldsLockWrong : ChangeSpec := { name := "fnExactHoldsLock", fn := fun _ => fun
  | [d1, d2] => { results := [.lit (.bool false)], args := [d1, d2] }
  | _ => none }
def FnExactHoldsLockWrongFalsely : Prop := fnExactHoldsLockRow.holds Try.pinned (OpenSpec.ofChange fnExactHoldsLockWrong)

/-- 'laws.FnExactFreeFor': WHATEVER THE INPUT: true; the input reads as it did. -/
def fnExactFreeForSpec : ChangeSpec := { name := "fnExactFreeFor", fn := fun _ => fun
  | [d1, d2, d3] => { results := [.lit (.bool true)], args := [d1, d2, d3] }
  | _ => none }
def fnExactFreeForRow : OpenClaim := { program := "ytmdonjkkpkcpnaa", sum := "c3b93ddb4a658e7d8de65d89b584633ec5cbe40097c1f8f8d1e559b3d1e6ada1", func := "loop.example/g00771/laws.FnExactFreeFor", spec := "fnExactFreeFor", unfollowed := true, recurses := true, apart := false }
def FnExactFreeForSaid : Prop := fnExactFreeForRow.holds Try.pinned (OpenSpec.ofChange fnExactFreeForSpec)

/-- ITS FALSE NEIGHBOUR: 'it returns false'. Refute it at one input. -/
def fnExactFreeForWrong : ChangeSpec := { name := "fnExactFreeFor", fn := fun _ => fun
  | [d1, d2, d3] => { results := [.lit (.bool false)], args := [d1, d2, d3] }
  | _ => none }
def FnExactFreeForWrongFalsely : Prop := fnExactFreeForRow.holds Try.pinned (OpenSpec.ofChange fnExactFreeForWrong)

/-- 'laws.FnExactPlayLock': WHATEVER THE INPUT: true; the input reads as it did. -/
def fnExactPlayLockSpec : ChangeSpec := { name := "fnExactPlayLock", fn := fun _ => fun
  | [d] => { results := [.lit (.bool true)], args := [d] }
  | _ => none }
def fnExactPlayLockRow : OpenClaim := { program := "ytmdonjkkpkcpnaa", sum := "c3b93ddb4a658e7d8de65d89b584633ec5cbe40097c1f8f8d1e559b3d1e6ada1", func := "loop.example/g00771/laws.FnExactPlayLock", spec := "fnExactPlayLock", unfollowed := true, recurses := true, apart := false }
def FnExactPlayLockSaid : Prop := fnExactPlayLockRow.holds Try.pinned (OpenSpec.ofChange fnExactPlayLockSpec)

/-- ITS FALSE NEIGHBOUR: 'it returns false'. Refute it at one input. -/
def fnExactPlayLockWrong : ChangeSpec := { name := "fnExactPlayLock", fn := fun _ => fun
  | [d] => { results := [.lit (.bool false)], args := [d] }
  | _ => none }
def FnExactPlayLockWrongFalsely : Prop := fnExactPlayLockRow.holds Try.pinned (OpenSpec.ofChange fnExactPlayLockWrong)

/-- 'laws.FnExactQueueOf': WHATEVER THE INPUT: true; the input reads as it did. -/
def fnExactQueueOfSpec : ChangeSpec := { name := "fnExactQueueOf", fn := fun _ => fun
  | [d] => { results := [.lit (.bool true)], args := [d] }
  | _ => none }
def fnExactQueueOfRow : OpenClaim := { program := "ytmdonjkkpkcpnaa", sum := "c3b93ddb4a658e7d8de65d89b584633ec5cbe40097c1f8f8d1e559b3d1e6ada1", func := "loop.example/g00771/laws.FnExactQueueOf", spec := "fnExactQueueOf", unfollowed := true, recurses := true, apart := false }
def FnExactQueueOfSaid : Prop := fnExactQueueOfRow.holds Try.pinned (OpenSpec.ofChange fnExactQueueOfSpec)

/-- ITS FALSE NEIGHBOUR: 'it returns false'. Refute it at one input. -/
def fnExactQueueOfWrong : ChangeSpec := { name := "fnExactQueueOf", fn := fun _ => fun
  | [d] => { results := [.lit (.bool false)], args := [d] }
  | _ => none }
def FnExactQueueOfWrongFalsely : Prop := fnExactQueueOfRow.holds Try.pinned (OpenSpec.ofChange fnExactQueueOfWrong)

/- THE SECOND FORM. 'bulk': how many values and letters a reading holds, each counted each time it is reached (what is shared counts as often as it is met; a slice's spare places count too). A statement '..UptoSaid' is the law's where the arguments, and the package variables that the reading takes, are together of bulk at most 1048576: NARROWER than '..Said'. Prove '..Said' where nothing that the law and all that it calls make is longer than what came in: it says more and counts as full. Else prove '..UptoSaid'. A law counts once. -/
mutual
def uptoBulk {H : Type} : DataW H → Nat
  | .lit (.string bytes) => bytes.length + 1
  | .lit _ => 1
  | .nil => 1
  | .ptr d => uptoBulk d + 1
  | .slice elems spare => uptoBulkAll elems + uptoBulkAll spare + 1
  | .agg parts => uptoBulkAll parts + 1
  | .iface _ d => uptoBulk d + 1
  | .map entries => uptoBulkEntries entries + 1
  | .held _ => 1
def uptoBulkAll {H : Type} : List (DataW H) → Nat
  | [] => 0
  | d :: r => uptoBulk d + uptoBulkAll r
def uptoBulkEntries {H : Type} : List (Lit × DataW H) → Nat
  | [] => 0
  | x :: r => uptoBulkEntry x + uptoBulkEntries r
def uptoBulkEntry {H : Type} : Lit × DataW H → Nat
  | (.string bytes, d) => bytes.length + uptoBulk d + 1
  | (_, d) => uptoBulk d + 1
 end
def uptoSmall : (H : Type) → List (DataW H) → Bool := fun _ ds => decide (uptoBulkAll ds ≤ 1048576)
def OpenSpec.upto (s : _root_.Go.ChangeSpec) : _root_.Go.OpenSpec := { _root_.Go.OpenSpec.ofChange s with cond := some uptoSmall }

/-- 'laws.FnLocks', WHERE WHAT IT READS IS OF BULK AT MOST 1048576: true; the input reads as it did. -/
def fnLocksUptoRow : OpenClaim := { program := "ytmdonjkkpkcpnaa", sum := "c3b93ddb4a658e7d8de65d89b584633ec5cbe40097c1f8f8d1e559b3d1e6ada1", func := "loop.example/g00771/laws.FnLocks", spec := "fnLocks", unfollowed := true, recurses := true, apart := false, narrowed := true }
def FnLocksUptoSaid : Prop := fnLocksUptoRow.holds Try.pinned (OpenSpec.upto fnLocksSpec)

/-- 'laws.FnExactLockOk', WHERE WHAT IT READS IS OF BULK AT MOST 1048576: true; the input reads as it did. -/
def fnExactLockOkUptoRow : OpenClaim := { program := "ytmdonjkkpkcpnaa", sum := "c3b93ddb4a658e7d8de65d89b584633ec5cbe40097c1f8f8d1e559b3d1e6ada1", func := "loop.example/g00771/laws.FnExactLockOk", spec := "fnExactLockOk", unfollowed := true, recurses := true, apart := false, narrowed := true }
def FnExactLockOkUptoSaid : Prop := fnExactLockOkUptoRow.holds Try.pinned (OpenSpec.upto fnExactLockOkSpec)

/-- 'laws.FnExactAskLock', WHERE WHAT IT READS IS OF BULK AT MOST 1048576: true; the input reads as it did. -/
def fnExactAskLockUptoRow : OpenClaim := { program := "ytmdonjkkpkcpnaa", sum := "c3b93ddb4a658e7d8de65d89b584633ec5cbe40097c1f8f8d1e559b3d1e6ada1", func := "loop.example/g00771/laws.FnExactAskLock", spec := "fnExactAskLock", unfollowed := true, recurses := true, apart := false, narrowed := true }
def FnExactAskLockUptoSaid : Prop := fnExactAskLockUptoRow.holds Try.pinned (OpenSpec.upto fnExactAskLockSpec)

/-- 'laws.FnExactTryLock', WHERE WHAT IT READS IS OF BULK AT MOST 1048576: true; the input reads as it did. -/
def fnExactTryLockUptoRow : OpenClaim := { program := "ytmdonjkkpkcpnaa", sum := "c3b93ddb4a658e7d8de65d89b584633ec5cbe40097c1f8f8d1e559b3d1e6ada1", func := "loop.example/g00771/laws.FnExactTryLock", spec := "fnExactTryLock", unfollowed := true, recurses := true, apart := false, narrowed := true }
def FnExactTryLockUptoSaid : Prop := fnExactTryLockUptoRow.holds Try.pinned (OpenSpec.upto fnExactTryLockSpec)

/-- 'laws.FnExactLeaveLock', WHERE WHAT IT READS IS OF BULK AT MOST 1048576: true; the input reads as it did. -/
def fnExactLeaveLockUptoRow : OpenClaim := { program := "ytmdonjkkpkcpnaa", sum := "c3b93ddb4a658e7d8de65d89b584633ec5cbe40097c1f8f8d1e559b3d1e6ada1", func := "loop.example/g00771/laws.FnExactLeaveLock", spec := "fnExactLeaveLock", unfollowed := true, recurses := true, apart := false, narrowed := true }
def FnExactLeaveLockUptoSaid : Prop := fnExactLeaveLockUptoRow.holds Try.pinned (OpenSpec.upto fnExactLeaveLockSpec)

/-- 'laws.FnExactHoldsLock', WHERE WHAT IT READS IS OF BULK AT MOST 1048576: true; the input reads as it did. -/
def fnExactHoldsLockUptoRow : OpenClaim := { program := "ytmdonjkkpkcpnaa", sum := "c3b93ddb4a658e7d8de65d89b584633ec5cbe40097c1f8f8d1e559b3d1e6ada1", func := "loop.example/g00771/laws.FnExactHoldsLock", spec := "fnExactHoldsLock", unfollowed := true, recurses := true, apart := false, narrowed := true }
def FnExactHoldsLockUptoSaid : Prop := fnExactHoldsLockUptoRow.holds Try.pinned (OpenSpec.upto fnExactHoldsLockSpec)

/-- 'laws.FnExactFreeFor', WHERE WHAT IT READS IS OF BULK AT MOST 1048576: true; the input reads as it did. -/
def fnExactFreeForUptoRow : OpenClaim := { program := "ytmdonjkkpkcpnaa", sum := "c3b93ddb4a658e7d8de65d89b584633ec5cbe40097c1f8f8d1e559b3d1e6ada1", func := "loop.example/g00771/laws.FnExactFreeFor", spec := "fnExactFreeFor", unfollowed := true, recurses := true, apart := false, narrowed := true }
def FnExactFreeForUptoSaid : Prop := fnExactFreeForUptoRow.holds Try.pinned (OpenSpec.upto fnExactFreeForSpec)

/-- 'laws.FnExactPlayLock', WHERE WHAT IT READS IS OF BULK AT MOST 1048576: true; the input reads as it did. -/
def fnExactPlayLockUptoRow : OpenClaim := { program := "ytmdonjkkpkcpnaa", sum := "c3b93ddb4a658e7d8de65d89b584633ec5cbe40097c1f8f8d1e559b3d1e6ada1", func := "loop.example/g00771/laws.FnExactPlayLock", spec := "fnExactPlayLock", unfollowed := true, recurses := true, apart := false, narrowed := true }
def FnExactPlayLockUptoSaid : Prop := fnExactPlayLockUptoRow.holds Try.pinned (OpenSpec.upto fnExactPlayLockSpec)

/-- 'laws.FnExactQueueOf', WHERE WHAT IT READS IS OF BULK AT MOST 1048576: true; the input reads as it did. -/
def fnExactQueueOfUptoRow : OpenClaim := { program := "ytmdonjkkpkcpnaa", sum := "c3b93ddb4a658e7d8de65d89b584633ec5cbe40097c1f8f8d1e559b3d1e6ada1", func := "loop.example/g00771/laws.FnExactQueueOf", spec := "fnExactQueueOf", unfollowed := true, recurses := true, apart := false, narrowed := true }
def FnExactQueueOfUptoSaid : Prop := fnExactQueueOfUptoRow.holds Try.pinned (OpenSpec.upto fnExactQueueOfSpec)

end Rows
end Go.Proofs.Ytmdonjkkpkcpnaa
