/-
  No cell of these rows narrows 'for every input' (looked for: loops, veiled, ifaces, maps, wideKeys, modest, calm, conditions, laid).
  DERIVED. THE GIVEN ROWS OF THIS SEAT. 7 by the template 'for every input the law returns true; each argument reads behind the call as it read before'; 0 by the template 'total and deterministic' (their statements: YtilgfcbjonalaaaTotals.lean).
  GIVEN WITH THE SEED: the statements are not yours to turn. If you find one false, say at which input.
  Laid BY PROGRAM, IN A SANDBOX (cutbox-rows.mjs): the forced cells as the released guide's own fill.sh prints them over the translation 1d618911e65b341a… (all of the seat's roots in one cut). By AI agents, Wed Nov 11 2026. No macro, syntax, notation, axiom, sorry.
-/
import Derived.Test.YtilgfcbjonalaaaChecked
import GoSem.Claim
import GoSem.ClaimJoined
import GoSem.ClaimMapViews
import Derived.JoinedTies
import Derived.KernelRfl
namespace Go.Proofs.Ytilgfcbjonalaaa
/- THE CELL 'sum', in the pinned program and in every row, IS THE sha256 OF THE DUMP (.gsa) THAT YtilgfcbjonalaaaProg.lean LOADS. Nothing in Lean hashes anything: it is a label: what it is worth is what the hold of that sum in a sandbox is worth. -/
noncomputable def Try.pinned : Pinned := { name := "ytilgfcbjonalaaa", sum := "1d618911e65b341abf01373c7bd8e4f5156ea7fbc05889e7d0f2fd7571875cb7", checked := Try.checked }
namespace Rows
def none {H : Type} : Left H := { results := [], args := [] }

/-- 'laws.FnExactWordOk': WHATEVER THE INPUT: true; the input reads as it did. -/
def fnExactWordOkSpec : ChangeSpec := { name := "fnExactWordOk", fn := fun _ => fun
  | [d] => { results := [.lit (.bool true)], args := [d] }
  | _ => none }
def fnExactWordOkRow : OpenClaim := { program := "ytilgfcbjonalaaa", sum := "1d618911e65b341abf01373c7bd8e4f5156ea7fbc05889e7d0f2fd7571875cb7", func := "loop.example/g00771/laws.FnExactWordOk", spec := "fnExactWordOk", apart := false }
def FnExactWordOkSaid : Prop := fnExactWordOkRow.holds Try.pinned (OpenSpec.ofChange fnExactWordOkSpec)

/-- ITS FALSE NEIGHBOUR: 'it returns false'. Refute it at one input. -/
def fnExactWordOkWrong : ChangeSpec := { name := "fnExactWordOk", fn := fun _ => fun
  | [d] => { results := [.lit (.bool false)], args := [d] }
  | _ => none }
def FnExactWordOkWrongFalsely : Prop := fnExactWordOkRow.holds Try.pinned (OpenSpec.ofChange fnExactWordOkWrong)

/-- 'laws.FnExactPackWord': WHATEVER THE INPUT: true; the input reads as it did. -/
def fnExactPackWordSpec : ChangeSpec := { name := "fnExactPackWord", fn := fun _ => fun
  | [d] => { results := [.lit (.bool true)], args := [d] }
  | _ => none }
def fnExactPackWordRow : OpenClaim := { program := "ytilgfcbjonalaaa", sum := "1d618911e65b341abf01373c7bd8e4f5156ea7fbc05889e7d0f2fd7571875cb7", func := "loop.example/g00771/laws.FnExactPackWord", spec := "fnExactPackWord", apart := false }
def FnExactPackWordSaid : Prop := fnExactPackWordRow.holds Try.pinned (OpenSpec.ofChange fnExactPackWordSpec)

/-- ITS FALSE NEIGHBOUR: 'it returns false'. Refute it at one input. -/
def fnExactPackWordWrong : ChangeSpec := { name := "fnExactPackWord", fn := fun _ => fun
  | [d] => { results := [.lit (.bool false)], args := [d] }
  | _ => none }
def FnExactPackWordWrongFalsely : Prop := fnExactPackWordRow.holds Try.pinned (OpenSpec.ofChange fnExactPackWordWrong)

/-- 'laws.FnExactUnpackWord': WHATEVER THE INPUT: true; the input reads as it did. -/
def fnExactUnpackWordSpec : ChangeSpec := { name := "fnExactUnpackWord", fn := fun _ => fun
  | [d] => { results := [.lit (.bool true)], args := [d] }
  | _ => none }
def fnExactUnpackWordRow : OpenClaim := { program := "ytilgfcbjonalaaa", sum := "1d618911e65b341abf01373c7bd8e4f5156ea7fbc05889e7d0f2fd7571875cb7", func := "loop.example/g00771/laws.FnExactUnpackWord", spec := "fnExactUnpackWord", apart := false }
def FnExactUnpackWordSaid : Prop := fnExactUnpackWordRow.holds Try.pinned (OpenSpec.ofChange fnExactUnpackWordSpec)

/-- ITS FALSE NEIGHBOUR: 'it returns false'. Refute it at one input. -/
def fnExactUnpackWordWrong : ChangeSpec := { name := "fnExactUnpackWord", fn := fun _ => fun
  | [d] => { results := [.lit (.bool false)], args := [d] }
  | _ => none }
def FnExactUnpackWordWrongFalsely : Prop := fnExactUnpackWordRow.holds Try.pinned (OpenSpec.ofChange fnExactUnpackWordWrong)

/-- 'laws.FnExactLaterWord': WHATEVER THE INPUT: true; the input reads as it did. -/
def fnExactLaterWordSpec : ChangeSpec := { name := "fnExactLaterWord", fn := fun _ => fun
  | [d1, d2] => { results := [.lit (.bool true)], args := [d1, d2] }
  | _ => none }
def fnExactLaterWordRow : OpenClaim := { program := "ytilgfcbjonalaaa", sum := "1d618911e65b341abf01373c7bd8e4f5156ea7fbc05889e7d0f2fd7571875cb7", func := "loop.example/g00771/laws.FnExactLaterWord", spec := "fnExactLaterWord", inPlace := ["math.Float64frombits", "math.Float64bits"], apart := false }
def FnExactLaterWordSaid : Prop := fnExactLaterWordRow.holds Try.pinned (OpenSpec.ofChange fnExactLaterWordSpec)

/-- ITS FALSE NEIGHBOUR: 'it returns false'. Refute it at one input. -/
def fnExactLaterWordWrong : ChangeSpec := { name := "fnExactLaterWord", fn := fun _ => fun
  | [d1, d2] => { results := [.lit (.bool false)], args := [d1, d2] }
  | _ => none }
def FnExactLaterWordWrongFalsely : Prop := fnExactLaterWordRow.holds Try.pinned (OpenSpec.ofChange fnExactLaterWordWrong)

/-- 'laws.FnExactHoldWord': WHATEVER THE INPUT: true; the input reads as it did. -/
def fnExactHoldWordSpec : ChangeSpec := { name := "fnExactHoldWord", fn := fun _ => fun
  | [d] => { results := [.lit (.bool true)], args := [d] }
  | _ => none }
def fnExactHoldWordRow : OpenClaim := { program := "ytilgfcbjonalaaa", sum := "1d618911e65b341abf01373c7bd8e4f5156ea7fbc05889e7d0f2fd7571875cb7", func := "loop.example/g00771/laws.FnExactHoldWord", spec := "fnExactHoldWord", apart := false }
def FnExactHoldWordSaid : Prop := fnExactHoldWordRow.holds Try.pinned (OpenSpec.ofChange fnExactHoldWordSpec)

/-- ITS FALSE NEIGHBOUR: 'it returns false'. Refute it at one input. -/
def fnExactHoldWordWrong : ChangeSpec := { name := "fnExactHoldWord", fn := fun _ => fun
  | [d] => { results := [.lit (.bool false)], args := [d] }
  | _ => none }
def FnExactHoldWordWrongFalsely : Prop := fnExactHoldWordRow.holds Try.pinned (OpenSpec.ofChange fnExactHoldWordWrong)

/-- 'laws.FnExactFreeWord': WHATEVER THE INPUT: true; the input reads as it did. -/
def fnExactFreeWordSpec : ChangeSpec := { name := "fnExactFreeWord", fn := fun _ => fun
  | [d] => { results := [.lit (.bool true)], args := [d] }
  | _ => none }
def fnExactFreeWordRow : OpenClaim := { program := "ytilgfcbjonalaaa", sum := "1d618911e65b341abf01373c7bd8e4f5156ea7fbc05889e7d0f2fd7571875cb7", func := "loop.example/g00771/laws.FnExactFreeWord", spec := "fnExactFreeWord", apart := false }
def FnExactFreeWordSaid : Prop := fnExactFreeWordRow.holds Try.pinned (OpenSpec.ofChange fnExactFreeWordSpec)

/-- ITS FALSE NEIGHBOUR: 'it returns false'. Refute it at one input. -/
def fnExactFreeWordWrong : ChangeSpec := { name := "fnExactFreeWord", fn := fun _ => fun
  | [d] => { results := [.lit (.bool false)], args := [d] }
  | _ => none }
def FnExactFreeWordWrongFalsely : Prop := fnExactFreeWordRow.holds Try.pinned (OpenSpec.ofChange fnExactFreeWordWrong)

/-- 'laws.FnExactSameVersion': WHATEVER THE INPUT: true; the input reads as it did. -/
def fnExactSameVersionSpec : ChangeSpec := { name := "fnExactSameVersion", fn := fun _ => fun
  | [d1, d2] => { results := [.lit (.bool true)], args := [d1, d2] }
  | _ => none }
def fnExactSameVersionRow : OpenClaim := { program := "ytilgfcbjonalaaa", sum := "1d618911e65b341abf01373c7bd8e4f5156ea7fbc05889e7d0f2fd7571875cb7", func := "loop.example/g00771/laws.FnExactSameVersion", spec := "fnExactSameVersion", inPlace := ["math.Float64frombits"], apart := false }
def FnExactSameVersionSaid : Prop := fnExactSameVersionRow.holds Try.pinned (OpenSpec.ofChange fnExactSameVersionSpec)

/-- ITS FALSE NEIGHBOUR: 'it returns false'. Refute it at one input. -/
def fnExactSameVersionWrong : ChangeSpec := { name := "fnExactSameVersion", fn := fun _ => fun
  | [d1, d2] => { results := [.lit (.bool false)], args := [d1, d2] }
  | _ => none }
def FnExactSameVersionWrongFalsely : Prop := fnExactSameVersionRow.holds Try.pinned (OpenSpec.ofChange fnExactSameVersionWrong)

/- THE SECOND FORM. 'bulk': how many values and letters a reading holds, each counted each time it is reached (what is shared counts as often as it is met; a slice's spare places count too). A statement '..UptoSaid' is the law's where the arguments, and the package variables that the reading takes, are together of bulk at most 1048576: NARROWER than '..Said'. Prove '..Said' where nothing that the law and all that it calls make is longer than what came in: it says more and counts as full. Else prove '..UptoSaid'. A law counts once. -/
mutual
def uptoBulk {H : Type} : DataW H → Nat
  | .lit (.string bytes) => bytes.length + 1
  | .lit _ => 1
  | .nil => 1
  | .ptr d => uptoBulk d + 1
  | .slice elems spare => uptoBulkAll elems + uptoBulkAll spare + 1
  | .agg parts => uptoBulkAll parts + 1
  | .iface _ d => uptoBulk d + 1
  | .map entries => uptoBulkEntries entries + 1
  | .held _ => 1
def uptoBulkAll {H : Type} : List (DataW H) → Nat
  | [] => 0
  | d :: r => uptoBulk d + uptoBulkAll r
def uptoBulkEntries {H : Type} : List (Lit × DataW H) → Nat
  | [] => 0
  | x :: r => uptoBulkEntry x + uptoBulkEntries r
def uptoBulkEntry {H : Type} : Lit × DataW H → Nat
  | (.string bytes, d) => bytes.length + uptoBulk d + 1
  | (_, d) => uptoBulk d + 1
 end
def uptoSmall : (H : Type) → List (DataW H) → Bool := fun _ ds => decide (uptoBulkAll ds ≤ 1048576)
def OpenSpec.upto (s : _root_.Go.ChangeSpec) : _root_.Go.OpenSpec := { _root_.Go.OpenSpec.ofChange s with cond := some uptoSmall }

/-- 'laws.FnExactWordOk', WHERE WHAT IT READS IS OF BULK AT MOST 1048576: true; the input reads as it did. -/
def fnExactWordOkUptoRow : OpenClaim := { program := "ytilgfcbjonalaaa", sum := "1d618911e65b341abf01373c7bd8e4f5156ea7fbc05889e7d0f2fd7571875cb7", func := "loop.example/g00771/laws.FnExactWordOk", spec := "fnExactWordOk", apart := false, narrowed := true }
def FnExactWordOkUptoSaid : Prop := fnExactWordOkUptoRow.holds Try.pinned (OpenSpec.upto fnExactWordOkSpec)

/-- 'laws.FnExactPackWord', WHERE WHAT IT READS IS OF BULK AT MOST 1048576: true; the input reads as it did. -/
def fnExactPackWordUptoRow : OpenClaim := { program := "ytilgfcbjonalaaa", sum := "1d618911e65b341abf01373c7bd8e4f5156ea7fbc05889e7d0f2fd7571875cb7", func := "loop.example/g00771/laws.FnExactPackWord", spec := "fnExactPackWord", apart := false, narrowed := true }
def FnExactPackWordUptoSaid : Prop := fnExactPackWordUptoRow.holds Try.pinned (OpenSpec.upto fnExactPackWordSpec)

/-- 'laws.FnExactUnpackWord', WHERE WHAT IT READS IS OF BULK AT MOST 1048576: true; the input reads as it did. -/
def fnExactUnpackWordUptoRow : OpenClaim := { program := "ytilgfcbjonalaaa", sum := "1d618911e65b341abf01373c7bd8e4f5156ea7fbc05889e7d0f2fd7571875cb7", func := "loop.example/g00771/laws.FnExactUnpackWord", spec := "fnExactUnpackWord", apart := false, narrowed := true }
def FnExactUnpackWordUptoSaid : Prop := fnExactUnpackWordUptoRow.holds Try.pinned (OpenSpec.upto fnExactUnpackWordSpec)

/-- 'laws.FnExactLaterWord', WHERE WHAT IT READS IS OF BULK AT MOST 1048576: true; the input reads as it did. -/
def fnExactLaterWordUptoRow : OpenClaim := { program := "ytilgfcbjonalaaa", sum := "1d618911e65b341abf01373c7bd8e4f5156ea7fbc05889e7d0f2fd7571875cb7", func := "loop.example/g00771/laws.FnExactLaterWord", spec := "fnExactLaterWord", inPlace := ["math.Float64frombits", "math.Float64bits"], apart := false, narrowed := true }
def FnExactLaterWordUptoSaid : Prop := fnExactLaterWordUptoRow.holds Try.pinned (OpenSpec.upto fnExactLaterWordSpec)

/-- 'laws.FnExactHoldWord', WHERE WHAT IT READS IS OF BULK AT MOST 1048576: true; the input reads as it did. -/
def fnExactHoldWordUptoRow : OpenClaim := { program := "ytilgfcbjonalaaa", sum := "1d618911e65b341abf01373c7bd8e4f5156ea7fbc05889e7d0f2fd7571875cb7", func := "loop.example/g00771/laws.FnExactHoldWord", spec := "fnExactHoldWord", apart := false, narrowed := true }
def FnExactHoldWordUptoSaid : Prop := fnExactHoldWordUptoRow.holds Try.pinned (OpenSpec.upto fnExactHoldWordSpec)

/-- 'laws.FnExactFreeWord', WHERE WHAT IT READS IS OF BULK AT MOST 1048576: true; the input reads as it did. -/
def fnExactFreeWordUptoRow : OpenClaim := { program := "ytilgfcbjonalaaa", sum := "1d618911e65b341abf01373c7bd8e4f5156ea7fbc05889e7d0f2fd7571875cb7", func := "loop.example/g00771/laws.FnExactFreeWord", spec := "fnExactFreeWord", apart := false, narrowed := true }
def FnExactFreeWordUptoSaid : Prop := fnExactFreeWordUptoRow.holds Try.pinned (OpenSpec.upto fnExactFreeWordSpec)

/-- 'laws.FnExactSameVersion', WHERE WHAT IT READS IS OF BULK AT MOST 1048576: true; the input reads as it did. -/
def fnExactSameVersionUptoRow : OpenClaim := { program := "ytilgfcbjonalaaa", sum := "1d618911e65b341abf01373c7bd8e4f5156ea7fbc05889e7d0f2fd7571875cb7", func := "loop.example/g00771/laws.FnExactSameVersion", spec := "fnExactSameVersion", inPlace := ["math.Float64frombits"], apart := false, narrowed := true }
def FnExactSameVersionUptoSaid : Prop := fnExactSameVersionUptoRow.holds Try.pinned (OpenSpec.upto fnExactSameVersionSpec)

end Rows
end Go.Proofs.Ytilgfcbjonalaaa
