/- Arguments that are slices, opened. -/
import Derived.Test.YtkpkjcmoldkmmaaGoo
namespace Go.Proofs.Ytkpkjcmoldkmmaa
open Go.ChangeShapes Go.WideShapes Go.ChangeAt Go.RowKit Go.Joins Go.Deep

section
variable {H : Type} {enc : TypeId × Value → H} {W : World}
set_option maxRecDepth 100000 in
theorem arg_CommitS {base : Nat} {v : Value} {dd : DataW H} {p : List MemPlace} (hv : Value.okWide Try.prog W .any base 45 v) (h : DataW.Trod enc Try.prog W 0 (fun _ => true) true 45 v dd p) :
    ∃ (l : List DCommit) (A : Option Addr) (c : Nat), v = .slice A l.length c ∧ RAt fCommit W W.heap.size A l ∧ (rowF fCommit).Wf l := by
  obtain ⟨A, n, c, rfl⟩ := Go.WideShapes.okWide_slice Try.underlying45 hv
  obtain ⟨fuel, hf⟩ := h
  obtain ⟨l, ⟨A', c', e, hr⟩, hw⟩ := open_CommitS (cs := [.slice A n c]) (by simpa [Value.cells] using hf)
  injection e with e _
  injection e with e1 e2 e3
  subst e1 e2 e3
  exact ⟨l, A, c, rfl, hr, hw⟩
set_option maxRecDepth 100000 in
theorem arg_int {v : Value} {dd : DataW H} {p : List MemPlace} {base : Nat} (hv : Value.okWide Try.prog W .any base 3 v) (h : DataW.Trod enc Try.prog W 0 (fun _ => true) true 3 v dd p) : ∃ z, v = .int .i64 z ∧ wfI z := by
  obtain ⟨x, rfl⟩ := Go.WideShapes.okWide_int Try.underlying3 hv
  obtain ⟨fuel, hf⟩ := h
  obtain ⟨d, hd, hw⟩ := open_Int (cs := [.int .i64 x]) (by simpa [Value.cells] using hf)
  have e : [Value.int .i64 x] = [.int .i64 d] := hd
  injection e with e _
  injection e with _ e
  subst e
  exact ⟨x, rfl, hw⟩
end
end Go.Proofs.Ytkpkjcmoldkmmaa
