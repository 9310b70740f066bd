/- More arguments that are slices, opened. -/
import Derived.Test.YtkpkjcmoldkmmaaGoa
namespace Go.Proofs.Ytkpkjcmoldkmmaa
open Go.ChangeShapes Go.WideShapes Go.ChangeAt Go.RowKit Go.Joins Go.Deep

section
variable {H : Type} {enc : TypeId × Value → H} {W : World}
set_option maxRecDepth 100000 in
theorem arg_ActS {base : Nat} {v : Value} {dd : DataW H} {p : List MemPlace} (hv : Value.okWide Try.prog W .any base 60 v) (h : DataW.Trod enc Try.prog W 0 (fun _ => true) true 60 v dd p) :
    ∃ (l : List DAct) (A : Option Addr) (c : Nat), v = .slice A l.length c ∧ RAt fAct W W.heap.size A l ∧ (rowF fAct).Wf l := by
  obtain ⟨A, n, c, rfl⟩ := Go.WideShapes.okWide_slice Try.underlying60 hv
  obtain ⟨fuel, hf⟩ := h
  obtain ⟨l, ⟨A', c', e, hr⟩, hw⟩ := open_ActS (cs := [.slice A n c]) (by simpa [Value.cells] using hf)
  injection e with e _
  injection e with e1 e2 e3
  subst e1 e2 e3
  exact ⟨l, A, c, rfl, hr, hw⟩
set_option maxRecDepth 100000 in
theorem arg_ActSSS {base : Nat} {v : Value} {dd : DataW H} {p : List MemPlace} (hv : Value.okWide Try.prog W .any base 24 v) (h : DataW.Trod enc Try.prog W 0 (fun _ => true) true 24 v dd p) :
    ∃ (l : List (List (List DAct))) (A : Option Addr) (c : Nat), v = .slice A l.length c ∧ RAt (rowF (rowF fAct)) W W.heap.size A l ∧ (rowF (rowF (rowF fAct))).Wf l := by
  obtain ⟨A, n, c, rfl⟩ := Go.WideShapes.okWide_slice Try.underlying24 hv
  obtain ⟨fuel, hf⟩ := h
  obtain ⟨l, ⟨A', c', e, hr⟩, hw⟩ := open_ActSSS (cs := [.slice A n c]) (by simpa [Value.cells] using hf)
  injection e with e _
  injection e with e1 e2 e3
  subst e1 e2 e3
  exact ⟨l, A, c, rfl, hr, hw⟩
end
end Go.Proofs.Ytkpkjcmoldkmmaa
