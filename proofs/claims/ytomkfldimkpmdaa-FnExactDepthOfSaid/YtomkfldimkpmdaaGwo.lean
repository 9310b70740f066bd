/- Waits as arguments, opened. -/
import Derived.Test.YtomkfldimkpmdaaGoa
import Derived.Test.YtomkfldimkpmdaaGwt
namespace Go.Proofs.Ytomkfldimkpmdaa
open Go.ChangeShapes Go.WideShapes Go.ChangeAt Go.RowKit Go.Joins Go.Deep

section
variable {H : Type} {enc : TypeId × Value → H} {W : World}
theorem cellsG_Wait : Try.prog.cellsOf 140 = 2 := by kernel_rfl
set_option maxRecDepth 100000 in
theorem open_Wait {fuel : Nat} {cs : List Value} {y : DataW H × List MemPlace} (hf : DataW.trod enc Try.prog W 0 (fun _ => true) true fuel 140 cs = some y) : ∃ d, fWait.At W W.heap.size d cs ∧ fWait.Wf d := by
  obtain ⟨xs, n, _, _, hl, hlen, hg⟩ := DataW.trod_struct Try.underlying140 hf
  rw [cellsG_Wait] at hl
  match cs, hl with
  | [x0, x1], _ =>
    have hx : ∀ i, i < 2 → ∃ y, xs[i]? = some y := fun i hi => ⟨_, List.getElem?_eq_getElem (by rw [hlen]; exact hi)⟩
    obtain ⟨y0, hy0⟩ := hx 0 (by decide)
    have t0 : DataW.trod enc Try.prog W 0 (fun _ => true) true n 3 (([x0, x1].drop 0).take (Try.prog.cellsOf 3)) = some y0 := (hg 0 _ rfl).trans hy0
    rw [cellsG_int] at t0
    have t0 : DataW.trod enc Try.prog W 0 (fun _ => true) true n 3 [x0] = some y0 := t0
    obtain ⟨d0, a0, b0⟩ := open_Int t0
    obtain ⟨y1, hy1⟩ := hx 1 (by decide)
    have t1 : DataW.trod enc Try.prog W 0 (fun _ => true) true n 3 (([x0, x1].drop 1).take (Try.prog.cellsOf 3)) = some y1 := (hg 1 _ rfl).trans hy1
    rw [cellsG_int] at t1
    have t1 : DataW.trod enc Try.prog W 0 (fun _ => true) true n 3 [x1] = some y1 := t1
    obtain ⟨d1, a1, b1⟩ := open_Int t1
    exact ⟨(d0, d1), ⟨[x0], _, rfl, a0, a1⟩, ⟨b0, b1⟩⟩
set_option maxRecDepth 100000 in
theorem arg_Wait {base : Nat} {v : Value} {dd : DataW H} {p : List MemPlace} (hv : Value.okWide Try.prog W .any base 140 v) (h : DataW.Trod enc Try.prog W 0 (fun _ => true) true 140 v dd p) :
    ∃ (d : DWait) (vs : List Value), v = .agg vs.toArray ∧ fWait.At W W.heap.size d vs ∧ fWait.Wf d := by
  obtain ⟨cs, rfl, _⟩ := Go.WideShapes.okWide_struct Try.underlying140 hv
  obtain ⟨fuel, hf⟩ := h
  obtain ⟨d, hd, hw⟩ := open_Wait (cs := cs.toList) (by simpa [Value.cells] using hf)
  exact ⟨d, cs.toList, by simp, hd, hw⟩
set_option maxRecDepth 100000 in
theorem open_WaitS {fuel : Nat} {cs : List Value} {y : DataW H × List MemPlace} (hf : DataW.trod enc Try.prog W 0 (fun _ => true) true fuel 66 cs = some y) : ∃ l, (rowF fWait).At W W.heap.size l cs ∧ (rowF fWait).Wf l :=
  open_row Try.underlying66 cellsG_Wait (show 0 < 2 from by decide) (fun _ _ _ _ h => open_Wait h) hf
end
section
variable {H : Type} {enc : TypeId × Value → H} {W : World}
set_option maxRecDepth 100000 in
theorem arg_WaitS {base : Nat} {v : Value} {dd : DataW H} {p : List MemPlace} (hv : Value.okWide Try.prog W .any base 66 v) (h : DataW.Trod enc Try.prog W 0 (fun _ => true) true 66 v dd p) :
    ∃ (l : List DWait) (A : Option Addr) (c : Nat), v = .slice A l.length c ∧ RAt fWait W W.heap.size A l ∧ (rowF fWait).Wf l := by
  obtain ⟨A, n, c, rfl⟩ := Go.WideShapes.okWide_slice Try.underlying66 hv
  obtain ⟨fuel, hf⟩ := h
  obtain ⟨l, ⟨A', c', e, hr⟩, hw⟩ := open_WaitS (cs := [.slice A n c]) (by simpa [Value.cells] using hf)
  injection e with e _
  injection e with e1 e2 e3
  subst e1 e2 e3
  exact ⟨l, A, c, rfl, hr, hw⟩
end
end Go.Proofs.Ytomkfldimkpmdaa
