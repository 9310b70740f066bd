/- Arguments opened. -/
import Derived.Test.YtkpkjcmoldkmmaaGf
import Derived.ChangeSame
import Derived.JoinedOf
import Derived.JoinedAt
import Derived.RowKit3
import Derived.Lib.SmallJoins
import Derived.Deep.Slices
import Derived.Deep.Strs
import Derived.ChangeOld
import Derived.OpenShut
namespace Go.Proofs.Ytkpkjcmoldkmmaa
open Go.ChangeShapes Go.WideShapes Go.ChangeAt Go.RowKit Go.Joins Go.Deep

theorem own : ownKnob Try.prog.godebug = none := by kernel_rfl
theorem laidOut : laidOutB Try.prog = true := by kernel_rfl
section
variable {H : Type} {enc : TypeId × Value → H} {W : World}
theorem open_row {α : Type} {F : Fm α} {t e : TypeId} {fuel : Nat} {cs : List Value} {y : DataW H × List MemPlace} (ht : Try.prog.underlying t = some (.slice e)) (hn : Try.prog.cellsOf e = F.n) (hp : 0 < F.n)
    (ho : ∀ (us : List Value) (z : DataW H × List MemPlace) (n : Nat), us.length = F.n → DataW.trod enc Try.prog W 0 (fun _ => true) true n e us = some z → ∃ d, F.At W W.heap.size d us ∧ F.Wf d)
    (hf : DataW.trod enc Try.prog W 0 (fun _ => true) true fuel t cs = some y) : ∃ l, (rowF F).At W W.heap.size l cs ∧ (rowF F).Wf l := by
  rcases open_slice ht hf with ⟨hcs, _⟩ | ⟨a, len, cap', m, k, DD, Pl', hcs, _, hl, hm, hmm, _, hi⟩
  · subst hcs
    exact ⟨[], ⟨none, 0, rfl, RAt.nil⟩, fun _ h => by cases h⟩
  · subst hcs
    have hex : ∀ j : Fin len, ∃ z : α × List Value, (∀ i u, z.2[i]? = some u → W.cell? (a.add (j.val * F.n + i)) = some u) ∧ F.At W W.heap.size z.1 z.2 ∧ F.Wf z.1 := fun j => by
      obtain ⟨cs', hc, ht'⟩ := hi j.val (by rw [hmm]; simp; omega)
      rw [hn] at hc
      obtain ⟨_, hlen, hcell⟩ := World.cells?_some hc
      obtain ⟨d, hd, hwd⟩ := ho cs' _ _ hlen ht'
      refine ⟨(d, cs'), fun i u hu => ?_, hd, hwd⟩
      have hi6 : i < F.n := by
        have := (List.getElem?_eq_some_iff.1 hu).1
        rwa [hlen] at this
      have := hcell i (by omega)
      rw [add_add] at this
      rw [this]
      exact hu
    obtain ⟨z, hz⟩ := Classical.axiomOfChoice hex
    refine ⟨List.ofFn fun j => (z j).1, ⟨some a, cap', by rw [List.length_ofFn], by rw [List.length_ofFn]; omega, fun hN => ?_⟩, fun x hx => by
      obtain ⟨j, rfl⟩ := List.mem_ofFn.1 hx
      exact (hz j).2.2⟩
    rw [List.length_ofFn] at hN
    obtain ⟨b, off, spot⟩ := a
    have h0 := (hz ⟨0, hN⟩).1
    have hl0 := F.len (hz ⟨0, hN⟩).2.1
    have h00 := h0 0 _ (List.getElem?_eq_getElem (by omega))
    have hs : spot = none := by simpa [Addr.add] using World.cell?_spot h00
    subst hs
    refine ⟨b, off, rfl, by simpa [Addr.add] using World.block_lt_of_cell? _ _ h00, fun j x hx => ?_⟩
    obtain ⟨hj, hxe⟩ := List.getElem?_eq_some_iff.1 hx
    rw [List.length_ofFn] at hj
    rw [List.getElem_ofFn] at hxe
    subst hxe
    obtain ⟨h1, h2, _⟩ := hz ⟨j, hj⟩
    refine ⟨_, fun i u hu => ?_, h2⟩
    have := h1 i u hu
    have ea : ∀ k : Nat, (⟨b, off, none⟩ : Addr).add k = ⟨b, off + k, none⟩ := fun k => by
      by_cases e : k = 0
      · subst e; simp [Addr.add]
      · simp [Addr.add, e]
    rw [ea, ← Nat.add_assoc] at this
    exact this
theorem open_Int {fuel : Nat} {cs : List Value} {y : DataW H × List MemPlace} (hf : DataW.trod enc Try.prog W 0 (fun _ => true) true fuel 3 cs = some y) : ∃ d, intF.At W W.heap.size d cs ∧ intF.Wf d := by
  obtain ⟨x, e, _, hw⟩ := DataW.trod_int Try.underlying3 hf
  refine ⟨x, e, ?_⟩
  simp only [Lit.wf, Bool.and_eq_true, decide_eq_true_eq] at hw
  have h1 : IntKind.i64.min = -9223372036854775808 := rfl
  have h2 : IntKind.i64.max = 9223372036854775807 := rfl
  exact ⟨by omega, by omega⟩
theorem open_Bool {fuel : Nat} {cs : List Value} {y : DataW H × List MemPlace} (hf : DataW.trod enc Try.prog W 0 (fun _ => true) true fuel 4 cs = some y) : ∃ d, boolF.At W W.heap.size d cs ∧ boolF.Wf d := by
  obtain ⟨x, e, _⟩ := DataW.trod_bool Try.underlying4 hf
  exact ⟨x, e, trivial⟩
theorem cellsG_int : Try.prog.cellsOf 3 = 1 := by kernel_rfl
theorem cellsG_Act : Try.prog.cellsOf 120 = 3 := by kernel_rfl
set_option maxRecDepth 100000 in
theorem open_Act {fuel : Nat} {cs : List Value} {y : DataW H × List MemPlace} (hf : DataW.trod enc Try.prog W 0 (fun _ => true) true fuel 120 cs = some y) : ∃ d, fAct.At W W.heap.size d cs ∧ fAct.Wf d := by
  obtain ⟨xs, n, _, _, hl, hlen, hg⟩ := DataW.trod_struct Try.underlying120 hf
  rw [cellsG_Act] at hl
  match cs, hl with
  | [x0, x1, x2], _ =>
    have hx : ∀ i, i < 3 → ∃ y, xs[i]? = some y := fun i hi => ⟨_, List.getElem?_eq_getElem (by rw [hlen]; exact hi)⟩
    obtain ⟨y0, hy0⟩ := hx 0 (by decide)
    have t0 : DataW.trod enc Try.prog W 0 (fun _ => true) true n 3 (([x0, x1, x2].drop 0).take (Try.prog.cellsOf 3)) = some y0 := (hg 0 _ rfl).trans hy0
    rw [cellsG_int] at t0
    have t0 : DataW.trod enc Try.prog W 0 (fun _ => true) true n 3 [x0] = some y0 := t0
    obtain ⟨d0, a0, b0⟩ := open_Int t0
    obtain ⟨y1, hy1⟩ := hx 1 (by decide)
    have t1 : DataW.trod enc Try.prog W 0 (fun _ => true) true n 3 (([x0, x1, x2].drop 1).take (Try.prog.cellsOf 3)) = some y1 := (hg 1 _ rfl).trans hy1
    rw [cellsG_int] at t1
    have t1 : DataW.trod enc Try.prog W 0 (fun _ => true) true n 3 [x1] = some y1 := t1
    obtain ⟨d1, a1, b1⟩ := open_Int t1
    obtain ⟨y2, hy2⟩ := hx 2 (by decide)
    have t2 : DataW.trod enc Try.prog W 0 (fun _ => true) true n 3 (([x0, x1, x2].drop 2).take (Try.prog.cellsOf 3)) = some y2 := (hg 2 _ rfl).trans hy2
    rw [cellsG_int] at t2
    have t2 : DataW.trod enc Try.prog W 0 (fun _ => true) true n 3 [x2] = some y2 := t2
    obtain ⟨d2, a2, b2⟩ := open_Int t2
    exact ⟨(d0, d1, d2), ⟨[x0], _, rfl, a0, ⟨[x1], _, rfl, a1, a2⟩⟩, ⟨b0, b1, b2⟩⟩
set_option maxRecDepth 100000 in
theorem arg_Act {base : Nat} {v : Value} {dd : DataW H} {p : List MemPlace} (hv : Value.okWide Try.prog W .any base 120 v) (h : DataW.Trod enc Try.prog W 0 (fun _ => true) true 120 v dd p) :
    ∃ (d : DAct) (vs : List Value), v = .agg vs.toArray ∧ fAct.At W W.heap.size d vs ∧ fAct.Wf d := by
  obtain ⟨cs, rfl, _⟩ := Go.WideShapes.okWide_struct Try.underlying120 hv
  obtain ⟨fuel, hf⟩ := h
  obtain ⟨d, hd, hw⟩ := open_Act (cs := cs.toList) (by simpa [Value.cells] using hf)
  exact ⟨d, cs.toList, by simp, hd, hw⟩
theorem cellsG_bool : Try.prog.cellsOf 4 = 1 := by kernel_rfl
theorem cellsG_Put : Try.prog.cellsOf 164 = 2 := by kernel_rfl
set_option maxRecDepth 100000 in
theorem open_Put {fuel : Nat} {cs : List Value} {y : DataW H × List MemPlace} (hf : DataW.trod enc Try.prog W 0 (fun _ => true) true fuel 164 cs = some y) : ∃ d, fPut.At W W.heap.size d cs ∧ fPut.Wf d := by
  obtain ⟨xs, n, _, _, hl, hlen, hg⟩ := DataW.trod_struct Try.underlying164 hf
  rw [cellsG_Put] at hl
  match cs, hl with
  | [x0, x1], _ =>
    have hx : ∀ i, i < 2 → ∃ y, xs[i]? = some y := fun i hi => ⟨_, List.getElem?_eq_getElem (by rw [hlen]; exact hi)⟩
    obtain ⟨y0, hy0⟩ := hx 0 (by decide)
    have t0 : DataW.trod enc Try.prog W 0 (fun _ => true) true n 3 (([x0, x1].drop 0).take (Try.prog.cellsOf 3)) = some y0 := (hg 0 _ rfl).trans hy0
    rw [cellsG_int] at t0
    have t0 : DataW.trod enc Try.prog W 0 (fun _ => true) true n 3 [x0] = some y0 := t0
    obtain ⟨d0, a0, b0⟩ := open_Int t0
    obtain ⟨y1, hy1⟩ := hx 1 (by decide)
    have t1 : DataW.trod enc Try.prog W 0 (fun _ => true) true n 3 (([x0, x1].drop 1).take (Try.prog.cellsOf 3)) = some y1 := (hg 1 _ rfl).trans hy1
    rw [cellsG_int] at t1
    have t1 : DataW.trod enc Try.prog W 0 (fun _ => true) true n 3 [x1] = some y1 := t1
    obtain ⟨d1, a1, b1⟩ := open_Int t1
    exact ⟨(d0, d1), ⟨[x0], _, rfl, a0, a1⟩, ⟨b0, b1⟩⟩
set_option maxRecDepth 100000 in
theorem arg_Put {base : Nat} {v : Value} {dd : DataW H} {p : List MemPlace} (hv : Value.okWide Try.prog W .any base 164 v) (h : DataW.Trod enc Try.prog W 0 (fun _ => true) true 164 v dd p) :
    ∃ (d : DPut) (vs : List Value), v = .agg vs.toArray ∧ fPut.At W W.heap.size d vs ∧ fPut.Wf d := by
  obtain ⟨cs, rfl, _⟩ := Go.WideShapes.okWide_struct Try.underlying164 hv
  obtain ⟨fuel, hf⟩ := h
  obtain ⟨d, hd, hw⟩ := open_Put (cs := cs.toList) (by simpa [Value.cells] using hf)
  exact ⟨d, cs.toList, by simp, hd, hw⟩
theorem cellsG_Setup : Try.prog.cellsOf 23 = 5 := by kernel_rfl
set_option maxRecDepth 100000 in
theorem open_Setup {fuel : Nat} {cs : List Value} {y : DataW H × List MemPlace} (hf : DataW.trod enc Try.prog W 0 (fun _ => true) true fuel 23 cs = some y) : ∃ d, fSetup.At W W.heap.size d cs ∧ fSetup.Wf d := by
  obtain ⟨xs, n, _, _, hl, hlen, hg⟩ := DataW.trod_struct Try.underlying23 hf
  rw [cellsG_Setup] at hl
  match cs, hl with
  | [x0, x1, x2, x3, x4], _ =>
    have hx : ∀ i, i < 5 → ∃ y, xs[i]? = some y := fun i hi => ⟨_, List.getElem?_eq_getElem (by rw [hlen]; exact hi)⟩
    obtain ⟨y0, hy0⟩ := hx 0 (by decide)
    have t0 : DataW.trod enc Try.prog W 0 (fun _ => true) true n 3 (([x0, x1, x2, x3, x4].drop 0).take (Try.prog.cellsOf 3)) = some y0 := (hg 0 _ rfl).trans hy0
    rw [cellsG_int] at t0
    have t0 : DataW.trod enc Try.prog W 0 (fun _ => true) true n 3 [x0] = some y0 := t0
    obtain ⟨d0, a0, b0⟩ := open_Int t0
    obtain ⟨y1, hy1⟩ := hx 1 (by decide)
    have t1 : DataW.trod enc Try.prog W 0 (fun _ => true) true n 3 (([x0, x1, x2, x3, x4].drop 1).take (Try.prog.cellsOf 3)) = some y1 := (hg 1 _ rfl).trans hy1
    rw [cellsG_int] at t1
    have t1 : DataW.trod enc Try.prog W 0 (fun _ => true) true n 3 [x1] = some y1 := t1
    obtain ⟨d1, a1, b1⟩ := open_Int t1
    obtain ⟨y2, hy2⟩ := hx 2 (by decide)
    have t2 : DataW.trod enc Try.prog W 0 (fun _ => true) true n 3 (([x0, x1, x2, x3, x4].drop 2).take (Try.prog.cellsOf 3)) = some y2 := (hg 2 _ rfl).trans hy2
    rw [cellsG_int] at t2
    have t2 : DataW.trod enc Try.prog W 0 (fun _ => true) true n 3 [x2] = some y2 := t2
    obtain ⟨d2, a2, b2⟩ := open_Int t2
    obtain ⟨y3, hy3⟩ := hx 3 (by decide)
    have t3 : DataW.trod enc Try.prog W 0 (fun _ => true) true n 4 (([x0, x1, x2, x3, x4].drop 3).take (Try.prog.cellsOf 4)) = some y3 := (hg 3 _ rfl).trans hy3
    rw [cellsG_bool] at t3
    have t3 : DataW.trod enc Try.prog W 0 (fun _ => true) true n 4 [x3] = some y3 := t3
    obtain ⟨d3, a3, b3⟩ := open_Bool t3
    obtain ⟨y4, hy4⟩ := hx 4 (by decide)
    have t4 : DataW.trod enc Try.prog W 0 (fun _ => true) true n 3 (([x0, x1, x2, x3, x4].drop 4).take (Try.prog.cellsOf 3)) = some y4 := (hg 4 _ rfl).trans hy4
    rw [cellsG_int] at t4
    have t4 : DataW.trod enc Try.prog W 0 (fun _ => true) true n 3 [x4] = some y4 := t4
    obtain ⟨d4, a4, b4⟩ := open_Int t4
    exact ⟨(d0, d1, d2, d3, d4), ⟨[x0], _, rfl, a0, ⟨[x1], _, rfl, a1, ⟨[x2], _, rfl, a2, ⟨[x3], _, rfl, a3, a4⟩⟩⟩⟩, ⟨b0, b1, b2, b3, b4⟩⟩
set_option maxRecDepth 100000 in
theorem arg_Setup {base : Nat} {v : Value} {dd : DataW H} {p : List MemPlace} (hv : Value.okWide Try.prog W .any base 23 v) (h : DataW.Trod enc Try.prog W 0 (fun _ => true) true 23 v dd p) :
    ∃ (d : DSetup) (vs : List Value), v = .agg vs.toArray ∧ fSetup.At W W.heap.size d vs ∧ fSetup.Wf d := by
  obtain ⟨cs, rfl, _⟩ := Go.WideShapes.okWide_struct Try.underlying23 hv
  obtain ⟨fuel, hf⟩ := h
  obtain ⟨d, hd, hw⟩ := open_Setup (cs := cs.toList) (by simpa [Value.cells] using hf)
  exact ⟨d, cs.toList, by simp, hd, hw⟩
theorem cellsG_ActSS : Try.prog.cellsOf 69 = 1 := by kernel_rfl
set_option maxRecDepth 100000 in
theorem open_ActS {fuel : Nat} {cs : List Value} {y : DataW H × List MemPlace} (hf : DataW.trod enc Try.prog W 0 (fun _ => true) true fuel 60 cs = some y) : ∃ l, (rowF fAct).At W W.heap.size l cs ∧ (rowF fAct).Wf l :=
  open_row Try.underlying60 cellsG_Act (show 0 < 3 from by decide) (fun _ _ _ _ h => open_Act h) hf
theorem cellsG_ActS : Try.prog.cellsOf 60 = 1 := by kernel_rfl
set_option maxRecDepth 100000 in
theorem open_ActSS {fuel : Nat} {cs : List Value} {y : DataW H × List MemPlace} (hf : DataW.trod enc Try.prog W 0 (fun _ => true) true fuel 69 cs = some y) : ∃ l, (rowF (rowF fAct)).At W W.heap.size l cs ∧ (rowF (rowF fAct)).Wf l :=
  open_row Try.underlying69 cellsG_ActS (show 0 < 1 from by decide) (fun _ _ _ _ h => open_ActS h) hf
theorem cellsG_PutS : Try.prog.cellsOf 93 = 1 := by kernel_rfl
set_option maxRecDepth 100000 in
theorem open_PutS {fuel : Nat} {cs : List Value} {y : DataW H × List MemPlace} (hf : DataW.trod enc Try.prog W 0 (fun _ => true) true fuel 93 cs = some y) : ∃ l, (rowF fPut).At W W.heap.size l cs ∧ (rowF fPut).Wf l :=
  open_row Try.underlying93 cellsG_Put (show 0 < 2 from by decide) (fun _ _ _ _ h => open_Put h) hf
theorem cellsG_IntS : Try.prog.cellsOf 31 = 1 := by kernel_rfl
set_option maxRecDepth 100000 in
theorem open_IntS {fuel : Nat} {cs : List Value} {y : DataW H × List MemPlace} (hf : DataW.trod enc Try.prog W 0 (fun _ => true) true fuel 31 cs = some y) : ∃ l, (rowF intF).At W W.heap.size l cs ∧ (rowF intF).Wf l :=
  open_row Try.underlying31 cellsG_int (show 0 < 1 from by decide) (fun _ _ _ _ h => open_Int h) hf
theorem cellsG_Commit : Try.prog.cellsOf 95 = 6 := by kernel_rfl
set_option maxRecDepth 100000 in
theorem open_Commit {fuel : Nat} {cs : List Value} {y : DataW H × List MemPlace} (hf : DataW.trod enc Try.prog W 0 (fun _ => true) true fuel 95 cs = some y) : ∃ d, fCommit.At W W.heap.size d cs ∧ fCommit.Wf d := by
  obtain ⟨xs, n, _, _, hl, hlen, hg⟩ := DataW.trod_struct Try.underlying95 hf
  rw [cellsG_Commit] at hl
  match cs, hl with
  | [x0, x1, x2, x3, x4, x5], _ =>
    have hx : ∀ i, i < 6 → ∃ y, xs[i]? = some y := fun i hi => ⟨_, List.getElem?_eq_getElem (by rw [hlen]; exact hi)⟩
    obtain ⟨y0, hy0⟩ := hx 0 (by decide)
    have t0 : DataW.trod enc Try.prog W 0 (fun _ => true) true n 3 (([x0, x1, x2, x3, x4, x5].drop 0).take (Try.prog.cellsOf 3)) = some y0 := (hg 0 _ rfl).trans hy0
    rw [cellsG_int] at t0
    have t0 : DataW.trod enc Try.prog W 0 (fun _ => true) true n 3 [x0] = some y0 := t0
    obtain ⟨d0, a0, b0⟩ := open_Int t0
    obtain ⟨y1, hy1⟩ := hx 1 (by decide)
    have t1 : DataW.trod enc Try.prog W 0 (fun _ => true) true n 3 (([x0, x1, x2, x3, x4, x5].drop 1).take (Try.prog.cellsOf 3)) = some y1 := (hg 1 _ rfl).trans hy1
    rw [cellsG_int] at t1
    have t1 : DataW.trod enc Try.prog W 0 (fun _ => true) true n 3 [x1] = some y1 := t1
    obtain ⟨d1, a1, b1⟩ := open_Int t1
    obtain ⟨y2, hy2⟩ := hx 2 (by decide)
    have t2 : DataW.trod enc Try.prog W 0 (fun _ => true) true n 3 (([x0, x1, x2, x3, x4, x5].drop 2).take (Try.prog.cellsOf 3)) = some y2 := (hg 2 _ rfl).trans hy2
    rw [cellsG_int] at t2
    have t2 : DataW.trod enc Try.prog W 0 (fun _ => true) true n 3 [x2] = some y2 := t2
    obtain ⟨d2, a2, b2⟩ := open_Int t2
    obtain ⟨y3, hy3⟩ := hx 3 (by decide)
    have t3 : DataW.trod enc Try.prog W 0 (fun _ => true) true n 3 (([x0, x1, x2, x3, x4, x5].drop 3).take (Try.prog.cellsOf 3)) = some y3 := (hg 3 _ rfl).trans hy3
    rw [cellsG_int] at t3
    have t3 : DataW.trod enc Try.prog W 0 (fun _ => true) true n 3 [x3] = some y3 := t3
    obtain ⟨d3, a3, b3⟩ := open_Int t3
    obtain ⟨y4, hy4⟩ := hx 4 (by decide)
    have t4 : DataW.trod enc Try.prog W 0 (fun _ => true) true n 31 (([x0, x1, x2, x3, x4, x5].drop 4).take (Try.prog.cellsOf 31)) = some y4 := (hg 4 _ rfl).trans hy4
    rw [cellsG_IntS] at t4
    have t4 : DataW.trod enc Try.prog W 0 (fun _ => true) true n 31 [x4] = some y4 := t4
    obtain ⟨d4, a4, b4⟩ := open_IntS t4
    obtain ⟨y5, hy5⟩ := hx 5 (by decide)
    have t5 : DataW.trod enc Try.prog W 0 (fun _ => true) true n 93 (([x0, x1, x2, x3, x4, x5].drop 5).take (Try.prog.cellsOf 93)) = some y5 := (hg 5 _ rfl).trans hy5
    rw [cellsG_PutS] at t5
    have t5 : DataW.trod enc Try.prog W 0 (fun _ => true) true n 93 [x5] = some y5 := t5
    obtain ⟨d5, a5, b5⟩ := open_PutS t5
    exact ⟨(d0, d1, d2, d3, d4, d5), ⟨[x0], _, rfl, a0, ⟨[x1], _, rfl, a1, ⟨[x2], _, rfl, a2, ⟨[x3], _, rfl, a3, ⟨[x4], _, rfl, a4, a5⟩⟩⟩⟩⟩, ⟨b0, b1, b2, b3, b4, b5⟩⟩
set_option maxRecDepth 100000 in
theorem arg_Commit {base : Nat} {v : Value} {dd : DataW H} {p : List MemPlace} (hv : Value.okWide Try.prog W .any base 95 v) (h : DataW.Trod enc Try.prog W 0 (fun _ => true) true 95 v dd p) :
    ∃ (d : DCommit) (vs : List Value), v = .agg vs.toArray ∧ fCommit.At W W.heap.size d vs ∧ fCommit.Wf d := by
  obtain ⟨cs, rfl, _⟩ := Go.WideShapes.okWide_struct Try.underlying95 hv
  obtain ⟨fuel, hf⟩ := h
  obtain ⟨d, hd, hw⟩ := open_Commit (cs := cs.toList) (by simpa [Value.cells] using hf)
  exact ⟨d, cs.toList, by simp, hd, hw⟩
theorem cellsG_CommitS : Try.prog.cellsOf 45 = 1 := by kernel_rfl
set_option maxRecDepth 100000 in
theorem open_CommitS {fuel : Nat} {cs : List Value} {y : DataW H × List MemPlace} (hf : DataW.trod enc Try.prog W 0 (fun _ => true) true fuel 45 cs = some y) : ∃ l, (rowF fCommit).At W W.heap.size l cs ∧ (rowF fCommit).Wf l :=
  open_row Try.underlying45 cellsG_Commit (show 0 < 6 from by decide) (fun _ _ _ _ h => open_Commit h) hf
set_option maxRecDepth 100000 in
theorem open_ActSSS {fuel : Nat} {cs : List Value} {y : DataW H × List MemPlace} (hf : DataW.trod enc Try.prog W 0 (fun _ => true) true fuel 24 cs = some y) : ∃ l, (rowF (rowF (rowF fAct))).At W W.heap.size l cs ∧ (rowF (rowF (rowF fAct))).Wf l :=
  open_row Try.underlying24 cellsG_ActSS (show 0 < 1 from by decide) (fun _ _ _ _ h => open_ActSS h) hf
end
end Go.Proofs.Ytkpkjcmoldkmmaa
