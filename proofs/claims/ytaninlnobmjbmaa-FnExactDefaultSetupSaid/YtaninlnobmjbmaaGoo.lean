/- Arguments opened. -/
import Derived.Test.YtaninlnobmjbmaaGf
import Derived.ChangeSame
import Derived.JoinedOf
import Derived.JoinedAt
import Derived.RowKit3
import Derived.Lib.SmallJoins
import Derived.Deep.Slices
import Derived.Deep.Strs
import Derived.ChangeOld
import Derived.OpenShut
namespace Go.Proofs.Ytaninlnobmjbmaa
open Go.ChangeShapes Go.WideShapes Go.ChangeAt Go.RowKit Go.Joins Go.Deep

theorem own : ownKnob Try.prog.godebug = none := by kernel_rfl
theorem laidOut : laidOutB Try.prog = true := by kernel_rfl
section
variable {H : Type} {enc : TypeId × Value → H} {W : World}
theorem open_row {α : Type} {F : Fm α} {t e : TypeId} {fuel : Nat} {cs : List Value} {y : DataW H × List MemPlace} (ht : Try.prog.underlying t = some (.slice e)) (hn : Try.prog.cellsOf e = F.n) (hp : 0 < F.n)
    (ho : ∀ (us : List Value) (z : DataW H × List MemPlace) (n : Nat), us.length = F.n → DataW.trod enc Try.prog W 0 (fun _ => true) true n e us = some z → ∃ d, F.At W W.heap.size d us)
    (hf : DataW.trod enc Try.prog W 0 (fun _ => true) true fuel t cs = some y) : ∃ l, (rowF F).At W W.heap.size l cs := by
  rcases open_slice ht hf with ⟨hcs, _⟩ | ⟨a, len, cap', m, k, DD, Pl', hcs, _, hl, hm, hmm, _, hi⟩
  · subst hcs
    exact ⟨[], none, 0, rfl, RAt.nil⟩
  · subst hcs
    have hex : ∀ j : Fin len, ∃ z : α × List Value, (∀ i u, z.2[i]? = some u → W.cell? (a.add (j.val * F.n + i)) = some u) ∧ F.At W W.heap.size z.1 z.2 := fun j => by
      obtain ⟨cs', hc, ht'⟩ := hi j.val (by rw [hmm]; simp; omega)
      rw [hn] at hc
      obtain ⟨_, hlen, hcell⟩ := World.cells?_some hc
      obtain ⟨d, hd⟩ := ho cs' _ _ hlen ht'
      refine ⟨(d, cs'), fun i u hu => ?_, hd⟩
      have hi6 : i < F.n := by
        have := (List.getElem?_eq_some_iff.1 hu).1
        rwa [hlen] at this
      have := hcell i (by omega)
      rw [add_add] at this
      rw [this]
      exact hu
    obtain ⟨z, hz⟩ := Classical.axiomOfChoice hex
    refine ⟨List.ofFn fun j => (z j).1, some a, cap', by rw [List.length_ofFn], by rw [List.length_ofFn]; omega, fun hN => ?_⟩
    rw [List.length_ofFn] at hN
    obtain ⟨b, off, spot⟩ := a
    have h0 := (hz ⟨0, hN⟩).1
    have hl0 := F.len (hz ⟨0, hN⟩).2
    have h00 := h0 0 _ (List.getElem?_eq_getElem (by omega))
    have hs : spot = none := by simpa [Addr.add] using World.cell?_spot h00
    subst hs
    refine ⟨b, off, rfl, by simpa [Addr.add] using World.block_lt_of_cell? _ _ h00, fun j x hx => ?_⟩
    obtain ⟨hj, hxe⟩ := List.getElem?_eq_some_iff.1 hx
    rw [List.length_ofFn] at hj
    rw [List.getElem_ofFn] at hxe
    subst hxe
    obtain ⟨h1, h2⟩ := hz ⟨j, hj⟩
    refine ⟨_, fun i u hu => ?_, h2⟩
    have := h1 i u hu
    have ea : ∀ k : Nat, (⟨b, off, none⟩ : Addr).add k = ⟨b, off + k, none⟩ := fun k => by
      by_cases e : k = 0
      · subst e; simp [Addr.add]
      · simp [Addr.add, e]
    rw [ea, ← Nat.add_assoc] at this
    exact this
theorem open_Int {fuel : Nat} {cs : List Value} {y : DataW H × List MemPlace} (hf : DataW.trod enc Try.prog W 0 (fun _ => true) true fuel 3 cs = some y) : ∃ d, intF.At W W.heap.size d cs := by
  obtain ⟨x, e, _, _⟩ := DataW.trod_int Try.underlying3 hf
  exact ⟨x, e⟩
theorem open_Bool {fuel : Nat} {cs : List Value} {y : DataW H × List MemPlace} (hf : DataW.trod enc Try.prog W 0 (fun _ => true) true fuel 4 cs = some y) : ∃ d, boolF.At W W.heap.size d cs := by
  obtain ⟨x, e, _⟩ := DataW.trod_bool Try.underlying4 hf
  exact ⟨x, e⟩
theorem cellsG_int : Try.prog.cellsOf 3 = 1 := by kernel_rfl
theorem cellsG_Act : Try.prog.cellsOf 132 = 3 := by kernel_rfl
set_option maxRecDepth 100000 in
theorem open_Act {fuel : Nat} {cs : List Value} {y : DataW H × List MemPlace} (hf : DataW.trod enc Try.prog W 0 (fun _ => true) true fuel 132 cs = some y) : ∃ d, fAct.At W W.heap.size d cs := by
  obtain ⟨xs, n, _, _, hl, hlen, hg⟩ := DataW.trod_struct Try.underlying132 hf
  rw [cellsG_Act] at hl
  match cs, hl with
  | [x0, x1, x2], _ =>
    have hx : ∀ i, i < 3 → ∃ y, xs[i]? = some y := fun i hi => ⟨_, List.getElem?_eq_getElem (by rw [hlen]; exact hi)⟩
    obtain ⟨y0, hy0⟩ := hx 0 (by decide)
    have t0 : DataW.trod enc Try.prog W 0 (fun _ => true) true n 3 (([x0, x1, x2].drop 0).take (Try.prog.cellsOf 3)) = some y0 := (hg 0 _ rfl).trans hy0
    rw [cellsG_int] at t0
    have t0 : DataW.trod enc Try.prog W 0 (fun _ => true) true n 3 [x0] = some y0 := t0
    obtain ⟨d0, a0⟩ := open_Int t0
    obtain ⟨y1, hy1⟩ := hx 1 (by decide)
    have t1 : DataW.trod enc Try.prog W 0 (fun _ => true) true n 3 (([x0, x1, x2].drop 1).take (Try.prog.cellsOf 3)) = some y1 := (hg 1 _ rfl).trans hy1
    rw [cellsG_int] at t1
    have t1 : DataW.trod enc Try.prog W 0 (fun _ => true) true n 3 [x1] = some y1 := t1
    obtain ⟨d1, a1⟩ := open_Int t1
    obtain ⟨y2, hy2⟩ := hx 2 (by decide)
    have t2 : DataW.trod enc Try.prog W 0 (fun _ => true) true n 3 (([x0, x1, x2].drop 2).take (Try.prog.cellsOf 3)) = some y2 := (hg 2 _ rfl).trans hy2
    rw [cellsG_int] at t2
    have t2 : DataW.trod enc Try.prog W 0 (fun _ => true) true n 3 [x2] = some y2 := t2
    obtain ⟨d2, a2⟩ := open_Int t2
    exact ⟨(d0, d1, d2), ⟨[x0], _, rfl, a0, ⟨[x1], _, rfl, a1, a2⟩⟩⟩
set_option maxRecDepth 100000 in
theorem arg_Act {base : Nat} {v : Value} {dd : DataW H} {p : List MemPlace} (hv : Value.okWide Try.prog W .any base 132 v) (h : DataW.Trod enc Try.prog W 0 (fun _ => true) true 132 v dd p) :
    ∃ (d : DAct) (vs : List Value), v = .agg vs.toArray ∧ fAct.At W W.heap.size d vs := by
  obtain ⟨cs, rfl, _⟩ := Go.WideShapes.okWide_struct Try.underlying132 hv
  obtain ⟨fuel, hf⟩ := h
  obtain ⟨d, hd⟩ := open_Act (cs := cs.toList) (by simpa [Value.cells] using hf)
  exact ⟨d, cs.toList, by simp, hd⟩
theorem cellsG_bool : Try.prog.cellsOf 4 = 1 := by kernel_rfl
theorem cellsG_Word : Try.prog.cellsOf 153 = 3 := by kernel_rfl
set_option maxRecDepth 100000 in
theorem open_Word {fuel : Nat} {cs : List Value} {y : DataW H × List MemPlace} (hf : DataW.trod enc Try.prog W 0 (fun _ => true) true fuel 153 cs = some y) : ∃ d, fWord.At W W.heap.size d cs := by
  obtain ⟨xs, n, _, _, hl, hlen, hg⟩ := DataW.trod_struct Try.underlying153 hf
  rw [cellsG_Word] at hl
  match cs, hl with
  | [x0, x1, x2], _ =>
    have hx : ∀ i, i < 3 → ∃ y, xs[i]? = some y := fun i hi => ⟨_, List.getElem?_eq_getElem (by rw [hlen]; exact hi)⟩
    obtain ⟨y0, hy0⟩ := hx 0 (by decide)
    have t0 : DataW.trod enc Try.prog W 0 (fun _ => true) true n 3 (([x0, x1, x2].drop 0).take (Try.prog.cellsOf 3)) = some y0 := (hg 0 _ rfl).trans hy0
    rw [cellsG_int] at t0
    have t0 : DataW.trod enc Try.prog W 0 (fun _ => true) true n 3 [x0] = some y0 := t0
    obtain ⟨d0, a0⟩ := open_Int t0
    obtain ⟨y1, hy1⟩ := hx 1 (by decide)
    have t1 : DataW.trod enc Try.prog W 0 (fun _ => true) true n 3 (([x0, x1, x2].drop 1).take (Try.prog.cellsOf 3)) = some y1 := (hg 1 _ rfl).trans hy1
    rw [cellsG_int] at t1
    have t1 : DataW.trod enc Try.prog W 0 (fun _ => true) true n 3 [x1] = some y1 := t1
    obtain ⟨d1, a1⟩ := open_Int t1
    obtain ⟨y2, hy2⟩ := hx 2 (by decide)
    have t2 : DataW.trod enc Try.prog W 0 (fun _ => true) true n 4 (([x0, x1, x2].drop 2).take (Try.prog.cellsOf 4)) = some y2 := (hg 2 _ rfl).trans hy2
    rw [cellsG_bool] at t2
    have t2 : DataW.trod enc Try.prog W 0 (fun _ => true) true n 4 [x2] = some y2 := t2
    obtain ⟨d2, a2⟩ := open_Bool t2
    exact ⟨(d0, d1, d2), ⟨[x0], _, rfl, a0, ⟨[x1], _, rfl, a1, a2⟩⟩⟩
set_option maxRecDepth 100000 in
theorem arg_Word {base : Nat} {v : Value} {dd : DataW H} {p : List MemPlace} (hv : Value.okWide Try.prog W .any base 153 v) (h : DataW.Trod enc Try.prog W 0 (fun _ => true) true 153 v dd p) :
    ∃ (d : DWord) (vs : List Value), v = .agg vs.toArray ∧ fWord.At W W.heap.size d vs := by
  obtain ⟨cs, rfl, _⟩ := Go.WideShapes.okWide_struct Try.underlying153 hv
  obtain ⟨fuel, hf⟩ := h
  obtain ⟨d, hd⟩ := open_Word (cs := cs.toList) (by simpa [Value.cells] using hf)
  exact ⟨d, cs.toList, by simp, hd⟩
theorem cellsG_Hold : Try.prog.cellsOf 196 = 2 := by kernel_rfl
set_option maxRecDepth 100000 in
theorem open_Hold {fuel : Nat} {cs : List Value} {y : DataW H × List MemPlace} (hf : DataW.trod enc Try.prog W 0 (fun _ => true) true fuel 196 cs = some y) : ∃ d, fHold.At W W.heap.size d cs := by
  obtain ⟨xs, n, _, _, hl, hlen, hg⟩ := DataW.trod_struct Try.underlying196 hf
  rw [cellsG_Hold] at hl
  match cs, hl with
  | [x0, x1], _ =>
    have hx : ∀ i, i < 2 → ∃ y, xs[i]? = some y := fun i hi => ⟨_, List.getElem?_eq_getElem (by rw [hlen]; exact hi)⟩
    obtain ⟨y0, hy0⟩ := hx 0 (by decide)
    have t0 : DataW.trod enc Try.prog W 0 (fun _ => true) true n 3 (([x0, x1].drop 0).take (Try.prog.cellsOf 3)) = some y0 := (hg 0 _ rfl).trans hy0
    rw [cellsG_int] at t0
    have t0 : DataW.trod enc Try.prog W 0 (fun _ => true) true n 3 [x0] = some y0 := t0
    obtain ⟨d0, a0⟩ := open_Int t0
    obtain ⟨y1, hy1⟩ := hx 1 (by decide)
    have t1 : DataW.trod enc Try.prog W 0 (fun _ => true) true n 4 (([x0, x1].drop 1).take (Try.prog.cellsOf 4)) = some y1 := (hg 1 _ rfl).trans hy1
    rw [cellsG_bool] at t1
    have t1 : DataW.trod enc Try.prog W 0 (fun _ => true) true n 4 [x1] = some y1 := t1
    obtain ⟨d1, a1⟩ := open_Bool t1
    exact ⟨(d0, d1), ⟨[x0], _, rfl, a0, a1⟩⟩
set_option maxRecDepth 100000 in
theorem arg_Hold {base : Nat} {v : Value} {dd : DataW H} {p : List MemPlace} (hv : Value.okWide Try.prog W .any base 196 v) (h : DataW.Trod enc Try.prog W 0 (fun _ => true) true 196 v dd p) :
    ∃ (d : DHold) (vs : List Value), v = .agg vs.toArray ∧ fHold.At W W.heap.size d vs := by
  obtain ⟨cs, rfl, _⟩ := Go.WideShapes.okWide_struct Try.underlying196 hv
  obtain ⟨fuel, hf⟩ := h
  obtain ⟨d, hd⟩ := open_Hold (cs := cs.toList) (by simpa [Value.cells] using hf)
  exact ⟨d, cs.toList, by simp, hd⟩
theorem cellsG_Want : Try.prog.cellsOf 185 = 2 := by kernel_rfl
set_option maxRecDepth 100000 in
theorem open_Want {fuel : Nat} {cs : List Value} {y : DataW H × List MemPlace} (hf : DataW.trod enc Try.prog W 0 (fun _ => true) true fuel 185 cs = some y) : ∃ d, fWant.At W W.heap.size d cs := by
  obtain ⟨xs, n, _, _, hl, hlen, hg⟩ := DataW.trod_struct Try.underlying185 hf
  rw [cellsG_Want] at hl
  match cs, hl with
  | [x0, x1], _ =>
    have hx : ∀ i, i < 2 → ∃ y, xs[i]? = some y := fun i hi => ⟨_, List.getElem?_eq_getElem (by rw [hlen]; exact hi)⟩
    obtain ⟨y0, hy0⟩ := hx 0 (by decide)
    have t0 : DataW.trod enc Try.prog W 0 (fun _ => true) true n 3 (([x0, x1].drop 0).take (Try.prog.cellsOf 3)) = some y0 := (hg 0 _ rfl).trans hy0
    rw [cellsG_int] at t0
    have t0 : DataW.trod enc Try.prog W 0 (fun _ => true) true n 3 [x0] = some y0 := t0
    obtain ⟨d0, a0⟩ := open_Int t0
    obtain ⟨y1, hy1⟩ := hx 1 (by decide)
    have t1 : DataW.trod enc Try.prog W 0 (fun _ => true) true n 4 (([x0, x1].drop 1).take (Try.prog.cellsOf 4)) = some y1 := (hg 1 _ rfl).trans hy1
    rw [cellsG_bool] at t1
    have t1 : DataW.trod enc Try.prog W 0 (fun _ => true) true n 4 [x1] = some y1 := t1
    obtain ⟨d1, a1⟩ := open_Bool t1
    exact ⟨(d0, d1), ⟨[x0], _, rfl, a0, a1⟩⟩
set_option maxRecDepth 100000 in
theorem arg_Want {base : Nat} {v : Value} {dd : DataW H} {p : List MemPlace} (hv : Value.okWide Try.prog W .any base 185 v) (h : DataW.Trod enc Try.prog W 0 (fun _ => true) true 185 v dd p) :
    ∃ (d : DWant) (vs : List Value), v = .agg vs.toArray ∧ fWant.At W W.heap.size d vs := by
  obtain ⟨cs, rfl, _⟩ := Go.WideShapes.okWide_struct Try.underlying185 hv
  obtain ⟨fuel, hf⟩ := h
  obtain ⟨d, hd⟩ := open_Want (cs := cs.toList) (by simpa [Value.cells] using hf)
  exact ⟨d, cs.toList, by simp, hd⟩
theorem cellsG_Put : Try.prog.cellsOf 190 = 2 := by kernel_rfl
set_option maxRecDepth 100000 in
theorem open_Put {fuel : Nat} {cs : List Value} {y : DataW H × List MemPlace} (hf : DataW.trod enc Try.prog W 0 (fun _ => true) true fuel 190 cs = some y) : ∃ d, fPut.At W W.heap.size d cs := by
  obtain ⟨xs, n, _, _, hl, hlen, hg⟩ := DataW.trod_struct Try.underlying190 hf
  rw [cellsG_Put] at hl
  match cs, hl with
  | [x0, x1], _ =>
    have hx : ∀ i, i < 2 → ∃ y, xs[i]? = some y := fun i hi => ⟨_, List.getElem?_eq_getElem (by rw [hlen]; exact hi)⟩
    obtain ⟨y0, hy0⟩ := hx 0 (by decide)
    have t0 : DataW.trod enc Try.prog W 0 (fun _ => true) true n 3 (([x0, x1].drop 0).take (Try.prog.cellsOf 3)) = some y0 := (hg 0 _ rfl).trans hy0
    rw [cellsG_int] at t0
    have t0 : DataW.trod enc Try.prog W 0 (fun _ => true) true n 3 [x0] = some y0 := t0
    obtain ⟨d0, a0⟩ := open_Int t0
    obtain ⟨y1, hy1⟩ := hx 1 (by decide)
    have t1 : DataW.trod enc Try.prog W 0 (fun _ => true) true n 3 (([x0, x1].drop 1).take (Try.prog.cellsOf 3)) = some y1 := (hg 1 _ rfl).trans hy1
    rw [cellsG_int] at t1
    have t1 : DataW.trod enc Try.prog W 0 (fun _ => true) true n 3 [x1] = some y1 := t1
    obtain ⟨d1, a1⟩ := open_Int t1
    exact ⟨(d0, d1), ⟨[x0], _, rfl, a0, a1⟩⟩
set_option maxRecDepth 100000 in
theorem arg_Put {base : Nat} {v : Value} {dd : DataW H} {p : List MemPlace} (hv : Value.okWide Try.prog W .any base 190 v) (h : DataW.Trod enc Try.prog W 0 (fun _ => true) true 190 v dd p) :
    ∃ (d : DPut) (vs : List Value), v = .agg vs.toArray ∧ fPut.At W W.heap.size d vs := by
  obtain ⟨cs, rfl, _⟩ := Go.WideShapes.okWide_struct Try.underlying190 hv
  obtain ⟨fuel, hf⟩ := h
  obtain ⟨d, hd⟩ := open_Put (cs := cs.toList) (by simpa [Value.cells] using hf)
  exact ⟨d, cs.toList, by simp, hd⟩
theorem cellsG_Setup : Try.prog.cellsOf 23 = 5 := by kernel_rfl
set_option maxRecDepth 100000 in
theorem open_Setup {fuel : Nat} {cs : List Value} {y : DataW H × List MemPlace} (hf : DataW.trod enc Try.prog W 0 (fun _ => true) true fuel 23 cs = some y) : ∃ d, fSetup.At W W.heap.size d cs := by
  obtain ⟨xs, n, _, _, hl, hlen, hg⟩ := DataW.trod_struct Try.underlying23 hf
  rw [cellsG_Setup] at hl
  match cs, hl with
  | [x0, x1, x2, x3, x4], _ =>
    have hx : ∀ i, i < 5 → ∃ y, xs[i]? = some y := fun i hi => ⟨_, List.getElem?_eq_getElem (by rw [hlen]; exact hi)⟩
    obtain ⟨y0, hy0⟩ := hx 0 (by decide)
    have t0 : DataW.trod enc Try.prog W 0 (fun _ => true) true n 3 (([x0, x1, x2, x3, x4].drop 0).take (Try.prog.cellsOf 3)) = some y0 := (hg 0 _ rfl).trans hy0
    rw [cellsG_int] at t0
    have t0 : DataW.trod enc Try.prog W 0 (fun _ => true) true n 3 [x0] = some y0 := t0
    obtain ⟨d0, a0⟩ := open_Int t0
    obtain ⟨y1, hy1⟩ := hx 1 (by decide)
    have t1 : DataW.trod enc Try.prog W 0 (fun _ => true) true n 3 (([x0, x1, x2, x3, x4].drop 1).take (Try.prog.cellsOf 3)) = some y1 := (hg 1 _ rfl).trans hy1
    rw [cellsG_int] at t1
    have t1 : DataW.trod enc Try.prog W 0 (fun _ => true) true n 3 [x1] = some y1 := t1
    obtain ⟨d1, a1⟩ := open_Int t1
    obtain ⟨y2, hy2⟩ := hx 2 (by decide)
    have t2 : DataW.trod enc Try.prog W 0 (fun _ => true) true n 3 (([x0, x1, x2, x3, x4].drop 2).take (Try.prog.cellsOf 3)) = some y2 := (hg 2 _ rfl).trans hy2
    rw [cellsG_int] at t2
    have t2 : DataW.trod enc Try.prog W 0 (fun _ => true) true n 3 [x2] = some y2 := t2
    obtain ⟨d2, a2⟩ := open_Int t2
    obtain ⟨y3, hy3⟩ := hx 3 (by decide)
    have t3 : DataW.trod enc Try.prog W 0 (fun _ => true) true n 4 (([x0, x1, x2, x3, x4].drop 3).take (Try.prog.cellsOf 4)) = some y3 := (hg 3 _ rfl).trans hy3
    rw [cellsG_bool] at t3
    have t3 : DataW.trod enc Try.prog W 0 (fun _ => true) true n 4 [x3] = some y3 := t3
    obtain ⟨d3, a3⟩ := open_Bool t3
    obtain ⟨y4, hy4⟩ := hx 4 (by decide)
    have t4 : DataW.trod enc Try.prog W 0 (fun _ => true) true n 3 (([x0, x1, x2, x3, x4].drop 4).take (Try.prog.cellsOf 3)) = some y4 := (hg 4 _ rfl).trans hy4
    rw [cellsG_int] at t4
    have t4 : DataW.trod enc Try.prog W 0 (fun _ => true) true n 3 [x4] = some y4 := t4
    obtain ⟨d4, a4⟩ := open_Int t4
    exact ⟨(d0, d1, d2, d3, d4), ⟨[x0], _, rfl, a0, ⟨[x1], _, rfl, a1, ⟨[x2], _, rfl, a2, ⟨[x3], _, rfl, a3, a4⟩⟩⟩⟩⟩
set_option maxRecDepth 100000 in
theorem arg_Setup {base : Nat} {v : Value} {dd : DataW H} {p : List MemPlace} (hv : Value.okWide Try.prog W .any base 23 v) (h : DataW.Trod enc Try.prog W 0 (fun _ => true) true 23 v dd p) :
    ∃ (d : DSetup) (vs : List Value), v = .agg vs.toArray ∧ fSetup.At W W.heap.size d vs := by
  obtain ⟨cs, rfl, _⟩ := Go.WideShapes.okWide_struct Try.underlying23 hv
  obtain ⟨fuel, hf⟩ := h
  obtain ⟨d, hd⟩ := open_Setup (cs := cs.toList) (by simpa [Value.cells] using hf)
  exact ⟨d, cs.toList, by simp, hd⟩
theorem cellsG_Seen : Try.prog.cellsOf 188 = 5 := by kernel_rfl
set_option maxRecDepth 100000 in
theorem open_Seen {fuel : Nat} {cs : List Value} {y : DataW H × List MemPlace} (hf : DataW.trod enc Try.prog W 0 (fun _ => true) true fuel 188 cs = some y) : ∃ d, fSeen.At W W.heap.size d cs := by
  obtain ⟨xs, n, _, _, hl, hlen, hg⟩ := DataW.trod_struct Try.underlying188 hf
  rw [cellsG_Seen] at hl
  match cs, hl with
  | [x0, x1, x2, x3, x4], _ =>
    have hx : ∀ i, i < 3 → ∃ y, xs[i]? = some y := fun i hi => ⟨_, List.getElem?_eq_getElem (by rw [hlen]; exact hi)⟩
    obtain ⟨y0, hy0⟩ := hx 0 (by decide)
    have t0 : DataW.trod enc Try.prog W 0 (fun _ => true) true n 3 (([x0, x1, x2, x3, x4].drop 0).take (Try.prog.cellsOf 3)) = some y0 := (hg 0 _ rfl).trans hy0
    rw [cellsG_int] at t0
    have t0 : DataW.trod enc Try.prog W 0 (fun _ => true) true n 3 [x0] = some y0 := t0
    obtain ⟨d0, a0⟩ := open_Int t0
    obtain ⟨y1, hy1⟩ := hx 1 (by decide)
    have t1 : DataW.trod enc Try.prog W 0 (fun _ => true) true n 153 (([x0, x1, x2, x3, x4].drop 1).take (Try.prog.cellsOf 153)) = some y1 := (hg 1 _ rfl).trans hy1
    rw [cellsG_Word] at t1
    have t1 : DataW.trod enc Try.prog W 0 (fun _ => true) true n 153 [x1, x2, x3] = some y1 := t1
    obtain ⟨d1, a1⟩ := open_Word t1
    obtain ⟨y2, hy2⟩ := hx 2 (by decide)
    have t2 : DataW.trod enc Try.prog W 0 (fun _ => true) true n 3 (([x0, x1, x2, x3, x4].drop 4).take (Try.prog.cellsOf 3)) = some y2 := (hg 2 _ rfl).trans hy2
    rw [cellsG_int] at t2
    have t2 : DataW.trod enc Try.prog W 0 (fun _ => true) true n 3 [x4] = some y2 := t2
    obtain ⟨d2, a2⟩ := open_Int t2
    exact ⟨(d0, d1, d2), ⟨[x0], _, rfl, a0, ⟨[x1, x2, x3], _, rfl, a1, a2⟩⟩⟩
set_option maxRecDepth 100000 in
theorem arg_Seen {base : Nat} {v : Value} {dd : DataW H} {p : List MemPlace} (hv : Value.okWide Try.prog W .any base 188 v) (h : DataW.Trod enc Try.prog W 0 (fun _ => true) true 188 v dd p) :
    ∃ (d : DSeen) (vs : List Value), v = .agg vs.toArray ∧ fSeen.At W W.heap.size d vs := by
  obtain ⟨cs, rfl, _⟩ := Go.WideShapes.okWide_struct Try.underlying188 hv
  obtain ⟨fuel, hf⟩ := h
  obtain ⟨d, hd⟩ := open_Seen (cs := cs.toList) (by simpa [Value.cells] using hf)
  exact ⟨d, cs.toList, by simp, hd⟩
theorem cellsG_HoldS : Try.prog.cellsOf 154 = 1 := by kernel_rfl
set_option maxRecDepth 100000 in
theorem open_HoldS {fuel : Nat} {cs : List Value} {y : DataW H × List MemPlace} (hf : DataW.trod enc Try.prog W 0 (fun _ => true) true fuel 154 cs = some y) : ∃ l, (rowF fHold).At W W.heap.size l cs :=
  open_row Try.underlying154 cellsG_Hold (show 0 < 2 from by decide) (fun _ _ _ _ h => open_Hold h) hf
theorem cellsG_Lock : Try.prog.cellsOf 156 = 2 := by kernel_rfl
set_option maxRecDepth 100000 in
theorem open_Lock {fuel : Nat} {cs : List Value} {y : DataW H × List MemPlace} (hf : DataW.trod enc Try.prog W 0 (fun _ => true) true fuel 156 cs = some y) : ∃ d, fLock.At W W.heap.size d cs := by
  obtain ⟨xs, n, _, _, hl, hlen, hg⟩ := DataW.trod_struct Try.underlying156 hf
  rw [cellsG_Lock] at hl
  match cs, hl with
  | [x0, x1], _ =>
    have hx : ∀ i, i < 2 → ∃ y, xs[i]? = some y := fun i hi => ⟨_, List.getElem?_eq_getElem (by rw [hlen]; exact hi)⟩
    obtain ⟨y0, hy0⟩ := hx 0 (by decide)
    have t0 : DataW.trod enc Try.prog W 0 (fun _ => true) true n 154 (([x0, x1].drop 0).take (Try.prog.cellsOf 154)) = some y0 := (hg 0 _ rfl).trans hy0
    rw [cellsG_HoldS] at t0
    have t0 : DataW.trod enc Try.prog W 0 (fun _ => true) true n 154 [x0] = some y0 := t0
    obtain ⟨d0, a0⟩ := open_HoldS t0
    obtain ⟨y1, hy1⟩ := hx 1 (by decide)
    have t1 : DataW.trod enc Try.prog W 0 (fun _ => true) true n 154 (([x0, x1].drop 1).take (Try.prog.cellsOf 154)) = some y1 := (hg 1 _ rfl).trans hy1
    rw [cellsG_HoldS] at t1
    have t1 : DataW.trod enc Try.prog W 0 (fun _ => true) true n 154 [x1] = some y1 := t1
    obtain ⟨d1, a1⟩ := open_HoldS t1
    exact ⟨(d0, d1), ⟨[x0], _, rfl, a0, a1⟩⟩
set_option maxRecDepth 100000 in
theorem arg_Lock {base : Nat} {v : Value} {dd : DataW H} {p : List MemPlace} (hv : Value.okWide Try.prog W .any base 156 v) (h : DataW.Trod enc Try.prog W 0 (fun _ => true) true 156 v dd p) :
    ∃ (d : DLock) (vs : List Value), v = .agg vs.toArray ∧ fLock.At W W.heap.size d vs := by
  obtain ⟨cs, rfl, _⟩ := Go.WideShapes.okWide_struct Try.underlying156 hv
  obtain ⟨fuel, hf⟩ := h
  obtain ⟨d, hd⟩ := open_Lock (cs := cs.toList) (by simpa [Value.cells] using hf)
  exact ⟨d, cs.toList, by simp, hd⟩
theorem cellsG_Cell : Try.prog.cellsOf 158 = 6 := by kernel_rfl
set_option maxRecDepth 100000 in
theorem open_Cell {fuel : Nat} {cs : List Value} {y : DataW H × List MemPlace} (hf : DataW.trod enc Try.prog W 0 (fun _ => true) true fuel 158 cs = some y) : ∃ d, fCell.At W W.heap.size d cs := by
  obtain ⟨xs, n, _, _, hl, hlen, hg⟩ := DataW.trod_struct Try.underlying158 hf
  rw [cellsG_Cell] at hl
  match cs, hl with
  | [x0, x1, x2, x3, x4, x5], _ =>
    have hx : ∀ i, i < 3 → ∃ y, xs[i]? = some y := fun i hi => ⟨_, List.getElem?_eq_getElem (by rw [hlen]; exact hi)⟩
    obtain ⟨y0, hy0⟩ := hx 0 (by decide)
    have t0 : DataW.trod enc Try.prog W 0 (fun _ => true) true n 3 (([x0, x1, x2, x3, x4, x5].drop 0).take (Try.prog.cellsOf 3)) = some y0 := (hg 0 _ rfl).trans hy0
    rw [cellsG_int] at t0
    have t0 : DataW.trod enc Try.prog W 0 (fun _ => true) true n 3 [x0] = some y0 := t0
    obtain ⟨d0, a0⟩ := open_Int t0
    obtain ⟨y1, hy1⟩ := hx 1 (by decide)
    have t1 : DataW.trod enc Try.prog W 0 (fun _ => true) true n 153 (([x0, x1, x2, x3, x4, x5].drop 1).take (Try.prog.cellsOf 153)) = some y1 := (hg 1 _ rfl).trans hy1
    rw [cellsG_Word] at t1
    have t1 : DataW.trod enc Try.prog W 0 (fun _ => true) true n 153 [x1, x2, x3] = some y1 := t1
    obtain ⟨d1, a1⟩ := open_Word t1
    obtain ⟨y2, hy2⟩ := hx 2 (by decide)
    have t2 : DataW.trod enc Try.prog W 0 (fun _ => true) true n 156 (([x0, x1, x2, x3, x4, x5].drop 4).take (Try.prog.cellsOf 156)) = some y2 := (hg 2 _ rfl).trans hy2
    rw [cellsG_Lock] at t2
    have t2 : DataW.trod enc Try.prog W 0 (fun _ => true) true n 156 [x4, x5] = some y2 := t2
    obtain ⟨d2, a2⟩ := open_Lock t2
    exact ⟨(d0, d1, d2), ⟨[x0], _, rfl, a0, ⟨[x1, x2, x3], _, rfl, a1, a2⟩⟩⟩
set_option maxRecDepth 100000 in
theorem arg_Cell {base : Nat} {v : Value} {dd : DataW H} {p : List MemPlace} (hv : Value.okWide Try.prog W .any base 158 v) (h : DataW.Trod enc Try.prog W 0 (fun _ => true) true 158 v dd p) :
    ∃ (d : DCell) (vs : List Value), v = .agg vs.toArray ∧ fCell.At W W.heap.size d vs := by
  obtain ⟨cs, rfl, _⟩ := Go.WideShapes.okWide_struct Try.underlying158 hv
  obtain ⟨fuel, hf⟩ := h
  obtain ⟨d, hd⟩ := open_Cell (cs := cs.toList) (by simpa [Value.cells] using hf)
  exact ⟨d, cs.toList, by simp, hd⟩
theorem cellsG_CellS : Try.prog.cellsOf 50 = 1 := by kernel_rfl
set_option maxRecDepth 100000 in
theorem open_CellS {fuel : Nat} {cs : List Value} {y : DataW H × List MemPlace} (hf : DataW.trod enc Try.prog W 0 (fun _ => true) true fuel 50 cs = some y) : ∃ l, (rowF fCell).At W W.heap.size l cs :=
  open_row Try.underlying50 cellsG_Cell (show 0 < 6 from by decide) (fun _ _ _ _ h => open_Cell h) hf
theorem cellsG_Table : Try.prog.cellsOf 52 = 1 := by kernel_rfl
set_option maxRecDepth 100000 in
theorem open_Table {fuel : Nat} {cs : List Value} {y : DataW H × List MemPlace} (hf : DataW.trod enc Try.prog W 0 (fun _ => true) true fuel 52 cs = some y) : ∃ d, fTable.At W W.heap.size d cs := by
  obtain ⟨xs, n, _, _, hl, hlen, hg⟩ := DataW.trod_struct Try.underlying52 hf
  rw [cellsG_Table] at hl
  match cs, hl with
  | [x0], _ =>
    have hx : ∀ i, i < 1 → ∃ y, xs[i]? = some y := fun i hi => ⟨_, List.getElem?_eq_getElem (by rw [hlen]; exact hi)⟩
    obtain ⟨y0, hy0⟩ := hx 0 (by decide)
    have t0 : DataW.trod enc Try.prog W 0 (fun _ => true) true n 50 (([x0].drop 0).take (Try.prog.cellsOf 50)) = some y0 := (hg 0 _ rfl).trans hy0
    rw [cellsG_CellS] at t0
    have t0 : DataW.trod enc Try.prog W 0 (fun _ => true) true n 50 [x0] = some y0 := t0
    obtain ⟨d0, a0⟩ := open_CellS t0
    exact ⟨(d0), a0⟩
set_option maxRecDepth 100000 in
theorem arg_Table {base : Nat} {v : Value} {dd : DataW H} {p : List MemPlace} (hv : Value.okWide Try.prog W .any base 52 v) (h : DataW.Trod enc Try.prog W 0 (fun _ => true) true 52 v dd p) :
    ∃ (d : DTable) (vs : List Value), v = .agg vs.toArray ∧ fTable.At W W.heap.size d vs := by
  obtain ⟨cs, rfl, _⟩ := Go.WideShapes.okWide_struct Try.underlying52 hv
  obtain ⟨fuel, hf⟩ := h
  obtain ⟨d, hd⟩ := open_Table (cs := cs.toList) (by simpa [Value.cells] using hf)
  exact ⟨d, cs.toList, by simp, hd⟩
theorem cellsG_ActSS : Try.prog.cellsOf 65 = 1 := by kernel_rfl
set_option maxRecDepth 100000 in
theorem open_ActS {fuel : Nat} {cs : List Value} {y : DataW H × List MemPlace} (hf : DataW.trod enc Try.prog W 0 (fun _ => true) true fuel 100 cs = some y) : ∃ l, (rowF fAct).At W W.heap.size l cs :=
  open_row Try.underlying100 cellsG_Act (show 0 < 3 from by decide) (fun _ _ _ _ h => open_Act h) hf
theorem cellsG_ActS : Try.prog.cellsOf 100 = 1 := by kernel_rfl
set_option maxRecDepth 100000 in
theorem open_ActSS {fuel : Nat} {cs : List Value} {y : DataW H × List MemPlace} (hf : DataW.trod enc Try.prog W 0 (fun _ => true) true fuel 65 cs = some y) : ∃ l, (rowF (rowF fAct)).At W W.heap.size l cs :=
  open_row Try.underlying65 cellsG_ActS (show 0 < 1 from by decide) (fun _ _ _ _ h => open_ActS h) hf
theorem cellsG_WantS : Try.prog.cellsOf 120 = 1 := by kernel_rfl
set_option maxRecDepth 100000 in
theorem open_WantS {fuel : Nat} {cs : List Value} {y : DataW H × List MemPlace} (hf : DataW.trod enc Try.prog W 0 (fun _ => true) true fuel 120 cs = some y) : ∃ l, (rowF fWant).At W W.heap.size l cs :=
  open_row Try.underlying120 cellsG_Want (show 0 < 2 from by decide) (fun _ _ _ _ h => open_Want h) hf
theorem cellsG_SeenS : Try.prog.cellsOf 121 = 1 := by kernel_rfl
set_option maxRecDepth 100000 in
theorem open_SeenS {fuel : Nat} {cs : List Value} {y : DataW H × List MemPlace} (hf : DataW.trod enc Try.prog W 0 (fun _ => true) true fuel 121 cs = some y) : ∃ l, (rowF fSeen).At W W.heap.size l cs :=
  open_row Try.underlying121 cellsG_Seen (show 0 < 5 from by decide) (fun _ _ _ _ h => open_Seen h) hf
theorem cellsG_PutS : Try.prog.cellsOf 122 = 1 := by kernel_rfl
set_option maxRecDepth 100000 in
theorem open_PutS {fuel : Nat} {cs : List Value} {y : DataW H × List MemPlace} (hf : DataW.trod enc Try.prog W 0 (fun _ => true) true fuel 122 cs = some y) : ∃ l, (rowF fPut).At W W.heap.size l cs :=
  open_row Try.underlying122 cellsG_Put (show 0 < 2 from by decide) (fun _ _ _ _ h => open_Put h) hf
theorem cellsG_IntS : Try.prog.cellsOf 37 = 1 := by kernel_rfl
set_option maxRecDepth 100000 in
theorem open_IntS {fuel : Nat} {cs : List Value} {y : DataW H × List MemPlace} (hf : DataW.trod enc Try.prog W 0 (fun _ => true) true fuel 37 cs = some y) : ∃ l, (rowF intF).At W W.heap.size l cs :=
  open_row Try.underlying37 cellsG_int (show 0 < 1 from by decide) (fun _ _ _ _ h => open_Int h) hf
theorem cellsG_Worker : Try.prog.cellsOf 124 = 9 := by kernel_rfl
set_option maxRecDepth 100000 in
theorem open_Worker {fuel : Nat} {cs : List Value} {y : DataW H × List MemPlace} (hf : DataW.trod enc Try.prog W 0 (fun _ => true) true fuel 124 cs = some y) : ∃ d, fWorker.At W W.heap.size d cs := by
  obtain ⟨xs, n, _, _, hl, hlen, hg⟩ := DataW.trod_struct Try.underlying124 hf
  rw [cellsG_Worker] at hl
  match cs, hl with
  | [x0, x1, x2, x3, x4, x5, x6, x7, x8], _ =>
    have hx : ∀ i, i < 9 → ∃ y, xs[i]? = some y := fun i hi => ⟨_, List.getElem?_eq_getElem (by rw [hlen]; exact hi)⟩
    obtain ⟨y0, hy0⟩ := hx 0 (by decide)
    have t0 : DataW.trod enc Try.prog W 0 (fun _ => true) true n 65 (([x0, x1, x2, x3, x4, x5, x6, x7, x8].drop 0).take (Try.prog.cellsOf 65)) = some y0 := (hg 0 _ rfl).trans hy0
    rw [cellsG_ActSS] at t0
    have t0 : DataW.trod enc Try.prog W 0 (fun _ => true) true n 65 [x0] = some y0 := t0
    obtain ⟨d0, a0⟩ := open_ActSS t0
    obtain ⟨y1, hy1⟩ := hx 1 (by decide)
    have t1 : DataW.trod enc Try.prog W 0 (fun _ => true) true n 3 (([x0, x1, x2, x3, x4, x5, x6, x7, x8].drop 1).take (Try.prog.cellsOf 3)) = some y1 := (hg 1 _ rfl).trans hy1
    rw [cellsG_int] at t1
    have t1 : DataW.trod enc Try.prog W 0 (fun _ => true) true n 3 [x1] = some y1 := t1
    obtain ⟨d1, a1⟩ := open_Int t1
    obtain ⟨y2, hy2⟩ := hx 2 (by decide)
    have t2 : DataW.trod enc Try.prog W 0 (fun _ => true) true n 3 (([x0, x1, x2, x3, x4, x5, x6, x7, x8].drop 2).take (Try.prog.cellsOf 3)) = some y2 := (hg 2 _ rfl).trans hy2
    rw [cellsG_int] at t2
    have t2 : DataW.trod enc Try.prog W 0 (fun _ => true) true n 3 [x2] = some y2 := t2
    obtain ⟨d2, a2⟩ := open_Int t2
    obtain ⟨y3, hy3⟩ := hx 3 (by decide)
    have t3 : DataW.trod enc Try.prog W 0 (fun _ => true) true n 3 (([x0, x1, x2, x3, x4, x5, x6, x7, x8].drop 3).take (Try.prog.cellsOf 3)) = some y3 := (hg 3 _ rfl).trans hy3
    rw [cellsG_int] at t3
    have t3 : DataW.trod enc Try.prog W 0 (fun _ => true) true n 3 [x3] = some y3 := t3
    obtain ⟨d3, a3⟩ := open_Int t3
    obtain ⟨y4, hy4⟩ := hx 4 (by decide)
    have t4 : DataW.trod enc Try.prog W 0 (fun _ => true) true n 3 (([x0, x1, x2, x3, x4, x5, x6, x7, x8].drop 4).take (Try.prog.cellsOf 3)) = some y4 := (hg 4 _ rfl).trans hy4
    rw [cellsG_int] at t4
    have t4 : DataW.trod enc Try.prog W 0 (fun _ => true) true n 3 [x4] = some y4 := t4
    obtain ⟨d4, a4⟩ := open_Int t4
    obtain ⟨y5, hy5⟩ := hx 5 (by decide)
    have t5 : DataW.trod enc Try.prog W 0 (fun _ => true) true n 120 (([x0, x1, x2, x3, x4, x5, x6, x7, x8].drop 5).take (Try.prog.cellsOf 120)) = some y5 := (hg 5 _ rfl).trans hy5
    rw [cellsG_WantS] at t5
    have t5 : DataW.trod enc Try.prog W 0 (fun _ => true) true n 120 [x5] = some y5 := t5
    obtain ⟨d5, a5⟩ := open_WantS t5
    obtain ⟨y6, hy6⟩ := hx 6 (by decide)
    have t6 : DataW.trod enc Try.prog W 0 (fun _ => true) true n 121 (([x0, x1, x2, x3, x4, x5, x6, x7, x8].drop 6).take (Try.prog.cellsOf 121)) = some y6 := (hg 6 _ rfl).trans hy6
    rw [cellsG_SeenS] at t6
    have t6 : DataW.trod enc Try.prog W 0 (fun _ => true) true n 121 [x6] = some y6 := t6
    obtain ⟨d6, a6⟩ := open_SeenS t6
    obtain ⟨y7, hy7⟩ := hx 7 (by decide)
    have t7 : DataW.trod enc Try.prog W 0 (fun _ => true) true n 122 (([x0, x1, x2, x3, x4, x5, x6, x7, x8].drop 7).take (Try.prog.cellsOf 122)) = some y7 := (hg 7 _ rfl).trans hy7
    rw [cellsG_PutS] at t7
    have t7 : DataW.trod enc Try.prog W 0 (fun _ => true) true n 122 [x7] = some y7 := t7
    obtain ⟨d7, a7⟩ := open_PutS t7
    obtain ⟨y8, hy8⟩ := hx 8 (by decide)
    have t8 : DataW.trod enc Try.prog W 0 (fun _ => true) true n 37 (([x0, x1, x2, x3, x4, x5, x6, x7, x8].drop 8).take (Try.prog.cellsOf 37)) = some y8 := (hg 8 _ rfl).trans hy8
    rw [cellsG_IntS] at t8
    have t8 : DataW.trod enc Try.prog W 0 (fun _ => true) true n 37 [x8] = some y8 := t8
    obtain ⟨d8, a8⟩ := open_IntS t8
    exact ⟨(d0, d1, d2, d3, d4, d5, d6, d7, d8), ⟨[x0], _, rfl, a0, ⟨[x1], _, rfl, a1, ⟨[x2], _, rfl, a2, ⟨[x3], _, rfl, a3, ⟨[x4], _, rfl, a4, ⟨[x5], _, rfl, a5, ⟨[x6], _, rfl, a6, ⟨[x7], _, rfl, a7, a8⟩⟩⟩⟩⟩⟩⟩⟩⟩
set_option maxRecDepth 100000 in
theorem arg_Worker {base : Nat} {v : Value} {dd : DataW H} {p : List MemPlace} (hv : Value.okWide Try.prog W .any base 124 v) (h : DataW.Trod enc Try.prog W 0 (fun _ => true) true 124 v dd p) :
    ∃ (d : DWorker) (vs : List Value), v = .agg vs.toArray ∧ fWorker.At W W.heap.size d vs := by
  obtain ⟨cs, rfl, _⟩ := Go.WideShapes.okWide_struct Try.underlying124 hv
  obtain ⟨fuel, hf⟩ := h
  obtain ⟨d, hd⟩ := open_Worker (cs := cs.toList) (by simpa [Value.cells] using hf)
  exact ⟨d, cs.toList, by simp, hd⟩
theorem cellsG_Commit : Try.prog.cellsOf 127 = 6 := by kernel_rfl
set_option maxRecDepth 100000 in
theorem open_Commit {fuel : Nat} {cs : List Value} {y : DataW H × List MemPlace} (hf : DataW.trod enc Try.prog W 0 (fun _ => true) true fuel 127 cs = some y) : ∃ d, fCommit.At W W.heap.size d cs := by
  obtain ⟨xs, n, _, _, hl, hlen, hg⟩ := DataW.trod_struct Try.underlying127 hf
  rw [cellsG_Commit] at hl
  match cs, hl with
  | [x0, x1, x2, x3, x4, x5], _ =>
    have hx : ∀ i, i < 6 → ∃ y, xs[i]? = some y := fun i hi => ⟨_, List.getElem?_eq_getElem (by rw [hlen]; exact hi)⟩
    obtain ⟨y0, hy0⟩ := hx 0 (by decide)
    have t0 : DataW.trod enc Try.prog W 0 (fun _ => true) true n 3 (([x0, x1, x2, x3, x4, x5].drop 0).take (Try.prog.cellsOf 3)) = some y0 := (hg 0 _ rfl).trans hy0
    rw [cellsG_int] at t0
    have t0 : DataW.trod enc Try.prog W 0 (fun _ => true) true n 3 [x0] = some y0 := t0
    obtain ⟨d0, a0⟩ := open_Int t0
    obtain ⟨y1, hy1⟩ := hx 1 (by decide)
    have t1 : DataW.trod enc Try.prog W 0 (fun _ => true) true n 3 (([x0, x1, x2, x3, x4, x5].drop 1).take (Try.prog.cellsOf 3)) = some y1 := (hg 1 _ rfl).trans hy1
    rw [cellsG_int] at t1
    have t1 : DataW.trod enc Try.prog W 0 (fun _ => true) true n 3 [x1] = some y1 := t1
    obtain ⟨d1, a1⟩ := open_Int t1
    obtain ⟨y2, hy2⟩ := hx 2 (by decide)
    have t2 : DataW.trod enc Try.prog W 0 (fun _ => true) true n 3 (([x0, x1, x2, x3, x4, x5].drop 2).take (Try.prog.cellsOf 3)) = some y2 := (hg 2 _ rfl).trans hy2
    rw [cellsG_int] at t2
    have t2 : DataW.trod enc Try.prog W 0 (fun _ => true) true n 3 [x2] = some y2 := t2
    obtain ⟨d2, a2⟩ := open_Int t2
    obtain ⟨y3, hy3⟩ := hx 3 (by decide)
    have t3 : DataW.trod enc Try.prog W 0 (fun _ => true) true n 3 (([x0, x1, x2, x3, x4, x5].drop 3).take (Try.prog.cellsOf 3)) = some y3 := (hg 3 _ rfl).trans hy3
    rw [cellsG_int] at t3
    have t3 : DataW.trod enc Try.prog W 0 (fun _ => true) true n 3 [x3] = some y3 := t3
    obtain ⟨d3, a3⟩ := open_Int t3
    obtain ⟨y4, hy4⟩ := hx 4 (by decide)
    have t4 : DataW.trod enc Try.prog W 0 (fun _ => true) true n 37 (([x0, x1, x2, x3, x4, x5].drop 4).take (Try.prog.cellsOf 37)) = some y4 := (hg 4 _ rfl).trans hy4
    rw [cellsG_IntS] at t4
    have t4 : DataW.trod enc Try.prog W 0 (fun _ => true) true n 37 [x4] = some y4 := t4
    obtain ⟨d4, a4⟩ := open_IntS t4
    obtain ⟨y5, hy5⟩ := hx 5 (by decide)
    have t5 : DataW.trod enc Try.prog W 0 (fun _ => true) true n 122 (([x0, x1, x2, x3, x4, x5].drop 5).take (Try.prog.cellsOf 122)) = some y5 := (hg 5 _ rfl).trans hy5
    rw [cellsG_PutS] at t5
    have t5 : DataW.trod enc Try.prog W 0 (fun _ => true) true n 122 [x5] = some y5 := t5
    obtain ⟨d5, a5⟩ := open_PutS t5
    exact ⟨(d0, d1, d2, d3, d4, d5), ⟨[x0], _, rfl, a0, ⟨[x1], _, rfl, a1, ⟨[x2], _, rfl, a2, ⟨[x3], _, rfl, a3, ⟨[x4], _, rfl, a4, a5⟩⟩⟩⟩⟩⟩
set_option maxRecDepth 100000 in
theorem arg_Commit {base : Nat} {v : Value} {dd : DataW H} {p : List MemPlace} (hv : Value.okWide Try.prog W .any base 127 v) (h : DataW.Trod enc Try.prog W 0 (fun _ => true) true 127 v dd p) :
    ∃ (d : DCommit) (vs : List Value), v = .agg vs.toArray ∧ fCommit.At W W.heap.size d vs := by
  obtain ⟨cs, rfl, _⟩ := Go.WideShapes.okWide_struct Try.underlying127 hv
  obtain ⟨fuel, hf⟩ := h
  obtain ⟨d, hd⟩ := open_Commit (cs := cs.toList) (by simpa [Value.cells] using hf)
  exact ⟨d, cs.toList, by simp, hd⟩
theorem cellsG_WorkerS : Try.prog.cellsOf 53 = 1 := by kernel_rfl
set_option maxRecDepth 100000 in
theorem open_WorkerS {fuel : Nat} {cs : List Value} {y : DataW H × List MemPlace} (hf : DataW.trod enc Try.prog W 0 (fun _ => true) true fuel 53 cs = some y) : ∃ l, (rowF fWorker).At W W.heap.size l cs :=
  open_row Try.underlying53 cellsG_Worker (show 0 < 9 from by decide) (fun _ _ _ _ h => open_Worker h) hf
theorem cellsG_CommitS : Try.prog.cellsOf 54 = 1 := by kernel_rfl
set_option maxRecDepth 100000 in
theorem open_CommitS {fuel : Nat} {cs : List Value} {y : DataW H × List MemPlace} (hf : DataW.trod enc Try.prog W 0 (fun _ => true) true fuel 54 cs = some y) : ∃ l, (rowF fCommit).At W W.heap.size l cs :=
  open_row Try.underlying54 cellsG_Commit (show 0 < 6 from by decide) (fun _ _ _ _ h => open_Commit h) hf
theorem cellsG_Engine : Try.prog.cellsOf 56 = 13 := by kernel_rfl
set_option maxRecDepth 100000 in
theorem open_Engine {fuel : Nat} {cs : List Value} {y : DataW H × List MemPlace} (hf : DataW.trod enc Try.prog W 0 (fun _ => true) true fuel 56 cs = some y) : ∃ d, fEngine.At W W.heap.size d cs := by
  obtain ⟨xs, n, _, _, hl, hlen, hg⟩ := DataW.trod_struct Try.underlying56 hf
  rw [cellsG_Engine] at hl
  match cs, hl with
  | [x0, x1, x2, x3, x4, x5, x6, x7, x8, x9, x10, x11, x12], _ =>
    have hx : ∀ i, i < 9 → ∃ y, xs[i]? = some y := fun i hi => ⟨_, List.getElem?_eq_getElem (by rw [hlen]; exact hi)⟩
    obtain ⟨y0, hy0⟩ := hx 0 (by decide)
    have t0 : DataW.trod enc Try.prog W 0 (fun _ => true) true n 23 (([x0, x1, x2, x3, x4, x5, x6, x7, x8, x9, x10, x11, x12].drop 0).take (Try.prog.cellsOf 23)) = some y0 := (hg 0 _ rfl).trans hy0
    rw [cellsG_Setup] at t0
    have t0 : DataW.trod enc Try.prog W 0 (fun _ => true) true n 23 [x0, x1, x2, x3, x4] = some y0 := t0
    obtain ⟨d0, a0⟩ := open_Setup t0
    obtain ⟨y1, hy1⟩ := hx 1 (by decide)
    have t1 : DataW.trod enc Try.prog W 0 (fun _ => true) true n 52 (([x0, x1, x2, x3, x4, x5, x6, x7, x8, x9, x10, x11, x12].drop 5).take (Try.prog.cellsOf 52)) = some y1 := (hg 1 _ rfl).trans hy1
    rw [cellsG_Table] at t1
    have t1 : DataW.trod enc Try.prog W 0 (fun _ => true) true n 52 [x5] = some y1 := t1
    obtain ⟨d1, a1⟩ := open_Table t1
    obtain ⟨y2, hy2⟩ := hx 2 (by decide)
    have t2 : DataW.trod enc Try.prog W 0 (fun _ => true) true n 53 (([x0, x1, x2, x3, x4, x5, x6, x7, x8, x9, x10, x11, x12].drop 6).take (Try.prog.cellsOf 53)) = some y2 := (hg 2 _ rfl).trans hy2
    rw [cellsG_WorkerS] at t2
    have t2 : DataW.trod enc Try.prog W 0 (fun _ => true) true n 53 [x6] = some y2 := t2
    obtain ⟨d2, a2⟩ := open_WorkerS t2
    obtain ⟨y3, hy3⟩ := hx 3 (by decide)
    have t3 : DataW.trod enc Try.prog W 0 (fun _ => true) true n 37 (([x0, x1, x2, x3, x4, x5, x6, x7, x8, x9, x10, x11, x12].drop 7).take (Try.prog.cellsOf 37)) = some y3 := (hg 3 _ rfl).trans hy3
    rw [cellsG_IntS] at t3
    have t3 : DataW.trod enc Try.prog W 0 (fun _ => true) true n 37 [x7] = some y3 := t3
    obtain ⟨d3, a3⟩ := open_IntS t3
    obtain ⟨y4, hy4⟩ := hx 4 (by decide)
    have t4 : DataW.trod enc Try.prog W 0 (fun _ => true) true n 3 (([x0, x1, x2, x3, x4, x5, x6, x7, x8, x9, x10, x11, x12].drop 8).take (Try.prog.cellsOf 3)) = some y4 := (hg 4 _ rfl).trans hy4
    rw [cellsG_int] at t4
    have t4 : DataW.trod enc Try.prog W 0 (fun _ => true) true n 3 [x8] = some y4 := t4
    obtain ⟨d4, a4⟩ := open_Int t4
    obtain ⟨y5, hy5⟩ := hx 5 (by decide)
    have t5 : DataW.trod enc Try.prog W 0 (fun _ => true) true n 3 (([x0, x1, x2, x3, x4, x5, x6, x7, x8, x9, x10, x11, x12].drop 9).take (Try.prog.cellsOf 3)) = some y5 := (hg 5 _ rfl).trans hy5
    rw [cellsG_int] at t5
    have t5 : DataW.trod enc Try.prog W 0 (fun _ => true) true n 3 [x9] = some y5 := t5
    obtain ⟨d5, a5⟩ := open_Int t5
    obtain ⟨y6, hy6⟩ := hx 6 (by decide)
    have t6 : DataW.trod enc Try.prog W 0 (fun _ => true) true n 54 (([x0, x1, x2, x3, x4, x5, x6, x7, x8, x9, x10, x11, x12].drop 10).take (Try.prog.cellsOf 54)) = some y6 := (hg 6 _ rfl).trans hy6
    rw [cellsG_CommitS] at t6
    have t6 : DataW.trod enc Try.prog W 0 (fun _ => true) true n 54 [x10] = some y6 := t6
    obtain ⟨d6, a6⟩ := open_CommitS t6
    obtain ⟨y7, hy7⟩ := hx 7 (by decide)
    have t7 : DataW.trod enc Try.prog W 0 (fun _ => true) true n 3 (([x0, x1, x2, x3, x4, x5, x6, x7, x8, x9, x10, x11, x12].drop 11).take (Try.prog.cellsOf 3)) = some y7 := (hg 7 _ rfl).trans hy7
    rw [cellsG_int] at t7
    have t7 : DataW.trod enc Try.prog W 0 (fun _ => true) true n 3 [x11] = some y7 := t7
    obtain ⟨d7, a7⟩ := open_Int t7
    obtain ⟨y8, hy8⟩ := hx 8 (by decide)
    have t8 : DataW.trod enc Try.prog W 0 (fun _ => true) true n 3 (([x0, x1, x2, x3, x4, x5, x6, x7, x8, x9, x10, x11, x12].drop 12).take (Try.prog.cellsOf 3)) = some y8 := (hg 8 _ rfl).trans hy8
    rw [cellsG_int] at t8
    have t8 : DataW.trod enc Try.prog W 0 (fun _ => true) true n 3 [x12] = some y8 := t8
    obtain ⟨d8, a8⟩ := open_Int t8
    exact ⟨(d0, d1, d2, d3, d4, d5, d6, d7, d8), ⟨[x0, x1, x2, x3, x4], _, rfl, a0, ⟨[x5], _, rfl, a1, ⟨[x6], _, rfl, a2, ⟨[x7], _, rfl, a3, ⟨[x8], _, rfl, a4, ⟨[x9], _, rfl, a5, ⟨[x10], _, rfl, a6, ⟨[x11], _, rfl, a7, a8⟩⟩⟩⟩⟩⟩⟩⟩⟩
set_option maxRecDepth 100000 in
theorem arg_Engine {base : Nat} {v : Value} {dd : DataW H} {p : List MemPlace} (hv : Value.okWide Try.prog W .any base 56 v) (h : DataW.Trod enc Try.prog W 0 (fun _ => true) true 56 v dd p) :
    ∃ (d : DEngine) (vs : List Value), v = .agg vs.toArray ∧ fEngine.At W W.heap.size d vs := by
  obtain ⟨cs, rfl, _⟩ := Go.WideShapes.okWide_struct Try.underlying56 hv
  obtain ⟨fuel, hf⟩ := h
  obtain ⟨d, hd⟩ := open_Engine (cs := cs.toList) (by simpa [Value.cells] using hf)
  exact ⟨d, cs.toList, by simp, hd⟩
set_option maxRecDepth 100000 in
theorem open_ActSSS {fuel : Nat} {cs : List Value} {y : DataW H × List MemPlace} (hf : DataW.trod enc Try.prog W 0 (fun _ => true) true fuel 31 cs = some y) : ∃ l, (rowF (rowF (rowF fAct))).At W W.heap.size l cs :=
  open_row Try.underlying31 cellsG_ActSS (show 0 < 1 from by decide) (fun _ _ _ _ h => open_ActSS h) hf
end
end Go.Proofs.Ytaninlnobmjbmaa
