/- Arguments opened. -/
import Derived.Test.YtkpkjcmoldkmmaaGreatGf
import Derived.ChangeSame
import Derived.JoinedOf
import Derived.JoinedAt
import Derived.RowKit3
import Derived.Lib.SmallJoins
import Derived.Deep.Slices
import Derived.Deep.Strs
import Derived.ChangeOld
import Derived.OpenShut
namespace Go.Proofs.YtkpkjcmoldkmmaaGreat
open Go.ChangeShapes Go.WideShapes Go.ChangeAt Go.RowKit Go.Joins Go.Deep

theorem own : ownKnob Tryz.prog.godebug = none := by kernel_rfl
theorem laidOut : laidOutB Tryz.prog = true := by kernel_rfl
section
variable {H : Type} {enc : TypeId × Value → H} {W : World}
theorem open_row {α : Type} {F : Fm α} {t e : TypeId} {fuel : Nat} {cs : List Value} {y : DataW H × List MemPlace} (ht : Tryz.prog.underlying t = some (.slice e)) (hn : Tryz.prog.cellsOf e = F.n) (hp : 0 < F.n)
    (ho : ∀ (us : List Value) (z : DataW H × List MemPlace) (n : Nat), us.length = F.n → DataW.trod enc Tryz.prog W 0 (fun _ => true) true n e us = some z → ∃ d, F.At W W.heap.size d us ∧ F.Wf d)
    (hf : DataW.trod enc Tryz.prog W 0 (fun _ => true) true fuel t cs = some y) : ∃ l, (rowF F).At W W.heap.size l cs ∧ (rowF F).Wf l := by
  rcases open_slice ht hf with ⟨hcs, _⟩ | ⟨a, len, cap', m, k, DD, Pl', hcs, _, hl, hm, hmm, _, hi⟩
  · subst hcs
    exact ⟨[], ⟨none, 0, rfl, RAt.nil⟩, fun _ h => by cases h⟩
  · subst hcs
    have hex : ∀ j : Fin len, ∃ z : α × List Value, (∀ i u, z.2[i]? = some u → W.cell? (a.add (j.val * F.n + i)) = some u) ∧ F.At W W.heap.size z.1 z.2 ∧ F.Wf z.1 := fun j => by
      obtain ⟨cs', hc, ht'⟩ := hi j.val (by rw [hmm]; simp; omega)
      rw [hn] at hc
      obtain ⟨_, hlen, hcell⟩ := World.cells?_some hc
      obtain ⟨d, hd, hwd⟩ := ho cs' _ _ hlen ht'
      refine ⟨(d, cs'), fun i u hu => ?_, hd, hwd⟩
      have hi6 : i < F.n := by
        have := (List.getElem?_eq_some_iff.1 hu).1
        rwa [hlen] at this
      have := hcell i (by omega)
      rw [add_add] at this
      rw [this]
      exact hu
    obtain ⟨z, hz⟩ := Classical.axiomOfChoice hex
    refine ⟨List.ofFn fun j => (z j).1, ⟨some a, cap', by rw [List.length_ofFn], by rw [List.length_ofFn]; omega, fun hN => ?_⟩, fun x hx => by
      obtain ⟨j, rfl⟩ := List.mem_ofFn.1 hx
      exact (hz j).2.2⟩
    rw [List.length_ofFn] at hN
    obtain ⟨b, off, spot⟩ := a
    have h0 := (hz ⟨0, hN⟩).1
    have hl0 := F.len (hz ⟨0, hN⟩).2.1
    have h00 := h0 0 _ (List.getElem?_eq_getElem (by omega))
    have hs : spot = none := by simpa [Addr.add] using World.cell?_spot h00
    subst hs
    refine ⟨b, off, rfl, by simpa [Addr.add] using World.block_lt_of_cell? _ _ h00, fun j x hx => ?_⟩
    obtain ⟨hj, hxe⟩ := List.getElem?_eq_some_iff.1 hx
    rw [List.length_ofFn] at hj
    rw [List.getElem_ofFn] at hxe
    subst hxe
    obtain ⟨h1, h2, _⟩ := hz ⟨j, hj⟩
    refine ⟨_, fun i u hu => ?_, h2⟩
    have := h1 i u hu
    have ea : ∀ k : Nat, (⟨b, off, none⟩ : Addr).add k = ⟨b, off + k, none⟩ := fun k => by
      by_cases e : k = 0
      · subst e; simp [Addr.add]
      · simp [Addr.add, e]
    rw [ea, ← Nat.add_assoc] at this
    exact this
theorem open_Int {fuel : Nat} {cs : List Value} {y : DataW H × List MemPlace} (hf : DataW.trod enc Tryz.prog W 0 (fun _ => true) true fuel 3 cs = some y) : ∃ d, intF.At W W.heap.size d cs ∧ intF.Wf d := by
  obtain ⟨x, e, _, hw⟩ := DataW.trod_int Tryz.underlying3 hf
  refine ⟨x, e, ?_⟩
  simp only [Lit.wf, Bool.and_eq_true, decide_eq_true_eq] at hw
  have h1 : IntKind.i64.min = -9223372036854775808 := rfl
  have h2 : IntKind.i64.max = 9223372036854775807 := rfl
  exact ⟨by omega, by omega⟩
theorem open_Bool {fuel : Nat} {cs : List Value} {y : DataW H × List MemPlace} (hf : DataW.trod enc Tryz.prog W 0 (fun _ => true) true fuel 4 cs = some y) : ∃ d, boolF.At W W.heap.size d cs ∧ boolF.Wf d := by
  obtain ⟨x, e, _⟩ := DataW.trod_bool Tryz.underlying4 hf
  exact ⟨x, e, trivial⟩
theorem cellsG_int : Tryz.prog.cellsOf 3 = 1 := by kernel_rfl
theorem cellsG_Act : Tryz.prog.cellsOf 272 = 3 := by kernel_rfl
set_option maxRecDepth 100000 in
theorem open_Act {fuel : Nat} {cs : List Value} {y : DataW H × List MemPlace} (hf : DataW.trod enc Tryz.prog W 0 (fun _ => true) true fuel 272 cs = some y) : ∃ d, fAct.At W W.heap.size d cs ∧ fAct.Wf d := by
  obtain ⟨xs, n, _, _, hl, hlen, hg⟩ := DataW.trod_struct Tryz.underlying272 hf
  rw [cellsG_Act] at hl
  match cs, hl with
  | [x0, x1, x2], _ =>
    have hx : ∀ i, i < 3 → ∃ y, xs[i]? = some y := fun i hi => ⟨_, List.getElem?_eq_getElem (by rw [hlen]; exact hi)⟩
    obtain ⟨y0, hy0⟩ := hx 0 (by decide)
    have t0 : DataW.trod enc Tryz.prog W 0 (fun _ => true) true n 3 (([x0, x1, x2].drop 0).take (Tryz.prog.cellsOf 3)) = some y0 := (hg 0 _ rfl).trans hy0
    rw [cellsG_int] at t0
    have t0 : DataW.trod enc Tryz.prog W 0 (fun _ => true) true n 3 [x0] = some y0 := t0
    obtain ⟨d0, a0, b0⟩ := open_Int t0
    obtain ⟨y1, hy1⟩ := hx 1 (by decide)
    have t1 : DataW.trod enc Tryz.prog W 0 (fun _ => true) true n 3 (([x0, x1, x2].drop 1).take (Tryz.prog.cellsOf 3)) = some y1 := (hg 1 _ rfl).trans hy1
    rw [cellsG_int] at t1
    have t1 : DataW.trod enc Tryz.prog W 0 (fun _ => true) true n 3 [x1] = some y1 := t1
    obtain ⟨d1, a1, b1⟩ := open_Int t1
    obtain ⟨y2, hy2⟩ := hx 2 (by decide)
    have t2 : DataW.trod enc Tryz.prog W 0 (fun _ => true) true n 3 (([x0, x1, x2].drop 2).take (Tryz.prog.cellsOf 3)) = some y2 := (hg 2 _ rfl).trans hy2
    rw [cellsG_int] at t2
    have t2 : DataW.trod enc Tryz.prog W 0 (fun _ => true) true n 3 [x2] = some y2 := t2
    obtain ⟨d2, a2, b2⟩ := open_Int t2
    exact ⟨(d0, d1, d2), ⟨[x0], _, rfl, a0, ⟨[x1], _, rfl, a1, a2⟩⟩, ⟨b0, b1, b2⟩⟩
set_option maxRecDepth 100000 in
theorem arg_Act {base : Nat} {v : Value} {dd : DataW H} {p : List MemPlace} (hv : Value.okWide Tryz.prog W .any base 272 v) (h : DataW.Trod enc Tryz.prog W 0 (fun _ => true) true 272 v dd p) :
    ∃ (d : DAct) (vs : List Value), v = .agg vs.toArray ∧ fAct.At W W.heap.size d vs ∧ fAct.Wf d := by
  obtain ⟨cs, rfl, _⟩ := Go.WideShapes.okWide_struct Tryz.underlying272 hv
  obtain ⟨fuel, hf⟩ := h
  obtain ⟨d, hd, hw⟩ := open_Act (cs := cs.toList) (by simpa [Value.cells] using hf)
  exact ⟨d, cs.toList, by simp, hd, hw⟩
theorem cellsG_bool : Tryz.prog.cellsOf 4 = 1 := by kernel_rfl
theorem cellsG_Word : Tryz.prog.cellsOf 162 = 3 := by kernel_rfl
set_option maxRecDepth 100000 in
theorem open_Word {fuel : Nat} {cs : List Value} {y : DataW H × List MemPlace} (hf : DataW.trod enc Tryz.prog W 0 (fun _ => true) true fuel 162 cs = some y) : ∃ d, fWord.At W W.heap.size d cs ∧ fWord.Wf d := by
  obtain ⟨xs, n, _, _, hl, hlen, hg⟩ := DataW.trod_struct Tryz.underlying162 hf
  rw [cellsG_Word] at hl
  match cs, hl with
  | [x0, x1, x2], _ =>
    have hx : ∀ i, i < 3 → ∃ y, xs[i]? = some y := fun i hi => ⟨_, List.getElem?_eq_getElem (by rw [hlen]; exact hi)⟩
    obtain ⟨y0, hy0⟩ := hx 0 (by decide)
    have t0 : DataW.trod enc Tryz.prog W 0 (fun _ => true) true n 3 (([x0, x1, x2].drop 0).take (Tryz.prog.cellsOf 3)) = some y0 := (hg 0 _ rfl).trans hy0
    rw [cellsG_int] at t0
    have t0 : DataW.trod enc Tryz.prog W 0 (fun _ => true) true n 3 [x0] = some y0 := t0
    obtain ⟨d0, a0, b0⟩ := open_Int t0
    obtain ⟨y1, hy1⟩ := hx 1 (by decide)
    have t1 : DataW.trod enc Tryz.prog W 0 (fun _ => true) true n 3 (([x0, x1, x2].drop 1).take (Tryz.prog.cellsOf 3)) = some y1 := (hg 1 _ rfl).trans hy1
    rw [cellsG_int] at t1
    have t1 : DataW.trod enc Tryz.prog W 0 (fun _ => true) true n 3 [x1] = some y1 := t1
    obtain ⟨d1, a1, b1⟩ := open_Int t1
    obtain ⟨y2, hy2⟩ := hx 2 (by decide)
    have t2 : DataW.trod enc Tryz.prog W 0 (fun _ => true) true n 4 (([x0, x1, x2].drop 2).take (Tryz.prog.cellsOf 4)) = some y2 := (hg 2 _ rfl).trans hy2
    rw [cellsG_bool] at t2
    have t2 : DataW.trod enc Tryz.prog W 0 (fun _ => true) true n 4 [x2] = some y2 := t2
    obtain ⟨d2, a2, b2⟩ := open_Bool t2
    exact ⟨(d0, d1, d2), ⟨[x0], _, rfl, a0, ⟨[x1], _, rfl, a1, a2⟩⟩, ⟨b0, b1, b2⟩⟩
set_option maxRecDepth 100000 in
theorem arg_Word {base : Nat} {v : Value} {dd : DataW H} {p : List MemPlace} (hv : Value.okWide Tryz.prog W .any base 162 v) (h : DataW.Trod enc Tryz.prog W 0 (fun _ => true) true 162 v dd p) :
    ∃ (d : DWord) (vs : List Value), v = .agg vs.toArray ∧ fWord.At W W.heap.size d vs ∧ fWord.Wf d := by
  obtain ⟨cs, rfl, _⟩ := Go.WideShapes.okWide_struct Tryz.underlying162 hv
  obtain ⟨fuel, hf⟩ := h
  obtain ⟨d, hd, hw⟩ := open_Word (cs := cs.toList) (by simpa [Value.cells] using hf)
  exact ⟨d, cs.toList, by simp, hd, hw⟩
theorem cellsG_Hold : Tryz.prog.cellsOf 286 = 2 := by kernel_rfl
set_option maxRecDepth 100000 in
theorem open_Hold {fuel : Nat} {cs : List Value} {y : DataW H × List MemPlace} (hf : DataW.trod enc Tryz.prog W 0 (fun _ => true) true fuel 286 cs = some y) : ∃ d, fHold.At W W.heap.size d cs ∧ fHold.Wf d := by
  obtain ⟨xs, n, _, _, hl, hlen, hg⟩ := DataW.trod_struct Tryz.underlying286 hf
  rw [cellsG_Hold] at hl
  match cs, hl with
  | [x0, x1], _ =>
    have hx : ∀ i, i < 2 → ∃ y, xs[i]? = some y := fun i hi => ⟨_, List.getElem?_eq_getElem (by rw [hlen]; exact hi)⟩
    obtain ⟨y0, hy0⟩ := hx 0 (by decide)
    have t0 : DataW.trod enc Tryz.prog W 0 (fun _ => true) true n 3 (([x0, x1].drop 0).take (Tryz.prog.cellsOf 3)) = some y0 := (hg 0 _ rfl).trans hy0
    rw [cellsG_int] at t0
    have t0 : DataW.trod enc Tryz.prog W 0 (fun _ => true) true n 3 [x0] = some y0 := t0
    obtain ⟨d0, a0, b0⟩ := open_Int t0
    obtain ⟨y1, hy1⟩ := hx 1 (by decide)
    have t1 : DataW.trod enc Tryz.prog W 0 (fun _ => true) true n 4 (([x0, x1].drop 1).take (Tryz.prog.cellsOf 4)) = some y1 := (hg 1 _ rfl).trans hy1
    rw [cellsG_bool] at t1
    have t1 : DataW.trod enc Tryz.prog W 0 (fun _ => true) true n 4 [x1] = some y1 := t1
    obtain ⟨d1, a1, b1⟩ := open_Bool t1
    exact ⟨(d0, d1), ⟨[x0], _, rfl, a0, a1⟩, ⟨b0, b1⟩⟩
set_option maxRecDepth 100000 in
theorem arg_Hold {base : Nat} {v : Value} {dd : DataW H} {p : List MemPlace} (hv : Value.okWide Tryz.prog W .any base 286 v) (h : DataW.Trod enc Tryz.prog W 0 (fun _ => true) true 286 v dd p) :
    ∃ (d : DHold) (vs : List Value), v = .agg vs.toArray ∧ fHold.At W W.heap.size d vs ∧ fHold.Wf d := by
  obtain ⟨cs, rfl, _⟩ := Go.WideShapes.okWide_struct Tryz.underlying286 hv
  obtain ⟨fuel, hf⟩ := h
  obtain ⟨d, hd, hw⟩ := open_Hold (cs := cs.toList) (by simpa [Value.cells] using hf)
  exact ⟨d, cs.toList, by simp, hd, hw⟩
theorem cellsG_Want : Tryz.prog.cellsOf 236 = 2 := by kernel_rfl
set_option maxRecDepth 100000 in
theorem open_Want {fuel : Nat} {cs : List Value} {y : DataW H × List MemPlace} (hf : DataW.trod enc Tryz.prog W 0 (fun _ => true) true fuel 236 cs = some y) : ∃ d, fWant.At W W.heap.size d cs ∧ fWant.Wf d := by
  obtain ⟨xs, n, _, _, hl, hlen, hg⟩ := DataW.trod_struct Tryz.underlying236 hf
  rw [cellsG_Want] at hl
  match cs, hl with
  | [x0, x1], _ =>
    have hx : ∀ i, i < 2 → ∃ y, xs[i]? = some y := fun i hi => ⟨_, List.getElem?_eq_getElem (by rw [hlen]; exact hi)⟩
    obtain ⟨y0, hy0⟩ := hx 0 (by decide)
    have t0 : DataW.trod enc Tryz.prog W 0 (fun _ => true) true n 3 (([x0, x1].drop 0).take (Tryz.prog.cellsOf 3)) = some y0 := (hg 0 _ rfl).trans hy0
    rw [cellsG_int] at t0
    have t0 : DataW.trod enc Tryz.prog W 0 (fun _ => true) true n 3 [x0] = some y0 := t0
    obtain ⟨d0, a0, b0⟩ := open_Int t0
    obtain ⟨y1, hy1⟩ := hx 1 (by decide)
    have t1 : DataW.trod enc Tryz.prog W 0 (fun _ => true) true n 4 (([x0, x1].drop 1).take (Tryz.prog.cellsOf 4)) = some y1 := (hg 1 _ rfl).trans hy1
    rw [cellsG_bool] at t1
    have t1 : DataW.trod enc Tryz.prog W 0 (fun _ => true) true n 4 [x1] = some y1 := t1
    obtain ⟨d1, a1, b1⟩ := open_Bool t1
    exact ⟨(d0, d1), ⟨[x0], _, rfl, a0, a1⟩, ⟨b0, b1⟩⟩
set_option maxRecDepth 100000 in
theorem arg_Want {base : Nat} {v : Value} {dd : DataW H} {p : List MemPlace} (hv : Value.okWide Tryz.prog W .any base 236 v) (h : DataW.Trod enc Tryz.prog W 0 (fun _ => true) true 236 v dd p) :
    ∃ (d : DWant) (vs : List Value), v = .agg vs.toArray ∧ fWant.At W W.heap.size d vs ∧ fWant.Wf d := by
  obtain ⟨cs, rfl, _⟩ := Go.WideShapes.okWide_struct Tryz.underlying236 hv
  obtain ⟨fuel, hf⟩ := h
  obtain ⟨d, hd, hw⟩ := open_Want (cs := cs.toList) (by simpa [Value.cells] using hf)
  exact ⟨d, cs.toList, by simp, hd, hw⟩
theorem cellsG_Put : Tryz.prog.cellsOf 241 = 2 := by kernel_rfl
set_option maxRecDepth 100000 in
theorem open_Put {fuel : Nat} {cs : List Value} {y : DataW H × List MemPlace} (hf : DataW.trod enc Tryz.prog W 0 (fun _ => true) true fuel 241 cs = some y) : ∃ d, fPut.At W W.heap.size d cs ∧ fPut.Wf d := by
  obtain ⟨xs, n, _, _, hl, hlen, hg⟩ := DataW.trod_struct Tryz.underlying241 hf
  rw [cellsG_Put] at hl
  match cs, hl with
  | [x0, x1], _ =>
    have hx : ∀ i, i < 2 → ∃ y, xs[i]? = some y := fun i hi => ⟨_, List.getElem?_eq_getElem (by rw [hlen]; exact hi)⟩
    obtain ⟨y0, hy0⟩ := hx 0 (by decide)
    have t0 : DataW.trod enc Tryz.prog W 0 (fun _ => true) true n 3 (([x0, x1].drop 0).take (Tryz.prog.cellsOf 3)) = some y0 := (hg 0 _ rfl).trans hy0
    rw [cellsG_int] at t0
    have t0 : DataW.trod enc Tryz.prog W 0 (fun _ => true) true n 3 [x0] = some y0 := t0
    obtain ⟨d0, a0, b0⟩ := open_Int t0
    obtain ⟨y1, hy1⟩ := hx 1 (by decide)
    have t1 : DataW.trod enc Tryz.prog W 0 (fun _ => true) true n 3 (([x0, x1].drop 1).take (Tryz.prog.cellsOf 3)) = some y1 := (hg 1 _ rfl).trans hy1
    rw [cellsG_int] at t1
    have t1 : DataW.trod enc Tryz.prog W 0 (fun _ => true) true n 3 [x1] = some y1 := t1
    obtain ⟨d1, a1, b1⟩ := open_Int t1
    exact ⟨(d0, d1), ⟨[x0], _, rfl, a0, a1⟩, ⟨b0, b1⟩⟩
set_option maxRecDepth 100000 in
theorem arg_Put {base : Nat} {v : Value} {dd : DataW H} {p : List MemPlace} (hv : Value.okWide Tryz.prog W .any base 241 v) (h : DataW.Trod enc Tryz.prog W 0 (fun _ => true) true 241 v dd p) :
    ∃ (d : DPut) (vs : List Value), v = .agg vs.toArray ∧ fPut.At W W.heap.size d vs ∧ fPut.Wf d := by
  obtain ⟨cs, rfl, _⟩ := Go.WideShapes.okWide_struct Tryz.underlying241 hv
  obtain ⟨fuel, hf⟩ := h
  obtain ⟨d, hd, hw⟩ := open_Put (cs := cs.toList) (by simpa [Value.cells] using hf)
  exact ⟨d, cs.toList, by simp, hd, hw⟩
theorem cellsG_Setup : Tryz.prog.cellsOf 23 = 5 := by kernel_rfl
set_option maxRecDepth 100000 in
theorem open_Setup {fuel : Nat} {cs : List Value} {y : DataW H × List MemPlace} (hf : DataW.trod enc Tryz.prog W 0 (fun _ => true) true fuel 23 cs = some y) : ∃ d, fSetup.At W W.heap.size d cs ∧ fSetup.Wf d := by
  obtain ⟨xs, n, _, _, hl, hlen, hg⟩ := DataW.trod_struct Tryz.underlying23 hf
  rw [cellsG_Setup] at hl
  match cs, hl with
  | [x0, x1, x2, x3, x4], _ =>
    have hx : ∀ i, i < 5 → ∃ y, xs[i]? = some y := fun i hi => ⟨_, List.getElem?_eq_getElem (by rw [hlen]; exact hi)⟩
    obtain ⟨y0, hy0⟩ := hx 0 (by decide)
    have t0 : DataW.trod enc Tryz.prog W 0 (fun _ => true) true n 3 (([x0, x1, x2, x3, x4].drop 0).take (Tryz.prog.cellsOf 3)) = some y0 := (hg 0 _ rfl).trans hy0
    rw [cellsG_int] at t0
    have t0 : DataW.trod enc Tryz.prog W 0 (fun _ => true) true n 3 [x0] = some y0 := t0
    obtain ⟨d0, a0, b0⟩ := open_Int t0
    obtain ⟨y1, hy1⟩ := hx 1 (by decide)
    have t1 : DataW.trod enc Tryz.prog W 0 (fun _ => true) true n 3 (([x0, x1, x2, x3, x4].drop 1).take (Tryz.prog.cellsOf 3)) = some y1 := (hg 1 _ rfl).trans hy1
    rw [cellsG_int] at t1
    have t1 : DataW.trod enc Tryz.prog W 0 (fun _ => true) true n 3 [x1] = some y1 := t1
    obtain ⟨d1, a1, b1⟩ := open_Int t1
    obtain ⟨y2, hy2⟩ := hx 2 (by decide)
    have t2 : DataW.trod enc Tryz.prog W 0 (fun _ => true) true n 3 (([x0, x1, x2, x3, x4].drop 2).take (Tryz.prog.cellsOf 3)) = some y2 := (hg 2 _ rfl).trans hy2
    rw [cellsG_int] at t2
    have t2 : DataW.trod enc Tryz.prog W 0 (fun _ => true) true n 3 [x2] = some y2 := t2
    obtain ⟨d2, a2, b2⟩ := open_Int t2
    obtain ⟨y3, hy3⟩ := hx 3 (by decide)
    have t3 : DataW.trod enc Tryz.prog W 0 (fun _ => true) true n 4 (([x0, x1, x2, x3, x4].drop 3).take (Tryz.prog.cellsOf 4)) = some y3 := (hg 3 _ rfl).trans hy3
    rw [cellsG_bool] at t3
    have t3 : DataW.trod enc Tryz.prog W 0 (fun _ => true) true n 4 [x3] = some y3 := t3
    obtain ⟨d3, a3, b3⟩ := open_Bool t3
    obtain ⟨y4, hy4⟩ := hx 4 (by decide)
    have t4 : DataW.trod enc Tryz.prog W 0 (fun _ => true) true n 3 (([x0, x1, x2, x3, x4].drop 4).take (Tryz.prog.cellsOf 3)) = some y4 := (hg 4 _ rfl).trans hy4
    rw [cellsG_int] at t4
    have t4 : DataW.trod enc Tryz.prog W 0 (fun _ => true) true n 3 [x4] = some y4 := t4
    obtain ⟨d4, a4, b4⟩ := open_Int t4
    exact ⟨(d0, d1, d2, d3, d4), ⟨[x0], _, rfl, a0, ⟨[x1], _, rfl, a1, ⟨[x2], _, rfl, a2, ⟨[x3], _, rfl, a3, a4⟩⟩⟩⟩, ⟨b0, b1, b2, b3, b4⟩⟩
set_option maxRecDepth 100000 in
theorem arg_Setup {base : Nat} {v : Value} {dd : DataW H} {p : List MemPlace} (hv : Value.okWide Tryz.prog W .any base 23 v) (h : DataW.Trod enc Tryz.prog W 0 (fun _ => true) true 23 v dd p) :
    ∃ (d : DSetup) (vs : List Value), v = .agg vs.toArray ∧ fSetup.At W W.heap.size d vs ∧ fSetup.Wf d := by
  obtain ⟨cs, rfl, _⟩ := Go.WideShapes.okWide_struct Tryz.underlying23 hv
  obtain ⟨fuel, hf⟩ := h
  obtain ⟨d, hd, hw⟩ := open_Setup (cs := cs.toList) (by simpa [Value.cells] using hf)
  exact ⟨d, cs.toList, by simp, hd, hw⟩
theorem cellsG_Seen : Tryz.prog.cellsOf 239 = 5 := by kernel_rfl
set_option maxRecDepth 100000 in
theorem open_Seen {fuel : Nat} {cs : List Value} {y : DataW H × List MemPlace} (hf : DataW.trod enc Tryz.prog W 0 (fun _ => true) true fuel 239 cs = some y) : ∃ d, fSeen.At W W.heap.size d cs ∧ fSeen.Wf d := by
  obtain ⟨xs, n, _, _, hl, hlen, hg⟩ := DataW.trod_struct Tryz.underlying239 hf
  rw [cellsG_Seen] at hl
  match cs, hl with
  | [x0, x1, x2, x3, x4], _ =>
    have hx : ∀ i, i < 3 → ∃ y, xs[i]? = some y := fun i hi => ⟨_, List.getElem?_eq_getElem (by rw [hlen]; exact hi)⟩
    obtain ⟨y0, hy0⟩ := hx 0 (by decide)
    have t0 : DataW.trod enc Tryz.prog W 0 (fun _ => true) true n 3 (([x0, x1, x2, x3, x4].drop 0).take (Tryz.prog.cellsOf 3)) = some y0 := (hg 0 _ rfl).trans hy0
    rw [cellsG_int] at t0
    have t0 : DataW.trod enc Tryz.prog W 0 (fun _ => true) true n 3 [x0] = some y0 := t0
    obtain ⟨d0, a0, b0⟩ := open_Int t0
    obtain ⟨y1, hy1⟩ := hx 1 (by decide)
    have t1 : DataW.trod enc Tryz.prog W 0 (fun _ => true) true n 162 (([x0, x1, x2, x3, x4].drop 1).take (Tryz.prog.cellsOf 162)) = some y1 := (hg 1 _ rfl).trans hy1
    rw [cellsG_Word] at t1
    have t1 : DataW.trod enc Tryz.prog W 0 (fun _ => true) true n 162 [x1, x2, x3] = some y1 := t1
    obtain ⟨d1, a1, b1⟩ := open_Word t1
    obtain ⟨y2, hy2⟩ := hx 2 (by decide)
    have t2 : DataW.trod enc Tryz.prog W 0 (fun _ => true) true n 3 (([x0, x1, x2, x3, x4].drop 4).take (Tryz.prog.cellsOf 3)) = some y2 := (hg 2 _ rfl).trans hy2
    rw [cellsG_int] at t2
    have t2 : DataW.trod enc Tryz.prog W 0 (fun _ => true) true n 3 [x4] = some y2 := t2
    obtain ⟨d2, a2, b2⟩ := open_Int t2
    exact ⟨(d0, d1, d2), ⟨[x0], _, rfl, a0, ⟨[x1, x2, x3], _, rfl, a1, a2⟩⟩, ⟨b0, b1, b2⟩⟩
set_option maxRecDepth 100000 in
theorem arg_Seen {base : Nat} {v : Value} {dd : DataW H} {p : List MemPlace} (hv : Value.okWide Tryz.prog W .any base 239 v) (h : DataW.Trod enc Tryz.prog W 0 (fun _ => true) true 239 v dd p) :
    ∃ (d : DSeen) (vs : List Value), v = .agg vs.toArray ∧ fSeen.At W W.heap.size d vs ∧ fSeen.Wf d := by
  obtain ⟨cs, rfl, _⟩ := Go.WideShapes.okWide_struct Tryz.underlying239 hv
  obtain ⟨fuel, hf⟩ := h
  obtain ⟨d, hd, hw⟩ := open_Seen (cs := cs.toList) (by simpa [Value.cells] using hf)
  exact ⟨d, cs.toList, by simp, hd, hw⟩
theorem cellsG_HoldS : Tryz.prog.cellsOf 163 = 1 := by kernel_rfl
set_option maxRecDepth 100000 in
theorem open_HoldS {fuel : Nat} {cs : List Value} {y : DataW H × List MemPlace} (hf : DataW.trod enc Tryz.prog W 0 (fun _ => true) true fuel 163 cs = some y) : ∃ l, (rowF fHold).At W W.heap.size l cs ∧ (rowF fHold).Wf l :=
  open_row Tryz.underlying163 cellsG_Hold (show 0 < 2 from by decide) (fun _ _ _ _ h => open_Hold h) hf
theorem cellsG_Lock : Tryz.prog.cellsOf 165 = 2 := by kernel_rfl
set_option maxRecDepth 100000 in
theorem open_Lock {fuel : Nat} {cs : List Value} {y : DataW H × List MemPlace} (hf : DataW.trod enc Tryz.prog W 0 (fun _ => true) true fuel 165 cs = some y) : ∃ d, fLock.At W W.heap.size d cs ∧ fLock.Wf d := by
  obtain ⟨xs, n, _, _, hl, hlen, hg⟩ := DataW.trod_struct Tryz.underlying165 hf
  rw [cellsG_Lock] at hl
  match cs, hl with
  | [x0, x1], _ =>
    have hx : ∀ i, i < 2 → ∃ y, xs[i]? = some y := fun i hi => ⟨_, List.getElem?_eq_getElem (by rw [hlen]; exact hi)⟩
    obtain ⟨y0, hy0⟩ := hx 0 (by decide)
    have t0 : DataW.trod enc Tryz.prog W 0 (fun _ => true) true n 163 (([x0, x1].drop 0).take (Tryz.prog.cellsOf 163)) = some y0 := (hg 0 _ rfl).trans hy0
    rw [cellsG_HoldS] at t0
    have t0 : DataW.trod enc Tryz.prog W 0 (fun _ => true) true n 163 [x0] = some y0 := t0
    obtain ⟨d0, a0, b0⟩ := open_HoldS t0
    obtain ⟨y1, hy1⟩ := hx 1 (by decide)
    have t1 : DataW.trod enc Tryz.prog W 0 (fun _ => true) true n 163 (([x0, x1].drop 1).take (Tryz.prog.cellsOf 163)) = some y1 := (hg 1 _ rfl).trans hy1
    rw [cellsG_HoldS] at t1
    have t1 : DataW.trod enc Tryz.prog W 0 (fun _ => true) true n 163 [x1] = some y1 := t1
    obtain ⟨d1, a1, b1⟩ := open_HoldS t1
    exact ⟨(d0, d1), ⟨[x0], _, rfl, a0, a1⟩, ⟨b0, b1⟩⟩
set_option maxRecDepth 100000 in
theorem arg_Lock {base : Nat} {v : Value} {dd : DataW H} {p : List MemPlace} (hv : Value.okWide Tryz.prog W .any base 165 v) (h : DataW.Trod enc Tryz.prog W 0 (fun _ => true) true 165 v dd p) :
    ∃ (d : DLock) (vs : List Value), v = .agg vs.toArray ∧ fLock.At W W.heap.size d vs ∧ fLock.Wf d := by
  obtain ⟨cs, rfl, _⟩ := Go.WideShapes.okWide_struct Tryz.underlying165 hv
  obtain ⟨fuel, hf⟩ := h
  obtain ⟨d, hd, hw⟩ := open_Lock (cs := cs.toList) (by simpa [Value.cells] using hf)
  exact ⟨d, cs.toList, by simp, hd, hw⟩
theorem cellsG_Cell : Tryz.prog.cellsOf 167 = 6 := by kernel_rfl
set_option maxRecDepth 100000 in
theorem open_Cell {fuel : Nat} {cs : List Value} {y : DataW H × List MemPlace} (hf : DataW.trod enc Tryz.prog W 0 (fun _ => true) true fuel 167 cs = some y) : ∃ d, fCell.At W W.heap.size d cs ∧ fCell.Wf d := by
  obtain ⟨xs, n, _, _, hl, hlen, hg⟩ := DataW.trod_struct Tryz.underlying167 hf
  rw [cellsG_Cell] at hl
  match cs, hl with
  | [x0, x1, x2, x3, x4, x5], _ =>
    have hx : ∀ i, i < 3 → ∃ y, xs[i]? = some y := fun i hi => ⟨_, List.getElem?_eq_getElem (by rw [hlen]; exact hi)⟩
    obtain ⟨y0, hy0⟩ := hx 0 (by decide)
    have t0 : DataW.trod enc Tryz.prog W 0 (fun _ => true) true n 3 (([x0, x1, x2, x3, x4, x5].drop 0).take (Tryz.prog.cellsOf 3)) = some y0 := (hg 0 _ rfl).trans hy0
    rw [cellsG_int] at t0
    have t0 : DataW.trod enc Tryz.prog W 0 (fun _ => true) true n 3 [x0] = some y0 := t0
    obtain ⟨d0, a0, b0⟩ := open_Int t0
    obtain ⟨y1, hy1⟩ := hx 1 (by decide)
    have t1 : DataW.trod enc Tryz.prog W 0 (fun _ => true) true n 162 (([x0, x1, x2, x3, x4, x5].drop 1).take (Tryz.prog.cellsOf 162)) = some y1 := (hg 1 _ rfl).trans hy1
    rw [cellsG_Word] at t1
    have t1 : DataW.trod enc Tryz.prog W 0 (fun _ => true) true n 162 [x1, x2, x3] = some y1 := t1
    obtain ⟨d1, a1, b1⟩ := open_Word t1
    obtain ⟨y2, hy2⟩ := hx 2 (by decide)
    have t2 : DataW.trod enc Tryz.prog W 0 (fun _ => true) true n 165 (([x0, x1, x2, x3, x4, x5].drop 4).take (Tryz.prog.cellsOf 165)) = some y2 := (hg 2 _ rfl).trans hy2
    rw [cellsG_Lock] at t2
    have t2 : DataW.trod enc Tryz.prog W 0 (fun _ => true) true n 165 [x4, x5] = some y2 := t2
    obtain ⟨d2, a2, b2⟩ := open_Lock t2
    exact ⟨(d0, d1, d2), ⟨[x0], _, rfl, a0, ⟨[x1, x2, x3], _, rfl, a1, a2⟩⟩, ⟨b0, b1, b2⟩⟩
set_option maxRecDepth 100000 in
theorem arg_Cell {base : Nat} {v : Value} {dd : DataW H} {p : List MemPlace} (hv : Value.okWide Tryz.prog W .any base 167 v) (h : DataW.Trod enc Tryz.prog W 0 (fun _ => true) true 167 v dd p) :
    ∃ (d : DCell) (vs : List Value), v = .agg vs.toArray ∧ fCell.At W W.heap.size d vs ∧ fCell.Wf d := by
  obtain ⟨cs, rfl, _⟩ := Go.WideShapes.okWide_struct Tryz.underlying167 hv
  obtain ⟨fuel, hf⟩ := h
  obtain ⟨d, hd, hw⟩ := open_Cell (cs := cs.toList) (by simpa [Value.cells] using hf)
  exact ⟨d, cs.toList, by simp, hd, hw⟩
theorem cellsG_CellS : Tryz.prog.cellsOf 24 = 1 := by kernel_rfl
set_option maxRecDepth 100000 in
theorem open_CellS {fuel : Nat} {cs : List Value} {y : DataW H × List MemPlace} (hf : DataW.trod enc Tryz.prog W 0 (fun _ => true) true fuel 24 cs = some y) : ∃ l, (rowF fCell).At W W.heap.size l cs ∧ (rowF fCell).Wf l :=
  open_row Tryz.underlying24 cellsG_Cell (show 0 < 6 from by decide) (fun _ _ _ _ h => open_Cell h) hf
theorem cellsG_Table : Tryz.prog.cellsOf 26 = 1 := by kernel_rfl
set_option maxRecDepth 100000 in
theorem open_Table {fuel : Nat} {cs : List Value} {y : DataW H × List MemPlace} (hf : DataW.trod enc Tryz.prog W 0 (fun _ => true) true fuel 26 cs = some y) : ∃ d, fTable.At W W.heap.size d cs ∧ fTable.Wf d := by
  obtain ⟨xs, n, _, _, hl, hlen, hg⟩ := DataW.trod_struct Tryz.underlying26 hf
  rw [cellsG_Table] at hl
  match cs, hl with
  | [x0], _ =>
    have hx : ∀ i, i < 1 → ∃ y, xs[i]? = some y := fun i hi => ⟨_, List.getElem?_eq_getElem (by rw [hlen]; exact hi)⟩
    obtain ⟨y0, hy0⟩ := hx 0 (by decide)
    have t0 : DataW.trod enc Tryz.prog W 0 (fun _ => true) true n 24 (([x0].drop 0).take (Tryz.prog.cellsOf 24)) = some y0 := (hg 0 _ rfl).trans hy0
    rw [cellsG_CellS] at t0
    have t0 : DataW.trod enc Tryz.prog W 0 (fun _ => true) true n 24 [x0] = some y0 := t0
    obtain ⟨d0, a0, b0⟩ := open_CellS t0
    exact ⟨(d0), a0, b0⟩
set_option maxRecDepth 100000 in
theorem arg_Table {base : Nat} {v : Value} {dd : DataW H} {p : List MemPlace} (hv : Value.okWide Tryz.prog W .any base 26 v) (h : DataW.Trod enc Tryz.prog W 0 (fun _ => true) true 26 v dd p) :
    ∃ (d : DTable) (vs : List Value), v = .agg vs.toArray ∧ fTable.At W W.heap.size d vs ∧ fTable.Wf d := by
  obtain ⟨cs, rfl, _⟩ := Go.WideShapes.okWide_struct Tryz.underlying26 hv
  obtain ⟨fuel, hf⟩ := h
  obtain ⟨d, hd, hw⟩ := open_Table (cs := cs.toList) (by simpa [Value.cells] using hf)
  exact ⟨d, cs.toList, by simp, hd, hw⟩
theorem cellsG_ActSS : Tryz.prog.cellsOf 101 = 1 := by kernel_rfl
set_option maxRecDepth 100000 in
theorem open_ActS {fuel : Nat} {cs : List Value} {y : DataW H × List MemPlace} (hf : DataW.trod enc Tryz.prog W 0 (fun _ => true) true fuel 230 cs = some y) : ∃ l, (rowF fAct).At W W.heap.size l cs ∧ (rowF fAct).Wf l :=
  open_row Tryz.underlying230 cellsG_Act (show 0 < 3 from by decide) (fun _ _ _ _ h => open_Act h) hf
theorem cellsG_ActS : Tryz.prog.cellsOf 230 = 1 := by kernel_rfl
set_option maxRecDepth 100000 in
theorem open_ActSS {fuel : Nat} {cs : List Value} {y : DataW H × List MemPlace} (hf : DataW.trod enc Tryz.prog W 0 (fun _ => true) true fuel 101 cs = some y) : ∃ l, (rowF (rowF fAct)).At W W.heap.size l cs ∧ (rowF (rowF fAct)).Wf l :=
  open_row Tryz.underlying101 cellsG_ActS (show 0 < 1 from by decide) (fun _ _ _ _ h => open_ActS h) hf
theorem cellsG_WantS : Tryz.prog.cellsOf 102 = 1 := by kernel_rfl
set_option maxRecDepth 100000 in
theorem open_WantS {fuel : Nat} {cs : List Value} {y : DataW H × List MemPlace} (hf : DataW.trod enc Tryz.prog W 0 (fun _ => true) true fuel 102 cs = some y) : ∃ l, (rowF fWant).At W W.heap.size l cs ∧ (rowF fWant).Wf l :=
  open_row Tryz.underlying102 cellsG_Want (show 0 < 2 from by decide) (fun _ _ _ _ h => open_Want h) hf
theorem cellsG_SeenS : Tryz.prog.cellsOf 103 = 1 := by kernel_rfl
set_option maxRecDepth 100000 in
theorem open_SeenS {fuel : Nat} {cs : List Value} {y : DataW H × List MemPlace} (hf : DataW.trod enc Tryz.prog W 0 (fun _ => true) true fuel 103 cs = some y) : ∃ l, (rowF fSeen).At W W.heap.size l cs ∧ (rowF fSeen).Wf l :=
  open_row Tryz.underlying103 cellsG_Seen (show 0 < 5 from by decide) (fun _ _ _ _ h => open_Seen h) hf
theorem cellsG_PutS : Tryz.prog.cellsOf 104 = 1 := by kernel_rfl
set_option maxRecDepth 100000 in
theorem open_PutS {fuel : Nat} {cs : List Value} {y : DataW H × List MemPlace} (hf : DataW.trod enc Tryz.prog W 0 (fun _ => true) true fuel 104 cs = some y) : ∃ l, (rowF fPut).At W W.heap.size l cs ∧ (rowF fPut).Wf l :=
  open_row Tryz.underlying104 cellsG_Put (show 0 < 2 from by decide) (fun _ _ _ _ h => open_Put h) hf
theorem cellsG_IntS : Tryz.prog.cellsOf 28 = 1 := by kernel_rfl
set_option maxRecDepth 100000 in
theorem open_IntS {fuel : Nat} {cs : List Value} {y : DataW H × List MemPlace} (hf : DataW.trod enc Tryz.prog W 0 (fun _ => true) true fuel 28 cs = some y) : ∃ l, (rowF intF).At W W.heap.size l cs ∧ (rowF intF).Wf l :=
  open_row Tryz.underlying28 cellsG_int (show 0 < 1 from by decide) (fun _ _ _ _ h => open_Int h) hf
theorem cellsG_Worker : Tryz.prog.cellsOf 106 = 9 := by kernel_rfl
set_option maxRecDepth 100000 in
theorem open_Worker {fuel : Nat} {cs : List Value} {y : DataW H × List MemPlace} (hf : DataW.trod enc Tryz.prog W 0 (fun _ => true) true fuel 106 cs = some y) : ∃ d, fWorker.At W W.heap.size d cs ∧ fWorker.Wf d := by
  obtain ⟨xs, n, _, _, hl, hlen, hg⟩ := DataW.trod_struct Tryz.underlying106 hf
  rw [cellsG_Worker] at hl
  match cs, hl with
  | [x0, x1, x2, x3, x4, x5, x6, x7, x8], _ =>
    have hx : ∀ i, i < 9 → ∃ y, xs[i]? = some y := fun i hi => ⟨_, List.getElem?_eq_getElem (by rw [hlen]; exact hi)⟩
    obtain ⟨y0, hy0⟩ := hx 0 (by decide)
    have t0 : DataW.trod enc Tryz.prog W 0 (fun _ => true) true n 101 (([x0, x1, x2, x3, x4, x5, x6, x7, x8].drop 0).take (Tryz.prog.cellsOf 101)) = some y0 := (hg 0 _ rfl).trans hy0
    rw [cellsG_ActSS] at t0
    have t0 : DataW.trod enc Tryz.prog W 0 (fun _ => true) true n 101 [x0] = some y0 := t0
    obtain ⟨d0, a0, b0⟩ := open_ActSS t0
    obtain ⟨y1, hy1⟩ := hx 1 (by decide)
    have t1 : DataW.trod enc Tryz.prog W 0 (fun _ => true) true n 3 (([x0, x1, x2, x3, x4, x5, x6, x7, x8].drop 1).take (Tryz.prog.cellsOf 3)) = some y1 := (hg 1 _ rfl).trans hy1
    rw [cellsG_int] at t1
    have t1 : DataW.trod enc Tryz.prog W 0 (fun _ => true) true n 3 [x1] = some y1 := t1
    obtain ⟨d1, a1, b1⟩ := open_Int t1
    obtain ⟨y2, hy2⟩ := hx 2 (by decide)
    have t2 : DataW.trod enc Tryz.prog W 0 (fun _ => true) true n 3 (([x0, x1, x2, x3, x4, x5, x6, x7, x8].drop 2).take (Tryz.prog.cellsOf 3)) = some y2 := (hg 2 _ rfl).trans hy2
    rw [cellsG_int] at t2
    have t2 : DataW.trod enc Tryz.prog W 0 (fun _ => true) true n 3 [x2] = some y2 := t2
    obtain ⟨d2, a2, b2⟩ := open_Int t2
    obtain ⟨y3, hy3⟩ := hx 3 (by decide)
    have t3 : DataW.trod enc Tryz.prog W 0 (fun _ => true) true n 3 (([x0, x1, x2, x3, x4, x5, x6, x7, x8].drop 3).take (Tryz.prog.cellsOf 3)) = some y3 := (hg 3 _ rfl).trans hy3
    rw [cellsG_int] at t3
    have t3 : DataW.trod enc Tryz.prog W 0 (fun _ => true) true n 3 [x3] = some y3 := t3
    obtain ⟨d3, a3, b3⟩ := open_Int t3
    obtain ⟨y4, hy4⟩ := hx 4 (by decide)
    have t4 : DataW.trod enc Tryz.prog W 0 (fun _ => true) true n 3 (([x0, x1, x2, x3, x4, x5, x6, x7, x8].drop 4).take (Tryz.prog.cellsOf 3)) = some y4 := (hg 4 _ rfl).trans hy4
    rw [cellsG_int] at t4
    have t4 : DataW.trod enc Tryz.prog W 0 (fun _ => true) true n 3 [x4] = some y4 := t4
    obtain ⟨d4, a4, b4⟩ := open_Int t4
    obtain ⟨y5, hy5⟩ := hx 5 (by decide)
    have t5 : DataW.trod enc Tryz.prog W 0 (fun _ => true) true n 102 (([x0, x1, x2, x3, x4, x5, x6, x7, x8].drop 5).take (Tryz.prog.cellsOf 102)) = some y5 := (hg 5 _ rfl).trans hy5
    rw [cellsG_WantS] at t5
    have t5 : DataW.trod enc Tryz.prog W 0 (fun _ => true) true n 102 [x5] = some y5 := t5
    obtain ⟨d5, a5, b5⟩ := open_WantS t5
    obtain ⟨y6, hy6⟩ := hx 6 (by decide)
    have t6 : DataW.trod enc Tryz.prog W 0 (fun _ => true) true n 103 (([x0, x1, x2, x3, x4, x5, x6, x7, x8].drop 6).take (Tryz.prog.cellsOf 103)) = some y6 := (hg 6 _ rfl).trans hy6
    rw [cellsG_SeenS] at t6
    have t6 : DataW.trod enc Tryz.prog W 0 (fun _ => true) true n 103 [x6] = some y6 := t6
    obtain ⟨d6, a6, b6⟩ := open_SeenS t6
    obtain ⟨y7, hy7⟩ := hx 7 (by decide)
    have t7 : DataW.trod enc Tryz.prog W 0 (fun _ => true) true n 104 (([x0, x1, x2, x3, x4, x5, x6, x7, x8].drop 7).take (Tryz.prog.cellsOf 104)) = some y7 := (hg 7 _ rfl).trans hy7
    rw [cellsG_PutS] at t7
    have t7 : DataW.trod enc Tryz.prog W 0 (fun _ => true) true n 104 [x7] = some y7 := t7
    obtain ⟨d7, a7, b7⟩ := open_PutS t7
    obtain ⟨y8, hy8⟩ := hx 8 (by decide)
    have t8 : DataW.trod enc Tryz.prog W 0 (fun _ => true) true n 28 (([x0, x1, x2, x3, x4, x5, x6, x7, x8].drop 8).take (Tryz.prog.cellsOf 28)) = some y8 := (hg 8 _ rfl).trans hy8
    rw [cellsG_IntS] at t8
    have t8 : DataW.trod enc Tryz.prog W 0 (fun _ => true) true n 28 [x8] = some y8 := t8
    obtain ⟨d8, a8, b8⟩ := open_IntS t8
    exact ⟨(d0, d1, d2, d3, d4, d5, d6, d7, d8), ⟨[x0], _, rfl, a0, ⟨[x1], _, rfl, a1, ⟨[x2], _, rfl, a2, ⟨[x3], _, rfl, a3, ⟨[x4], _, rfl, a4, ⟨[x5], _, rfl, a5, ⟨[x6], _, rfl, a6, ⟨[x7], _, rfl, a7, a8⟩⟩⟩⟩⟩⟩⟩⟩, ⟨b0, b1, b2, b3, b4, b5, b6, b7, b8⟩⟩
set_option maxRecDepth 100000 in
theorem arg_Worker {base : Nat} {v : Value} {dd : DataW H} {p : List MemPlace} (hv : Value.okWide Tryz.prog W .any base 106 v) (h : DataW.Trod enc Tryz.prog W 0 (fun _ => true) true 106 v dd p) :
    ∃ (d : DWorker) (vs : List Value), v = .agg vs.toArray ∧ fWorker.At W W.heap.size d vs ∧ fWorker.Wf d := by
  obtain ⟨cs, rfl, _⟩ := Go.WideShapes.okWide_struct Tryz.underlying106 hv
  obtain ⟨fuel, hf⟩ := h
  obtain ⟨d, hd, hw⟩ := open_Worker (cs := cs.toList) (by simpa [Value.cells] using hf)
  exact ⟨d, cs.toList, by simp, hd, hw⟩
theorem cellsG_Commit : Tryz.prog.cellsOf 109 = 6 := by kernel_rfl
set_option maxRecDepth 100000 in
theorem open_Commit {fuel : Nat} {cs : List Value} {y : DataW H × List MemPlace} (hf : DataW.trod enc Tryz.prog W 0 (fun _ => true) true fuel 109 cs = some y) : ∃ d, fCommit.At W W.heap.size d cs ∧ fCommit.Wf d := by
  obtain ⟨xs, n, _, _, hl, hlen, hg⟩ := DataW.trod_struct Tryz.underlying109 hf
  rw [cellsG_Commit] at hl
  match cs, hl with
  | [x0, x1, x2, x3, x4, x5], _ =>
    have hx : ∀ i, i < 6 → ∃ y, xs[i]? = some y := fun i hi => ⟨_, List.getElem?_eq_getElem (by rw [hlen]; exact hi)⟩
    obtain ⟨y0, hy0⟩ := hx 0 (by decide)
    have t0 : DataW.trod enc Tryz.prog W 0 (fun _ => true) true n 3 (([x0, x1, x2, x3, x4, x5].drop 0).take (Tryz.prog.cellsOf 3)) = some y0 := (hg 0 _ rfl).trans hy0
    rw [cellsG_int] at t0
    have t0 : DataW.trod enc Tryz.prog W 0 (fun _ => true) true n 3 [x0] = some y0 := t0
    obtain ⟨d0, a0, b0⟩ := open_Int t0
    obtain ⟨y1, hy1⟩ := hx 1 (by decide)
    have t1 : DataW.trod enc Tryz.prog W 0 (fun _ => true) true n 3 (([x0, x1, x2, x3, x4, x5].drop 1).take (Tryz.prog.cellsOf 3)) = some y1 := (hg 1 _ rfl).trans hy1
    rw [cellsG_int] at t1
    have t1 : DataW.trod enc Tryz.prog W 0 (fun _ => true) true n 3 [x1] = some y1 := t1
    obtain ⟨d1, a1, b1⟩ := open_Int t1
    obtain ⟨y2, hy2⟩ := hx 2 (by decide)
    have t2 : DataW.trod enc Tryz.prog W 0 (fun _ => true) true n 3 (([x0, x1, x2, x3, x4, x5].drop 2).take (Tryz.prog.cellsOf 3)) = some y2 := (hg 2 _ rfl).trans hy2
    rw [cellsG_int] at t2
    have t2 : DataW.trod enc Tryz.prog W 0 (fun _ => true) true n 3 [x2] = some y2 := t2
    obtain ⟨d2, a2, b2⟩ := open_Int t2
    obtain ⟨y3, hy3⟩ := hx 3 (by decide)
    have t3 : DataW.trod enc Tryz.prog W 0 (fun _ => true) true n 3 (([x0, x1, x2, x3, x4, x5].drop 3).take (Tryz.prog.cellsOf 3)) = some y3 := (hg 3 _ rfl).trans hy3
    rw [cellsG_int] at t3
    have t3 : DataW.trod enc Tryz.prog W 0 (fun _ => true) true n 3 [x3] = some y3 := t3
    obtain ⟨d3, a3, b3⟩ := open_Int t3
    obtain ⟨y4, hy4⟩ := hx 4 (by decide)
    have t4 : DataW.trod enc Tryz.prog W 0 (fun _ => true) true n 28 (([x0, x1, x2, x3, x4, x5].drop 4).take (Tryz.prog.cellsOf 28)) = some y4 := (hg 4 _ rfl).trans hy4
    rw [cellsG_IntS] at t4
    have t4 : DataW.trod enc Tryz.prog W 0 (fun _ => true) true n 28 [x4] = some y4 := t4
    obtain ⟨d4, a4, b4⟩ := open_IntS t4
    obtain ⟨y5, hy5⟩ := hx 5 (by decide)
    have t5 : DataW.trod enc Tryz.prog W 0 (fun _ => true) true n 104 (([x0, x1, x2, x3, x4, x5].drop 5).take (Tryz.prog.cellsOf 104)) = some y5 := (hg 5 _ rfl).trans hy5
    rw [cellsG_PutS] at t5
    have t5 : DataW.trod enc Tryz.prog W 0 (fun _ => true) true n 104 [x5] = some y5 := t5
    obtain ⟨d5, a5, b5⟩ := open_PutS t5
    exact ⟨(d0, d1, d2, d3, d4, d5), ⟨[x0], _, rfl, a0, ⟨[x1], _, rfl, a1, ⟨[x2], _, rfl, a2, ⟨[x3], _, rfl, a3, ⟨[x4], _, rfl, a4, a5⟩⟩⟩⟩⟩, ⟨b0, b1, b2, b3, b4, b5⟩⟩
set_option maxRecDepth 100000 in
theorem arg_Commit {base : Nat} {v : Value} {dd : DataW H} {p : List MemPlace} (hv : Value.okWide Tryz.prog W .any base 109 v) (h : DataW.Trod enc Tryz.prog W 0 (fun _ => true) true 109 v dd p) :
    ∃ (d : DCommit) (vs : List Value), v = .agg vs.toArray ∧ fCommit.At W W.heap.size d vs ∧ fCommit.Wf d := by
  obtain ⟨cs, rfl, _⟩ := Go.WideShapes.okWide_struct Tryz.underlying109 hv
  obtain ⟨fuel, hf⟩ := h
  obtain ⟨d, hd, hw⟩ := open_Commit (cs := cs.toList) (by simpa [Value.cells] using hf)
  exact ⟨d, cs.toList, by simp, hd, hw⟩
theorem cellsG_WorkerS : Tryz.prog.cellsOf 27 = 1 := by kernel_rfl
set_option maxRecDepth 100000 in
theorem open_WorkerS {fuel : Nat} {cs : List Value} {y : DataW H × List MemPlace} (hf : DataW.trod enc Tryz.prog W 0 (fun _ => true) true fuel 27 cs = some y) : ∃ l, (rowF fWorker).At W W.heap.size l cs ∧ (rowF fWorker).Wf l :=
  open_row Tryz.underlying27 cellsG_Worker (show 0 < 9 from by decide) (fun _ _ _ _ h => open_Worker h) hf
theorem cellsG_CommitS : Tryz.prog.cellsOf 29 = 1 := by kernel_rfl
set_option maxRecDepth 100000 in
theorem open_CommitS {fuel : Nat} {cs : List Value} {y : DataW H × List MemPlace} (hf : DataW.trod enc Tryz.prog W 0 (fun _ => true) true fuel 29 cs = some y) : ∃ l, (rowF fCommit).At W W.heap.size l cs ∧ (rowF fCommit).Wf l :=
  open_row Tryz.underlying29 cellsG_Commit (show 0 < 6 from by decide) (fun _ _ _ _ h => open_Commit h) hf
theorem cellsG_Engine : Tryz.prog.cellsOf 31 = 13 := by kernel_rfl
set_option maxRecDepth 100000 in
theorem open_Engine {fuel : Nat} {cs : List Value} {y : DataW H × List MemPlace} (hf : DataW.trod enc Tryz.prog W 0 (fun _ => true) true fuel 31 cs = some y) : ∃ d, fEngine.At W W.heap.size d cs ∧ fEngine.Wf d := by
  obtain ⟨xs, n, _, _, hl, hlen, hg⟩ := DataW.trod_struct Tryz.underlying31 hf
  rw [cellsG_Engine] at hl
  match cs, hl with
  | [x0, x1, x2, x3, x4, x5, x6, x7, x8, x9, x10, x11, x12], _ =>
    have hx : ∀ i, i < 9 → ∃ y, xs[i]? = some y := fun i hi => ⟨_, List.getElem?_eq_getElem (by rw [hlen]; exact hi)⟩
    obtain ⟨y0, hy0⟩ := hx 0 (by decide)
    have t0 : DataW.trod enc Tryz.prog W 0 (fun _ => true) true n 23 (([x0, x1, x2, x3, x4, x5, x6, x7, x8, x9, x10, x11, x12].drop 0).take (Tryz.prog.cellsOf 23)) = some y0 := (hg 0 _ rfl).trans hy0
    rw [cellsG_Setup] at t0
    have t0 : DataW.trod enc Tryz.prog W 0 (fun _ => true) true n 23 [x0, x1, x2, x3, x4] = some y0 := t0
    obtain ⟨d0, a0, b0⟩ := open_Setup t0
    obtain ⟨y1, hy1⟩ := hx 1 (by decide)
    have t1 : DataW.trod enc Tryz.prog W 0 (fun _ => true) true n 26 (([x0, x1, x2, x3, x4, x5, x6, x7, x8, x9, x10, x11, x12].drop 5).take (Tryz.prog.cellsOf 26)) = some y1 := (hg 1 _ rfl).trans hy1
    rw [cellsG_Table] at t1
    have t1 : DataW.trod enc Tryz.prog W 0 (fun _ => true) true n 26 [x5] = some y1 := t1
    obtain ⟨d1, a1, b1⟩ := open_Table t1
    obtain ⟨y2, hy2⟩ := hx 2 (by decide)
    have t2 : DataW.trod enc Tryz.prog W 0 (fun _ => true) true n 27 (([x0, x1, x2, x3, x4, x5, x6, x7, x8, x9, x10, x11, x12].drop 6).take (Tryz.prog.cellsOf 27)) = some y2 := (hg 2 _ rfl).trans hy2
    rw [cellsG_WorkerS] at t2
    have t2 : DataW.trod enc Tryz.prog W 0 (fun _ => true) true n 27 [x6] = some y2 := t2
    obtain ⟨d2, a2, b2⟩ := open_WorkerS t2
    obtain ⟨y3, hy3⟩ := hx 3 (by decide)
    have t3 : DataW.trod enc Tryz.prog W 0 (fun _ => true) true n 28 (([x0, x1, x2, x3, x4, x5, x6, x7, x8, x9, x10, x11, x12].drop 7).take (Tryz.prog.cellsOf 28)) = some y3 := (hg 3 _ rfl).trans hy3
    rw [cellsG_IntS] at t3
    have t3 : DataW.trod enc Tryz.prog W 0 (fun _ => true) true n 28 [x7] = some y3 := t3
    obtain ⟨d3, a3, b3⟩ := open_IntS t3
    obtain ⟨y4, hy4⟩ := hx 4 (by decide)
    have t4 : DataW.trod enc Tryz.prog W 0 (fun _ => true) true n 3 (([x0, x1, x2, x3, x4, x5, x6, x7, x8, x9, x10, x11, x12].drop 8).take (Tryz.prog.cellsOf 3)) = some y4 := (hg 4 _ rfl).trans hy4
    rw [cellsG_int] at t4
    have t4 : DataW.trod enc Tryz.prog W 0 (fun _ => true) true n 3 [x8] = some y4 := t4
    obtain ⟨d4, a4, b4⟩ := open_Int t4
    obtain ⟨y5, hy5⟩ := hx 5 (by decide)
    have t5 : DataW.trod enc Tryz.prog W 0 (fun _ => true) true n 3 (([x0, x1, x2, x3, x4, x5, x6, x7, x8, x9, x10, x11, x12].drop 9).take (Tryz.prog.cellsOf 3)) = some y5 := (hg 5 _ rfl).trans hy5
    rw [cellsG_int] at t5
    have t5 : DataW.trod enc Tryz.prog W 0 (fun _ => true) true n 3 [x9] = some y5 := t5
    obtain ⟨d5, a5, b5⟩ := open_Int t5
    obtain ⟨y6, hy6⟩ := hx 6 (by decide)
    have t6 : DataW.trod enc Tryz.prog W 0 (fun _ => true) true n 29 (([x0, x1, x2, x3, x4, x5, x6, x7, x8, x9, x10, x11, x12].drop 10).take (Tryz.prog.cellsOf 29)) = some y6 := (hg 6 _ rfl).trans hy6
    rw [cellsG_CommitS] at t6
    have t6 : DataW.trod enc Tryz.prog W 0 (fun _ => true) true n 29 [x10] = some y6 := t6
    obtain ⟨d6, a6, b6⟩ := open_CommitS t6
    obtain ⟨y7, hy7⟩ := hx 7 (by decide)
    have t7 : DataW.trod enc Tryz.prog W 0 (fun _ => true) true n 3 (([x0, x1, x2, x3, x4, x5, x6, x7, x8, x9, x10, x11, x12].drop 11).take (Tryz.prog.cellsOf 3)) = some y7 := (hg 7 _ rfl).trans hy7
    rw [cellsG_int] at t7
    have t7 : DataW.trod enc Tryz.prog W 0 (fun _ => true) true n 3 [x11] = some y7 := t7
    obtain ⟨d7, a7, b7⟩ := open_Int t7
    obtain ⟨y8, hy8⟩ := hx 8 (by decide)
    have t8 : DataW.trod enc Tryz.prog W 0 (fun _ => true) true n 3 (([x0, x1, x2, x3, x4, x5, x6, x7, x8, x9, x10, x11, x12].drop 12).take (Tryz.prog.cellsOf 3)) = some y8 := (hg 8 _ rfl).trans hy8
    rw [cellsG_int] at t8
    have t8 : DataW.trod enc Tryz.prog W 0 (fun _ => true) true n 3 [x12] = some y8 := t8
    obtain ⟨d8, a8, b8⟩ := open_Int t8
    exact ⟨(d0, d1, d2, d3, d4, d5, d6, d7, d8), ⟨[x0, x1, x2, x3, x4], _, rfl, a0, ⟨[x5], _, rfl, a1, ⟨[x6], _, rfl, a2, ⟨[x7], _, rfl, a3, ⟨[x8], _, rfl, a4, ⟨[x9], _, rfl, a5, ⟨[x10], _, rfl, a6, ⟨[x11], _, rfl, a7, a8⟩⟩⟩⟩⟩⟩⟩⟩, ⟨b0, b1, b2, b3, b4, b5, b6, b7, b8⟩⟩
set_option maxRecDepth 100000 in
theorem arg_Engine {base : Nat} {v : Value} {dd : DataW H} {p : List MemPlace} (hv : Value.okWide Tryz.prog W .any base 31 v) (h : DataW.Trod enc Tryz.prog W 0 (fun _ => true) true 31 v dd p) :
    ∃ (d : DEngine) (vs : List Value), v = .agg vs.toArray ∧ fEngine.At W W.heap.size d vs ∧ fEngine.Wf d := by
  obtain ⟨cs, rfl, _⟩ := Go.WideShapes.okWide_struct Tryz.underlying31 hv
  obtain ⟨fuel, hf⟩ := h
  obtain ⟨d, hd, hw⟩ := open_Engine (cs := cs.toList) (by simpa [Value.cells] using hf)
  exact ⟨d, cs.toList, by simp, hd, hw⟩
end
end Go.Proofs.YtkpkjcmoldkmmaaGreat
