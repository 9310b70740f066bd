/- FnExactNextWord: for every word and epoch the program's NextWord answers as the model's, and the arguments read as before. The error variable reads as its own initialiser lays it (tied). -/
import Derived.Test.YtilgfcbjonalaaaDoorWNext
import Derived.Test.YtilgfcbjonalaaaDoorCards
import Derived.Test.YtilgfcbjonalaaaDoorTie
import Derived.ProofKit
import Derived.OpenShut
import Derived.ChangeOld
import Derived.Deep.DeepHandedRow
import Derived.Stop.LaidErr
import Derived.Lib.SmallJoins
import Derived.ShutString
namespace Go.Proofs.YtilgfcbjonalaaaDoor
open Go.ChangeShapes Go.WideShapes Go.ChangeAt Go.RowKit Go.Joins

theorem own : ownKnob Tryd.prog.godebug = none := by kernel_rfl
theorem laidOut : laidOutB Tryd.prog = true := by kernel_rfl
theorem cellsWordL : Tryd.prog.cellsOf 58 = 3 := by kernel_rfl
theorem gErr : Tryd.prog.globalNamed "loop.example/g00771/impl.errFull" = some 0 := by kernel_rfl
theorem gErrType : (Tryd.prog.globals[0]?).map (·.type) = some 99 := by kernel_rfl
theorem cellsEs : Tryd.prog.cellsOf 193 = 1 := by kernel_rfl
theorem cellsStr : Tryd.prog.cellsOf 9 = 1 := by kernel_rfl
theorem star : "*errors.errorString" = "*" ++ "errors.errorString" := by decide
theorem rowEs (u : TypeId) (h : Tryd.prog.typeName? 3 u = some "*errors.errorString") : u = 171 :=
  typeName_ptr_named (nm := "errors.errorString") (by rw [← star]; kernel_rfl) (by kernel_rfl) (by decide) u (by rw [← star]; exact h)

abbrev errText : List UInt8 := [116, 104, 101, 32, 101, 112, 111, 99, 104, 32, 104, 97, 115, 32, 110, 111, 32, 102, 117, 114, 116, 104, 101, 114, 32, 115, 101, 113, 117, 101, 110, 99, 101, 32, 110, 117, 109, 98, 101, 114]
abbrev laidE : List (String × DataW Unit) := [("loop.example/g00771/impl.errFull", Rows.laid_loop_example_g00771_impl_errFull)]
abbrev errS : ByteArray := { data := #[116, 104, 101, 32, 101, 112, 111, 99, 104, 32, 104, 97, 115, 32, 110, 111, 32, 102, 117, 114, 116, 104, 101, 114, 32, 115, 101, 113, 117, 101, 110, 99, 101, 32, 110, 117, 109, 98, 101, 114] }
noncomputable def low : Nat := (World.holding Tryd.prog default ⟨#[], #[], []⟩).heap.size
/-- A WORLD FOR THE WITNESS: the settled one, the sentinel as its initialiser lays it. -/
noncomputable def laidWorldE (os : Os) (args : Array Value) : World :=
  let w0 := World.holding Tryd.prog os ⟨#[.cells #[.string errS] 193], args, []⟩
  { w0 with heap := w0.heap.modify 0 fun
      | .cells _ t frozen => .cells #[.iface 171 (.pointer (some ⟨low, 0, none⟩))] t frozen
      | o => o }
theorem laid_metE (os : Os) (args : Array Value) : laidMet Tryd.prog laidE ((laidWorldE os args).forCall (fun _ _ => 0) ⟨#[], args, []⟩).memory :=
  laidMet_of_run (ps := [.cell 0 0, .cell low 0]) 8 (by kernel_rfl) (by kernel_rfl) (by kernel_rfl)
/-- WHAT THE ROW's LIST GIVES -/
theorem fullOf {W : World} (h : laidMetH Tryd.prog laidE W) : ∃ a, Full W a ∧ W.var? Tryd.prog "loop.example/g00771/impl.errFull" = some #[.iface 171 (.pointer (some a))] := by
  obtain ⟨a0, s0, hv0, hc0, hs0, hz0⟩ := laid_sentinel h gErr gErrType Tryd.underlying99 rowEs Tryd.underlying171 Tryd.underlying193 rfl rfl Tryd.underlying9 cellsEs cellsStr
  exact ⟨a0, by have := World.var?_cell gErr hv0 0; simpa [Full] using this, hv0⟩
theorem var_below {W W' : World} {cs : Array Value} (h : W.var? Tryd.prog "loop.example/g00771/impl.errFull" = some cs) (hb : Below W.heap.size W W') : W'.var? Tryd.prog "loop.example/g00771/impl.errFull" = some cs := by
  unfold World.var? at h ⊢
  simp only [gErr, Option.bind_some] at h ⊢
  have hlt : 0 < W.heap.size := by
    rcases Nat.lt_or_ge 0 W.heap.size with h' | h'
    · exact h'
    · rw [Array.getElem?_eq_none h'] at h; cases h
  rw [hb.block _ hlt]
  exact h

set_option maxRecDepth 100000 in
theorem at_contract (H : Type) (enc : TypeId × Value → H) (W : World) (base : Nat) (args : Array Value) (ds gs : List (DataW H)) (before : List MemPlace)
    (hval : ∀ (j : Nat) t v, Tryd.f7.params[j]? = some t → args[j]? = some v → Value.okWide Tryd.prog W .any base t v)
    (hW : DataW.Whole enc Tryd.prog Tryd.f7.params.toList Rows.fnExactNextWordSpec.vars false W args.toList ds gs before) (hL : laidMetH Tryd.prog laidE W) :
    Calls Tryd.prog 7 args W fun e W' => ∃ v, e = .returned v ∧ Rows.fnExactNextWordSpec.post enc Tryd.prog Tryd.f7 false true false false W args v W' := by
  have hW' := hW
  obtain ⟨p, q, hA0, hV, rfl, hfz, hnd⟩ := hW
  have hA : DataW.TrodAll enc Tryd.prog W 0 (fun _ => true) true Tryd.f7.params.toList args.toList ds p := hA0
  rw [Tryd.params7] at hA hval
  obtain ⟨v0, vs0, d0, ds0, p0, q0, hargs, rfl, rfl, h0, r0⟩ := trodAll_cons hA
  obtain ⟨v1, vs1, d1, ds1, p1, q1, rfl, rfl, rfl, h1, r1⟩ := trodAll_cons r0
  obtain ⟨rfl, rfl, rfl⟩ := trodAll_nil r1
  obtain rfl : args = #[v0, v1] := by cases args; simp_all
  have hV1 : DataW.TrodVars enc Tryd.prog W (fun _ => true) ["loop.example/g00771/impl.errFull"] gs q := hV
  obtain ⟨ad, hF, hv0⟩ := fullOf hL
  obtain ⟨rfl, rfl⟩ := hV1.unique (vars_read1 enc gErr gErrType Tryd.underlying99 hv0 trivial _)
  have k0 := h0
  have lt0 : ∀ x ∈ p0, x.block < W.heap.size := by obtain ⟨m, hm⟩ := k0; exact DataW.trod_lt m _ _ _ hm
  obtain ⟨x0, x1, x2, xy0, xy1, xy2, m0, rfl, rfl, hp0, xh0, xh1, xh2⟩ := open_agg3 Tryd.underlying58 (by kernel_rfl) cellsWordL (hval 0 58 v0 rfl rfl) h0
  obtain ⟨xa, xe0, rfl, xwa⟩ := DataW.trod_int Tryd.underlying3 xh0
  obtain ⟨xb, xe1, rfl, xwb⟩ := DataW.trod_int Tryd.underlying3 xh1
  obtain ⟨xc, xe2, rfl⟩ := DataW.trod_bool Tryd.underlying4 xh2
  simp at xe0 xe1 xe2
  subst xe0 xe1 xe2
  have k1 := h1
  have lt1 : ∀ x ∈ p1, x.block < W.heap.size := by obtain ⟨m, hm⟩ := k1; exact DataW.trod_lt m _ _ _ hm
  obtain ⟨ya, rfl, rfl, rfl, ywf⟩ := open_int Tryd.underlying3 (hval 1 3 v1 rfl rfl) h1
  clear hA0
  refine (exactNextWord_walk xa xb xc ya W ad hF).mono fun e W' ⟨he, bel⟩ => ?_
  subst he
  exact ⟨_, rfl, _, _, _, [], _, [.cell 0 0], hW', trodAll_mk1 (shut_bool Tryd.underlying4 _), (trodAll_cons_mk (Below.trod laidOut (by kernel_rfl) (of_decide_eq_true (by kernel_rfl)) k0 bel lt0) (trodAll_cons_mk (Below.trod laidOut (by kernel_rfl) (of_decide_eq_true (by kernel_rfl)) k1 bel lt1) (trodAll_mk0))), vars_read1 enc gErr gErrType Tryd.underlying99 (var_below hv0 bel) trivial _, bel.frame _, fun h => by cases h⟩

abbrev atArgs : Array Value := #[.agg #[.int .i64 0, .int .i64 0, .bool false], .int .i64 0]
theorem at_reads (os : Os) {H : Type} (enc : TypeId × Value → H) : ∃ places, DataW.whole enc Tryd.prog ((laidWorldE os atArgs).forCall (fun _ _ => 0) ⟨#[], atArgs, []⟩).memory Tryd.f7.params.toList Rows.fnExactNextWordSpec.vars false atArgs.toList 8 = some ([.agg [.lit (.int .i64 0), .lit (.int .i64 0), .lit (.bool false)], .lit (.int .i64 0)], [tok enc (.iface 171 (.pointer (some ⟨low, 0, none⟩)))], places) :=
  ⟨[.cell 0 0], by kernel_rfl⟩

set_option maxRecDepth 100000 in
theorem at_lifted (os : Os) (started : os.Started) (H : Type) (enc : TypeId × Value → H) (F : Stop.Interp) :
    ReturnsInHanded {} Tryd.checked os 7 .any ((OpenSpec.ofChange Rows.fnExactNextWordSpec).preRow enc Tryd.prog Tryd.f7 Rows.fnExactNextWordRow.domain false Rows.fnExactNextWordRow.laid) (((OpenSpec.ofChange Rows.fnExactNextWordSpec).at F).post enc Tryd.prog Tryd.f7 false true false false) := by
  obtain ⟨places, hx⟩ := at_reads os enc
  refine returnsInHanded_of_row (C := Tryd.checked) (s := OpenSpec.ofChange Rows.fnExactNextWordSpec) own started (by kernel_rfl) Tryd.func7
    (witness_row_at (enc := enc) (C := Tryd.checked) false (laidWorldE os atArgs) atArgs rfl (by kernel_rfl) (by kernel_rfl) (by kernel_rfl)
      (OpenSpec.preRow_of_cond 8 hx (by kernel_rfl) (fun k hk => by cases hk) (by kernel_rfl) (laid_metE os atArgs))) ?_
  intro W base args ds gs before hval hW _ _ _ hL _ _
  exact at_contract H enc W base args ds gs before hval hW hL

theorem at_said : Rows.FnExactNextWordSaid :=
  OpenClaim.holds_of_cond 7 Tryd.f7 rfl rfl rfl rfl rfl rfl rfl ⟨rfl, rfl, rfl, rfl, rfl⟩ rfl rfl rfl rfl rfl (by kernel_rfl) Tryd.func7 (by kernel_rfl)
    (of_decide_eq_true (by kernel_rfl)) (by unfold Func.isWrapper; first | (rw [if_pos (by decide +kernel)]; kernel_rfl) | (rw [if_neg (by decide +kernel)]; exact ⟨rfl, rfl⟩))
    (fun os started H enc _ F => by rw [OpenClaim.pre_eq_preRow]; exact at_lifted os started H enc F)

theorem at_plain (f : FuncId) (fn : Func) (hf : Tryd.pinned.checked.prog.funcNamed "loop.example/g00771/laws.FnExactNextWord" = some f) (hfn : Tryd.pinned.checked.prog.funcs[f]? = some fn) :
    true = Tryd.pinned.checked.prog.looks [] ∧ ∀ (j : Nat) t, fn.params[j]? = some t → Tryd.pinned.checked.prog.wantsStandIn t = false := by
  obtain rfl : f = 7 := Option.some.inj ((show Tryd.prog.funcNamed "loop.example/g00771/laws.FnExactNextWord" = some 7 by kernel_rfl).symm.trans hf) |>.symm
  obtain rfl : fn = Tryd.f7 := (Option.some.inj (Tryd.func7.symm.trans hfn)).symm
  refine ⟨by kernel_rfl, fun j t ht => ?_⟩
  rw [Tryd.params7] at ht
  have hm : t = 58 ∨ t = 3 := by simpa using Array.mem_of_getElem? ht
  rcases hm with rfl | rfl
  · exact (show Tryd.prog.wantsStandIn 58 = false by kernel_rfl)
  · exact (show Tryd.prog.wantsStandIn 3 = false by kernel_rfl)

/-- FnExactNextWord: THE CARD -/
theorem fnExactNextWord_card : Rows.FnExactNextWordCardSaid :=
  Claim7.holds_tied_plain_at .later [] _ _ _ _ at_said (fun _ h => by cases h) (by kernel_rfl) (fun _ h => by cases h) fnExactNextWord_row_tie rfl ⟨rfl, rfl⟩ (by kernel_rfl) rfl at_plain (by kernel_rfl)
#print axioms fnExactNextWord_card
end Go.Proofs.YtilgfcbjonalaaaDoor
