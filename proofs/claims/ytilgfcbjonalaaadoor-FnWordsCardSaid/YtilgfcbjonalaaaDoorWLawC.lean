/- FnWords: whatever the bytes that the two words are drawn from, the law answers true and the bytes read as before. The library's tables and the error variable read as their own initialisers lay them (tied). -/
import Derived.Test.YtilgfcbjonalaaaDoorWLawB
import Derived.Test.YtilgfcbjonalaaaDoorCardLib
import Derived.Test.YtilgfcbjonalaaaDoorBytes
namespace Go.Proofs.YtilgfcbjonalaaaDoor
open Go.ChangeShapes Go.WideShapes Go.ChangeAt Go.RowKit Go.Joins

theorem gErr : Tryd.prog.globalNamed "loop.example/g00771/impl.errFull" = some 0 := by kernel_rfl
theorem gErrType : (Tryd.prog.globals[0]?).map (·.type) = some 99 := by kernel_rfl
theorem cellsEs : Tryd.prog.cellsOf 193 = 1 := by kernel_rfl
theorem cellsStr : Tryd.prog.cellsOf 9 = 1 := by kernel_rfl
theorem star : "*errors.errorString" = "*" ++ "errors.errorString" := by decide
theorem rowEs (u : TypeId) (h : Tryd.prog.typeName? 3 u = some "*errors.errorString") : u = 171 :=
  typeName_ptr_named (nm := "errors.errorString") (by rw [← star]; kernel_rfl) (by kernel_rfl) (by decide) u (by rw [← star]; exact h)

abbrev errText : List UInt8 := [116, 104, 101, 32, 101, 112, 111, 99, 104, 32, 104, 97, 115, 32, 110, 111, 32, 102, 117, 114, 116, 104, 101, 114, 32, 115, 101, 113, 117, 101, 110, 99, 101, 32, 110, 117, 109, 98, 101, 114]
abbrev laid4 : List (String × DataW Unit) := [("math/bits.deBruijn32tab", Rows.laid_math_bits_deBruijn32tab), ("math/bits.deBruijn64tab", Rows.laid_math_bits_deBruijn64tab), ("internal/strconv.uint64pow10", Rows.laid_internal_strconv_uint64pow10), ("loop.example/g00771/impl.errFull", Rows.laid_loop_example_g00771_impl_errFull)]
abbrev errS : ByteArray := { data := #[116, 104, 101, 32, 101, 112, 111, 99, 104, 32, 104, 97, 115, 32, 110, 111, 32, 102, 117, 114, 116, 104, 101, 114, 32, 115, 101, 113, 117, 101, 110, 99, 101, 32, 110, 117, 109, 98, 101, 114] }
noncomputable def low : Nat := (World.holding Tryd.prog default ⟨#[], #[], []⟩).heap.size
/-- A WORLD FOR THE WITNESS: the settled one, the tables and the sentinel as their initialisers lay them. -/
noncomputable def laidWorld4 (os : Os) (args : Array Value) : World :=
  let w0 := World.holding Tryd.prog os ⟨#[.cells #[.string errS] 193], args, []⟩
  { w0 with heap := (((w0.heap.modify 3 (setRow pow10s)).modify 4 (setRow tab32)).modify 5 (setRow tab64)).modify 0 fun
      | .cells _ t frozen => .cells #[.iface 171 (.pointer (some ⟨low, 0, none⟩))] t frozen
      | o => o }
theorem laid_met4 (os : Os) (args : Array Value) : laidMet Tryd.prog laid4 ((laidWorld4 os args).forCall (fun _ _ => 0) ⟨#[], args, []⟩).memory :=
  laidMet_of_run' 8 (by kernel_rfl) (by kernel_rfl)
theorem table4 {W : World} (h : laidMetH Tryd.prog laid4 W) : Tab W := by
  have h1 : laidMet Tryd.prog laid4 W := h
  have h2 := (laidMet.tail (laidMet.tail h1))
  rw [tabData_eq] at h2
  exact Lib.tabIs_of_head gTab gTabType Tryd.underlying165 Tryd.underlying136 cellsU64 cellsTab h2
theorem maxL {W : World} (hS : W.ShapedOpen Tryd.prog) : MaxL W :=
  Go.Proofs.cell_of_shapedOpen_int (zero := #[.int .i64 0]) (t := 3) hS (of_decide_eq_true (by kernel_rfl)) (by kernel_rfl) rfl (by kernel_rfl) (by kernel_rfl) Tryd.underlying3
/-- WHAT THE ROW's LIST GIVES -/
theorem fullOf {W : World} (h : laidMetH Tryd.prog laid4 W) : ∃ a, Full W a ∧ W.var? Tryd.prog "loop.example/g00771/impl.errFull" = some #[.iface 171 (.pointer (some a))] := by
  have h1 : laidMet Tryd.prog laid4 W := h
  obtain ⟨a0, s0, hv0, hc0, hs0, hz0⟩ := laid_sentinel (laidMet.tail (laidMet.tail (laidMet.tail h1))) gErr gErrType Tryd.underlying99 rowEs Tryd.underlying171 Tryd.underlying193 rfl rfl Tryd.underlying9 cellsEs cellsStr
  exact ⟨a0, by have := World.var?_cell gErr hv0 0; simpa [Full] using this, hv0⟩
theorem var_below {W W' : World} {cs : Array Value} (h : W.var? Tryd.prog "loop.example/g00771/impl.errFull" = some cs) (hb : Below W.heap.size W W') : W'.var? Tryd.prog "loop.example/g00771/impl.errFull" = some cs := by
  unfold World.var? at h ⊢
  simp only [gErr, Option.bind_some] at h ⊢
  have hlt : 0 < W.heap.size := by
    rcases Nat.lt_or_ge 0 W.heap.size with h' | h'
    · exact h'
    · rw [Array.getElem?_eq_none h'] at h; cases h
  rw [hb.block _ hlt]
  exact h


set_option maxRecDepth 100000 in
theorem at_contract (H : Type) (enc : TypeId × Value → H) (W : World) (base : Nat) (args : Array Value) (ds gs : List (DataW H)) (before : List MemPlace)
    (hval : ∀ (j : Nat) t v, Tryd.f4.params[j]? = some t → args[j]? = some v → Value.okWide Tryd.prog W .any base t v)
    (hW : DataW.Whole enc Tryd.prog Tryd.f4.params.toList Rows.fnWordsSpec.vars false W args.toList ds gs before) (hL : laidMetH Tryd.prog laid4 W) (hS : W.ShapedOpen Tryd.prog) :
    Calls Tryd.prog 4 args W fun e W' => ∃ v, e = .returned v ∧ Rows.fnWordsSpec.post enc Tryd.prog Tryd.f4 false true false false W args v W' := by
  have hW' := hW
  obtain ⟨p, q, hA0, hV, rfl, hfz, hnd⟩ := hW
  have hA : DataW.TrodAll enc Tryd.prog W 0 (fun _ => true) true Tryd.f4.params.toList args.toList ds p := hA0
  rw [Tryd.params4] at hA hval
  obtain ⟨v0, vs0, d0, ds0, p0, q0, hargs, rfl, rfl, h0, rr0⟩ := trodAll_cons hA
  obtain ⟨rfl, rfl, rfl⟩ := trodAll_nil rr0
  obtain rfl : args = #[v0] := by cases args; simp_all
  have hV1 : DataW.TrodVars enc Tryd.prog W (fun _ => true) ["loop.example/g00771/impl.errFull"] gs q := hV
  obtain ⟨ad, hF, hv0⟩ := fullOf hL
  obtain ⟨rfl, rfl⟩ := hV1.unique (vars_read1 enc gErr gErrType Tryd.underlying99 hv0 trivial _)
  have k0 := h0
  have lt0 : ∀ x ∈ p0, x.block < W.heap.size := by obtain ⟨m, hm⟩ := k0; exact DataW.trod_lt m _ _ _ hm
  obtain ⟨A0, n0, c0, rfl⟩ := okWide_slice Tryd.underlying22 (hval 0 22 v0 rfl rfl)
  obtain ⟨g0, r0⟩ := open_bytesAt h0
  clear hA0
  refine (fnWords_walk n0 c0 A0 g0 W r0 (table4 hL) (maxL hS) ad hF).mono fun e W' ⟨he, bel⟩ => ?_
  subst he
  exact ⟨_, rfl, _, _, _, [], _, [.cell 0 0], hW', trodAll_mk1 (shut_bool Tryd.underlying4 _), (trodAll_cons_mk (Below.trod laidOut (by kernel_rfl) (of_decide_eq_true (by kernel_rfl)) k0 bel lt0) (trodAll_mk0)), vars_read1 enc gErr gErrType Tryd.underlying99 (var_below hv0 bel) trivial _, bel.frame _, fun h => by cases h⟩

abbrev atArgs : Array Value := #[.slice none 0 0]
theorem at_reads (os : Os) {H : Type} (enc : TypeId × Value → H) : ∃ places, DataW.whole enc Tryd.prog ((laidWorld4 os atArgs).forCall (fun _ _ => 0) ⟨#[], atArgs, []⟩).memory Tryd.f4.params.toList Rows.fnWordsSpec.vars false atArgs.toList 8 = some ([.nil], [tok enc (.iface 171 (.pointer (some ⟨low, 0, none⟩)))], places) :=
  ⟨[.cell 0 0], by kernel_rfl⟩

set_option maxRecDepth 100000 in
theorem at_lifted (os : Os) (started : os.Started) (H : Type) (enc : TypeId × Value → H) (F : Stop.Interp) :
    ReturnsInHanded {} Tryd.checked os 4 .any ((OpenSpec.ofChange Rows.fnWordsSpec).preRow enc Tryd.prog Tryd.f4 Rows.fnWordsRow.domain false Rows.fnWordsRow.laid) (((OpenSpec.ofChange Rows.fnWordsSpec).at F).post enc Tryd.prog Tryd.f4 false true false false) := by
  obtain ⟨places, hx⟩ := at_reads os enc
  refine returnsInHanded_of_row (C := Tryd.checked) (s := OpenSpec.ofChange Rows.fnWordsSpec) own started (by kernel_rfl) Tryd.func4
    (witness_row_at (enc := enc) (C := Tryd.checked) false (laidWorld4 os atArgs) atArgs rfl (by kernel_rfl) (by kernel_rfl) (by kernel_rfl)
      (OpenSpec.preRow_of_cond 8 hx (by kernel_rfl) (fun k hk => by cases hk) (by kernel_rfl) (laid_met4 os atArgs))) ?_
  intro W base args ds gs before hval hW _ _ _ hL hS _
  exact at_contract H enc W base args ds gs before hval hW hL hS

theorem at_said : Rows.FnWordsSaid :=
  OpenClaim.holds_of_cond 4 Tryd.f4 rfl rfl rfl rfl rfl rfl rfl ⟨rfl, rfl, rfl, rfl, rfl⟩ rfl rfl rfl rfl rfl (by kernel_rfl) Tryd.func4 (by kernel_rfl)
    (of_decide_eq_true (by kernel_rfl)) (by unfold Func.isWrapper; first | (rw [if_pos (by decide +kernel)]; kernel_rfl) | (rw [if_neg (by decide +kernel)]; exact ⟨rfl, rfl⟩))
    (fun os started H enc _ F => by rw [OpenClaim.pre_eq_preRow]; exact at_lifted os started H enc F)

theorem at_plain (f : FuncId) (fn : Func) (hf : Tryd.pinned.checked.prog.funcNamed "loop.example/g00771/laws.FnWords" = some f) (hfn : Tryd.pinned.checked.prog.funcs[f]? = some fn) :
    true = Tryd.pinned.checked.prog.looks [] ∧ ∀ (j : Nat) t, fn.params[j]? = some t → Tryd.pinned.checked.prog.wantsStandIn t = false := by
  obtain rfl : f = 4 := Option.some.inj ((show Tryd.prog.funcNamed "loop.example/g00771/laws.FnWords" = some 4 by kernel_rfl).symm.trans hf) |>.symm
  obtain rfl : fn = Tryd.f4 := (Option.some.inj (Tryd.func4.symm.trans hfn)).symm
  refine ⟨by kernel_rfl, fun j t ht => ?_⟩
  rw [Tryd.params4] at ht
  obtain rfl : t = 22 := by simpa using Array.mem_of_getElem? ht
  exact (show Tryd.prog.wantsStandIn 22 = false by kernel_rfl)

/-- FnWords: THE CARD -/
theorem fnWords_card : Rows.FnWordsCardSaid :=
  Claim7.holds_tied_plain_at .later [] _ _ _ _ at_said (fun _ h => by cases h) (by kernel_rfl) (fun _ h => by cases h) fnWords_row_tie rfl ⟨rfl, rfl⟩ (by kernel_rfl) rfl at_plain (by kernel_rfl)
#print axioms fnWords_card
end Go.Proofs.YtilgfcbjonalaaaDoor
