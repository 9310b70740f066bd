/- FnExactLockText: for every argument the program's LockText answers as the model's, and the argument reads as before. The library's tables read as its own initialisers lay them (tied). -/
import Derived.Test.YtmdonjkkpkcpnaaDoorCardLib
import Derived.Test.YtmdonjkkpkcpnaaDoorLoD
import Derived.Test.YtmdonjkkpkcpnaaDoorLx5
namespace Go.Proofs.YtmdonjkkpkcpnaaDoor
open Go.ChangeShapes Go.WideShapes Go.ChangeAt Go.RowKit Go.Joins

set_option maxRecDepth 100000 in
theorem at_contract (H : Type) (enc : TypeId × Value → H) (W : World) (base : Nat) (args : Array Value) (ds gs : List (DataW H)) (before : List MemPlace)
    (hval : ∀ (j : Nat) t v, Tryd.f3.params[j]? = some t → args[j]? = some v → Value.okWide Tryd.prog W .any base t v)
    (hW : DataW.Whole enc Tryd.prog Tryd.f3.params.toList Rows.fnExactLockTextSpec.vars false W args.toList ds gs before) (_hL : laidMetH Tryd.prog laid3 W) :
    Calls Tryd.prog 3 args W fun e W' => ∃ v, e = .returned v ∧ Rows.fnExactLockTextSpec.post enc Tryd.prog Tryd.f3 false true false false W args v W' := by
  have hW' := hW
  obtain ⟨p, q, hA0, hV, rfl, hfz, hnd⟩ := hW
  have hA : DataW.TrodAll enc Tryd.prog W 0 (fun _ => true) true Tryd.f3.params.toList args.toList ds p := hA0
  rw [Tryd.params3] at hA hval
  obtain ⟨v0, vs0, d0, ds0, p0, q0, hargs, rfl, rfl, h0, rr0⟩ := trodAll_cons hA
  obtain ⟨rfl, rfl, rfl⟩ := trodAll_nil rr0
  obtain rfl : args = #[v0] := by cases args; simp_all
  obtain ⟨rfl, rfl⟩ := trodVars_none hV
  have k0 := h0
  have lt0 : ∀ x ∈ p0, x.block < W.heap.size := by obtain ⟨m, hm⟩ := k0; exact DataW.trod_lt m _ _ _ hm
  obtain ⟨x0, x1, xy0, xy1, m0, rfl, rfl, hp0, xh0, xh1⟩ := open_agg2 Tryd.underlying24 (by kernel_rfl) cellsLockL (hval 0 24 v0 rfl rfl) h0
  obtain ⟨A1, c1, l1, rfl, n1, r1⟩ := open_holds xh0
  obtain ⟨A2, c2, l2, rfl, n2, r2⟩ := open_holds xh1
  clear hA0
  refine (fnExactLockText_walk A1 A2 c1 c2 l1 l2 W n1 n2 r1 r2).mono fun e W' ⟨he, bel⟩ => ?_
  subst he
  exact ⟨_, rfl, _, _, _, [], _, [], hW', trodAll_mk1 (shut_bool Tryd.underlying4 _), (trodAll_cons_mk (Below.trod laidOut (by kernel_rfl) (of_decide_eq_true (by kernel_rfl)) k0 bel lt0) (trodAll_mk0)), rfl, bel.frame _, fun h => by cases h⟩

abbrev atArgs : Array Value := #[.agg #[.slice none 0 0, .slice none 0 0]]
theorem at_reads (os : Os) {H : Type} (enc : TypeId × Value → H) : ∃ places, DataW.whole enc Tryd.prog ((laidWorld os #[] atArgs).forCall (fun _ _ => 0) ⟨#[], atArgs, []⟩).memory Tryd.f3.params.toList Rows.fnExactLockTextSpec.vars false atArgs.toList 8 = some ([.agg [.nil, .nil]], [], places) :=
  ⟨[], by kernel_rfl⟩

set_option maxRecDepth 100000 in
theorem at_lifted (os : Os) (started : os.Started) (H : Type) (enc : TypeId × Value → H) (F : Stop.Interp) :
    ReturnsInHanded {} Tryd.checked os 3 .any ((OpenSpec.ofChange Rows.fnExactLockTextSpec).preRow enc Tryd.prog Tryd.f3 Rows.fnExactLockTextRow.domain false Rows.fnExactLockTextRow.laid) (((OpenSpec.ofChange Rows.fnExactLockTextSpec).at F).post enc Tryd.prog Tryd.f3 false true false false) := by
  obtain ⟨places, hx⟩ := at_reads os enc
  refine returnsInHanded_of_row (C := Tryd.checked) (s := OpenSpec.ofChange Rows.fnExactLockTextSpec) own started (by kernel_rfl) Tryd.func3
    (witness_row_at (enc := enc) (C := Tryd.checked) false (laidWorld os #[] atArgs) atArgs rfl (by kernel_rfl) (by kernel_rfl) (by kernel_rfl)
      (OpenSpec.preRow_of_cond 8 hx (by kernel_rfl) (fun k hk => by cases hk) (by kernel_rfl) (laid_met os atArgs))) ?_
  intro W base args ds gs before hval hW _ _ _ hL _ _
  exact at_contract H enc W base args ds gs before hval hW hL

theorem at_said : Rows.FnExactLockTextSaid :=
  OpenClaim.holds_of_cond 3 Tryd.f3 rfl rfl rfl rfl rfl rfl rfl ⟨rfl, rfl, rfl, rfl, rfl⟩ rfl rfl rfl rfl rfl (by kernel_rfl) Tryd.func3 (by kernel_rfl)
    (of_decide_eq_true (by kernel_rfl)) (by unfold Func.isWrapper; first | (rw [if_pos (by decide +kernel)]; kernel_rfl) | (rw [if_neg (by decide +kernel)]; exact ⟨rfl, rfl⟩))
    (fun os started H enc _ F => by rw [OpenClaim.pre_eq_preRow]; exact at_lifted os started H enc F)

theorem at_plain (f : FuncId) (fn : Func) (hf : Tryd.pinned.checked.prog.funcNamed "loop.example/g00771/laws.FnExactLockText" = some f) (hfn : Tryd.pinned.checked.prog.funcs[f]? = some fn) :
    false = Tryd.pinned.checked.prog.looks [] ∧ ∀ (j : Nat) t, fn.params[j]? = some t → Tryd.pinned.checked.prog.wantsStandIn t = false := by
  obtain rfl : f = 3 := Option.some.inj ((show Tryd.prog.funcNamed "loop.example/g00771/laws.FnExactLockText" = some 3 by kernel_rfl).symm.trans hf) |>.symm
  obtain rfl : fn = Tryd.f3 := (Option.some.inj (Tryd.func3.symm.trans hfn)).symm
  refine ⟨by kernel_rfl, fun j t ht => ?_⟩
  rw [Tryd.params3] at ht
  obtain rfl : t = 24 := by simpa using Array.mem_of_getElem? ht
  exact (show Tryd.prog.wantsStandIn 24 = false by kernel_rfl)

/-- FnExactLockText: THE CARD -/
theorem fnExactLockText_card : Rows.FnExactLockTextCardSaid :=
  Claim7.holds_tied_plain_at .later [] _ _ _ _ at_said (fun _ h => by cases h) (by kernel_rfl) (fun _ h => by cases h) fnExactLockText_row_tie rfl ⟨rfl, rfl⟩ (by kernel_rfl) rfl at_plain (by kernel_rfl)
#print axioms fnExactLockText_card
end Go.Proofs.YtmdonjkkpkcpnaaDoor
