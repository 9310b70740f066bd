/- FnExactGateText: for every argument the program's function answers as the model's, and the argument reads as before. The library's tables read as its own initialisers lay them (tied). -/
import Derived.Test.YtomkfldimkpmdaaDoorGox
import Derived.Test.YtomkfldimkpmdaaDoorGt
import Derived.Test.YtomkfldimkpmdaaDoorCardLibG
import Derived.Deep.RegionLaw
namespace Go.Proofs.YtomkfldimkpmdaaDoor
open Go.ChangeShapes Go.WideShapes Go.ChangeAt Go.RowKit Go.Joins

set_option maxHeartbeats 6400000 in
set_option maxRecDepth 100000 in
theorem fnExactGateText_walk (d : DEngine) (vs : List Value) (w : World) (hw : fEngine.Wf d) (ht : Tab w) (hr : fEngine.At w w.heap.size d vs) :
    Calls Tryd.prog 3 #[.agg vs.toArray] w fun e w' => e = .returned (.bool true) ∧ Below w.heap.size w w' := by
  have HR := Lib.hid hr
  have HTB := Lib.hid ht
  clear ht
  obtain ⟨A5, c5, A6, c6, A7, c7, A10, c10, rfl, _, _, _, _⟩ := at_Engine hr
  clear hr
  by_cases hs : fEngine.cnt d ≤ 1048576
  · go_enter Tryd.func3, Tryd.ntmps3
    go_wp2_with fail
    have b := (Below.refl w.heap.size w).alloc (Nat.le_refl _) (.cells #[.int .i64 d.1.1, .int .i64 d.1.2.1, .int .i64 d.1.2.2.1, .bool d.1.2.2.2.1, .int .i64 d.1.2.2.2.2, .slice A5 (d.2.1).length c5, .slice A6 (d.2.2.1).length c6, .slice A7 (d.2.2.2.1).length c7, .int .i64 d.2.2.2.2.1, .int .i64 d.2.2.2.2.2.1, .slice A10 (d.2.2.2.2.2.2.1).length c10, .int .i64 d.2.2.2.2.2.2.2.1, .int .i64 d.2.2.2.2.2.2.2.2] 31)
    have X := Bx.new (w := w) (c := #[.int .i64 d.1.1, .int .i64 d.1.2.1, .int .i64 d.1.2.2.1, .bool d.1.2.2.2.1, .int .i64 d.1.2.2.2.2, .slice A5 (d.2.1).length c5, .slice A6 (d.2.2.1).length c6, .slice A7 (d.2.2.2.1).length c7, .int .i64 d.2.2.2.2.1, .int .i64 d.2.2.2.2.2.1, .slice A10 (d.2.2.2.2.2.2.1).length c10, .int .i64 d.2.2.2.2.2.2.2.1, .int .i64 d.2.2.2.2.2.2.2.2]) (t := 31) rfl
    generalize w.alloc (.cells #[.int .i64 d.1.1, .int .i64 d.1.2.1, .int .i64 d.1.2.2.1, .bool d.1.2.2.2.1, .int .i64 d.1.2.2.2.2, .slice A5 (d.2.1).length c5, .slice A6 (d.2.2.1).length c6, .slice A7 (d.2.2.2.1).length c7, .int .i64 d.2.2.2.2.1, .int .i64 d.2.2.2.2.2.1, .slice A10 (d.2.2.2.2.2.2.1).length c10, .int .i64 d.2.2.2.2.2.2.2.1, .int .i64 d.2.2.2.2.2.2.2.2] 31) = w1 at b X ⊢
    have hsz := b.size
    have hz : ¬ ((1048576 : Int) - (fEngine.cnt d : Int) < 0) := by omega
    have HE := Lib.hid (szOf_le (left := 1048576) (n := fEngine.cnt d) (by omega))
    refine (sz_Engine d w.heap.size _ 1048576 _ (by omega) (by omega) b.size (fEngine.at_same HR.out (.of b (Nat.le_refl _)))).mono ?_; rintro e w2 ⟨rfl, hb⟩
    rw [HE.out]
    have hsz := hb.size
    have X := X.next hb
    have b := b.trans (hb.mono b.size)
    clear hb
    obtain ⟨⟨x0, x1, x2, x3, x4, x5, x6, x7, x8, x9, x10, x11, x12⟩, _⟩ := X.c13
    go_wp2_with fail
    clear hz x0 x1 x2 x3 x4 x5 x6 x7 x8 x9 x10 x11 x12
    refine (to_Engine d w.heap.size _ _ hs b.size (fEngine.at_same HR.out (.of b (Nat.le_refl _)))).mono ?_; rintro e w3 ⟨us, rfl, hb, o1⟩
    obtain ⟨A5p, c5p, A6p, c6p, A7p, c7p, A10p, c10p, rfl, _, _, _, _⟩ := at_Engine (fEngine.own_at o1)
    have hsz := hb.size
    have X := X.next hb
    have b := b.trans (hb.mono b.size)
    clear hb
    go_wp2_with fail
    refine (specGate_any d w3.heap.size _ _ hw (fEngine.own_at o1)).mono ?_; rintro e w4 ⟨rfl, hb⟩
    clear o1
    have hsz := hb.size
    have X := X.next hb
    have b := b.trans (hb.mono b.size)
    clear hb
    obtain ⟨⟨x0, x1, x2, x3, x4, x5, x6, x7, x8, x9, x10, x11, x12⟩, _⟩ := X.c13
    go_wp2_with fail
    clear x0 x1 x2 x3 x4 x5 x6 x7 x8 x9 x10 x11 x12
    refine (to_Engine d w.heap.size _ _ hs b.size (fEngine.at_same HR.out (.of b (Nat.le_refl _)))).mono ?_; rintro e w5 ⟨us, rfl, hb, o1⟩
    have O1 := Lib.hid o1
    obtain ⟨A5q, c5q, A6q, c6q, A7q, c7q, A10q, c10q, rfl, _, _, _, _⟩ := at_Engine (fEngine.own_at o1)
    clear o1
    have o1 := O1.out
    clear O1
    have hsz := hb.size
    have X := X.next hb
    have b := b.trans (hb.mono b.size)
    clear hb
    go_wp2_with fail
    have hb := (Below.refl w5.heap.size w5).alloc (Nat.le_refl _) (.cells #[.int .i64 d.1.1, .int .i64 d.1.2.1, .int .i64 d.1.2.2.1, .bool d.1.2.2.2.1, .int .i64 d.1.2.2.2.2, .slice A5q (d.2.1).length c5q, .slice A6q (d.2.2.1).length c6q, .slice A7q (d.2.2.2.1).length c7q, .int .i64 d.2.2.2.2.1, .int .i64 d.2.2.2.2.2.1, .slice A10q (d.2.2.2.2.2.2.1).length c10q, .int .i64 d.2.2.2.2.2.2.2.1, .int .i64 d.2.2.2.2.2.2.2.2] 41)
    have Y := Bx.new (w := w5) (c := #[.int .i64 d.1.1, .int .i64 d.1.2.1, .int .i64 d.1.2.2.1, .bool d.1.2.2.2.1, .int .i64 d.1.2.2.2.2, .slice A5q (d.2.1).length c5q, .slice A6q (d.2.2.1).length c6q, .slice A7q (d.2.2.2.1).length c7q, .int .i64 d.2.2.2.2.1, .int .i64 d.2.2.2.2.2.1, .slice A10q (d.2.2.2.2.2.2.1).length c10q, .int .i64 d.2.2.2.2.2.2.2.1, .int .i64 d.2.2.2.2.2.2.2.2]) (t := 41) rfl
    have hY : w5.heap.size < (w5.alloc (.cells #[.int .i64 d.1.1, .int .i64 d.1.2.1, .int .i64 d.1.2.2.1, .bool d.1.2.2.2.1, .int .i64 d.1.2.2.2.2, .slice A5q (d.2.1).length c5q, .slice A6q (d.2.2.1).length c6q, .slice A7q (d.2.2.2.1).length c7q, .int .i64 d.2.2.2.2.1, .int .i64 d.2.2.2.2.2.1, .slice A10q (d.2.2.2.2.2.2.1).length c10q, .int .i64 d.2.2.2.2.2.2.2.1, .int .i64 d.2.2.2.2.2.2.2.2] 41)).heap.size := by simp
    generalize w5.alloc (.cells #[.int .i64 d.1.1, .int .i64 d.1.2.1, .int .i64 d.1.2.2.1, .bool d.1.2.2.2.1, .int .i64 d.1.2.2.2.2, .slice A5q (d.2.1).length c5q, .slice A6q (d.2.2.1).length c6q, .slice A7q (d.2.2.2.1).length c7q, .int .i64 d.2.2.2.2.1, .int .i64 d.2.2.2.2.2.1, .slice A10q (d.2.2.2.2.2.2.1).length c10q, .int .i64 d.2.2.2.2.2.2.2.1, .int .i64 d.2.2.2.2.2.2.2.2] 41) = w6 at hb Y hY ⊢
    have hsz := hb.size
    have X := X.next hb
    have o1 := fEngine.own_same o1 (.of hb (by omega))
    have b := b.trans (hb.mono b.size)
    clear hb
    refine (implGate_any d w5.heap.size _ _ hw (fEngine.own_at o1) (HTB.out.below b)).mono ?_; rintro e w7 ⟨rfl, hb⟩
    have hsz := hb.size
    have X := X.next hb
    have Y := Y.next hb
    have o1 := fEngine.own_same o1 (.of hb (by omega))
    have b := b.trans (hb.mono b.size)
    clear hb
    generalize gtext d = ans
    have hD := (Below.refl w7.heap.size w7).drew
    have Yd := Lib.hid Y.drew
    have O1 := Lib.hid (fEngine.own_at (fEngine.own_same o1 (.of hD (by omega))))
    have HD := Lib.hid (fEngine.at_same HR.out (.of b.drew (Nat.le_refl _)))
    have hbd := b.drew.size
    obtain ⟨⟨x0, x1, x2, x3, x4, x5, x6, x7, x8, x9, x10, x11, x12⟩, _⟩ := X.c13
    have Xl := X.lt
    obtain ⟨⟨y0, y1, y2, y3, y4, y5, y6, y7, y8, y9, y10, y11, y12⟩, _⟩ := Y.c13
    have Yl := Y.lt
    have hs5 : w5.heap.size ≤ w7.heap.size := by omega
    go_wp2_with fail
    go_region_law (first | (go_simp; go_at_call 6; refine (to_Engine d w.heap.size _ _ hs hbd HD.out).mono ?_; rintro o w8 ⟨us, rfl, hb6, o6⟩; obtain ⟨A5r, c5r, A6r, c6r, A7r, c7r, A10r, c10r, rfl, _, _, _, _⟩ := at_Engine (fEngine.own_at o6); obtain ⟨⟨z0, z1, z2, z3, z4, z5, z6, z7, z8, z9, z10, z11, z12⟩, _⟩ := (Yd.out.next hb6).c13) | (go_simp; go_at_call 8; refine (eq_Engine d w5.heap.size _ _ _ _ (by have := hb6.size; show _ ≤ w8.heap.size; have : w7.drew.heap.size = w7.heap.size := rfl; omega) (Nat.le_refl _) (fEngine.at_same O1.out (.of hb6 (by show _ ≤ w7.heap.size; omega))) (fEngine.own_at o6)).mono ?_; rintro o w9 ⟨rfl, hb7⟩))
    all_goals
      have hb := hD.trans ((hb6.trans (hb7.mono hb6.size)).mono (Nat.le_refl _))
      clear hb6 hb7 o6 Yd O1 HD hD hbd x0 x1 x2 x3 x4 x5 x6 x7 x8 x9 x10 x11 x12 y0 y1 y2 y3 y4 y5 y6 y7 y8 y9 y10 y11 y12 z0 z1 z2 z3 z4 z5 z6 z7 z8 z9 z10 z11 z12 Xl Yl
      have b := b.trans (hb.mono b.size)
      clear hb
      go_wp2
      go_ret
      exact ⟨rfl, b⟩
  · go_enter Tryd.func3, Tryd.ntmps3
    go_wp2_with fail
    have b := (Below.refl w.heap.size w).alloc (Nat.le_refl _) (.cells #[.int .i64 d.1.1, .int .i64 d.1.2.1, .int .i64 d.1.2.2.1, .bool d.1.2.2.2.1, .int .i64 d.1.2.2.2.2, .slice A5 (d.2.1).length c5, .slice A6 (d.2.2.1).length c6, .slice A7 (d.2.2.2.1).length c7, .int .i64 d.2.2.2.2.1, .int .i64 d.2.2.2.2.2.1, .slice A10 (d.2.2.2.2.2.2.1).length c10, .int .i64 d.2.2.2.2.2.2.2.1, .int .i64 d.2.2.2.2.2.2.2.2] 31)
    have X := Bx.new (w := w) (c := #[.int .i64 d.1.1, .int .i64 d.1.2.1, .int .i64 d.1.2.2.1, .bool d.1.2.2.2.1, .int .i64 d.1.2.2.2.2, .slice A5 (d.2.1).length c5, .slice A6 (d.2.2.1).length c6, .slice A7 (d.2.2.2.1).length c7, .int .i64 d.2.2.2.2.1, .int .i64 d.2.2.2.2.2.1, .slice A10 (d.2.2.2.2.2.2.1).length c10, .int .i64 d.2.2.2.2.2.2.2.1, .int .i64 d.2.2.2.2.2.2.2.2]) (t := 31) rfl
    generalize w.alloc (.cells #[.int .i64 d.1.1, .int .i64 d.1.2.1, .int .i64 d.1.2.2.1, .bool d.1.2.2.2.1, .int .i64 d.1.2.2.2.2, .slice A5 (d.2.1).length c5, .slice A6 (d.2.2.1).length c6, .slice A7 (d.2.2.2.1).length c7, .int .i64 d.2.2.2.2.1, .int .i64 d.2.2.2.2.2.1, .slice A10 (d.2.2.2.2.2.2.1).length c10, .int .i64 d.2.2.2.2.2.2.2.1, .int .i64 d.2.2.2.2.2.2.2.2] 31) = w1 at b X ⊢
    have hsz := b.size
    have HE := Lib.hid (szOf_lt (left := 1048576) (n := fEngine.cnt d) (by omega))
    refine (sz_Engine d w.heap.size _ 1048576 _ (by omega) (by omega) b.size (fEngine.at_same HR.out (.of b (Nat.le_refl _)))).mono ?_; rintro e w2 ⟨rfl, hb⟩
    rw [HE.out]
    have b := b.trans (hb.mono b.size)
    clear hb
    go_wp2
    go_ret
    exact ⟨rfl, b⟩
set_option maxRecDepth 100000 in
theorem at_contract (H : Type) (enc : TypeId × Value → H) (W : World) (base : Nat) (args : Array Value) (ds gs : List (DataW H)) (before : List MemPlace)
    (hval : ∀ (j : Nat) t v, Tryd.f3.params[j]? = some t → args[j]? = some v → Value.okWide Tryd.prog W .any base t v)
    (hW : DataW.Whole enc Tryd.prog Tryd.f3.params.toList Rows.fnExactGateTextSpec.vars false W args.toList ds gs before) (hL : laidMetH Tryd.prog laid3 W) :
    Calls Tryd.prog 3 args W fun e W' => ∃ v, e = .returned v ∧ Rows.fnExactGateTextSpec.post enc Tryd.prog Tryd.f3 false true false false W args v W' := by
  have hW' := hW
  obtain ⟨p, q, hA0, hV, rfl, hfz, hnd⟩ := hW
  have hA : DataW.TrodAll enc Tryd.prog W 0 (fun _ => true) true Tryd.f3.params.toList args.toList ds p := hA0
  rw [Tryd.params3] at hA hval
  obtain ⟨v0, vs0, d0, ds0, p0, q0, hargs, rfl, rfl, h0, r0⟩ := trodAll_cons hA
  obtain ⟨rfl, rfl, rfl⟩ := trodAll_nil r0
  obtain rfl : args = #[v0] := by cases args; simp_all
  obtain ⟨rfl, rfl⟩ := trodVars_none hV
  have k0 := h0
  have lt0 : ∀ x ∈ p0, x.block < W.heap.size := by obtain ⟨m, hm⟩ := k0; exact DataW.trod_lt m _ _ _ hm
  obtain ⟨d, vs, rfl, hat, hwf⟩ := arg_Engine (hval 0 31 v0 rfl rfl) h0
  clear hA0
  refine (fnExactGateText_walk d vs W hwf (table hL) hat).mono fun e W' ⟨he, bel⟩ => ?_
  subst he
  exact ⟨_, rfl, _, _, _, [], _, [], hW', trodAll_mk1 (shut_bool Tryd.underlying4 _), (trodAll_cons_mk (Below.trod laidOut (by kernel_rfl) (of_decide_eq_true (by kernel_rfl)) k0 bel lt0) (trodAll_mk0)), rfl, bel.frame _, fun h => by cases h⟩

abbrev atArgs : Array Value := #[.agg #[.int .i64 0, .int .i64 0, .int .i64 0, .bool false, .int .i64 0, .slice none 0 0, .slice none 0 0, .slice none 0 0, .int .i64 0, .int .i64 0, .slice none 0 0, .int .i64 0, .int .i64 0]]
theorem at_reads (os : Os) {H : Type} (enc : TypeId × Value → H) : ∃ places, DataW.whole enc Tryd.prog ((laidWorld os #[] atArgs).forCall (fun _ _ => 0) ⟨#[], atArgs, []⟩).memory Tryd.f3.params.toList Rows.fnExactGateTextSpec.vars false atArgs.toList 8 = some ([.agg [.agg [.lit (.int .i64 0), .lit (.int .i64 0), .lit (.int .i64 0), .lit (.bool false), .lit (.int .i64 0)], .agg [.nil], .nil, .nil, .lit (.int .i64 0), .lit (.int .i64 0), .nil, .lit (.int .i64 0), .lit (.int .i64 0)]], [], places) :=
  ⟨[], by kernel_rfl⟩

set_option maxRecDepth 100000 in
theorem at_lifted (os : Os) (started : os.Started) (H : Type) (enc : TypeId × Value → H) (F : Stop.Interp) :
    ReturnsInHanded {} Tryd.checked os 3 .any ((OpenSpec.ofChange Rows.fnExactGateTextSpec).preRow enc Tryd.prog Tryd.f3 Rows.fnExactGateTextRow.domain false Rows.fnExactGateTextRow.laid) (((OpenSpec.ofChange Rows.fnExactGateTextSpec).at F).post enc Tryd.prog Tryd.f3 false true false false) := by
  obtain ⟨places, hx⟩ := at_reads os enc
  refine returnsInHanded_of_row (C := Tryd.checked) (s := OpenSpec.ofChange Rows.fnExactGateTextSpec) own started (by kernel_rfl) Tryd.func3
    (witness_row_at (enc := enc) (C := Tryd.checked) false (laidWorld os #[] atArgs) atArgs rfl (by kernel_rfl) (by kernel_rfl) (by kernel_rfl)
      (OpenSpec.preRow_of_cond 8 hx (by kernel_rfl) (fun k hk => by cases hk) (by kernel_rfl) (laid_met os atArgs))) ?_
  intro W base args ds gs before hval hW _ _ _ hL _ _
  exact at_contract H enc W base args ds gs before hval hW hL

theorem at_said : Rows.FnExactGateTextSaid :=
  OpenClaim.holds_of_cond 3 Tryd.f3 rfl rfl rfl rfl rfl rfl rfl ⟨rfl, rfl, rfl, rfl, rfl⟩ rfl rfl rfl rfl rfl (by kernel_rfl) Tryd.func3 (by kernel_rfl)
    (of_decide_eq_true (by kernel_rfl)) (by unfold Func.isWrapper; first | (rw [if_pos (by decide +kernel)]; kernel_rfl) | (rw [if_neg (by decide +kernel)]; exact ⟨rfl, rfl⟩))
    (fun os started H enc _ F => by rw [OpenClaim.pre_eq_preRow]; exact at_lifted os started H enc F)

theorem at_plain (f : FuncId) (fn : Func) (hf : Tryd.pinned.checked.prog.funcNamed "loop.example/g00771/laws.FnExactGateText" = some f) (hfn : Tryd.pinned.checked.prog.funcs[f]? = some fn) :
    false = Tryd.pinned.checked.prog.looks [] ∧ ∀ (j : Nat) t, fn.params[j]? = some t → Tryd.pinned.checked.prog.wantsStandIn t = false := by
  obtain rfl : f = 3 := Option.some.inj ((show Tryd.prog.funcNamed "loop.example/g00771/laws.FnExactGateText" = some 3 by kernel_rfl).symm.trans hf) |>.symm
  obtain rfl : fn = Tryd.f3 := (Option.some.inj (Tryd.func3.symm.trans hfn)).symm
  refine ⟨by kernel_rfl, fun j t ht => ?_⟩
  rw [Tryd.params3] at ht
  obtain rfl : t = 31 := by simpa using Array.mem_of_getElem? ht
  exact (show Tryd.prog.wantsStandIn 31 = false by kernel_rfl)

/-- FnExactGateText: THE CARD -/
theorem fnExactGateText_card : Rows.FnExactGateTextCardSaid :=
  Claim7.holds_tied_plain_at .later [] _ _ _ _ at_said (fun _ h => by cases h) (by kernel_rfl) (fun _ h => by cases h) fnExactGateText_row_tie rfl ⟨rfl, rfl⟩ (by kernel_rfl) rfl at_plain (by kernel_rfl)
#print axioms fnExactGateText_card
end Go.Proofs.YtomkfldimkpmdaaDoor
