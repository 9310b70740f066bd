/- FnExactCommitText: for every argument the program's function answers as the model's, and the argument reads as before. The library's tables read as its own initialisers lay them (tied). -/
import Derived.Test.YtaninlnobmjbmaaDoorGow
import Derived.Test.YtaninlnobmjbmaaDoorCt
import Derived.Test.YtaninlnobmjbmaaDoorCardLibG
import Derived.Deep.RegionLaw
namespace Go.Proofs.YtaninlnobmjbmaaDoor
open Go.ChangeShapes Go.WideShapes Go.ChangeAt Go.RowKit Go.Joins

set_option maxHeartbeats 6400000 in
set_option maxRecDepth 100000 in
theorem fnExactCommitText_walk (d : DCommit) (vs : List Value) (w : World) (hw : fCommit.Wf d) (ht : Tab w) (hr : fCommit.At w w.heap.size d vs) :
    Calls Tryd.prog 5 #[.agg vs.toArray] w fun e w' => e = .returned (.bool true) ∧ Below w.heap.size w w' := by
  have HR := Lib.hid hr
  have HTB := Lib.hid ht
  clear ht
  obtain ⟨A4, c4, A5, c5, rfl, _, _⟩ := at_Commit hr
  clear hr
  by_cases hs : fCommit.cnt d ≤ 1048576
  · go_enter Tryd.func5, Tryd.ntmps5
    go_wp2_with fail
    have b := (Below.refl w.heap.size w).alloc (Nat.le_refl _) (.cells #[.int .i64 d.1, .int .i64 d.2.1, .int .i64 d.2.2.1, .int .i64 d.2.2.2.1, .slice A4 (d.2.2.2.2.1).length c4, .slice A5 (d.2.2.2.2.2).length c5] 54)
    have X := Bx.new (w := w) (c := #[.int .i64 d.1, .int .i64 d.2.1, .int .i64 d.2.2.1, .int .i64 d.2.2.2.1, .slice A4 (d.2.2.2.2.1).length c4, .slice A5 (d.2.2.2.2.2).length c5]) (t := 54) rfl
    generalize w.alloc (.cells #[.int .i64 d.1, .int .i64 d.2.1, .int .i64 d.2.2.1, .int .i64 d.2.2.2.1, .slice A4 (d.2.2.2.2.1).length c4, .slice A5 (d.2.2.2.2.2).length c5] 54) = w1 at b X ⊢
    have hsz := b.size
    have hz : ¬ ((1048576 : Int) - (fCommit.cnt d : Int) < 0) := by omega
    have HE := Lib.hid (szOf_le (left := 1048576) (n := fCommit.cnt d) (by omega))
    refine (sz_Commit d w.heap.size _ 1048576 _ (by omega) (by omega) b.size (fCommit.at_same HR.out (.of b (Nat.le_refl _)))).mono ?_; rintro e w2 ⟨rfl, hb⟩
    rw [HE.out]
    have hsz := hb.size
    have X := X.next hb
    have b := b.trans (hb.mono b.size)
    clear hb
    obtain ⟨⟨x0, x1, x2, x3, x4, x5⟩, _⟩ := X.c6
    go_wp2_with fail
    clear hz x0 x1 x2 x3 x4 x5
    refine (to_Commit d w.heap.size _ _ hs b.size (fCommit.at_same HR.out (.of b (Nat.le_refl _)))).mono ?_; rintro e w3 ⟨us, rfl, hb, o1⟩
    obtain ⟨A4p, c4p, A5p, c5p, rfl, _, _⟩ := at_Commit (fCommit.own_at o1)
    have hsz := hb.size
    have X := X.next hb
    have b := b.trans (hb.mono b.size)
    clear hb
    go_wp2_with fail
    refine (specCommitText_any d w3.heap.size _ _ hs hw (Nat.le_refl _) (fCommit.own_at o1)).mono ?_; rintro e w4 ⟨rfl, hb⟩
    clear o1
    have hsz := hb.size
    have X := X.next hb
    have b := b.trans (hb.mono b.size)
    clear hb
    obtain ⟨⟨x0, x1, x2, x3, x4, x5⟩, _⟩ := X.c6
    go_wp2_with fail
    clear x0 x1 x2 x3 x4 x5
    refine (to_Commit d w.heap.size _ _ hs b.size (fCommit.at_same HR.out (.of b (Nat.le_refl _)))).mono ?_; rintro e w5 ⟨us, rfl, hb, o1⟩
    have O1 := Lib.hid o1
    obtain ⟨A4q, c4q, A5q, c5q, rfl, _, _⟩ := at_Commit (fCommit.own_at o1)
    clear o1
    have o1 := O1.out
    clear O1
    have hsz := hb.size
    have X := X.next hb
    have b := b.trans (hb.mono b.size)
    clear hb
    go_wp2_with fail
    have hb := (Below.refl w5.heap.size w5).alloc (Nat.le_refl _) (.cells #[.int .i64 d.1, .int .i64 d.2.1, .int .i64 d.2.2.1, .int .i64 d.2.2.2.1, .slice A4q (d.2.2.2.2.1).length c4q, .slice A5q (d.2.2.2.2.2).length c5q] 58)
    have Y := Bx.new (w := w5) (c := #[.int .i64 d.1, .int .i64 d.2.1, .int .i64 d.2.2.1, .int .i64 d.2.2.2.1, .slice A4q (d.2.2.2.2.1).length c4q, .slice A5q (d.2.2.2.2.2).length c5q]) (t := 58) rfl
    have hY : w5.heap.size < (w5.alloc (.cells #[.int .i64 d.1, .int .i64 d.2.1, .int .i64 d.2.2.1, .int .i64 d.2.2.2.1, .slice A4q (d.2.2.2.2.1).length c4q, .slice A5q (d.2.2.2.2.2).length c5q] 58)).heap.size := by simp
    generalize w5.alloc (.cells #[.int .i64 d.1, .int .i64 d.2.1, .int .i64 d.2.2.1, .int .i64 d.2.2.2.1, .slice A4q (d.2.2.2.2.1).length c4q, .slice A5q (d.2.2.2.2.2).length c5q] 58) = w6 at hb Y hY ⊢
    have hsz := hb.size
    have X := X.next hb
    have o1 := fCommit.own_same o1 (.of hb (by omega))
    have b := b.trans (hb.mono b.size)
    clear hb
    refine (implCommitText_any d w5.heap.size _ _ hs hw (by omega) (fCommit.own_at o1) (HTB.out.below b)).mono ?_; rintro e w7 ⟨rfl, hb⟩
    have hsz := hb.size
    have X := X.next hb
    have Y := Y.next hb
    have o1 := fCommit.own_same o1 (.of hb (by omega))
    have b := b.trans (hb.mono b.size)
    clear hb
    generalize ctext d = ans
    have hD := (Below.refl w7.heap.size w7).drew
    have Yd := Lib.hid Y.drew
    have O1 := Lib.hid (fCommit.own_at (fCommit.own_same o1 (.of hD (by omega))))
    have HD := Lib.hid (fCommit.at_same HR.out (.of b.drew (Nat.le_refl _)))
    have hbd := b.drew.size
    obtain ⟨⟨x0, x1, x2, x3, x4, x5⟩, _⟩ := X.c6
    have Xl := X.lt
    obtain ⟨⟨y0, y1, y2, y3, y4, y5⟩, _⟩ := Y.c6
    have Yl := Y.lt
    have hs5 : w5.heap.size ≤ w7.heap.size := by omega
    go_wp2_with fail
    go_region_law (first | (go_simp; go_at_call 20; refine (to_Commit d w.heap.size _ _ hs hbd HD.out).mono ?_; rintro o w8 ⟨us, rfl, hb6, o6⟩; obtain ⟨A4r, c4r, A5r, c5r, rfl, _, _⟩ := at_Commit (fCommit.own_at o6); obtain ⟨⟨z0, z1, z2, z3, z4, z5⟩, _⟩ := (Yd.out.next hb6).c6) | (go_simp; go_at_call 22; refine (eq_Commit d w5.heap.size _ _ _ _ (by have := hb6.size; show _ ≤ w8.heap.size; have : w7.drew.heap.size = w7.heap.size := rfl; omega) (Nat.le_refl _) (fCommit.at_same O1.out (.of hb6 (by show _ ≤ w7.heap.size; omega))) (fCommit.own_at o6)).mono ?_; rintro o w9 ⟨rfl, hb7⟩))
    all_goals
      have hb := hD.trans ((hb6.trans (hb7.mono hb6.size)).mono (Nat.le_refl _))
      clear hb6 hb7 o6 Yd O1 HD hD hbd x0 x1 x2 x3 x4 x5 y0 y1 y2 y3 y4 y5 z0 z1 z2 z3 z4 z5 Xl Yl
      have b := b.trans (hb.mono b.size)
      clear hb
      go_wp2
      go_ret
      exact ⟨rfl, b⟩
  · go_enter Tryd.func5, Tryd.ntmps5
    go_wp2_with fail
    have b := (Below.refl w.heap.size w).alloc (Nat.le_refl _) (.cells #[.int .i64 d.1, .int .i64 d.2.1, .int .i64 d.2.2.1, .int .i64 d.2.2.2.1, .slice A4 (d.2.2.2.2.1).length c4, .slice A5 (d.2.2.2.2.2).length c5] 54)
    have X := Bx.new (w := w) (c := #[.int .i64 d.1, .int .i64 d.2.1, .int .i64 d.2.2.1, .int .i64 d.2.2.2.1, .slice A4 (d.2.2.2.2.1).length c4, .slice A5 (d.2.2.2.2.2).length c5]) (t := 54) rfl
    generalize w.alloc (.cells #[.int .i64 d.1, .int .i64 d.2.1, .int .i64 d.2.2.1, .int .i64 d.2.2.2.1, .slice A4 (d.2.2.2.2.1).length c4, .slice A5 (d.2.2.2.2.2).length c5] 54) = w1 at b X ⊢
    have hsz := b.size
    have HE := Lib.hid (szOf_lt (left := 1048576) (n := fCommit.cnt d) (by omega))
    refine (sz_Commit d w.heap.size _ 1048576 _ (by omega) (by omega) b.size (fCommit.at_same HR.out (.of b (Nat.le_refl _)))).mono ?_; rintro e w2 ⟨rfl, hb⟩
    rw [HE.out]
    have b := b.trans (hb.mono b.size)
    clear hb
    go_wp2
    go_ret
    exact ⟨rfl, b⟩
set_option maxRecDepth 100000 in
theorem at_contract (H : Type) (enc : TypeId × Value → H) (W : World) (base : Nat) (args : Array Value) (ds gs : List (DataW H)) (before : List MemPlace)
    (hval : ∀ (j : Nat) t v, Tryd.f5.params[j]? = some t → args[j]? = some v → Value.okWide Tryd.prog W .any base t v)
    (hW : DataW.Whole enc Tryd.prog Tryd.f5.params.toList Rows.fnExactCommitTextSpec.vars false W args.toList ds gs before) (hL : laidMetH Tryd.prog laid3 W) :
    Calls Tryd.prog 5 args W fun e W' => ∃ v, e = .returned v ∧ Rows.fnExactCommitTextSpec.post enc Tryd.prog Tryd.f5 false true false false W args v W' := by
  have hW' := hW
  obtain ⟨p, q, hA0, hV, rfl, hfz, hnd⟩ := hW
  have hA : DataW.TrodAll enc Tryd.prog W 0 (fun _ => true) true Tryd.f5.params.toList args.toList ds p := hA0
  rw [Tryd.params5] at hA hval
  obtain ⟨v0, vs0, d0, ds0, p0, q0, hargs, rfl, rfl, h0, r0⟩ := trodAll_cons hA
  obtain ⟨rfl, rfl, rfl⟩ := trodAll_nil r0
  obtain rfl : args = #[v0] := by cases args; simp_all
  obtain ⟨rfl, rfl⟩ := trodVars_none hV
  have k0 := h0
  have lt0 : ∀ x ∈ p0, x.block < W.heap.size := by obtain ⟨m, hm⟩ := k0; exact DataW.trod_lt m _ _ _ hm
  obtain ⟨d, vs, rfl, hat, hwf⟩ := arg_Commit (hval 0 54 v0 rfl rfl) h0
  clear hA0
  refine (fnExactCommitText_walk d vs W hwf (table hL) hat).mono fun e W' ⟨he, bel⟩ => ?_
  subst he
  exact ⟨_, rfl, _, _, _, [], _, [], hW', trodAll_mk1 (shut_bool Tryd.underlying4 _), (trodAll_cons_mk (Below.trod laidOut (by kernel_rfl) (of_decide_eq_true (by kernel_rfl)) k0 bel lt0) (trodAll_mk0)), rfl, bel.frame _, fun h => by cases h⟩

abbrev atArgs : Array Value := #[.agg #[.int .i64 0, .int .i64 0, .int .i64 0, .int .i64 0, .slice none 0 0, .slice none 0 0]]
theorem at_reads (os : Os) {H : Type} (enc : TypeId × Value → H) : ∃ places, DataW.whole enc Tryd.prog ((laidWorld os #[] atArgs).forCall (fun _ _ => 0) ⟨#[], atArgs, []⟩).memory Tryd.f5.params.toList Rows.fnExactCommitTextSpec.vars false atArgs.toList 8 = some ([.agg [.lit (.int .i64 0), .lit (.int .i64 0), .lit (.int .i64 0), .lit (.int .i64 0), .nil, .nil]], [], places) :=
  ⟨[], by kernel_rfl⟩

set_option maxRecDepth 100000 in
theorem at_lifted (os : Os) (started : os.Started) (H : Type) (enc : TypeId × Value → H) (F : Stop.Interp) :
    ReturnsInHanded {} Tryd.checked os 5 .any ((OpenSpec.ofChange Rows.fnExactCommitTextSpec).preRow enc Tryd.prog Tryd.f5 Rows.fnExactCommitTextRow.domain false Rows.fnExactCommitTextRow.laid) (((OpenSpec.ofChange Rows.fnExactCommitTextSpec).at F).post enc Tryd.prog Tryd.f5 false true false false) := by
  obtain ⟨places, hx⟩ := at_reads os enc
  refine returnsInHanded_of_row (C := Tryd.checked) (s := OpenSpec.ofChange Rows.fnExactCommitTextSpec) own started (by kernel_rfl) Tryd.func5
    (witness_row_at (enc := enc) (C := Tryd.checked) false (laidWorld os #[] atArgs) atArgs rfl (by kernel_rfl) (by kernel_rfl) (by kernel_rfl)
      (OpenSpec.preRow_of_cond 8 hx (by kernel_rfl) (fun k hk => by cases hk) (by kernel_rfl) (laid_met os atArgs))) ?_
  intro W base args ds gs before hval hW _ _ _ hL _ _
  exact at_contract H enc W base args ds gs before hval hW hL

theorem at_said : Rows.FnExactCommitTextSaid :=
  OpenClaim.holds_of_cond 5 Tryd.f5 rfl rfl rfl rfl rfl rfl rfl ⟨rfl, rfl, rfl, rfl, rfl⟩ rfl rfl rfl rfl rfl (by kernel_rfl) Tryd.func5 (by kernel_rfl)
    (of_decide_eq_true (by kernel_rfl)) (by unfold Func.isWrapper; first | (rw [if_pos (by decide +kernel)]; kernel_rfl) | (rw [if_neg (by decide +kernel)]; exact ⟨rfl, rfl⟩))
    (fun os started H enc _ F => by rw [OpenClaim.pre_eq_preRow]; exact at_lifted os started H enc F)

theorem at_plain (f : FuncId) (fn : Func) (hf : Tryd.pinned.checked.prog.funcNamed "loop.example/g00771/laws.FnExactCommitText" = some f) (hfn : Tryd.pinned.checked.prog.funcs[f]? = some fn) :
    true = Tryd.pinned.checked.prog.looks [] ∧ ∀ (j : Nat) t, fn.params[j]? = some t → Tryd.pinned.checked.prog.wantsStandIn t = false := by
  obtain rfl : f = 5 := Option.some.inj ((show Tryd.prog.funcNamed "loop.example/g00771/laws.FnExactCommitText" = some 5 by kernel_rfl).symm.trans hf) |>.symm
  obtain rfl : fn = Tryd.f5 := (Option.some.inj (Tryd.func5.symm.trans hfn)).symm
  refine ⟨by kernel_rfl, fun j t ht => ?_⟩
  rw [Tryd.params5] at ht
  obtain rfl : t = 54 := by simpa using Array.mem_of_getElem? ht
  exact (show Tryd.prog.wantsStandIn 54 = false by kernel_rfl)

/-- FnExactCommitText: THE CARD -/
theorem fnExactCommitText_card : Rows.FnExactCommitTextCardSaid :=
  Claim7.holds_tied_plain_at .later [] _ _ _ _ at_said (fun _ h => by cases h) (by kernel_rfl) (fun _ h => by cases h) fnExactCommitText_row_tie rfl ⟨rfl, rfl⟩ (by kernel_rfl) rfl at_plain (by kernel_rfl)
#print axioms fnExactCommitText_card
end Go.Proofs.YtaninlnobmjbmaaDoor
