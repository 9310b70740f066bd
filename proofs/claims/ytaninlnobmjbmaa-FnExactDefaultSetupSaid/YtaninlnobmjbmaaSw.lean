/- FnExactSetupOk and FnExactDefaultSetup: for every argument the program's function answers as the model's. No condition. -/
import Derived.Test.YtaninlnobmjbmaaGoo
import Derived.Test.YtaninlnobmjbmaaSu
namespace Go.Proofs.Ytaninlnobmjbmaa
open Go.ChangeShapes Go.WideShapes Go.ChangeAt Go.RowKit Go.Joins

set_option maxHeartbeats 1600000 in
theorem fnExactSetupOk_walk (d : DSetup) (vs : List Value) (w : World) (hr : fSetup.At w w.heap.size d vs) :
    Calls Try.prog 3 #[.agg vs.toArray] w fun e w' => e = .returned (.bool true) ∧ Below w.heap.size w w' := by
  have ev := at_Setup hr
  subst ev
  clear hr
  go_enter Try.func3, Try.ntmps3
  go_wp2_with fail
  have b := (Below.refl w.heap.size w).alloc (Nat.le_refl _) (.cells #[.int .i64 d.1, .int .i64 d.2.1, .int .i64 d.2.2.1, .bool d.2.2.2.1, .int .i64 d.2.2.2.2] 23)
  have X := Bx.new (w := w) (c := #[.int .i64 d.1, .int .i64 d.2.1, .int .i64 d.2.2.1, .bool d.2.2.2.1, .int .i64 d.2.2.2.2]) (t := 23) rfl
  generalize w.alloc (.cells #[.int .i64 d.1, .int .i64 d.2.1, .int .i64 d.2.2.1, .bool d.2.2.2.1, .int .i64 d.2.2.2.2] 23) = w1 at b X ⊢
  refine (to_Setup d _).mono ?_; rintro e w2 ⟨rfl, hb⟩
  have X := X.next hb
  have b := b.trans (hb.mono b.size)
  clear hb
  go_wp2_with fail
  refine (specSetupOk_any d _).mono ?_; rintro e w3 ⟨rfl, hb⟩
  have X := X.next hb
  have b := b.trans (hb.mono b.size)
  clear hb
  obtain ⟨⟨x0, x1, x2, x3, x4⟩, _⟩ := X.c5
  go_wp2_with fail
  clear x0 x1 x2 x3 x4
  refine (to_Setup d _).mono ?_; rintro e w4 ⟨rfl, hb⟩
  have b := b.trans (hb.mono b.size)
  clear hb
  go_wp2_with fail
  refine (implSetupOk_any d _).mono ?_; rintro e w5 ⟨rfl, hb⟩
  have b := b.trans (hb.mono b.size)
  clear hb
  generalize setupB d = ans
  go_wp2
  go_ret
  exact ⟨rfl, b⟩

set_option maxRecDepth 100000 in
theorem fnExactSetupOk_lifted (os : Os) (started : os.Started) (H : Type) (enc : TypeId × Value → H) :
    ReturnsInHanded {} Try.checked os 3 .any (Rows.fnExactSetupOkSpec.pre6 enc Try.prog Try.f3 Rows.fnExactSetupOkRow.domain false) (Rows.fnExactSetupOkSpec.post enc Try.prog Try.f3 false true false false) := by
  refine returnsInHanded_of_change (C := Try.checked) own started (by kernel_rfl) Try.func3
    (ChangeSpec.witness6 (enc := enc) (C := Try.checked) false ⟨#[], #[.agg #[.int .i64 0, .int .i64 0, .int .i64 0, .bool false, .int .i64 0]], []⟩ 8 (by kernel_rfl) (by kernel_rfl) (by kernel_rfl) (by kernel_rfl)) ?_
  intro W base args ds gs before hval0 hW _ _
  have hval : ∀ (j : Nat) t v, Try.f3.params[j]? = some t → args[j]? = some v → Value.okWide Try.prog W .any base t v := hval0
  have hW' := hW
  obtain ⟨p, q, hA0, hV, rfl, _, _⟩ := hW
  have hA : DataW.TrodAll enc Try.prog W 0 (fun _ => true) true Try.f3.params.toList args.toList ds p := hA0
  rw [Try.params3] at hA hval
  obtain ⟨v0, vs0, d0, ds0, p0, q0, hargs, rfl, rfl, h0, rr0⟩ := trodAll_cons hA
  obtain ⟨rfl, rfl, rfl⟩ := trodAll_nil rr0
  obtain rfl : args = #[v0] := by cases args; simp_all
  obtain ⟨rfl, rfl⟩ := trodVars_none hV
  have k0 := h0
  have lt0 : ∀ x ∈ p0, x.block < W.heap.size := by obtain ⟨m, hm⟩ := k0; exact DataW.trod_lt m _ _ _ hm
  obtain ⟨d, vs, rfl, hat⟩ := arg_Setup (hval 0 23 v0 rfl rfl) h0
  clear hA0 hval0
  refine (fnExactSetupOk_walk d vs W hat).mono fun e W' ⟨he, bel⟩ => ?_
  subst he
  exact ⟨_, rfl, _, _, _, [], _, [], hW', trodAll_mk1 (shut_bool Try.underlying4 _), (trodAll_cons_mk (Below.trod laidOut (by kernel_rfl) (of_decide_eq_true (by kernel_rfl)) k0 bel lt0) (trodAll_mk0)), rfl, bel.frame _, fun h => by cases h⟩

/-- FnExactSetupOk -/
theorem fnExactSetupOk_holds : Rows.FnExactSetupOkSaid :=
  OpenClaim.holds_of_wide 3 Try.f3 rfl rfl rfl rfl rfl rfl rfl ⟨rfl, rfl, rfl, rfl, rfl⟩ rfl rfl rfl rfl rfl (by kernel_rfl) Try.func3 (by kernel_rfl)
    (of_decide_eq_true (by kernel_rfl)) (by unfold Func.isWrapper; first | (rw [if_pos (by decide +kernel)]; kernel_rfl) | (rw [if_neg (by decide +kernel)]; exact ⟨rfl, rfl⟩))
    (fun os started H enc _ => fnExactSetupOk_lifted os started H enc)
#print axioms fnExactSetupOk_holds
theorem specDefault_any (w : World) : Calls Try.prog 11 #[] w fun e w' => e = .returned (.agg #[.int .i64 4, .int .i64 4, .int .i64 20, .bool true, .int .i64 3]) ∧ Below w.heap.size w w' := by
  go_enter Try.func11, Try.ntmps11
  go_wp2
  exact bodyPost_ret (v := .agg #[.int .i64 4, .int .i64 4, .int .i64 20, .bool true, .int .i64 3]) (by simp [results, Try.results11, go_sem]) rfl ⟨rfl, (by repeat' (first | (with_reducible refine Below.setCell ?_ (by simp <;> omega) _) | (with_reducible refine Below.alloc ?_ (by simp <;> omega) _) | (with_reducible assumption) | (with_reducible exact Below.refl _ _)))⟩
theorem implDefault_any (w : World) : Calls Try.prog 12 #[] w fun e w' => e = .returned (.agg #[.int .i64 4, .int .i64 4, .int .i64 20, .bool true, .int .i64 3]) ∧ Below w.heap.size w w' := by
  go_enter Try.func12, Try.ntmps12
  go_wp2
  exact bodyPost_ret (v := .agg #[.int .i64 4, .int .i64 4, .int .i64 20, .bool true, .int .i64 3]) (by simp [results, Try.results12, go_sem]) rfl ⟨rfl, (by repeat' (first | (with_reducible refine Below.setCell ?_ (by simp <;> omega) _) | (with_reducible refine Below.alloc ?_ (by simp <;> omega) _) | (with_reducible assumption) | (with_reducible exact Below.refl _ _)))⟩
set_option maxHeartbeats 1600000 in
theorem fnExactDefaultSetup_walk (w : World) :
    Calls Try.prog 4 #[] w fun e w' => e = .returned (.bool true) ∧ Below w.heap.size w w' := by
  go_enter Try.func4, Try.ntmps4
  go_wp2_with fail
  refine (specDefault_any _).mono ?_; rintro e w1 ⟨rfl, b⟩
  go_wp2_with fail
  have hA := (Below.refl w1.heap.size w1).alloc (Nat.le_refl _) (.cells #[.int .i64 4, .int .i64 4, .int .i64 20, .bool true, .int .i64 3] 25)
  have X := Bx.new (w := w1) (c := #[.int .i64 4, .int .i64 4, .int .i64 20, .bool true, .int .i64 3]) (t := 25) rfl
  generalize w1.alloc (.cells #[.int .i64 4, .int .i64 4, .int .i64 20, .bool true, .int .i64 3] 25) = w2 at hA X ⊢
  have b := b.trans (hA.mono b.size)
  refine (implDefault_any _).mono ?_; rintro e w3 ⟨rfl, hb⟩
  have X := X.next hb
  have b := b.trans (hb.mono b.size)
  clear hb hA
  obtain ⟨⟨x0, x1, x2, x3, x4⟩, _⟩ := X.c5
  have Xl := X.lt
  go_wp2_with fail
  have b2 := b.alloc b.size (.cells #[.int .i64 4, .int .i64 4, .int .i64 20, .bool true, .int .i64 3] 25)
  refine (eq_Setup (4, 4, 20, true, 3) _).mono ?_; rintro e w6 ⟨rfl, hb⟩
  have b := b2.trans (hb.mono b2.size)
  go_wp2
  go_ret
  exact ⟨rfl, b⟩
set_option maxRecDepth 100000 in
theorem fnExactDefaultSetup_lifted (os : Os) (started : os.Started) (H : Type) (enc : TypeId × Value → H) :
    ReturnsInHanded {} Try.checked os 4 .any (Rows.fnExactDefaultSetupSpec.pre6 enc Try.prog Try.f4 Rows.fnExactDefaultSetupRow.domain false) (Rows.fnExactDefaultSetupSpec.post enc Try.prog Try.f4 false true false false) := by
  refine returnsInHanded_of_change (C := Try.checked) own started (by kernel_rfl) Try.func4
    (ChangeSpec.witness6 (enc := enc) (C := Try.checked) false ⟨#[], #[], []⟩ 8 (by kernel_rfl) (by kernel_rfl) (by kernel_rfl) (by kernel_rfl)) ?_
  intro W base args ds gs before hval0 hW _ _
  have hval : ∀ (j : Nat) t v, Try.f4.params[j]? = some t → args[j]? = some v → Value.okWide Try.prog W .any base t v := hval0
  have hW' := hW
  obtain ⟨p, q, hA0, hV, rfl, _, _⟩ := hW
  have hA : DataW.TrodAll enc Try.prog W 0 (fun _ => true) true Try.f4.params.toList args.toList ds p := hA0
  rw [Try.params4] at hA hval
  obtain ⟨hargs, rfl, rfl⟩ := trodAll_nil hA
  obtain rfl : args = #[] := by cases args; simp_all
  obtain ⟨rfl, rfl⟩ := trodVars_none hV
  clear hA0 hval0
  refine (fnExactDefaultSetup_walk W).mono fun e W' ⟨he, bel⟩ => ?_
  subst he
  exact ⟨_, rfl, _, _, _, [], _, [], hW', trodAll_mk1 (shut_bool Try.underlying4 _), trodAll_mk0, rfl, bel.frame _, fun h => by cases h⟩

/-- FnExactDefaultSetup -/
theorem fnExactDefaultSetup_holds : Rows.FnExactDefaultSetupSaid :=
  OpenClaim.holds_of_wide 4 Try.f4 rfl rfl rfl rfl rfl rfl rfl ⟨rfl, rfl, rfl, rfl, rfl⟩ rfl rfl rfl rfl rfl (by kernel_rfl) Try.func4 (by kernel_rfl)
    (of_decide_eq_true (by kernel_rfl)) (by unfold Func.isWrapper; first | (rw [if_pos (by decide +kernel)]; kernel_rfl) | (rw [if_neg (by decide +kernel)]; exact ⟨rfl, rfl⟩))
    (fun os started H enc _ => fnExactDefaultSetup_lifted os started H enc)
#print axioms fnExactDefaultSetup_holds
end Go.Proofs.Ytaninlnobmjbmaa
