/- FnExactInOrder: for every argument the program's function answers as the model's, and the argument reads as before. No condition. -/
import Derived.Test.YtognfnfbmbfidaaVl
import Derived.Test.YtognfnfbmbfidaaVm
namespace Go.Proofs.Ytognfnfbmbfidaa
open Go.ChangeShapes Go.WideShapes Go.ChangeAt Go.RowKit Go.Joins

set_option maxHeartbeats 800000 in
set_option maxRecDepth 100000 in
theorem fnExactInOrder_walk (A0 : Option Addr) (n0 c0 : Nat) (f0 : Nat → Int) (z1 : Int) (w : World) (hm0 : n0 ≤ maxLen) (r0 : IntsAt w w.heap.size A0 n0 f0) :
    Calls Try.prog 13 #[.slice A0 n0 c0, .int .i64 z1] w fun e w' => e = .returned (.bool true) ∧ Below w.heap.size w w' := by
  by_cases hl0 : n0 ≤ 1048576
  · have hz0 : ¬ (1048576 : Int) < n0 := by omega
    have hn0 := hl0
    have b := Below.refl w.heap.size w
    go_enter Try.func13, Try.ntmps13
    go_wp2_with fail
    (with_reducible refine (toIntS_own A0 n0 c0 f0 _ hn0 (r0.below b b.size)).mono ?_); rintro e w1 ⟨Gs0, rfl, s0, hb⟩
    have s_w1 : w.heap.size ≤ w1.heap.size := hb.size
    have b := b.trans (hb.mono b.size)
    clear hb
    go_wp2_with fail
    (with_reducible refine (specInOrder_any _ n0 _ _ f0 z1 _ hn0 s0.at_).mono ?_); rintro e w2 ⟨rfl, hb⟩
    have s_w2 : w1.heap.size ≤ w2.heap.size := hb.size
    have s0 := s0.below hb (by omega)
    have b := b.trans (hb.mono b.size)
    clear hb
    clear s0
    go_wp2_with fail
    (with_reducible refine (toIntS_own A0 n0 c0 f0 _ hn0 (r0.below b b.size)).mono ?_); rintro e w3 ⟨Gx0, rfl, x0, hb⟩
    have s_w3 : w2.heap.size ≤ w3.heap.size := hb.size
    have b := b.trans (hb.mono b.size)
    clear hb
    go_wp2_with fail
    (with_reducible refine (implInOrder_any _ n0 _ _ f0 z1 _ hn0 x0.at_).mono ?_); rintro e w4 ⟨rfl, hb⟩
    have s_w4 : w3.heap.size ≤ w4.heap.size := hb.size
    have x0 := x0.below hb (by omega)
    have b := b.trans (hb.mono b.size)
    clear hb
    generalize belowB n0 f0 z1 = ans
    go_wp2_with fail
    (with_reducible refine (toIntS_own A0 n0 c0 f0 _ hn0 (r0.below b b.size)).mono ?_); rintro e w5 ⟨Gy, rfl, y, hb⟩
    have s_w5 : w4.heap.size ≤ w5.heap.size := hb.size
    have x0 := x0.below hb (by omega)
    have b := b.trans (hb.mono b.size)
    clear hb
    go_wp2_with fail
    (with_reducible refine (eqIntS_same _ _ _ _ _ _ _ _ _ hm0 x0.at_ y.at_).mono ?_); rintro e w6 ⟨rfl, hb⟩
    have s_w6 : w5.heap.size ≤ w6.heap.size := hb.size
    have x0 := x0.below hb (by omega)
    have y := y.below hb (by omega)
    have b := b.trans (hb.mono b.size)
    clear hb
    clear y
    go_wp2
    go_ret
    exact ⟨rfl, b⟩
  · have hz0 : (1048576 : Int) < n0 := by omega
    go_enter Try.func13, Try.ntmps13
    go_wp2
    go_ret
    exact ⟨rfl, Below.refl _ _⟩

set_option maxRecDepth 100000 in
theorem fnExactInOrder_lifted (os : Os) (started : os.Started) (H : Type) (enc : TypeId × Value → H) :
    ReturnsInHanded {} Try.checked os 13 .any (Rows.fnExactInOrderSpec.pre6 enc Try.prog Try.f13 Rows.fnExactInOrderRow.domain false) (Rows.fnExactInOrderSpec.post enc Try.prog Try.f13 false true false false) := by
  refine returnsInHanded_of_change (C := Try.checked) own started (by kernel_rfl) Try.func13
    (ChangeSpec.witness6 (enc := enc) (C := Try.checked) false ⟨#[], #[.slice none 0 0, .int .i64 0], []⟩ 8 (by kernel_rfl) (by kernel_rfl) (by kernel_rfl) (by kernel_rfl)) ?_
  intro W base args ds gs before hval0 hW _ _
  have hval : ∀ (j : Nat) t v, Try.f13.params[j]? = some t → args[j]? = some v → Value.okWide Try.prog W .any base t v := hval0
  have hW' := hW
  obtain ⟨p, q, hA0, hV, rfl, _, _⟩ := hW
  have hA : DataW.TrodAll enc Try.prog W 0 (fun _ => true) true Try.f13.params.toList args.toList ds p := hA0
  rw [Try.params13] at hA hval
  obtain ⟨v0, vs0, d0, ds0, p0, q0, hargs, rfl, rfl, h0, rr0⟩ := trodAll_cons hA
  obtain ⟨v1, vs1, d1, ds1, p1, q1, rfl, rfl, rfl, h1, rr1⟩ := trodAll_cons rr0
  obtain ⟨rfl, rfl, rfl⟩ := trodAll_nil rr1
  obtain rfl : args = #[v0, v1] := by cases args; simp_all
  obtain ⟨rfl, rfl⟩ := trodVars_none hV
  have k0 := h0
  have lt0 : ∀ x ∈ p0, x.block < W.heap.size := by obtain ⟨m, hm⟩ := k0; exact DataW.trod_lt m _ _ _ hm
  obtain ⟨A0, n0, c0, rfl⟩ := okWide_slice Try.underlying33 (hval 0 33 v0 rfl rfl)
  obtain ⟨f0, hm0, r0⟩ := open_intsAt h0
  have k1 := h1
  have lt1 : ∀ x ∈ p1, x.block < W.heap.size := by obtain ⟨m, hm⟩ := k1; exact DataW.trod_lt m _ _ _ hm
  obtain ⟨z1, rfl, rfl, rfl, zwf1⟩ := open_int Try.underlying3 (hval 1 3 v1 rfl rfl) h1
  clear hA0 hval0
  refine (fnExactInOrder_walk A0 n0 c0 f0 z1 W hm0 r0).mono fun e W' ⟨he, bel⟩ => ?_
  subst he
  exact ⟨_, rfl, _, _, _, [], _, [], hW', trodAll_mk1 (shut_bool Try.underlying4 _), (trodAll_cons_mk (Below.trod laidOut (by kernel_rfl) (of_decide_eq_true (by kernel_rfl)) k0 bel lt0) (trodAll_cons_mk (Below.trod laidOut (by kernel_rfl) (of_decide_eq_true (by kernel_rfl)) k1 bel lt1) (trodAll_mk0))), rfl, bel.frame _, fun h => by cases h⟩

/-- FnExactInOrder -/
theorem fnExactInOrder_holds : Rows.FnExactInOrderSaid :=
  OpenClaim.holds_of_wide 13 Try.f13 rfl rfl rfl rfl rfl rfl rfl ⟨rfl, rfl, rfl, rfl, rfl⟩ rfl rfl rfl rfl rfl (by kernel_rfl) Try.func13 (by kernel_rfl)
    (of_decide_eq_true (by kernel_rfl)) (by unfold Func.isWrapper; first | (rw [if_pos (by decide +kernel)]; kernel_rfl) | (rw [if_neg (by decide +kernel)]; exact ⟨rfl, rfl⟩))
    (fun os started H enc _ => fnExactInOrder_lifted os started H enc)
#print axioms fnExactInOrder_holds
end Go.Proofs.Ytognfnfbmbfidaa
