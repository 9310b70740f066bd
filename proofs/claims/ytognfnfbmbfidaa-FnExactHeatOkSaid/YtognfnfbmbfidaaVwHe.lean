/- FnExactHeatOk: for every argument the program's function answers as the model's, and the argument reads as before. No condition. -/
import Derived.Test.YtognfnfbmbfidaaVl
namespace Go.Proofs.Ytognfnfbmbfidaa
open Go.ChangeShapes Go.WideShapes Go.ChangeAt Go.RowKit Go.Joins

set_option maxHeartbeats 800000 in
set_option maxRecDepth 100000 in
theorem fnExactHeatOk_walk (A0 : Option Addr) (n0 c0 : Nat) (f0 : Nat → Int) (w : World) (hm0 : n0 ≤ maxLen) (r0 : IntsAt w w.heap.size A0 n0 f0) :
    Calls Try.prog 4 #[.slice A0 n0 c0] w fun e w' => e = .returned (.bool true) ∧ Below w.heap.size w w' := by
  by_cases hl0 : n0 ≤ 1048576
  · have hz0 : ¬ (1048576 : Int) < n0 := by omega
    have hn0 := hl0
    have b := Below.refl w.heap.size w
    go_enter Try.func4, Try.ntmps4
    go_wp2_with fail
    (with_reducible refine (toIntS_own A0 n0 c0 f0 _ hn0 (r0.below b b.size)).mono ?_); rintro e w1 ⟨Gs0, rfl, s0, hb⟩
    have s_w1 : w.heap.size ≤ w1.heap.size := hb.size
    have b := b.trans (hb.mono b.size)
    clear hb
    go_wp2_with fail
    (with_reducible refine (specHeat_keep _ n0 _ _ f0 _ hn0 s0.at_).mono ?_); rintro e w2 ⟨rfl, hb⟩
    have s_w2 : w1.heap.size ≤ w2.heap.size := hb.size
    have s0 := s0.below hb (by omega)
    have b := b.trans (hb.mono b.size)
    clear hb
    clear s0
    go_wp2_with fail
    (with_reducible refine (toIntS_own A0 n0 c0 f0 _ hn0 (r0.below b b.size)).mono ?_); rintro e w3 ⟨Gx0, rfl, x0, hb⟩
    have s_w3 : w2.heap.size ≤ w3.heap.size := hb.size
    have b := b.trans (hb.mono b.size)
    clear hb
    go_wp2_with fail
    (with_reducible refine (implHeat_any _ n0 _ _ f0 _ (Nat.le_refl _) x0.at_).mono ?_); rintro e w4 ⟨rfl, hb⟩
    have s_w4 : w3.heap.size ≤ w4.heap.size := hb.size
    have x0 := x0.below hb (by omega)
    have b := b.trans (hb.mono b.size)
    clear hb
    generalize heatB n0 f0 = ans
    go_wp2_with fail
    (with_reducible refine (toIntS_own A0 n0 c0 f0 _ hn0 (r0.below b b.size)).mono ?_); rintro e w5 ⟨Gy, rfl, y, hb⟩
    have s_w5 : w4.heap.size ≤ w5.heap.size := hb.size
    have x0 := x0.below hb (by omega)
    have b := b.trans (hb.mono b.size)
    clear hb
    go_wp2_with fail
    (with_reducible refine (eqIntS_same _ _ _ _ _ _ _ _ _ hm0 x0.at_ y.at_).mono ?_); rintro e w6 ⟨rfl, hb⟩
    have s_w6 : w5.heap.size ≤ w6.heap.size := hb.size
    have x0 := x0.below hb (by omega)
    have y := y.below hb (by omega)
    have b := b.trans (hb.mono b.size)
    clear hb
    clear y
    go_wp2
    go_ret
    exact ⟨rfl, b⟩
  · have hz0 : (1048576 : Int) < n0 := by omega
    go_enter Try.func4, Try.ntmps4
    go_wp2
    go_ret
    exact ⟨rfl, Below.refl _ _⟩

set_option maxRecDepth 100000 in
theorem fnExactHeatOk_lifted (os : Os) (started : os.Started) (H : Type) (enc : TypeId × Value → H) :
    ReturnsInHanded {} Try.checked os 4 .any (Rows.fnExactHeatOkSpec.pre6 enc Try.prog Try.f4 Rows.fnExactHeatOkRow.domain false) (Rows.fnExactHeatOkSpec.post enc Try.prog Try.f4 false true false false) := by
  refine returnsInHanded_of_change (C := Try.checked) own started (by kernel_rfl) Try.func4
    (ChangeSpec.witness6 (enc := enc) (C := Try.checked) false ⟨#[], #[.slice none 0 0], []⟩ 8 (by kernel_rfl) (by kernel_rfl) (by kernel_rfl) (by kernel_rfl)) ?_
  intro W base args ds gs before hval0 hW _ _
  have hval : ∀ (j : Nat) t v, Try.f4.params[j]? = some t → args[j]? = some v → Value.okWide Try.prog W .any base t v := hval0
  have hW' := hW
  obtain ⟨p, q, hA0, hV, rfl, _, _⟩ := hW
  have hA : DataW.TrodAll enc Try.prog W 0 (fun _ => true) true Try.f4.params.toList args.toList ds p := hA0
  rw [Try.params4] at hA hval
  obtain ⟨v0, vs0, d0, ds0, p0, q0, hargs, rfl, rfl, h0, rr0⟩ := trodAll_cons hA
  obtain ⟨rfl, rfl, rfl⟩ := trodAll_nil rr0
  obtain rfl : args = #[v0] := by cases args; simp_all
  obtain ⟨rfl, rfl⟩ := trodVars_none hV
  have k0 := h0
  have lt0 : ∀ x ∈ p0, x.block < W.heap.size := by obtain ⟨m, hm⟩ := k0; exact DataW.trod_lt m _ _ _ hm
  obtain ⟨A0, n0, c0, rfl⟩ := okWide_slice Try.underlying33 (hval 0 33 v0 rfl rfl)
  obtain ⟨f0, hm0, r0⟩ := open_intsAt h0
  clear hA0 hval0
  refine (fnExactHeatOk_walk A0 n0 c0 f0 W hm0 r0).mono fun e W' ⟨he, bel⟩ => ?_
  subst he
  exact ⟨_, rfl, _, _, _, [], _, [], hW', trodAll_mk1 (shut_bool Try.underlying4 _), (trodAll_cons_mk (Below.trod laidOut (by kernel_rfl) (of_decide_eq_true (by kernel_rfl)) k0 bel lt0) (trodAll_mk0)), rfl, bel.frame _, fun h => by cases h⟩

/-- FnExactHeatOk -/
theorem fnExactHeatOk_holds : Rows.FnExactHeatOkSaid :=
  OpenClaim.holds_of_wide 4 Try.f4 rfl rfl rfl rfl rfl rfl rfl ⟨rfl, rfl, rfl, rfl, rfl⟩ rfl rfl rfl rfl rfl (by kernel_rfl) Try.func4 (by kernel_rfl)
    (of_decide_eq_true (by kernel_rfl)) (by unfold Func.isWrapper; first | (rw [if_pos (by decide +kernel)]; kernel_rfl) | (rw [if_neg (by decide +kernel)]; exact ⟨rfl, rfl⟩))
    (fun os started H enc _ => fnExactHeatOk_lifted os started H enc)
#print axioms fnExactHeatOk_holds
end Go.Proofs.Ytognfnfbmbfidaa
