/- FnExactWarmKey: for every argument the program's function answers as the model's, its answer owns its memory, and the argument reads as before. No condition. -/
import Derived.Test.YtognfnfbmbfidaaVr
namespace Go.Proofs.Ytognfnfbmbfidaa
open Go.ChangeShapes Go.WideShapes Go.ChangeAt Go.RowKit Go.Joins

set_option maxHeartbeats 3200000 in
set_option maxRecDepth 100000 in
theorem fnExactWarmKey_walk (A0 : Option Addr) (n0 c0 : Nat) (f0 : Nat → Int) (z1 : Int) (z2 : Int) (w : World) (hm0 : n0 ≤ maxLen) (r0 : IntsAt w w.heap.size A0 n0 f0) :
    Calls Try.prog 5 #[.slice A0 n0 c0, .int .i64 z1, .int .i64 z2] w fun e w' => e = .returned (.bool true) ∧ Below w.heap.size w w' := by
  by_cases hl0 : n0 ≤ 1048576
  · have hz0 : ¬ (1048576 : Int) < n0 := by omega
    have hn0 := hl0
    obtain ⟨bb, hbb⟩ : ∃ b, warmB n0 f0 z1 z2 = b := ⟨_, rfl⟩
    have HBB := Lib.hid hbb
    clear hbb
    have hk0 : ¬ ((1 : Int) + n0 < 0) := by omega
    have hq0 : ¬ ((1 : Int) + n0 < 0) := by omega
    have b := Below.refl w.heap.size w
    go_enter Try.func5, Try.ntmps5
    go_wp2_with fail
    (with_reducible refine (toIntS_own A0 n0 c0 f0 _ hn0 (r0.below b b.size)).mono ?_); rintro e w1 ⟨Gs0, rfl, s0, hb⟩
    have s_w1 : w.heap.size ≤ w1.heap.size := hb.size
    have b := b.trans (hb.mono b.size)
    clear hb
    go_wp2_with fail
    (with_reducible refine (specWarm_any _ n0 _ f0 z1 z2 _ hn0 (s0.at_.up4 (by omega))).mono ?_); rintro e w2 ⟨A3, c3, he, o3, hb⟩
    have he : e = .returned (.tuple #[.slice A3 (n0) c3, .bool (warmB n0 f0 z1 z2)]) := he
    rw [HBB.out] at he
    subst he
    have a3 := o3.at_
    clear o3
    have s_w2 : w1.heap.size ≤ w2.heap.size := hb.size
    have s0 := s0.below hb (by omega)
    have b := b.trans (hb.mono b.size)
    clear hb
    clear s0
    go_wp2_with fail
    (with_reducible refine (toIntS_own A0 n0 c0 f0 _ hn0 (r0.below b b.size)).mono ?_); rintro e w3 ⟨Gx0, rfl, x0, hb⟩
    have s_w3 : w2.heap.size ≤ w3.heap.size := hb.size
    have a3 := a3.below (hb.mono (by omega)) (Nat.le_refl _)
    have b := b.trans (hb.mono b.size)
    clear hb
    go_wp2_with fail
    (with_reducible refine (implWarm_any _ _ n0 _ _ f0 z1 z2 _ hn0 (Nat.le_refl _) (x0.at_.up4 (by omega))).mono ?_); rintro e w4 ⟨A5, c5, he, g5, hb⟩
    have he : e = .returned (.tuple #[.slice A5 (n0) c5, .bool (warmB n0 f0 z1 z2)]) := he
    rw [HBB.out] at he
    subst he
    have s_w4 : w3.heap.size ≤ w4.heap.size := hb.size
    have x0 := x0.below hb (by omega)
    have a3 := a3.below (hb.mono (by omega)) (Nat.le_refl _)
    have b := b.trans (hb.mono b.size)
    clear hb
    go_wp2_with fail
    (with_reducible refine (eqIntS_same _ _ _ _ _ _ _ _ _ (by unfold maxLen; omega) g5.at_ a3).mono ?_); rintro e w5 ⟨rfl, hb⟩
    have s_w5 : w4.heap.size ≤ w5.heap.size := hb.size
    have x0 := x0.below hb (by omega)
    have g5 := g5.below hb (by omega)
    have a3 := a3.below (hb.mono (by omega)) (Nat.le_refl _)
    have b := b.trans (hb.mono b.size)
    clear hb
    go_wp2_with fail
    (with_reducible refine (toIntS_own A0 n0 c0 f0 _ hn0 (r0.below b b.size)).mono ?_); rintro e w6 ⟨Gy, rfl, y, hb⟩
    have s_w6 : w5.heap.size ≤ w6.heap.size := hb.size
    have x0 := x0.below hb (by omega)
    have g5 := g5.below hb (by omega)
    have a3 := a3.below (hb.mono (by omega)) (Nat.le_refl _)
    have b := b.trans (hb.mono b.size)
    clear hb
    go_wp2_with fail
    (with_reducible refine (eqIntS_same _ _ _ _ _ _ _ _ _ hm0 x0.at_ y.at_).mono ?_); rintro e w7 ⟨rfl, hb⟩
    have s_w7 : w6.heap.size ≤ w7.heap.size := hb.size
    have x0 := x0.below hb (by omega)
    have g5 := g5.below hb (by omega)
    have y := y.below hb (by omega)
    have a3 := a3.below (hb.mono (by omega)) (Nat.le_refl _)
    have b := b.trans (hb.mono b.size)
    clear hb
    clear y
    go_wp2_with fail
    (with_reducible refine (markIntS_int _ _ _ _ _ _ ((1 : Int)) _ (by omega) (by omega) (by omega) x0).mono ?_); rintro e w8 ⟨rfl, hm, x0m⟩
    have hm := MarkS.one hm
    have s_w8 : w7.heap.size ≤ w8.heap.size := hm.size
    have g5 := g5.mark hm (by omega) (by omega)
    have a3 := a3.mark hm (by omega) (by omega)
    have b := b.trans (hm.bel (by omega) (by omega))
    clear hm
    clear x0 x0m
    go_wp2_with fail
    (with_reducible refine (eqIntS_same _ _ _ _ _ _ _ _ _ (by unfold maxLen; omega) g5.at_ a3).mono ?_); rintro e w9 ⟨rfl, hb⟩
    have s_w9 : w8.heap.size ≤ w9.heap.size := hb.size
    have g5 := g5.below hb (by omega)
    have a3 := a3.below (hb.mono (by omega)) (Nat.le_refl _)
    have b := b.trans (hb.mono b.size)
    clear hb
    go_wp2_with fail
    (with_reducible refine (markIntS_int _ _ _ _ _ _ 1 _ (by omega) (by omega) (by omega) g5).mono ?_); rintro e w10 ⟨rfl, hm, g6⟩
    have hm := MarkS.one hm
    have s_w10 : w9.heap.size ≤ w10.heap.size := hm.size
    have a3 := a3.mark hm (by omega) (by omega)
    have b := b.trans (hm.bel (by omega) (by omega))
    clear hm
    clear g5
    go_wp2_with fail
    (with_reducible refine (heldIntS_int _ _ _ _ 1 _ (by omega) (by omega) (by omega) g6.at_).mono ?_); rintro e w' ⟨rfl, rfl⟩
    go_wp2_with fail
    (with_reducible refine (toIntS_own A0 n0 c0 f0 _ hn0 (r0.below b b.size)).mono ?_); rintro e w11 ⟨Gs0, rfl, s0, hb⟩
    have s_w11 : w10.heap.size ≤ w11.heap.size := hb.size
    have g6 := g6.below hb (by omega)
    have a3 := a3.below (hb.mono (by omega)) (Nat.le_refl _)
    have b := b.trans (hb.mono b.size)
    clear hb
    go_wp2_with fail
    (with_reducible refine (implWarm_any _ _ n0 _ _ f0 z1 z2 _ hn0 (Nat.le_refl _) (s0.at_.up4 (by omega))).mono ?_); rintro e w12 ⟨A7, c7, he, g7, hb⟩
    have he : e = .returned (.tuple #[.slice A7 (n0) c7, .bool (warmB n0 f0 z1 z2)]) := he
    rw [HBB.out] at he
    subst he
    have s_w12 : w11.heap.size ≤ w12.heap.size := hb.size
    have g6 := g6.below hb (by omega)
    have s0 := s0.below hb (by omega)
    have a3 := a3.below (hb.mono (by omega)) (Nat.le_refl _)
    have b := b.trans (hb.mono b.size)
    clear hb
    clear s0
    go_wp2_with fail
    (with_reducible refine (eqIntS_same _ _ _ _ _ _ _ _ _ (by unfold maxLen; omega) g7.at_ a3).mono ?_); rintro e w13 ⟨rfl, hb⟩
    have s_w13 : w12.heap.size ≤ w13.heap.size := hb.size
    have g6 := g6.below hb (by omega)
    have g7 := g7.below hb (by omega)
    have a3 := a3.below (hb.mono (by omega)) (Nat.le_refl _)
    have b := b.trans (hb.mono b.size)
    clear hb
    go_wp2_with fail
    (with_reducible refine (heldIntS_int _ _ _ _ 1 _ (by omega) (by omega) (by omega) g6.at_).mono ?_); rintro e w' ⟨rfl, rfl⟩
    go_wp2
    go_ret
    exact ⟨rfl, b⟩
  · have hz0 : (1048576 : Int) < n0 := by omega
    go_enter Try.func5, Try.ntmps5
    go_wp2
    go_ret
    exact ⟨rfl, Below.refl _ _⟩

set_option maxRecDepth 100000 in
theorem fnExactWarmKey_lifted (os : Os) (started : os.Started) (H : Type) (enc : TypeId × Value → H) :
    ReturnsInHanded {} Try.checked os 5 .any (Rows.fnExactWarmKeySpec.pre6 enc Try.prog Try.f5 Rows.fnExactWarmKeyRow.domain false) (Rows.fnExactWarmKeySpec.post enc Try.prog Try.f5 false true false false) := by
  refine returnsInHanded_of_change (C := Try.checked) own started (by kernel_rfl) Try.func5
    (ChangeSpec.witness6 (enc := enc) (C := Try.checked) false ⟨#[], #[.slice none 0 0, .int .i64 0, .int .i64 0], []⟩ 8 (by kernel_rfl) (by kernel_rfl) (by kernel_rfl) (by kernel_rfl)) ?_
  intro W base args ds gs before hval0 hW _ _
  have hval : ∀ (j : Nat) t v, Try.f5.params[j]? = some t → args[j]? = some v → Value.okWide Try.prog W .any base t v := hval0
  have hW' := hW
  obtain ⟨p, q, hA0, hV, rfl, _, _⟩ := hW
  have hA : DataW.TrodAll enc Try.prog W 0 (fun _ => true) true Try.f5.params.toList args.toList ds p := hA0
  rw [Try.params5] at hA hval
  obtain ⟨v0, vs0, d0, ds0, p0, q0, hargs, rfl, rfl, h0, rr0⟩ := trodAll_cons hA
  obtain ⟨v1, vs1, d1, ds1, p1, q1, rfl, rfl, rfl, h1, rr1⟩ := trodAll_cons rr0
  obtain ⟨v2, vs2, d2, ds2, p2, q2, rfl, rfl, rfl, h2, rr2⟩ := trodAll_cons rr1
  obtain ⟨rfl, rfl, rfl⟩ := trodAll_nil rr2
  obtain rfl : args = #[v0, v1, v2] := by cases args; simp_all
  obtain ⟨rfl, rfl⟩ := trodVars_none hV
  have k0 := h0
  have lt0 : ∀ x ∈ p0, x.block < W.heap.size := by obtain ⟨m, hm⟩ := k0; exact DataW.trod_lt m _ _ _ hm
  obtain ⟨A0, n0, c0, rfl⟩ := okWide_slice Try.underlying33 (hval 0 33 v0 rfl rfl)
  obtain ⟨f0, hm0, r0⟩ := open_intsAt h0
  have k1 := h1
  have lt1 : ∀ x ∈ p1, x.block < W.heap.size := by obtain ⟨m, hm⟩ := k1; exact DataW.trod_lt m _ _ _ hm
  obtain ⟨z1, rfl, rfl, rfl, zwf1⟩ := open_int Try.underlying3 (hval 1 3 v1 rfl rfl) h1
  have k2 := h2
  have lt2 : ∀ x ∈ p2, x.block < W.heap.size := by obtain ⟨m, hm⟩ := k2; exact DataW.trod_lt m _ _ _ hm
  obtain ⟨z2, rfl, rfl, rfl, zwf2⟩ := open_int Try.underlying3 (hval 2 3 v2 rfl rfl) h2
  clear hA0 hval0
  refine (fnExactWarmKey_walk A0 n0 c0 f0 z1 z2 W hm0 r0).mono fun e W' ⟨he, bel⟩ => ?_
  subst he
  exact ⟨_, rfl, _, _, _, [], _, [], hW', trodAll_mk1 (shut_bool Try.underlying4 _), (trodAll_cons_mk (Below.trod laidOut (by kernel_rfl) (of_decide_eq_true (by kernel_rfl)) k0 bel lt0) (trodAll_cons_mk (Below.trod laidOut (by kernel_rfl) (of_decide_eq_true (by kernel_rfl)) k1 bel lt1) (trodAll_cons_mk (Below.trod laidOut (by kernel_rfl) (of_decide_eq_true (by kernel_rfl)) k2 bel lt2) (trodAll_mk0)))), rfl, bel.frame _, fun h => by cases h⟩

/-- FnExactWarmKey -/
theorem fnExactWarmKey_holds : Rows.FnExactWarmKeySaid :=
  OpenClaim.holds_of_wide 5 Try.f5 rfl rfl rfl rfl rfl rfl rfl ⟨rfl, rfl, rfl, rfl, rfl⟩ rfl rfl rfl rfl rfl (by kernel_rfl) Try.func5 (by kernel_rfl)
    (of_decide_eq_true (by kernel_rfl)) (by unfold Func.isWrapper; first | (rw [if_pos (by decide +kernel)]; kernel_rfl) | (rw [if_neg (by decide +kernel)]; exact ⟨rfl, rfl⟩))
    (fun os started H enc _ => fnExactWarmKey_lifted os started H enc)
#print axioms fnExactWarmKey_holds
end Go.Proofs.Ytognfnfbmbfidaa
