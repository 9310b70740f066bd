/- FnExactSoloPicks: for every argument the program's function answers as the model's, and the arguments read as before. No condition. -/
import Derived.Test.YtkpkjcmoldkmmaaGob
import Derived.Test.YtkpkjcmoldkmmaaNt
namespace Go.Proofs.Ytkpkjcmoldkmmaa
open Go.ChangeShapes Go.WideShapes Go.ChangeAt Go.RowKit Go.Joins

set_option maxHeartbeats 12800000 in
set_option maxRecDepth 100000 in
theorem fnExactSoloPicks_walk (A0 : Option Addr) (c0 : Nat) (l0 : List DAct) (w : World) (r0 : RAt fAct w w.heap.size A0 l0) :
    Calls Try.prog 8 #[.slice A0 l0.length c0] w fun e w' => e = .returned (.bool true) ∧ Below w.heap.size w w' := by
  have K0 : ∃ n, n = (rowF fAct).cnt l0 := ⟨_, rfl⟩
  obtain ⟨n0, J0⟩ := K0
  have K0 := Lib.hid J0
  clear J0
  have hm0 := r0.1
  by_cases g0 : 1048576 < (n0 : Int)
  · have E0 := Lib.hid (szOf_lt g0)
    have b := Below.refl w.heap.size w
    go_enter Try.func8, Try.ntmps8
    go_wp2_with fail
    (with_reducible refine (sz_ActS A0 c0 l0 (1048576) _ hm0 (by omega) (by omega)).mono ?_); rintro e w1 ⟨rfl, rfl⟩
    rw [← K0.out, E0.out]
    go_wp2
    go_ret
    exact ⟨rfl, b⟩
  have E0 := Lib.hid (szOf_le (left := 1048576) (n := n0) (by omega))
  have g0n : ¬ (1048576 - (n0 : Int) < 0) := by omega
  have hs0 : (rowF fAct).cnt l0 ≤ 1048576 := by have := K0.out; omega
  have b := Below.refl w.heap.size w
  go_enter Try.func8, Try.ntmps8
  go_wp2_with fail
  (with_reducible refine (sz_ActS A0 c0 l0 (1048576) _ hm0 (by omega) (by omega)).mono ?_); rintro e w2 ⟨rfl, rfl⟩
  rw [← K0.out, E0.out]
  go_wp2_with fail
  have s_base := b.size
  (with_reducible refine (to_ActS A0 c0 _ l0 _ hs0 b.size (r0.keep b (Nat.le_refl _))).mono ?_); rintro e w3 ⟨Gs0, ks0, rfl, hb, s0⟩
  have s_w3 : w.heap.size ≤ w3.heap.size := hb.size
  have b := b.trans (hb.mono b.size)
  clear hb
  go_wp2_with fail
  (with_reducible refine (specSolo_any _ _ _ l0 _ (by omega) s0.at_).mono ?_); rintro e w4 ⟨rfl, hb⟩
  have s_w4 : w3.heap.size ≤ w4.heap.size := hb.size
  have s0 := s0.next hb (by omega)
  have b := b.trans (hb.mono b.size)
  clear hb
  clear s0
  go_wp2_with fail
  (with_reducible refine (to_ActS A0 c0 _ l0 _ hs0 b.size (r0.keep b (Nat.le_refl _))).mono ?_); rintro e w5 ⟨Gx0, kx0, rfl, hb, x0⟩
  have s_w5 : w4.heap.size ≤ w5.heap.size := hb.size
  have b := b.trans (hb.mono b.size)
  clear hb
  go_wp2_with fail
  (with_reducible refine (implSolo_any _ _ _ l0 _ (by omega) x0.at_).mono ?_); rintro e w6 ⟨rfl, hb⟩
  have s_w6 : w5.heap.size ≤ w6.heap.size := hb.size
  have x0 := x0.next hb (by omega)
  have b := b.trans (hb.mono b.size)
  clear hb
  go_wp2_with fail
  (with_reducible refine (to_ActS A0 c0 _ l0 _ hs0 b.size (r0.keep b (Nat.le_refl _))).mono ?_); rintro e w7 ⟨Gy0, ky0, rfl, hb, y0⟩
  have s_w7 : w6.heap.size ≤ w7.heap.size := hb.size
  have x0 := x0.next hb (by omega)
  have b := b.trans (hb.mono b.size)
  clear hb
  go_wp2_with fail
  (with_reducible refine (eq_ActS _ _ _ _ _ _ _ _ (by omega) (by omega) x0.at_ y0.at_).mono ?_); rintro e w8 ⟨rfl, hb⟩
  have s_w8 : w7.heap.size ≤ w8.heap.size := hb.size
  have x0 := x0.next hb (by omega)
  have y0 := y0.next hb (by omega)
  have b := b.trans (hb.mono b.size)
  clear hb
  clear y0
  go_wp2
  go_ret
  exact ⟨rfl, b⟩

set_option maxRecDepth 100000 in
theorem fnExactSoloPicks_lifted (os : Os) (started : os.Started) (H : Type) (enc : TypeId × Value → H) :
    ReturnsInHanded {} Try.checked os 8 .any (Rows.fnExactSoloPicksSpec.pre6 enc Try.prog Try.f8 Rows.fnExactSoloPicksRow.domain false) (Rows.fnExactSoloPicksSpec.post enc Try.prog Try.f8 false true false false) := by
  refine returnsInHanded_of_change (C := Try.checked) own started (by kernel_rfl) Try.func8
    (ChangeSpec.witness6 (enc := enc) (C := Try.checked) false ⟨#[], #[.slice none 0 0], []⟩ 8 (by kernel_rfl) (by kernel_rfl) (by kernel_rfl) (by kernel_rfl)) ?_
  intro W base args ds gs before hval0 hW _ _
  have hval : ∀ (j : Nat) t v, Try.f8.params[j]? = some t → args[j]? = some v → Value.okWide Try.prog W .any base t v := hval0
  have hW' := hW
  obtain ⟨p, q, hA0, hV, rfl, _, _⟩ := hW
  have hA : DataW.TrodAll enc Try.prog W 0 (fun _ => true) true Try.f8.params.toList args.toList ds p := hA0
  rw [Try.params8] at hA hval
  obtain ⟨v0, vs0, d0, ds0, p0, q0, hargs0, rfl, rfl, h0, rr0⟩ := trodAll_cons hA
  obtain ⟨rfl, rfl, rfl⟩ := trodAll_nil rr0
  obtain rfl : args = #[v0] := by cases args; simp_all
  obtain ⟨rfl, rfl⟩ := trodVars_none hV
  have k0 := h0
  have lt0 : ∀ x ∈ p0, x.block < W.heap.size := by obtain ⟨m, hm⟩ := k0; exact DataW.trod_lt m _ _ _ hm
  obtain ⟨l0, A0, c0, rfl, r0, _⟩ := arg_ActS (hval 0 60 v0 rfl rfl) h0
  clear hA0 hval0
  refine (fnExactSoloPicks_walk A0 c0 l0 W r0).mono fun e W' ⟨he, bel⟩ => ?_
  subst he
  exact ⟨_, rfl, _, _, _, [], _, [], hW', trodAll_mk1 (shut_bool Try.underlying4 _), (trodAll_cons_mk (Below.trod laidOut (by kernel_rfl) (of_decide_eq_true (by kernel_rfl)) k0 bel lt0) (trodAll_mk0)), rfl, bel.frame _, fun h => by cases h⟩

/-- FnExactSoloPicks -/
theorem fnExactSoloPicks_holds : Rows.FnExactSoloPicksSaid :=
  OpenClaim.holds_of_wide 8 Try.f8 rfl rfl rfl rfl rfl rfl rfl ⟨rfl, rfl, rfl, rfl, rfl⟩ rfl rfl rfl rfl rfl (by kernel_rfl) Try.func8 (by kernel_rfl)
    (of_decide_eq_true (by kernel_rfl)) (by unfold Func.isWrapper; first | (rw [if_pos (by decide +kernel)]; kernel_rfl) | (rw [if_neg (by decide +kernel)]; exact ⟨rfl, rfl⟩))
    (fun os started H enc _ => fnExactSoloPicks_lifted os started H enc)
#print axioms fnExactSoloPicks_holds
end Go.Proofs.Ytkpkjcmoldkmmaa
