/- FnExactMergeWants: for every argument the program's function answers as the model's, its answer owns its memory, and the argument reads as before. No condition. -/
import Derived.Test.YtognfnfbmbfidaaVz
namespace Go.Proofs.Ytognfnfbmbfidaa
open Go.ChangeShapes Go.WideShapes Go.ChangeAt Go.RowKit Go.Joins

set_option maxHeartbeats 3200000 in
set_option maxRecDepth 100000 in
theorem fnExactMergeWants_walk (A0 : Option Addr) (c0 : Nat) (l0 : HL) (A1 : Option Addr) (c1 : Nat) (l1 : HL) (w : World) (hm0 : l0.length ≤ maxLen) (r0 : HAt w w.heap.size A0 l0) (hm1 : l1.length ≤ maxLen) (r1 : HAt w w.heap.size A1 l1) :
    Calls Try.prog 10 #[.slice A0 l0.length c0, .slice A1 l1.length c1] w fun e w' => e = .returned (.bool true) ∧ Below w.heap.size w w' := by
  by_cases hl0 : l0.length ≤ 1048576
  · have E0 := Lib.hid (szOf_yes (left := (1048576 : Int)) (n := l0.length) (by omega))
    have F0 : ¬ ((1048576 : Int) - l0.length < 0) := by omega
    by_cases hl1 : l0.length + l1.length ≤ 1048576
    · have E1 := Lib.hid (szOf_yes (left := (1048576 : Int) - l0.length) (n := l1.length) (by omega))
      have F1 : ¬ ((1048576 : Int) - l0.length - l1.length < 0) := by omega
      have hn0 : l0.length ≤ 1048576 := by omega
      have hn1 : l1.length ≤ 1048576 := by omega
      have hq8 := mrgA_len l0 l1
      obtain ⟨bb, hbb⟩ : ∃ b, (wantsB l0 && wantsB l1) = b := ⟨_, rfl⟩
      have HBB := Lib.hid hbb
      clear hbb
      have hk0 : ¬ ((1 : Int) + l0.length * 2 + l1.length * 2 < 0) := by omega
      have hq0 : ¬ ((1 : Int) + (mrgA l0 l1).length * 2 < 0) := by omega
      have b := Below.refl w.heap.size w
      go_enter Try.func10, Try.ntmps10
      go_wp2_with fail
      refine (szWantS_any _ _ _ _ _ hm0 (by omega) (by omega)).mono ?_; rintro e w' ⟨rfl, rfl⟩
      rw [E0.out]
      go_wp2_with fail
      refine (szWantS_any _ _ _ _ _ hm1 (by omega) (by omega)).mono ?_; rintro e w' ⟨rfl, rfl⟩
      rw [E1.out]
      go_wp2_with fail
      (with_reducible refine (toWantS_own A0 c0 l0 _ hn0 (r0.below b b.size)).mono ?_); rintro e w1 ⟨Gs0, rfl, s0, hb⟩
      have s_w1 : w.heap.size ≤ w1.heap.size := hb.size
      have b := b.trans (hb.mono b.size)
      clear hb
      go_wp2_with fail
      (with_reducible refine (toWantS_own A1 c1 l1 _ hn1 (r1.below b b.size)).mono ?_); rintro e w2 ⟨Gs1, rfl, s1, hb⟩
      have s_w2 : w1.heap.size ≤ w2.heap.size := hb.size
      have s0 := s0.below hb (by omega)
      have b := b.trans (hb.mono b.size)
      clear hb
      go_wp2_with fail
      (with_reducible refine (specMerge_any _ _ _ _ _ l0 l1 _ hn0 hn1 (Nat.le_refl _) (s0.at_.up (by omega)) (s1.at_.up (by omega))).mono ?_); rintro e w3 ⟨A3, c3, he, o3, hb⟩
      have he : e = .returned (.tuple #[.slice A3 ((mrgA l0 l1).length) c3, .bool ((wantsB l0 && wantsB l1))]) := he
      rw [HBB.out] at he
      subst he
      have a3 := o3.at_
      clear o3
      have s_w3 : w2.heap.size ≤ w3.heap.size := hb.size
      have s0 := s0.below hb (by omega)
      have s1 := s1.below hb (by omega)
      have b := b.trans (hb.mono b.size)
      clear hb
      clear s0
      clear s1
      go_wp2_with fail
      (with_reducible refine (toWantS_own A0 c0 l0 _ hn0 (r0.below b b.size)).mono ?_); rintro e w4 ⟨Gx0, rfl, x0, hb⟩
      have s_w4 : w3.heap.size ≤ w4.heap.size := hb.size
      have a3 := a3.keep hb (by omega)
      have b := b.trans (hb.mono b.size)
      clear hb
      go_wp2_with fail
      (with_reducible refine (toWantS_own A1 c1 l1 _ hn1 (r1.below b b.size)).mono ?_); rintro e w5 ⟨Gx1, rfl, x1, hb⟩
      have s_w5 : w4.heap.size ≤ w5.heap.size := hb.size
      have x0 := x0.below hb (by omega)
      have a3 := a3.keep hb (by omega)
      have b := b.trans (hb.mono b.size)
      clear hb
      go_wp2_with fail
      (with_reducible refine (implMerge_some _ _ _ _ _ _ _ l0 l1 _ hn0 hn1 (Nat.le_refl _) (Nat.le_refl _) (Nat.le_refl _) (x0.at_.up (by omega)) (x1.at_.up (by omega))).mono ?_); rintro e w6 ⟨A5, c5, he, g5, hb⟩
      have he : e = .returned (.tuple #[.slice A5 ((mrgA l0 l1).length) c5, .bool ((wantsB l0 && wantsB l1))]) := he
      rw [HBB.out] at he
      subst he
      have s_w6 : w5.heap.size ≤ w6.heap.size := hb.size
      have x0 := x0.below hb (by omega)
      have x1 := x1.below hb (by omega)
      have a3 := a3.keep hb (by omega)
      have b := b.trans (hb.mono b.size)
      clear hb
      go_wp2_with fail
      (with_reducible refine (eqWantS_same _ _ _ _ _ _ _ _ (by unfold maxLen; omega) g5.at_ a3).mono ?_); rintro e w7 ⟨rfl, hb⟩
      have s_w7 : w6.heap.size ≤ w7.heap.size := hb.size
      have x0 := x0.below hb (by omega)
      have x1 := x1.below hb (by omega)
      have g5 := g5.below hb (by omega)
      have a3 := a3.keep hb (by omega)
      have b := b.trans (hb.mono b.size)
      clear hb
      go_wp2_with fail
      (with_reducible refine (toWantS_own A0 c0 l0 _ hn0 (r0.below b b.size)).mono ?_); rintro e w8 ⟨Gy, rfl, y, hb⟩
      have s_w8 : w7.heap.size ≤ w8.heap.size := hb.size
      have x0 := x0.below hb (by omega)
      have x1 := x1.below hb (by omega)
      have g5 := g5.below hb (by omega)
      have a3 := a3.keep hb (by omega)
      have b := b.trans (hb.mono b.size)
      clear hb
      go_wp2_with fail
      (with_reducible refine (eqWantS_same _ _ _ _ _ _ _ _ hm0 x0.at_ y.at_).mono ?_); rintro e w9 ⟨rfl, hb⟩
      have s_w9 : w8.heap.size ≤ w9.heap.size := hb.size
      have x0 := x0.below hb (by omega)
      have x1 := x1.below hb (by omega)
      have g5 := g5.below hb (by omega)
      have y := y.below hb (by omega)
      have a3 := a3.keep hb (by omega)
      have b := b.trans (hb.mono b.size)
      clear hb
      clear y
      go_wp2_with fail
      (with_reducible refine (toWantS_own A1 c1 l1 _ hn1 (r1.below b b.size)).mono ?_); rintro e w10 ⟨Gy, rfl, y, hb⟩
      have s_w10 : w9.heap.size ≤ w10.heap.size := hb.size
      have x0 := x0.below hb (by omega)
      have x1 := x1.below hb (by omega)
      have g5 := g5.below hb (by omega)
      have a3 := a3.keep hb (by omega)
      have b := b.trans (hb.mono b.size)
      clear hb
      go_wp2_with fail
      (with_reducible refine (eqWantS_same _ _ _ _ _ _ _ _ hm1 x1.at_ y.at_).mono ?_); rintro e w11 ⟨rfl, hb⟩
      have s_w11 : w10.heap.size ≤ w11.heap.size := hb.size
      have x0 := x0.below hb (by omega)
      have x1 := x1.below hb (by omega)
      have g5 := g5.below hb (by omega)
      have y := y.below hb (by omega)
      have a3 := a3.keep hb (by omega)
      have b := b.trans (hb.mono b.size)
      clear hb
      clear y
      go_wp2_with fail
      (with_reducible refine (markWantS_any _ _ _ _ _ ((1 : Int)) _ (by omega) (by omega) (by omega) x0).mono ?_); rintro e w12 ⟨rfl, hm, x0m⟩
      have hm := MarkS.one hm
      have s_w12 : w11.heap.size ≤ w12.heap.size := hm.size
      have x1 := x1.mark hm (by omega) (by omega)
      have g5 := g5.mark hm (by omega) (by omega)
      have a3 := a3.mark hm (by omega) (by omega)
      have b := b.trans (hm.bel (by omega) (by omega))
      clear hm
      clear x0 x0m
      go_wp2_with fail
      (with_reducible refine (markWantS_any _ _ _ _ _ ((1 : Int) + l0.length * 2) _ (by omega) (by omega) (by omega) x1).mono ?_); rintro e w13 ⟨rfl, hm, x1m⟩
      have hm := MarkS.one hm
      have s_w13 : w12.heap.size ≤ w13.heap.size := hm.size
      have g5 := g5.mark hm (by omega) (by omega)
      have a3 := a3.mark hm (by omega) (by omega)
      have b := b.trans (hm.bel (by omega) (by omega))
      clear hm
      clear x1 x1m
      go_wp2_with fail
      (with_reducible refine (eqWantS_same _ _ _ _ _ _ _ _ (by unfold maxLen; omega) g5.at_ a3).mono ?_); rintro e w14 ⟨rfl, hb⟩
      have s_w14 : w13.heap.size ≤ w14.heap.size := hb.size
      have g5 := g5.below hb (by omega)
      have a3 := a3.keep hb (by omega)
      have b := b.trans (hb.mono b.size)
      clear hb
      go_wp2_with fail
      (with_reducible refine (markWantS_any _ _ _ _ _ 1 _ (by omega) (by omega) (by omega) g5).mono ?_); rintro e w15 ⟨rfl, hm, g6⟩
      have hm := MarkS.one hm
      have s_w15 : w14.heap.size ≤ w15.heap.size := hm.size
      have a3 := a3.mark hm (by omega) (by omega)
      have b := b.trans (hm.bel (by omega) (by omega))
      clear hm
      clear g5
      go_wp2_with fail
      (with_reducible refine (heldWantS_any _ _ _ _ 1 _ (by omega) (by omega) (by omega) g6.at_).mono ?_); rintro e w' ⟨rfl, rfl⟩
      go_wp2_with fail
      (with_reducible refine (toWantS_own A0 c0 l0 _ hn0 (r0.below b b.size)).mono ?_); rintro e w16 ⟨Gs0, rfl, s0, hb⟩
      have s_w16 : w15.heap.size ≤ w16.heap.size := hb.size
      have g6 := g6.below hb (by omega)
      have a3 := a3.keep hb (by omega)
      have b := b.trans (hb.mono b.size)
      clear hb
      go_wp2_with fail
      (with_reducible refine (toWantS_own A1 c1 l1 _ hn1 (r1.below b b.size)).mono ?_); rintro e w17 ⟨Gs1, rfl, s1, hb⟩
      have s_w17 : w16.heap.size ≤ w17.heap.size := hb.size
      have g6 := g6.below hb (by omega)
      have s0 := s0.below hb (by omega)
      have a3 := a3.keep hb (by omega)
      have b := b.trans (hb.mono b.size)
      clear hb
      go_wp2_with fail
      (with_reducible refine (implMerge_some _ _ _ _ _ _ _ l0 l1 _ hn0 hn1 (Nat.le_refl _) (Nat.le_refl _) (Nat.le_refl _) (s0.at_.up (by omega)) (s1.at_.up (by omega))).mono ?_); rintro e w18 ⟨A7, c7, he, g7, hb⟩
      have he : e = .returned (.tuple #[.slice A7 ((mrgA l0 l1).length) c7, .bool ((wantsB l0 && wantsB l1))]) := he
      rw [HBB.out] at he
      subst he
      have s_w18 : w17.heap.size ≤ w18.heap.size := hb.size
      have g6 := g6.below hb (by omega)
      have s0 := s0.below hb (by omega)
      have s1 := s1.below hb (by omega)
      have a3 := a3.keep hb (by omega)
      have b := b.trans (hb.mono b.size)
      clear hb
      clear s0
      clear s1
      go_wp2_with fail
      (with_reducible refine (eqWantS_same _ _ _ _ _ _ _ _ (by unfold maxLen; omega) g7.at_ a3).mono ?_); rintro e w19 ⟨rfl, hb⟩
      have s_w19 : w18.heap.size ≤ w19.heap.size := hb.size
      have g6 := g6.below hb (by omega)
      have g7 := g7.below hb (by omega)
      have a3 := a3.keep hb (by omega)
      have b := b.trans (hb.mono b.size)
      clear hb
      go_wp2_with fail
      (with_reducible refine (heldWantS_any _ _ _ _ 1 _ (by omega) (by omega) (by omega) g6.at_).mono ?_); rintro e w' ⟨rfl, rfl⟩
      go_wp2
      go_ret
      exact ⟨rfl, b⟩
    · have E1 := Lib.hid (szOf_no (left := (1048576 : Int) - l0.length) (n := l1.length) (by omega))
      go_enter Try.func10, Try.ntmps10
      go_wp2_with fail
      refine (szWantS_any _ _ _ _ _ hm0 (by omega) (by omega)).mono ?_; rintro e w' ⟨rfl, rfl⟩
      rw [E0.out]
      go_wp2_with fail
      refine (szWantS_any _ _ _ _ _ hm1 (by omega) (by omega)).mono ?_; rintro e w' ⟨rfl, rfl⟩
      rw [E1.out]
      go_wp2
      go_ret
      exact ⟨rfl, Below.refl _ _⟩
  · have E0 := Lib.hid (szOf_no (left := (1048576 : Int)) (n := l0.length) (by omega))
    go_enter Try.func10, Try.ntmps10
    go_wp2_with fail
    refine (szWantS_any _ _ _ _ _ hm0 (by omega) (by omega)).mono ?_; rintro e w' ⟨rfl, rfl⟩
    rw [E0.out]
    go_wp2
    go_ret
    exact ⟨rfl, Below.refl _ _⟩

set_option maxRecDepth 100000 in
theorem fnExactMergeWants_lifted (os : Os) (started : os.Started) (H : Type) (enc : TypeId × Value → H) :
    ReturnsInHanded {} Try.checked os 10 .any (Rows.fnExactMergeWantsSpec.pre6 enc Try.prog Try.f10 Rows.fnExactMergeWantsRow.domain false) (Rows.fnExactMergeWantsSpec.post enc Try.prog Try.f10 false true false false) := by
  refine returnsInHanded_of_change (C := Try.checked) own started (by kernel_rfl) Try.func10
    (ChangeSpec.witness6 (enc := enc) (C := Try.checked) false ⟨#[], #[.slice none 0 0, .slice none 0 0], []⟩ 8 (by kernel_rfl) (by kernel_rfl) (by kernel_rfl) (by kernel_rfl)) ?_
  intro W base args ds gs before hval0 hW _ _
  have hval : ∀ (j : Nat) t v, Try.f10.params[j]? = some t → args[j]? = some v → Value.okWide Try.prog W .any base t v := hval0
  have hW' := hW
  obtain ⟨p, q, hA0, hV, rfl, _, _⟩ := hW
  have hA : DataW.TrodAll enc Try.prog W 0 (fun _ => true) true Try.f10.params.toList args.toList ds p := hA0
  rw [Try.params10] at hA hval
  obtain ⟨v0, vs0, d0, ds0, p0, q0, hargs, rfl, rfl, h0, rr0⟩ := trodAll_cons hA
  obtain ⟨v1, vs1, d1, ds1, p1, q1, rfl, rfl, rfl, h1, rr1⟩ := trodAll_cons rr0
  obtain ⟨rfl, rfl, rfl⟩ := trodAll_nil rr1
  obtain rfl : args = #[v0, v1] := by cases args; simp_all
  obtain ⟨rfl, rfl⟩ := trodVars_none hV
  have k0 := h0
  have lt0 : ∀ x ∈ p0, x.block < W.heap.size := by obtain ⟨m, hm⟩ := k0; exact DataW.trod_lt m _ _ _ hm
  obtain ⟨B0, m0, e0, rfl⟩ := okWide_slice Try.underlying47 (hval 0 47 v0 rfl rfl)
  obtain ⟨fuel0, hf0⟩ := h0
  obtain ⟨A0, c0, l0, eq0, hm0, r0⟩ := open_wants hf0
  injection eq0 with qa0 qb0 qc0
  have qa0 := qa0.symm
  have qb0 := qb0.symm
  have qc0 := qc0.symm
  subst qa0 qb0 qc0
  have k1 := h1
  have lt1 : ∀ x ∈ p1, x.block < W.heap.size := by obtain ⟨m, hm⟩ := k1; exact DataW.trod_lt m _ _ _ hm
  obtain ⟨B1, m1, e1, rfl⟩ := okWide_slice Try.underlying47 (hval 1 47 v1 rfl rfl)
  obtain ⟨fuel1, hf1⟩ := h1
  obtain ⟨A1, c1, l1, eq1, hm1, r1⟩ := open_wants hf1
  injection eq1 with qa1 qb1 qc1
  have qa1 := qa1.symm
  have qb1 := qb1.symm
  have qc1 := qc1.symm
  subst qa1 qb1 qc1
  clear hA0 hval0
  refine (fnExactMergeWants_walk A0 c0 l0 A1 c1 l1 W hm0 r0 hm1 r1).mono fun e W' ⟨he, bel⟩ => ?_
  subst he
  exact ⟨_, rfl, _, _, _, [], _, [], hW', trodAll_mk1 (shut_bool Try.underlying4 _), (trodAll_cons_mk (Below.trod laidOut (by kernel_rfl) (of_decide_eq_true (by kernel_rfl)) k0 bel lt0) (trodAll_cons_mk (Below.trod laidOut (by kernel_rfl) (of_decide_eq_true (by kernel_rfl)) k1 bel lt1) (trodAll_mk0))), rfl, bel.frame _, fun h => by cases h⟩

/-- FnExactMergeWants -/
theorem fnExactMergeWants_holds : Rows.FnExactMergeWantsSaid :=
  OpenClaim.holds_of_wide 10 Try.f10 rfl rfl rfl rfl rfl rfl rfl ⟨rfl, rfl, rfl, rfl, rfl⟩ rfl rfl rfl rfl rfl (by kernel_rfl) Try.func10 (by kernel_rfl)
    (of_decide_eq_true (by kernel_rfl)) (by unfold Func.isWrapper; first | (rw [if_pos (by decide +kernel)]; kernel_rfl) | (rw [if_neg (by decide +kernel)]; exact ⟨rfl, rfl⟩))
    (fun os started H enc _ => fnExactMergeWants_lifted os started H enc)
#print axioms fnExactMergeWants_holds
end Go.Proofs.Ytognfnfbmbfidaa
