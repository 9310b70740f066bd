/- FnExactRoundPicks: for every argument the program's function answers as the model's, its answer owns its memory, and the arguments read as before. No condition. -/
import Derived.Test.YtkpkjcmoldkmmaaGoa
import Derived.Test.YtkpkjcmoldkmmaaMkA
import Derived.Test.YtkpkjcmoldkmmaaNq
namespace Go.Proofs.Ytkpkjcmoldkmmaa
open Go.ChangeShapes Go.WideShapes Go.ChangeAt Go.RowKit Go.Joins

theorem rounds_ub (n m : Int) : adl ad_Int (roundsL n m) ≤ 1099511627000 := by
  rw [adl_Int]
  cases h : roundsOk n m with
  | false => rw [rounds_no h]; simp
  | true =>
    obtain ⟨a, b, rfl, rfl, _, _, _, hab⟩ := rounds_in h
    rw [rounds_yes h, turns_len]
    simp
    omega
set_option maxHeartbeats 12800000 in
set_option maxRecDepth 100000 in
theorem fnExactRoundPicks_walk (z0 : Int) (z1 : Int) (w : World)   :
    Calls Try.prog 6 #[.int .i64 z0, .int .i64 z1] w fun e w' => e = .returned (.bool true) ∧ Below w.heap.size w w' := by
  have hub := rounds_ub z0 z1
  have HD : ∃ D, roundsL z0 z1 = D := ⟨_, rfl⟩
  obtain ⟨D, hD⟩ := HD
  have hpD := adl_pos pos_Int D
  have huD : adl ad_Int D ≤ 1099511627000 := by rw [← hD]; exact hub
  have HD := Lib.hid hD
  clear hD hub
  have HOK : ∃ ok, roundsOk z0 z1 = ok := ⟨_, rfl⟩
  obtain ⟨ok, hok⟩ := HOK
  have HOK := Lib.hid hok
  clear hok
  have hq0 : ¬ ((1 : Int) + adl ad_Int D < 0) := by omega
  have b := Below.refl w.heap.size w
  go_enter Try.func6, Try.ntmps6
  go_wp2_with fail
  have s_base := b.size
  refine (specRounds_any z0 z1 _).mono ?_
  rw [HD.out, HOK.out]
  rintro e w1 ⟨Aa, ca, rfl, hb, a⟩
  have s_w1 : w.heap.size ≤ w1.heap.size := hb.size
  have b := b.trans (hb.mono b.size)
  clear hb
  have a := a.at_
  go_wp2_with fail
  refine (implRounds_any z0 z1 _).mono ?_
  rw [HD.out, HOK.out]
  rintro e w2 ⟨Ag, cg, rfl, hb, g⟩
  have s_w2 : w1.heap.size ≤ w2.heap.size := hb.size
  have a := a.keep hb (by omega)
  have b := b.trans (hb.mono b.size)
  clear hb
  go_wp2_with fail
  (with_reducible refine (eq_IntS _ _ _ _ _ _ _ _ (by omega) (by omega) g.at_ a).mono ?_); rintro e w3 ⟨rfl, hb⟩
  have s_w3 : w2.heap.size ≤ w3.heap.size := hb.size
  have a := a.keep hb (by omega)
  have g := g.next hb (by omega)
  have b := b.trans (hb.mono b.size)
  clear hb
  go_wp2_with fail
  (with_reducible refine (mark_IntS _ _ _ _ D 1 _ (by omega) (by omega) g).mono ?_); rintro e w4 ⟨rfl, hm, gm⟩
  have s_w4 : w3.heap.size ≤ w4.heap.size := Nat.le_of_eq hm.size.symm
  have a := a.same (fun k hk => hm.block k (.inl (by omega)))
  have b := b.trans (hm.below (by omega))
  clear hm
  clear g
  go_wp2_with fail
  (with_reducible refine (held_IntS _ _ _ D 1 _ (by omega) (by omega) gm.at_).mono ?_); rintro e w' ⟨rfl, rfl⟩
  go_wp2_with fail
  refine (implRounds_any z0 z1 _).mono ?_
  rw [HD.out, HOK.out]
  rintro e w5 ⟨Ah, ch, rfl, hb, h⟩
  have s_w5 : w4.heap.size ≤ w5.heap.size := hb.size
  have a := a.keep hb (by omega)
  have gm := gm.next hb (by omega)
  have b := b.trans (hb.mono b.size)
  clear hb
  go_wp2_with fail
  (with_reducible refine (eq_IntS _ _ _ _ _ _ _ _ (by omega) (by omega) h.at_ a).mono ?_); rintro e w6 ⟨rfl, hb⟩
  have s_w6 : w5.heap.size ≤ w6.heap.size := hb.size
  have a := a.keep hb (by omega)
  have gm := gm.next hb (by omega)
  have h := h.next hb (by omega)
  have b := b.trans (hb.mono b.size)
  clear hb
  go_wp2_with fail
  (with_reducible refine (held_IntS _ _ _ D 1 _ (by omega) (by omega) gm.at_).mono ?_); rintro e w' ⟨rfl, rfl⟩
  go_wp2
  go_ret
  exact ⟨rfl, b⟩

set_option maxRecDepth 100000 in
theorem fnExactRoundPicks_lifted (os : Os) (started : os.Started) (H : Type) (enc : TypeId × Value → H) :
    ReturnsInHanded {} Try.checked os 6 .any (Rows.fnExactRoundPicksSpec.pre6 enc Try.prog Try.f6 Rows.fnExactRoundPicksRow.domain false) (Rows.fnExactRoundPicksSpec.post enc Try.prog Try.f6 false true false false) := by
  refine returnsInHanded_of_change (C := Try.checked) own started (by kernel_rfl) Try.func6
    (ChangeSpec.witness6 (enc := enc) (C := Try.checked) false ⟨#[], #[.int .i64 0, .int .i64 0], []⟩ 8 (by kernel_rfl) (by kernel_rfl) (by kernel_rfl) (by kernel_rfl)) ?_
  intro W base args ds gs before hval0 hW _ _
  have hval : ∀ (j : Nat) t v, Try.f6.params[j]? = some t → args[j]? = some v → Value.okWide Try.prog W .any base t v := hval0
  have hW' := hW
  obtain ⟨p, q, hA0, hV, rfl, _, _⟩ := hW
  have hA : DataW.TrodAll enc Try.prog W 0 (fun _ => true) true Try.f6.params.toList args.toList ds p := hA0
  rw [Try.params6] at hA hval
  obtain ⟨v0, vs0, d0, ds0, p0, q0, hargs0, rfl, rfl, h0, rr0⟩ := trodAll_cons hA
  obtain ⟨v1, vs1, d1, ds1, p1, q1, hargs1, rfl, rfl, h1, rr1⟩ := trodAll_cons rr0
  obtain ⟨rfl, rfl, rfl⟩ := trodAll_nil rr1
  obtain rfl : args = #[v0, v1] := by cases args; simp_all
  obtain ⟨rfl, rfl⟩ := trodVars_none hV
  have k0 := h0
  have lt0 : ∀ x ∈ p0, x.block < W.heap.size := by obtain ⟨m, hm⟩ := k0; exact DataW.trod_lt m _ _ _ hm
  have k1 := h1
  have lt1 : ∀ x ∈ p1, x.block < W.heap.size := by obtain ⟨m, hm⟩ := k1; exact DataW.trod_lt m _ _ _ hm
  obtain ⟨z0, rfl, _⟩ := arg_int (hval 0 3 v0 rfl rfl) h0
  obtain ⟨z1, rfl, _⟩ := arg_int (hval 1 3 v1 rfl rfl) h1
  clear hA0 hval0
  refine (fnExactRoundPicks_walk z0 z1 W  ).mono fun e W' ⟨he, bel⟩ => ?_
  subst he
  exact ⟨_, rfl, _, _, _, [], _, [], hW', trodAll_mk1 (shut_bool Try.underlying4 _), (trodAll_cons_mk (Below.trod laidOut (by kernel_rfl) (of_decide_eq_true (by kernel_rfl)) k0 bel lt0) (trodAll_cons_mk (Below.trod laidOut (by kernel_rfl) (of_decide_eq_true (by kernel_rfl)) k1 bel lt1) (trodAll_mk0))), rfl, bel.frame _, fun h => by cases h⟩

/-- FnExactRoundPicks -/
theorem fnExactRoundPicks_holds : Rows.FnExactRoundPicksSaid :=
  OpenClaim.holds_of_wide 6 Try.f6 rfl rfl rfl rfl rfl rfl rfl ⟨rfl, rfl, rfl, rfl, rfl⟩ rfl rfl rfl rfl rfl (by kernel_rfl) Try.func6 (by kernel_rfl)
    (of_decide_eq_true (by kernel_rfl)) (by unfold Func.isWrapper; first | (rw [if_pos (by decide +kernel)]; kernel_rfl) | (rw [if_neg (by decide +kernel)]; exact ⟨rfl, rfl⟩))
    (fun os started H enc _ => fnExactRoundPicks_lifted os started H enc)
#print axioms fnExactRoundPicks_holds
end Go.Proofs.Ytkpkjcmoldkmmaa
