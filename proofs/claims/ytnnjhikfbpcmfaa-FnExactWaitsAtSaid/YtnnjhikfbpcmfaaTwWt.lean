/- FnExactWaitsAt: for every argument the program's function answers as the model's, and the argument reads as before. No condition. -/
import Derived.Test.YtnnjhikfbpcmfaaKx
import Derived.Test.YtnnjhikfbpcmfaaTk
import Derived.Deep.RegionLaw
namespace Go.Proofs.Ytnnjhikfbpcmfaa
open Go.ChangeShapes Go.WideShapes Go.ChangeAt Go.RowKit Go.Joins

set_option maxHeartbeats 3200000 in
set_option maxRecDepth 100000 in
theorem fnExactWaitsAt_walk (A1 : Option Addr) (c1 : Nat) (T : TL) (z1 : Int) (w : World) (hm : TLen T) (hr : TAt w w.heap.size A1 T) :
    Calls Try.prog 9 #[.agg #[.slice A1 T.length c1], .int .i64 z1] w fun e w' => e = .returned (.bool true) ∧ Below w.heap.size w w' := by
  by_cases hs : TFit T
  · have hl1 := hs.len
    have b := Below.refl w.heap.size w
    go_enter Try.func9, Try.ntmps9
    go_wp2_with fail
    have hA := (Below.refl w.heap.size w).alloc (Nat.le_refl _) (.cells #[.slice A1 T.length c1] 24)
    have X := Box.new (w := w) (c := #[.slice A1 T.length c1]) (t := 24) rfl
    have sz_w1 : w.heap.size < (w.alloc (.cells #[.slice A1 T.length c1] 24)).heap.size := by simp
    generalize w.alloc (.cells #[.slice A1 T.length c1] 24) = w1 at hA X sz_w1 ⊢
    have s_w1 : w.heap.size ≤ w1.heap.size := hA.size
    have b := b.trans (hA.mono b.size)
    clear hA
    (with_reducible refine (szTable_yes A1 c1 w.heap.size T _ hm hs b.size (hr.keep b (Nat.le_refl _))).mono ?_); rintro e w2 ⟨⟨z, rfl, hz⟩, hb⟩
    have hz : ¬ (z < 0) := by omega
    have s_w2 : w1.heap.size ≤ w2.heap.size := hb.size
    have X := X.next hb
    have b := b.trans (hb.mono b.size)
    clear hb
    obtain ⟨X0, Xf⟩ := X.c1
    have Xl := X.lt
    clear Xf
    go_wp2_with fail
    clear hz
    (with_reducible refine (toTable_any A1 c1 w.heap.size T _ hs b.size (hr.keep b (Nat.le_refl _))).mono ?_); rintro e w3 ⟨g, rfl, hg, hb⟩
    have s_w3 : w2.heap.size ≤ w3.heap.size := hb.size
    have X := X.next hb
    have b := b.trans (hb.mono b.size)
    clear hb
    clear X0 Xl
    go_wp2_with fail
    (with_reducible refine (specWaits_any _ _ _ T z1 _ hs (Nat.le_refl _) hg.at_).mono ?_); rintro e w4 ⟨rfl, hb⟩
    have s_w4 : w3.heap.size ≤ w4.heap.size := hb.size
    have X := X.next hb
    have hg := hg.below hb (by omega)
    have b := b.trans (hb.mono b.size)
    clear hb
    clear hg
    obtain ⟨X0, Xf⟩ := X.c1
    have Xl := X.lt
    clear Xf
    go_wp2_with fail
    (with_reducible refine (toTable_any A1 c1 w.heap.size T _ hs b.size (hr.keep b (Nat.le_refl _))).mono ?_); rintro e w5 ⟨k, rfl, hx, hb⟩
    have s_w5 : w4.heap.size ≤ w5.heap.size := hb.size
    have X := X.next hb
    have b := b.trans (hb.mono b.size)
    clear hb
    clear X0 Xl
    go_wp2_with fail
    have hA := (Below.refl w5.heap.size w5).alloc (Nat.le_refl _) (.cells #[.slice (some ⟨k, 0, none⟩) T.length T.length] 29)
    have Y := Box.new (w := w5) (c := #[.slice (some ⟨k, 0, none⟩) T.length T.length]) (t := 29) rfl
    have sz_w6 : w5.heap.size < (w5.alloc (.cells #[.slice (some ⟨k, 0, none⟩) T.length T.length] 29)).heap.size := by simp
    generalize w5.alloc (.cells #[.slice (some ⟨k, 0, none⟩) T.length T.length] 29) = w6 at hA Y sz_w6 ⊢
    have s_w6 : w5.heap.size ≤ w6.heap.size := hA.size
    have X := X.next hA
    have hx := hx.below hA (by omega)
    have b := b.trans (hA.mono b.size)
    clear hA
    (with_reducible refine (implWaits_any _ _ _ T z1 _ hs (by omega) hx.at_).mono ?_); rintro e w7 ⟨rfl, hb⟩
    have s_w7 : w6.heap.size ≤ w7.heap.size := hb.size
    have X := X.next hb
    have Y := Y.next hb
    have hx := hx.below hb (by omega)
    have b := b.trans (hb.mono b.size)
    clear hb
    generalize waitK T z1 = ans
    have hD := (Below.refl w7.heap.size w7).drew
    have Yd := Lib.hid Y.drew
    have hxd := Lib.hid (hx.below hD (by omega))
    have hrd := Lib.hid (hr.keep b.drew (Nat.le_refl _))
    have hbd := b.drew.size
    obtain ⟨X0, Xf⟩ := X.c1
    have Xl := X.lt
    clear Xf
    obtain ⟨Y0, Yf⟩ := Y.c1
    have Yl := Y.lt
    clear Yf
    go_wp2_with fail
    go_region_law (first | (go_simp; go_at_call 12; refine (toTable_any A1 c1 w.heap.size T _ hs hbd hrd.out).mono ?_; rintro o w8 ⟨g6, rfl, hy, hb6⟩; obtain ⟨z0, zf⟩ := (Yd.out.next hb6).c1) | (go_simp; go_at_call 14; refine (eqTable_same _ _ _ _ _ _ T _ hm (hxd.out.below hb6 (by show _ ≤ w7.heap.size; omega)).at_ hy.at_ (by have := hb6.size; show _ ≤ w8.heap.size; have : w7.drew.heap.size = w7.heap.size := rfl; omega) (Nat.le_refl _)).mono ?_; rintro o w9 ⟨rfl, hb7⟩))
    all_goals
      have hb := hD.trans ((hb6.trans (hb7.mono hb6.size)).mono (Nat.le_refl _))
      clear z0 zf hb6 hb7 hy Yd hxd hrd hD hbd
      clear X0 Xl Y0 Yl
      have s_w9 : w7.heap.size ≤ w9.heap.size := hb.size
      have X := X.next hb
      have Y := Y.next hb
      have hx := hx.below hb (by omega)
      have b := b.trans (hb.mono b.size)
      clear hb
      go_wp2
      go_ret
      exact ⟨rfl, b⟩
  · go_enter Try.func9, Try.ntmps9
    go_wp2_with fail
    have b0 := (Below.refl w.heap.size w).alloc (Nat.le_refl _) (.cells #[.slice A1 T.length c1] 24)
    refine (szTable_no A1 c1 w.heap.size T _ hm hs b0.size (hr.keep b0 (Nat.le_refl _))).mono ?_; rintro e w1 ⟨rfl, hb1⟩
    go_wp2
    go_ret
    exact ⟨rfl, b0.trans (hb1.mono b0.size)⟩

set_option maxRecDepth 100000 in
theorem fnExactWaitsAt_lifted (os : Os) (started : os.Started) (H : Type) (enc : TypeId × Value → H) :
    ReturnsInHanded {} Try.checked os 9 .any (Rows.fnExactWaitsAtSpec.pre6 enc Try.prog Try.f9 Rows.fnExactWaitsAtRow.domain false) (Rows.fnExactWaitsAtSpec.post enc Try.prog Try.f9 false true false false) := by
  refine returnsInHanded_of_change (C := Try.checked) own started (by kernel_rfl) Try.func9
    (ChangeSpec.witness6 (enc := enc) (C := Try.checked) false ⟨#[], #[.agg #[.slice none 0 0], .int .i64 0], []⟩ 8 (by kernel_rfl) (by kernel_rfl) (by kernel_rfl) (by kernel_rfl)) ?_
  intro W base args ds gs before hval0 hW _ _
  have hval : ∀ (j : Nat) t v, Try.f9.params[j]? = some t → args[j]? = some v → Value.okWide Try.prog W .any base t v := hval0
  have hW' := hW
  obtain ⟨p, q, hA0, hV, rfl, _, _⟩ := hW
  have hA : DataW.TrodAll enc Try.prog W 0 (fun _ => true) true Try.f9.params.toList args.toList ds p := hA0
  rw [Try.params9] at hA hval
  obtain ⟨v0, vs0, d0, ds0, p0, q0, hargs, rfl, rfl, h0, rr0⟩ := trodAll_cons hA
  obtain ⟨v1, vs1, d1, ds1, p1, q1, rfl, rfl, rfl, h1, rr1⟩ := trodAll_cons rr0
  obtain ⟨rfl, rfl, rfl⟩ := trodAll_nil rr1
  obtain rfl : args = #[v0, v1] := by cases args; simp_all
  obtain ⟨rfl, rfl⟩ := trodVars_none hV
  have k0 := h0
  have lt0 : ∀ x ∈ p0, x.block < W.heap.size := by obtain ⟨m, hm⟩ := k0; exact DataW.trod_lt m _ _ _ hm
  obtain ⟨A1, c1, T, rfl, n1, r1⟩ := open_table (hval 0 24 v0 rfl rfl) h0
  have k1 := h1
  have lt1 : ∀ x ∈ p1, x.block < W.heap.size := by obtain ⟨m, hm⟩ := k1; exact DataW.trod_lt m _ _ _ hm
  obtain ⟨z1, rfl, rfl, rfl, zwf1⟩ := open_int Try.underlying3 (hval 1 3 v1 rfl rfl) h1
  clear hA0 hval0
  refine (fnExactWaitsAt_walk A1 c1 T z1 W n1 r1).mono fun e W' ⟨he, bel⟩ => ?_
  subst he
  exact ⟨_, rfl, _, _, _, [], _, [], hW', trodAll_mk1 (shut_bool Try.underlying4 _), (trodAll_cons_mk (Below.trod laidOut (by kernel_rfl) (of_decide_eq_true (by kernel_rfl)) k0 bel lt0) (trodAll_cons_mk (Below.trod laidOut (by kernel_rfl) (of_decide_eq_true (by kernel_rfl)) k1 bel lt1) (trodAll_mk0))), rfl, bel.frame _, fun h => by cases h⟩

/-- FnExactWaitsAt -/
theorem fnExactWaitsAt_holds : Rows.FnExactWaitsAtSaid :=
  OpenClaim.holds_of_wide 9 Try.f9 rfl rfl rfl rfl rfl rfl rfl ⟨rfl, rfl, rfl, rfl, rfl⟩ rfl rfl rfl rfl rfl (by kernel_rfl) Try.func9 (by kernel_rfl)
    (of_decide_eq_true (by kernel_rfl)) (by unfold Func.isWrapper; first | (rw [if_pos (by decide +kernel)]; kernel_rfl) | (rw [if_neg (by decide +kernel)]; exact ⟨rfl, rfl⟩))
    (fun os started H enc _ => fnExactWaitsAt_lifted os started H enc)
#print axioms fnExactWaitsAt_holds
end Go.Proofs.Ytnnjhikfbpcmfaa
