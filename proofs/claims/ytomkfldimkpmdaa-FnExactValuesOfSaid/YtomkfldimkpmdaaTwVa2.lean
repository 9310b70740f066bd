/- FnExactValuesOf: for every argument the program's function answers as the model's, its answer owns its memory, and the argument reads as before. No condition. -/
import Derived.Test.YtomkfldimkpmdaaTn2
import Derived.Test.YtomkfldimkpmdaaTk
import Derived.Deep.RegionLaw
namespace Go.Proofs.Ytomkfldimkpmdaa
open Go.ChangeShapes Go.WideShapes Go.ChangeAt Go.RowKit Go.Joins

set_option maxHeartbeats 3200000 in
set_option maxRecDepth 100000 in
theorem fnExactValuesOf_walk (A1 : Option Addr) (c1 : Nat) (T : TL) (w : World) (hm : TLen T) (hr : TAt w w.heap.size A1 T) :
    Calls Try.prog 3 #[.agg #[.slice A1 T.length c1]] w fun e w' => e = .returned (.bool true) ∧ Below w.heap.size w w' := by
  by_cases hs : TFit T
  · have hl1 := hs.len
    have b := Below.refl w.heap.size w
    have hq8 := vals_len T
    have hq0 : ¬ ((1 : Int) + (vals T).length < 0) := by omega
    have hk0 : ¬ (kTo T 1 T.length < 0) := by have := kTo_range hs (Nat.le_refl _) (show (0 : Int) ≤ 1 by omega) (by omega); omega
    go_enter Try.func3, Try.ntmps3
    go_wp2_with fail
    have hA := (Below.refl w.heap.size w).alloc (Nat.le_refl _) (.cells #[.slice A1 T.length c1] 24)
    have X := Box.new (w := w) (c := #[.slice A1 T.length c1]) (t := 24) rfl
    have sz_w1 : w.heap.size < (w.alloc (.cells #[.slice A1 T.length c1] 24)).heap.size := by simp
    generalize w.alloc (.cells #[.slice A1 T.length c1] 24) = w1 at hA X sz_w1 ⊢
    have s_w1 : w.heap.size ≤ w1.heap.size := hA.size
    have b := b.trans (hA.mono b.size)
    clear hA
    (with_reducible refine (szTable_yes A1 c1 w.heap.size T _ hm hs b.size (hr.keep b (Nat.le_refl _))).mono ?_); rintro e w2 ⟨⟨z, rfl, hz⟩, hb⟩
    have hz : ¬ (z < 0) := by omega
    have s_w2 : w1.heap.size ≤ w2.heap.size := hb.size
    have X := X.next hb
    have b := b.trans (hb.mono b.size)
    clear hb
    obtain ⟨X0, Xf⟩ := X.c1
    have Xl := X.lt
    clear Xf
    go_wp2_with fail
    clear hz
    (with_reducible refine (toTable_any A1 c1 w.heap.size T _ hs b.size (hr.keep b (Nat.le_refl _))).mono ?_); rintro e w3 ⟨g, rfl, hg, hb⟩
    have s_w3 : w2.heap.size ≤ w3.heap.size := hb.size
    have X := X.next hb
    have b := b.trans (hb.mono b.size)
    clear hb
    clear X0 Xl
    go_wp2_with fail
    (with_reducible refine (specVals_any _ _ _ T _ hs (Nat.le_refl _) hg.at_).mono ?_); rintro e w4 ⟨A3, c3, rfl, o3, hb⟩
    have a3 := o3.at_
    clear hg o3
    have s_w4 : w3.heap.size ≤ w4.heap.size := hb.size
    have X := X.next hb
    have b := b.trans (hb.mono b.size)
    clear hb
    obtain ⟨X0, Xf⟩ := X.c1
    have Xl := X.lt
    clear Xf
    go_wp2_with fail
    (with_reducible refine (toTable_any A1 c1 w.heap.size T _ hs b.size (hr.keep b (Nat.le_refl _))).mono ?_); rintro e w5 ⟨k, rfl, hx, hb⟩
    have s_w5 : w4.heap.size ≤ w5.heap.size := hb.size
    have X := X.next hb
    have a3 := a3.below (hb.mono (by omega)) (Nat.le_refl _)
    have b := b.trans (hb.mono b.size)
    clear hb
    clear X0 Xl
    go_wp2_with fail
    have hA := (Below.refl w5.heap.size w5).alloc (Nat.le_refl _) (.cells #[.slice (some ⟨k, 0, none⟩) T.length T.length] 30)
    have Y := Box.new (w := w5) (c := #[.slice (some ⟨k, 0, none⟩) T.length T.length]) (t := 30) rfl
    have sz_w6 : w5.heap.size < (w5.alloc (.cells #[.slice (some ⟨k, 0, none⟩) T.length T.length] 30)).heap.size := by simp
    generalize w5.alloc (.cells #[.slice (some ⟨k, 0, none⟩) T.length T.length] 30) = w6 at hA Y sz_w6 ⊢
    have s_w6 : w5.heap.size ≤ w6.heap.size := hA.size
    have X := X.next hA
    have hx := hx.below hA (by omega)
    have a3 := a3.below (hA.mono (by omega)) (Nat.le_refl _)
    have b := b.trans (hA.mono b.size)
    clear hA
    (with_reducible refine (implVals_any _ _ _ T _ hs (by omega) hx.at_).mono ?_); rintro e w7 ⟨A5, c5, rfl, g5, hb⟩
    have s_w7 : w6.heap.size ≤ w7.heap.size := hb.size
    have X := X.next hb
    have Y := Y.next hb
    have hx := hx.below hb (by omega)
    have a3 := a3.below (hb.mono (by omega)) (Nat.le_refl _)
    have b := b.trans (hb.mono b.size)
    clear hb
    go_wp2_with fail
    (with_reducible refine (eqIntS_same _ _ _ _ _ _ _ _ _ (by unfold maxLen; omega) g5.at_ a3).mono ?_); rintro e w8 ⟨rfl, hb⟩
    have s_w8 : w7.heap.size ≤ w8.heap.size := hb.size
    have X := X.next hb
    have Y := Y.next hb
    have hx := hx.below hb (by omega)
    have g5 := g5.below hb (by omega)
    have a3 := a3.below (hb.mono (by omega)) (Nat.le_refl _)
    have b := b.trans (hb.mono b.size)
    clear hb
    have hD := (Below.refl w8.heap.size w8).drew
    have Yd := Lib.hid Y.drew
    have hxd := Lib.hid (hx.below hD (by omega))
    have hrd := Lib.hid (hr.keep b.drew (Nat.le_refl _))
    have hbd := b.drew.size
    obtain ⟨X0, Xf⟩ := X.c1
    have Xl := X.lt
    clear Xf
    obtain ⟨Y0, Yf⟩ := Y.c1
    have Yl := Y.lt
    clear Yf
    go_wp2_with fail
    go_region_law (first | (go_simp; go_at_call 11; refine (toTable_any A1 c1 w.heap.size T _ hs hbd hrd.out).mono ?_; rintro o w9 ⟨g6, rfl, hy, hb6⟩; obtain ⟨z0, zf⟩ := (Yd.out.next hb6).c1) | (go_simp; go_at_call 14; refine (eqTable_same _ _ _ _ _ _ T _ hm (hxd.out.below hb6 (by show _ ≤ w8.heap.size; omega)).at_ hy.at_ (by have := hb6.size; show _ ≤ w9.heap.size; have : w8.drew.heap.size = w8.heap.size := rfl; omega) (Nat.le_refl _)).mono ?_; rintro o w10 ⟨rfl, hb7⟩))
    all_goals
      have hb := hD.trans ((hb6.trans (hb7.mono hb6.size)).mono (Nat.le_refl _))
      clear z0 zf hb6 hb7 hy Yd hxd hrd hD hbd
      clear X0 Xl Y0 Yl
      have s_w10 : w8.heap.size ≤ w10.heap.size := hb.size
      have X := X.next hb
      have Y := Y.next hb
      have hx := hx.below hb (by omega)
      have g5 := g5.below hb (by omega)
      have a3 := a3.below (hb.mono (by omega)) (Nat.le_refl _)
      have b := b.trans (hb.mono b.size)
      clear hb
      obtain ⟨Y0, Yf⟩ := Y.c1
      have Yl := Y.lt
      clear Yf
      go_wp2_with fail
      (with_reducible refine (markTable_any _ _ _ _ T 1 _ hs (by omega) (by omega) (by omega) hx).mono ?_); rintro e w11 ⟨rfl, hm, hx2⟩
      have hm := MarkS.two hm
      have s_w11 : w10.heap.size ≤ w11.heap.size := hm.size
      have X := X.mark hm (by omega)
      have Y := Y.mark hm (by omega)
      have g5 := g5.mark hm (by omega) (by omega)
      have a3 := a3.mark hm (by omega) (by omega)
      have b := b.trans (hm.bel (by omega) (by omega))
      clear hm
      clear Y0 Yl
      clear hx hx2
      go_wp2_with fail
      (with_reducible refine (eqIntS_same _ _ _ _ _ _ _ _ _ (by unfold maxLen; omega) g5.at_ a3).mono ?_); rintro e w12 ⟨rfl, hb⟩
      have s_w12 : w11.heap.size ≤ w12.heap.size := hb.size
      have X := X.next hb
      have Y := Y.next hb
      have g5 := g5.below hb (by omega)
      have a3 := a3.below (hb.mono (by omega)) (Nat.le_refl _)
      have b := b.trans (hb.mono b.size)
      clear hb
      go_wp2_with fail
      (with_reducible refine (markIntS_int _ _ _ _ _ _ 1 _ (by omega) (by omega) (by omega) g5).mono ?_); rintro e w13 ⟨rfl, hm, g6⟩
      have hm := MarkS.one hm
      have s_w13 : w12.heap.size ≤ w13.heap.size := hm.size
      have X := X.mark hm (by omega)
      have Y := Y.mark hm (by omega)
      have a3 := a3.mark hm (by omega) (by omega)
      have b := b.trans (hm.bel (by omega) (by omega))
      clear hm
      clear g5
      go_wp2_with fail
      (with_reducible refine (heldIntS_int _ _ _ _ 1 _ (by omega) (by omega) (by omega) g6.at_).mono ?_); rintro e w' ⟨rfl, rfl⟩
      obtain ⟨X0, Xf⟩ := X.c1
      have Xl := X.lt
      clear Xf
      go_wp2_with fail
      (with_reducible refine (toTable_any A1 c1 w.heap.size T _ hs b.size (hr.keep b (Nat.le_refl _))).mono ?_); rintro e w14 ⟨p, rfl, hg, hb⟩
      have s_w14 : w13.heap.size ≤ w14.heap.size := hb.size
      have X := X.next hb
      have Y := Y.next hb
      have g6 := g6.below hb (by omega)
      have a3 := a3.below (hb.mono (by omega)) (Nat.le_refl _)
      have b := b.trans (hb.mono b.size)
      clear hb
      clear X0 Xl
      go_wp2_with fail
      (with_reducible refine (implVals_any _ _ _ T _ hs (Nat.le_refl _) hg.at_).mono ?_); rintro e w15 ⟨A7, c7, rfl, g7, hb⟩
      clear hg
      have s_w15 : w14.heap.size ≤ w15.heap.size := hb.size
      have X := X.next hb
      have Y := Y.next hb
      have g6 := g6.below hb (by omega)
      have a3 := a3.below (hb.mono (by omega)) (Nat.le_refl _)
      have b := b.trans (hb.mono b.size)
      clear hb
      go_wp2_with fail
      (with_reducible refine (eqIntS_same _ _ _ _ _ _ _ _ _ (by unfold maxLen; omega) g7.at_ a3).mono ?_); rintro e w16 ⟨rfl, hb⟩
      have s_w16 : w15.heap.size ≤ w16.heap.size := hb.size
      have X := X.next hb
      have Y := Y.next hb
      have g6 := g6.below hb (by omega)
      have g7 := g7.below hb (by omega)
      have a3 := a3.below (hb.mono (by omega)) (Nat.le_refl _)
      have b := b.trans (hb.mono b.size)
      clear hb
      go_wp2_with fail
      (with_reducible refine (heldIntS_int _ _ _ _ 1 _ (by omega) (by omega) (by omega) g6.at_).mono ?_); rintro e w' ⟨rfl, rfl⟩
      go_wp2
      go_ret
      exact ⟨rfl, b⟩
  · go_enter Try.func3, Try.ntmps3
    go_wp2_with fail
    have b0 := (Below.refl w.heap.size w).alloc (Nat.le_refl _) (.cells #[.slice A1 T.length c1] 24)
    refine (szTable_no A1 c1 w.heap.size T _ hm hs b0.size (hr.keep b0 (Nat.le_refl _))).mono ?_; rintro e w1 ⟨rfl, hb1⟩
    go_wp2
    go_ret
    exact ⟨rfl, b0.trans (hb1.mono b0.size)⟩

set_option maxRecDepth 100000 in
theorem fnExactValuesOf_lifted (os : Os) (started : os.Started) (H : Type) (enc : TypeId × Value → H) :
    ReturnsInHanded {} Try.checked os 3 .any (Rows.fnExactValuesOfSpec.pre6 enc Try.prog Try.f3 Rows.fnExactValuesOfRow.domain false) (Rows.fnExactValuesOfSpec.post enc Try.prog Try.f3 false true false false) := by
  refine returnsInHanded_of_change (C := Try.checked) own started (by kernel_rfl) Try.func3
    (ChangeSpec.witness6 (enc := enc) (C := Try.checked) false ⟨#[], #[.agg #[.slice none 0 0]], []⟩ 8 (by kernel_rfl) (by kernel_rfl) (by kernel_rfl) (by kernel_rfl)) ?_
  intro W base args ds gs before hval0 hW _ _
  have hval : ∀ (j : Nat) t v, Try.f3.params[j]? = some t → args[j]? = some v → Value.okWide Try.prog W .any base t v := hval0
  have hW' := hW
  obtain ⟨p, q, hA0, hV, rfl, _, _⟩ := hW
  have hA : DataW.TrodAll enc Try.prog W 0 (fun _ => true) true Try.f3.params.toList args.toList ds p := hA0
  rw [Try.params3] at hA hval
  obtain ⟨v0, vs0, d0, ds0, p0, q0, hargs, rfl, rfl, h0, rr0⟩ := trodAll_cons hA
  obtain ⟨rfl, rfl, rfl⟩ := trodAll_nil rr0
  obtain rfl : args = #[v0] := by cases args; simp_all
  obtain ⟨rfl, rfl⟩ := trodVars_none hV
  have k0 := h0
  have lt0 : ∀ x ∈ p0, x.block < W.heap.size := by obtain ⟨m, hm⟩ := k0; exact DataW.trod_lt m _ _ _ hm
  obtain ⟨A1, c1, T, rfl, n1, r1⟩ := open_table (hval 0 24 v0 rfl rfl) h0
  clear hA0 hval0
  refine (fnExactValuesOf_walk A1 c1 T W n1 r1).mono fun e W' ⟨he, bel⟩ => ?_
  subst he
  exact ⟨_, rfl, _, _, _, [], _, [], hW', trodAll_mk1 (shut_bool Try.underlying4 _), (trodAll_cons_mk (Below.trod laidOut (by kernel_rfl) (of_decide_eq_true (by kernel_rfl)) k0 bel lt0) (trodAll_mk0)), rfl, bel.frame _, fun h => by cases h⟩

/-- FnExactValuesOf -/
theorem fnExactValuesOf_holds : Rows.FnExactValuesOfSaid :=
  OpenClaim.holds_of_wide 3 Try.f3 rfl rfl rfl rfl rfl rfl rfl ⟨rfl, rfl, rfl, rfl, rfl⟩ rfl rfl rfl rfl rfl (by kernel_rfl) Try.func3 (by kernel_rfl)
    (of_decide_eq_true (by kernel_rfl)) (by unfold Func.isWrapper; first | (rw [if_pos (by decide +kernel)]; kernel_rfl) | (rw [if_neg (by decide +kernel)]; exact ⟨rfl, rfl⟩))
    (fun os started H enc _ => fnExactValuesOf_lifted os started H enc)
#print axioms fnExactValuesOf_holds
end Go.Proofs.Ytomkfldimkpmdaa
