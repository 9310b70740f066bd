/- FnExactLeaveLock: for every argument the program's function answers as the model's, its answer owns its memory, and the argument reads as before. No condition. -/
import Derived.Test.YtmdonjkkpkcpnaaLv5
import Derived.Test.YtmdonjkkpkcpnaaLk3
namespace Go.Proofs.Ytmdonjkkpkcpnaa
open Go.ChangeShapes Go.WideShapes Go.ChangeAt Go.RowKit Go.Joins

set_option maxHeartbeats 3200000 in
set_option maxRecDepth 100000 in
theorem fnExactLeaveLock_walk (A1 A2 : Option Addr) (c1 c2 : Nat) (l1 l2 : HL) (za : Int) (w : World) (hm1 : l1.length ≤ maxLen) (hm2 : l2.length ≤ maxLen) (h1 : HAt w w.heap.size A1 l1) (h2 : HAt w w.heap.size A2 l2) :
    Calls Try.prog 7 #[.agg #[.slice A1 l1.length c1, .slice A2 l2.length c2], .int .i64 za] w fun e w' => e = .returned (.bool true) ∧ Below w.heap.size w w' := by
  by_cases hl : l1.length + l2.length ≤ 1048576
  · have hl1 : l1.length ≤ 1048576 := by omega
    have hl2 : l2.length ≤ 1048576 := by omega
    have hsz : ¬ ((1048576 : Int) - l1.length - l2.length < 0) := by omega
    have hk0 : ¬ ((1 : Int) + l1.length * 2 + l2.length * 2 < 0) := by omega
    have hr : LAt w w.heap.size A1 A2 (l1, l2) := ⟨h1, h2⟩
    have SA := fun A A' c c' B w h => specLeave_any A A' c c' B l1 l2 za w hl1 hl2 h
    have IA := fun A A' B w h => implLeave_any A A' B l1 l2 za w hl1 hl2 h
    have hPl := leaveL_len l1 l2 za
    generalize leaveL l1 l2 za = P at SA IA hPl
    generalize leaveB l1 l2 za = Q at SA IA
    have SA := Lib.hid SA
    have IA := Lib.hid IA
    have hq0 : ¬ ((1 : Int) + P.1.length * 2 + P.2.length * 2 < 0) := by omega
    clear h1 h2
    have b := Below.refl w.heap.size w
    go_enter Try.func7, Try.ntmps7
    go_wp2_with fail
    have hA := (Below.refl w.heap.size w).alloc (Nat.le_refl _) (.cells #[.slice A1 l1.length c1, .slice A2 l2.length c2] 45)
    have X := Box.new (w := w) (c := #[.slice A1 l1.length c1, .slice A2 l2.length c2]) (t := 45) rfl
    have sz_w1 : w.heap.size < (w.alloc (.cells #[.slice A1 l1.length c1, .slice A2 l2.length c2] 45)).heap.size := by simp
    generalize w.alloc (.cells #[.slice A1 l1.length c1, .slice A2 l2.length c2] 45) = w1 at hA X sz_w1 ⊢
    have s_w1 : w.heap.size ≤ w1.heap.size := hA.size
    have b := b.trans (hA.mono b.size)
    clear hA
    (with_reducible refine (szLock_yes _ _ _ _ _ _ _ hm1 hm2 hl).mono ?_); rintro e w2 ⟨rfl, hb⟩
    have s_w2 : w1.heap.size ≤ w2.heap.size := hb.size
    have X := X.next hb
    have b := b.trans (hb.mono b.size)
    clear hb
    obtain ⟨X0, X1, Xf⟩ := X.c2
    have Xl := X.lt
    clear Xf
    go_wp2_with fail
    (with_reducible refine (toLock_any _ _ _ _ l1 l2 _ hl1 hl2 (hr.below b b.size)).mono ?_); rintro e w3 ⟨G, d, G', d', rfl, hb, hg⟩
    have s_w3 : w2.heap.size ≤ w3.heap.size := hb.size
    have X := X.next hb
    have b := b.trans (hb.mono b.size)
    clear hb
    clear X0 X1 Xl
    go_wp2_with fail
    (with_reducible refine (SA.out _ _ _ _ _ _ hg.at_).mono ?_); rintro e w4 ⟨A3, c3, A4, c4, rfl, o3, hb⟩
    have a3 := o3.at_
    clear hg o3
    have s_w4 : w3.heap.size ≤ w4.heap.size := hb.size
    have X := X.next hb
    have b := b.trans (hb.mono b.size)
    clear hb
    obtain ⟨X0, X1, Xf⟩ := X.c2
    have Xl := X.lt
    clear Xf
    go_wp2_with fail
    clear X0 X1 Xl
    have hA := (Below.refl w4.heap.size w4).alloc (Nat.le_refl _) (.cells #[.slice A3 P.1.length c3, .slice A4 P.2.length c4] 28)
    have W := Box.new (w := w4) (c := #[.slice A3 P.1.length c3, .slice A4 P.2.length c4]) (t := 28) rfl
    have sz_w5 : w4.heap.size < (w4.alloc (.cells #[.slice A3 P.1.length c3, .slice A4 P.2.length c4] 28)).heap.size := by simp
    generalize w4.alloc (.cells #[.slice A3 P.1.length c3, .slice A4 P.2.length c4] 28) = w5 at hA W sz_w5 ⊢
    have s_w5 : w4.heap.size ≤ w5.heap.size := hA.size
    have X := X.next hA
    have a3 := a3.keep hA (by omega)
    have b := b.trans (hA.mono b.size)
    clear hA
    go_wp2_with fail
    (with_reducible refine (toLockC_any _ _ _ _ l1 l2 _ hl1 hl2 (hr.below b b.size)).mono ?_); rintro e w6 ⟨K, K', rfl, hb, hx⟩
    have s_w6 : w5.heap.size ≤ w6.heap.size := hb.size
    have X := X.next hb
    have W := W.next hb
    have a3 := a3.keep hb (by omega)
    have b := b.trans (hb.mono b.size)
    clear hb
    go_wp2_with fail
    have hA := (Below.refl w6.heap.size w6).alloc (Nat.le_refl _) (.cells #[.slice K l1.length l1.length, .slice K' l2.length l2.length] 28)
    have Y := Box.new (w := w6) (c := #[.slice K l1.length l1.length, .slice K' l2.length l2.length]) (t := 28) rfl
    have sz_w7 : w6.heap.size < (w6.alloc (.cells #[.slice K l1.length l1.length, .slice K' l2.length l2.length] 28)).heap.size := by simp
    generalize w6.alloc (.cells #[.slice K l1.length l1.length, .slice K' l2.length l2.length] 28) = w7 at hA Y sz_w7 ⊢
    have s_w7 : w6.heap.size ≤ w7.heap.size := hA.size
    have X := X.next hA
    have W := W.next hA
    have hx := hx.below hA (by omega)
    have a3 := a3.keep hA (by omega)
    have b := b.trans (hA.mono b.size)
    clear hA
    (with_reducible refine (IA.out _ _ _ _ hx.at_).mono ?_); rintro e w8 ⟨A5, c5, A6, c6, rfl, g5, hb⟩
    have s_w8 : w7.heap.size ≤ w8.heap.size := hb.size
    have X := X.next hb
    have W := W.next hb
    have Y := Y.next hb
    have hx := hx.below hb (by omega)
    have a3 := a3.keep hb (by omega)
    have b := b.trans (hb.mono b.size)
    clear hb
    obtain ⟨W0, W1, Wf⟩ := W.c2
    have Wl := W.lt
    clear Wf
    go_wp2_with fail
    clear W0 W1 Wl
    have hA := (Below.refl w8.heap.size w8).alloc (Nat.le_refl _) (.cells #[.slice A5 P.1.length c5, .slice A6 P.2.length c6] 28)
    have V := Box.new (w := w8) (c := #[.slice A5 P.1.length c5, .slice A6 P.2.length c6]) (t := 28) rfl
    have sz_w9 : w8.heap.size < (w8.alloc (.cells #[.slice A5 P.1.length c5, .slice A6 P.2.length c6] 28)).heap.size := by simp
    generalize w8.alloc (.cells #[.slice A5 P.1.length c5, .slice A6 P.2.length c6] 28) = w9 at hA V sz_w9 ⊢
    have s_w9 : w8.heap.size ≤ w9.heap.size := hA.size
    have X := X.next hA
    have W := W.next hA
    have Y := Y.next hA
    have hx := hx.below hA (by omega)
    have g5 := g5.below hA (by omega)
    have a3 := a3.keep hA (by omega)
    have b := b.trans (hA.mono b.size)
    clear hA
    (with_reducible refine (eqLock_same _ _ _ _ _ _ _ _ _ _ P _ (by unfold maxLen; omega) (by unfold maxLen; omega) g5.at_ a3).mono ?_); rintro e w10 ⟨rfl, hb⟩
    have s_w10 : w9.heap.size ≤ w10.heap.size := hb.size
    have X := X.next hb
    have W := W.next hb
    have Y := Y.next hb
    have V := V.next hb
    have hx := hx.below hb (by omega)
    have g5 := g5.below hb (by omega)
    have a3 := a3.keep hb (by omega)
    have b := b.trans (hb.mono b.size)
    clear hb
    have hD := (Below.refl w10.heap.size w10).drew
    have Yd := Lib.hid Y.drew
    have hxd := Lib.hid (hx.below hD (by omega))
    have hrd := Lib.hid (hr.below b.drew b.size)
    obtain ⟨X0, X1, Xf⟩ := X.c2
    have Xl := X.lt
    clear Xf
    obtain ⟨Y0, Y1, Yf⟩ := Y.c2
    have Yl := Y.lt
    clear Yf
    go_wp2_with fail
    go_region_law (first | (go_simp; go_at_call 26; refine (toLock_any _ _ _ _ l1 l2 _ hl1 hl2 hrd.out).mono ?_; rintro o w11 ⟨M, m, M', m', rfl, hb6, hy⟩; obtain ⟨z0, z1, zf⟩ := (Yd.out.next hb6).c2) | (go_simp; go_at_call 27; refine (eqLock_same _ _ _ _ _ _ _ _ _ _ (l1, l2) _ hm1 hm2 (hxd.out.below hb6 (by show _ ≤ w10.heap.size; omega)).at_ hy.at_).mono ?_; rintro o w12 ⟨rfl, hb7⟩))
    all_goals
      have hb := hD.trans ((hb6.trans (hb7.mono hb6.size)).mono (Nat.le_refl _))
      clear z0 z1 zf hb6 hb7 hy Yd hxd hrd hD
      clear X0 X1 Xl Y0 Y1 Yl
      have s_w12 : w10.heap.size ≤ w12.heap.size := hb.size
      have X := X.next hb
      have W := W.next hb
      have Y := Y.next hb
      have V := V.next hb
      have hx := hx.below hb (by omega)
      have g5 := g5.below hb (by omega)
      have a3 := a3.keep hb (by omega)
      have b := b.trans (hb.mono b.size)
      clear hb
      obtain ⟨Y0, Y1, Yf⟩ := Y.c2
      have Yl := Y.lt
      clear Yf
      go_wp2_with fail
      (with_reducible refine (markLock_any _ _ _ _ _ _ (l1, l2) 1 _ (show l1.length ≤ _ by omega) (show l2.length ≤ _ by omega) (by omega) (by omega) (by omega) hx).mono ?_); rintro e w13 ⟨rfl, hm, hx2⟩
      have hm := MarkS.two hm
      have s_w13 : w12.heap.size ≤ w13.heap.size := hm.size
      have X := X.mark hm (by omega)
      have W := W.mark hm (by omega)
      have Y := Y.mark hm (by omega)
      have V := V.mark hm (by omega)
      have g5 := g5.mark hm (by omega) (by omega)
      have a3 := a3.mark hm (by omega) (by omega)
      have b := b.trans (hm.bel (by omega) (by omega))
      clear hm
      clear Y0 Y1 Yl
      clear hx hx2
      obtain ⟨V0, V1, Vf⟩ := V.c2
      have Vl := V.lt
      clear Vf
      obtain ⟨W0, W1, Wf⟩ := W.c2
      have Wl := W.lt
      clear Wf
      go_wp2_with fail
      (with_reducible refine (eqLock_same _ _ _ _ _ _ _ _ _ _ P _ (by unfold maxLen; omega) (by unfold maxLen; omega) g5.at_ a3).mono ?_); rintro e w14 ⟨rfl, hb⟩
      have s_w14 : w13.heap.size ≤ w14.heap.size := hb.size
      have X := X.next hb
      have W := W.next hb
      have Y := Y.next hb
      have V := V.next hb
      have g5 := g5.below hb (by omega)
      have a3 := a3.keep hb (by omega)
      have b := b.trans (hb.mono b.size)
      clear hb
      clear V0 V1 Vl W0 W1 Wl
      obtain ⟨V0, V1, Vf⟩ := V.c2
      have Vl := V.lt
      clear Vf
      go_wp2_with fail
      (with_reducible refine (markLock_any _ _ _ _ _ _ P 1 _ (by omega) (by omega) (by omega) (by omega) (by omega) g5).mono ?_); rintro e w15 ⟨rfl, hm, g6⟩
      have hm := MarkS.two hm
      have s_w15 : w14.heap.size ≤ w15.heap.size := hm.size
      have X := X.mark hm (by omega)
      have W := W.mark hm (by omega)
      have Y := Y.mark hm (by omega)
      have V := V.mark hm (by omega)
      have a3 := a3.mark hm (by omega) (by omega)
      have b := b.trans (hm.bel (by omega) (by omega))
      clear hm
      clear V0 V1 Vl
      clear g5
      obtain ⟨V0, V1, Vf⟩ := V.c2
      have Vl := V.lt
      clear Vf
      go_wp2_with fail
      (with_reducible refine (heldLock_any _ _ _ _ _ _ _ 1 _ (by omega) (by omega) (by omega) (by omega) (by omega) g6.at_).mono ?_); rintro e w16 ⟨rfl, hb⟩
      have s_w16 : w15.heap.size ≤ w16.heap.size := hb.size
      have X := X.next hb
      have W := W.next hb
      have Y := Y.next hb
      have V := V.next hb
      have g6 := g6.below hb (by omega)
      have a3 := a3.keep hb (by omega)
      have b := b.trans (hb.mono b.size)
      clear hb
      clear V0 V1 Vl
      obtain ⟨X0, X1, Xf⟩ := X.c2
      have Xl := X.lt
      clear Xf
      go_wp2_with fail
      (with_reducible refine (toLockC_any _ _ _ _ l1 l2 _ hl1 hl2 (hr.below b b.size)).mono ?_); rintro e w17 ⟨M, M', rfl, hb, hg⟩
      have s_w17 : w16.heap.size ≤ w17.heap.size := hb.size
      have X := X.next hb
      have W := W.next hb
      have Y := Y.next hb
      have V := V.next hb
      have g6 := g6.below hb (by omega)
      have a3 := a3.keep hb (by omega)
      have b := b.trans (hb.mono b.size)
      clear hb
      clear X0 X1 Xl
      go_wp2_with fail
      (with_reducible refine (IA.out _ _ _ _ hg.at_).mono ?_); rintro e w18 ⟨A7, c7, A8, c8, rfl, g7, hb⟩
      clear hg
      have s_w18 : w17.heap.size ≤ w18.heap.size := hb.size
      have X := X.next hb
      have W := W.next hb
      have Y := Y.next hb
      have V := V.next hb
      have g6 := g6.below hb (by omega)
      have a3 := a3.keep hb (by omega)
      have b := b.trans (hb.mono b.size)
      clear hb
      obtain ⟨W0, W1, Wf⟩ := W.c2
      have Wl := W.lt
      clear Wf
      go_wp2_with fail
      clear W0 W1 Wl
      have hA := (Below.refl w18.heap.size w18).alloc (Nat.le_refl _) (.cells #[.slice A7 P.1.length c7, .slice A8 P.2.length c8] 28)
      have U := Box.new (w := w18) (c := #[.slice A7 P.1.length c7, .slice A8 P.2.length c8]) (t := 28) rfl
      have sz_w19 : w18.heap.size < (w18.alloc (.cells #[.slice A7 P.1.length c7, .slice A8 P.2.length c8] 28)).heap.size := by simp
      generalize w18.alloc (.cells #[.slice A7 P.1.length c7, .slice A8 P.2.length c8] 28) = w19 at hA U sz_w19 ⊢
      have s_w19 : w18.heap.size ≤ w19.heap.size := hA.size
      have X := X.next hA
      have W := W.next hA
      have Y := Y.next hA
      have V := V.next hA
      have g6 := g6.below hA (by omega)
      have g7 := g7.below hA (by omega)
      have a3 := a3.keep hA (by omega)
      have b := b.trans (hA.mono b.size)
      clear hA
      (with_reducible refine (eqLock_same _ _ _ _ _ _ _ _ _ _ P _ (by unfold maxLen; omega) (by unfold maxLen; omega) g7.at_ a3).mono ?_); rintro e w20 ⟨rfl, hb⟩
      have s_w20 : w19.heap.size ≤ w20.heap.size := hb.size
      have X := X.next hb
      have W := W.next hb
      have Y := Y.next hb
      have V := V.next hb
      have U := U.next hb
      have g6 := g6.below hb (by omega)
      have g7 := g7.below hb (by omega)
      have a3 := a3.keep hb (by omega)
      have b := b.trans (hb.mono b.size)
      clear hb
      obtain ⟨V0, V1, Vf⟩ := V.c2
      have Vl := V.lt
      clear Vf
      go_wp2_with fail
      (with_reducible refine (heldLock_any _ _ _ _ _ _ _ 1 _ (by omega) (by omega) (by omega) (by omega) (by omega) g6.at_).mono ?_); rintro e w21 ⟨rfl, hb⟩
      have s_w21 : w20.heap.size ≤ w21.heap.size := hb.size
      have X := X.next hb
      have W := W.next hb
      have Y := Y.next hb
      have V := V.next hb
      have U := U.next hb
      have g6 := g6.below hb (by omega)
      have g7 := g7.below hb (by omega)
      have a3 := a3.keep hb (by omega)
      have b := b.trans (hb.mono b.size)
      clear hb
      clear V0 V1 Vl
      go_wp2
      go_ret
      exact ⟨rfl, b⟩
  · go_enter Try.func7, Try.ntmps7
    go_wp2_with fail
    have b0 := (Below.refl w.heap.size w).alloc (Nat.le_refl _) (.cells #[.slice A1 l1.length c1, .slice A2 l2.length c2] 45)
    refine (szLock_no _ _ _ _ _ _ _ hm1 hm2 (by omega)).mono ?_; rintro e w1 ⟨rfl, hb1⟩
    go_wp2
    go_ret
    exact ⟨rfl, b0.trans (hb1.mono b0.size)⟩

set_option maxRecDepth 100000 in
theorem fnExactLeaveLock_lifted (os : Os) (started : os.Started) (H : Type) (enc : TypeId × Value → H) :
    ReturnsInHanded {} Try.checked os 7 .any (Rows.fnExactLeaveLockSpec.pre6 enc Try.prog Try.f7 Rows.fnExactLeaveLockRow.domain false) (Rows.fnExactLeaveLockSpec.post enc Try.prog Try.f7 false true false false) := by
  refine returnsInHanded_of_change (C := Try.checked) own started (by kernel_rfl) Try.func7
    (ChangeSpec.witness6 (enc := enc) (C := Try.checked) false ⟨#[], #[.agg #[.slice none 0 0, .slice none 0 0], .int .i64 0], []⟩ 8 (by kernel_rfl) (by kernel_rfl) (by kernel_rfl) (by kernel_rfl)) ?_
  intro W base args ds gs before hval0 hW _ _
  have hval : ∀ (j : Nat) t v, Try.f7.params[j]? = some t → args[j]? = some v → Value.okWide Try.prog W .any base t v := hval0
  have hW' := hW
  obtain ⟨p, q, hA0, hV, rfl, _, _⟩ := hW
  have hA : DataW.TrodAll enc Try.prog W 0 (fun _ => true) true Try.f7.params.toList args.toList ds p := hA0
  rw [Try.params7] at hA hval
  obtain ⟨v0, vs0, d0, ds0, p0, q0, hargs, rfl, rfl, h0, rr0⟩ := trodAll_cons hA
  obtain ⟨v1, vs1, d1, ds1, p1, q1, rfl, rfl, rfl, h1, rr1⟩ := trodAll_cons rr0
  obtain ⟨rfl, rfl, rfl⟩ := trodAll_nil rr1
  obtain rfl : args = #[v0, v1] := by cases args; simp_all
  obtain ⟨rfl, rfl⟩ := trodVars_none hV
  have k0 := h0
  have lt0 : ∀ x ∈ p0, x.block < W.heap.size := by obtain ⟨m, hm⟩ := k0; exact DataW.trod_lt m _ _ _ hm
  obtain ⟨x0, x1, y0, y1, m0, rfl, rfl, hp0, xh0, xh1⟩ := open_agg2 Try.underlying45 (by kernel_rfl) cellsLockL (hval 0 45 v0 rfl rfl) h0
  obtain ⟨A1, c1, l1, rfl, n1, r1⟩ := open_holds xh0
  obtain ⟨A2, c2, l2, rfl, n2, r2⟩ := open_holds xh1
  have k1 := h1
  have lt1 : ∀ x ∈ p1, x.block < W.heap.size := by obtain ⟨m, hm⟩ := k1; exact DataW.trod_lt m _ _ _ hm
  obtain ⟨za, rfl, rfl, rfl, zwf⟩ := open_int Try.underlying3 (hval 1 3 v1 rfl rfl) h1
  clear hA0 hval0
  refine (fnExactLeaveLock_walk A1 A2 c1 c2 l1 l2 za W n1 n2 r1 r2).mono fun e W' ⟨he, bel⟩ => ?_
  subst he
  exact ⟨_, rfl, _, _, _, [], _, [], hW', trodAll_mk1 (shut_bool Try.underlying4 _), (trodAll_cons_mk (Below.trod laidOut (by kernel_rfl) (of_decide_eq_true (by kernel_rfl)) k0 bel lt0) (trodAll_cons_mk (Below.trod laidOut (by kernel_rfl) (of_decide_eq_true (by kernel_rfl)) k1 bel lt1) (trodAll_mk0))), rfl, bel.frame _, fun h => by cases h⟩

/-- FnExactLeaveLock -/
theorem fnExactLeaveLock_holds : Rows.FnExactLeaveLockSaid :=
  OpenClaim.holds_of_wide 7 Try.f7 rfl rfl rfl rfl rfl rfl rfl ⟨rfl, rfl, rfl, rfl, rfl⟩ rfl rfl rfl rfl rfl (by kernel_rfl) Try.func7 (by kernel_rfl)
    (of_decide_eq_true (by kernel_rfl)) (by unfold Func.isWrapper; first | (rw [if_pos (by decide +kernel)]; kernel_rfl) | (rw [if_neg (by decide +kernel)]; exact ⟨rfl, rfl⟩))
    (fun os started H enc _ => fnExactLeaveLock_lifted os started H enc)
#print axioms fnExactLeaveLock_holds
end Go.Proofs.Ytmdonjkkpkcpnaa
