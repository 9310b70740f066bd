/- FnExactFreeFor: for every argument the program's function answers as the model's, and the argument reads as before. No condition. -/
import Derived.Test.YtmdonjkkpkcpnaaLv1
import Derived.Test.YtmdonjkkpkcpnaaLo
namespace Go.Proofs.Ytmdonjkkpkcpnaa
open Go.ChangeShapes Go.WideShapes Go.ChangeAt Go.RowKit Go.Joins

set_option maxHeartbeats 800000 in
set_option maxRecDepth 100000 in
theorem fnExactFreeFor_walk (A1 A2 : Option Addr) (c1 c2 : Nat) (l1 l2 : HL) (za : Int) (zb : Bool) (w : World) (hm1 : l1.length ≤ maxLen) (hm2 : l2.length ≤ maxLen) (h1 : HAt w w.heap.size A1 l1) (h2 : HAt w w.heap.size A2 l2) :
    Calls Try.prog 9 #[.agg #[.slice A1 l1.length c1, .slice A2 l2.length c2], .int .i64 za, .bool zb] w fun e w' => e = .returned (.bool true) ∧ Below w.heap.size w w' := by
  by_cases hl : l1.length + l2.length ≤ 1048576
  · have hl1 : l1.length ≤ 1048576 := by omega
    have hl2 : l2.length ≤ 1048576 := by omega
    have hsz : ¬ ((1048576 : Int) - l1.length - l2.length < 0) := by omega
    have hr : LAt w w.heap.size A1 A2 (l1, l2) := ⟨h1, h2⟩
    clear h1 h2
    go_enter Try.func9, Try.ntmps9
    go_wp2_with fail
    have X := Box.new (w := w) (c := #[.slice A1 l1.length c1, .slice A2 l2.length c2]) (t := 45) rfl
    have b0 := (Below.refl w.heap.size w).alloc (Nat.le_refl _) (.cells #[.slice A1 l1.length c1, .slice A2 l2.length c2] 45)
    refine (szLock_yes _ _ _ _ _ _ _ hm1 hm2 hl).mono ?_; rintro e w1 ⟨rfl, hb1⟩
    have X := X.next hb1
    have b1 := b0.trans (hb1.mono b0.size)
    obtain ⟨x0, x1, xf⟩ := X.c2
    clear hb1 b0 xf
    go_wp2_with fail
    refine (toLock_any _ _ _ _ l1 l2 _ hl1 hl2 (hr.below b1 b1.size)).mono ?_; rintro e w2 ⟨G, d, G', d', rfl, hb2, hg⟩
    have X := X.next hb2
    have b2 := b1.trans (hb2.mono b1.size)
    clear hb2 b1 x0 x1
    go_wp2_with fail
    refine (specFree_any _ _ _ _ _ l1 l2 za zb _ hl1 hl2 hg.at_).mono ?_; rintro e w3 ⟨rfl, hb3⟩
    have X := X.next hb3
    have b3 := b2.trans (hb3.mono b2.size)
    obtain ⟨x0, x1, xf⟩ := X.c2
    clear hb3 hg b2 xf
    go_wp2_with fail
    refine (toLock_any _ _ _ _ l1 l2 _ hl1 hl2 (hr.below b3 b3.size)).mono ?_; rintro e w4 ⟨K, k, K', k', rfl, hb4, hx⟩
    have X := X.next hb4
    have b4 := b3.trans (hb4.mono b3.size)
    have Y := Box.new (w := w4) (c := #[.slice K l1.length k, .slice K' l2.length k']) (t := 28) rfl
    have hb4' := hb4.alloc hb4.size (.cells #[.slice K l1.length k, .slice K' l2.length k'] 28)
    have b4' := b3.trans (hb4'.mono b3.size)
    have hx' := hx.below ((Below.refl w4.heap.size w4).alloc (Nat.le_refl _) (.cells #[.slice K l1.length k, .slice K' l2.length k'] 28)) (Nat.le_refl _)
    have X' := X.alloc (.cells #[.slice K l1.length k, .slice K' l2.length k'] 28)
    clear hb4 hb4' b3 x0 x1 X b4 hx
    go_wp2_with fail
    refine (implFree_any _ _ _ _ _ l1 l2 za zb _ hl1 hl2 hx'.at_).mono ?_; rintro e w5 ⟨rfl, hb5⟩
    have X := X'.next hb5
    have Y := Y.next hb5
    have b5 := b4'.trans (hb5.mono b4'.size)
    have hx := hx'.below hb5 (by simp)
    have hs45 : w4.heap.size ≤ w5.heap.size := by have := hb5.size; simp at this; omega
    obtain ⟨x0, x1, xf⟩ := X.c2
    obtain ⟨y0, y1, yf⟩ := Y.c2
    have hltY := Y.lt
    clear hb5 b4' hx' X' xf yf
    have Yd := Lib.hid Y.drew
    have hxd := Lib.hid (hx.below ((Below.refl w5.heap.size w5).drew) hs45)
    have b6 := Lib.hid b5.drew
    have hrd := Lib.hid (hr.below b5.drew b5.size)
    generalize tryB l1 l2 za zb = ans
    clear hx Y b5 hr X
    go_wp2_with fail
    go_region_law (first | (go_simp; go_at_call 26; refine (toLock_any _ _ _ _ l1 l2 _ hl1 hl2 hrd.out).mono ?_; rintro o w6 ⟨M, m, M', m', rfl, hb6, hy⟩; obtain ⟨z0, z1, zf⟩ := (Yd.out.next hb6).c2) | (go_simp; go_at_call 27; refine (eqLock_same _ _ _ _ _ _ _ _ _ _ (l1, l2) _ hm1 hm2 (hxd.out.below hb6 hs45).at_ hy.at_).mono ?_; rintro o w7 ⟨rfl, hb7⟩))
    all_goals
      have b7 := b6.out.trans ((hb6.trans (hb7.mono hb6.size)).mono b6.out.size)
      clear z0 z1 zf y0 y1 x0 x1 hb6 hb7 hy
      go_wp2
      go_ret
      exact ⟨rfl, b7⟩
  · go_enter Try.func9, Try.ntmps9
    go_wp2_with fail
    have b0 := (Below.refl w.heap.size w).alloc (Nat.le_refl _) (.cells #[.slice A1 l1.length c1, .slice A2 l2.length c2] 45)
    refine (szLock_no _ _ _ _ _ _ _ hm1 hm2 (by omega)).mono ?_; rintro e w1 ⟨rfl, hb1⟩
    go_wp2
    go_ret
    exact ⟨rfl, b0.trans (hb1.mono b0.size)⟩

set_option maxRecDepth 100000 in
theorem fnExactFreeFor_lifted (os : Os) (started : os.Started) (H : Type) (enc : TypeId × Value → H) :
    ReturnsInHanded {} Try.checked os 9 .any (Rows.fnExactFreeForSpec.pre6 enc Try.prog Try.f9 Rows.fnExactFreeForRow.domain false) (Rows.fnExactFreeForSpec.post enc Try.prog Try.f9 false true false false) := by
  refine returnsInHanded_of_change (C := Try.checked) own started (by kernel_rfl) Try.func9
    (ChangeSpec.witness6 (enc := enc) (C := Try.checked) false ⟨#[], #[.agg #[.slice none 0 0, .slice none 0 0], .int .i64 0, .bool false], []⟩ 8 (by kernel_rfl) (by kernel_rfl) (by kernel_rfl) (by kernel_rfl)) ?_
  intro W base args ds gs before hval0 hW _ _
  have hval : ∀ (j : Nat) t v, Try.f9.params[j]? = some t → args[j]? = some v → Value.okWide Try.prog W .any base t v := hval0
  have hW' := hW
  obtain ⟨p, q, hA0, hV, rfl, _, _⟩ := hW
  have hA : DataW.TrodAll enc Try.prog W 0 (fun _ => true) true Try.f9.params.toList args.toList ds p := hA0
  rw [Try.params9] at hA hval
  obtain ⟨v0, vs0, d0, ds0, p0, q0, hargs, rfl, rfl, h0, rr0⟩ := trodAll_cons hA
  obtain ⟨v1, vs1, d1, ds1, p1, q1, rfl, rfl, rfl, h1, rr1⟩ := trodAll_cons rr0
  obtain ⟨v2, vs2, d2, ds2, p2, q2, rfl, rfl, rfl, h2, rr2⟩ := trodAll_cons rr1
  obtain ⟨rfl, rfl, rfl⟩ := trodAll_nil rr2
  obtain rfl : args = #[v0, v1, v2] := by cases args; simp_all
  obtain ⟨rfl, rfl⟩ := trodVars_none hV
  have k0 := h0
  have lt0 : ∀ x ∈ p0, x.block < W.heap.size := by obtain ⟨m, hm⟩ := k0; exact DataW.trod_lt m _ _ _ hm
  obtain ⟨x0, x1, y0, y1, m0, rfl, rfl, hp0, xh0, xh1⟩ := open_agg2 Try.underlying45 (by kernel_rfl) cellsLockL (hval 0 45 v0 rfl rfl) h0
  obtain ⟨A1, c1, l1, rfl, n1, r1⟩ := open_holds xh0
  obtain ⟨A2, c2, l2, rfl, n2, r2⟩ := open_holds xh1
  have k1 := h1
  have lt1 : ∀ x ∈ p1, x.block < W.heap.size := by obtain ⟨m, hm⟩ := k1; exact DataW.trod_lt m _ _ _ hm
  obtain ⟨za, rfl, rfl, rfl, zwf⟩ := open_int Try.underlying3 (hval 1 3 v1 rfl rfl) h1
  have k2 := h2
  have lt2 : ∀ x ∈ p2, x.block < W.heap.size := by obtain ⟨m, hm⟩ := k2; exact DataW.trod_lt m _ _ _ hm
  obtain ⟨zb, rfl, rfl, rfl⟩ := open_bool Try.underlying4 (hval 2 4 v2 rfl rfl) h2
  clear hA0 hval0
  refine (fnExactFreeFor_walk A1 A2 c1 c2 l1 l2 za zb W n1 n2 r1 r2).mono fun e W' ⟨he, bel⟩ => ?_
  subst he
  exact ⟨_, rfl, _, _, _, [], _, [], hW', trodAll_mk1 (shut_bool Try.underlying4 _), (trodAll_cons_mk (Below.trod laidOut (by kernel_rfl) (of_decide_eq_true (by kernel_rfl)) k0 bel lt0) (trodAll_cons_mk (Below.trod laidOut (by kernel_rfl) (of_decide_eq_true (by kernel_rfl)) k1 bel lt1) (trodAll_cons_mk (Below.trod laidOut (by kernel_rfl) (of_decide_eq_true (by kernel_rfl)) k2 bel lt2) (trodAll_mk0)))), rfl, bel.frame _, fun h => by cases h⟩

/-- FnExactFreeFor -/
theorem fnExactFreeFor_holds : Rows.FnExactFreeForSaid :=
  OpenClaim.holds_of_wide 9 Try.f9 rfl rfl rfl rfl rfl rfl rfl ⟨rfl, rfl, rfl, rfl, rfl⟩ rfl rfl rfl rfl rfl (by kernel_rfl) Try.func9 (by kernel_rfl)
    (of_decide_eq_true (by kernel_rfl)) (by unfold Func.isWrapper; first | (rw [if_pos (by decide +kernel)]; kernel_rfl) | (rw [if_neg (by decide +kernel)]; exact ⟨rfl, rfl⟩))
    (fun os started H enc _ => fnExactFreeFor_lifted os started H enc)
#print axioms fnExactFreeFor_holds
end Go.Proofs.Ytmdonjkkpkcpnaa
