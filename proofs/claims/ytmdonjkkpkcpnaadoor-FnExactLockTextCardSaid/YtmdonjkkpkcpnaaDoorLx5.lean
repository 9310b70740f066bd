/- FnExactLockText, walked. -/
import Derived.Test.YtmdonjkkpkcpnaaDoorLx4
namespace Go.Proofs.YtmdonjkkpkcpnaaDoor
open Go.RowKit

set_option maxHeartbeats 800000 in
set_option maxRecDepth 100000 in
theorem fnExactLockText_walk (A1 A2 : Option Addr) (c1 c2 : Nat) (l1 l2 : HL) (w : World) (hm1 : l1.length ≤ maxLen) (hm2 : l2.length ≤ maxLen) (h1 : HAt w w.heap.size A1 l1) (h2 : HAt w w.heap.size A2 l2) :
    Calls Tryd.prog 3 #[.agg #[.slice A1 l1.length c1, .slice A2 l2.length c2]] w fun e w' => e = .returned (.bool true) ∧ Below w.heap.size w w' := by
  by_cases hl : l1.length + l2.length ≤ 1048576
  · have hl1 : l1.length ≤ 1048576 := by omega
    have hl2 : l2.length ≤ 1048576 := by omega
    have hsz : ¬ ((1048576 : Int) - l1.length - l2.length < 0) := by omega
    have hr : LAt w w.heap.size A1 A2 (l1, l2) := ⟨h1, h2⟩
    clear h1 h2
    go_enter Tryd.func3, Tryd.ntmps3
    go_wp2_with fail
    have X := Box.new (w := w) (c := #[.slice A1 l1.length c1, .slice A2 l2.length c2]) (t := 24) rfl
    have b0 := (Below.refl w.heap.size w).alloc (Nat.le_refl _) (.cells #[.slice A1 l1.length c1, .slice A2 l2.length c2] 24)
    refine (szLock_yes _ _ _ _ _ _ _ hm1 hm2 hl).mono ?_; rintro e w1 ⟨rfl, hb1⟩
    have X := X.next hb1
    have b1 := b0.trans (hb1.mono b0.size)
    obtain ⟨x0, x1, xf⟩ := X.c2
    clear hb1 b0 xf
    go_wp2_with fail
    refine (toLock_any _ _ _ _ l1 l2 _ hl1 hl2 (hr.below b1 b1.size)).mono ?_; rintro e w2 ⟨G, d, G', d', rfl, hb2, hg⟩
    have X := X.next hb2
    have b2 := b1.trans (hb2.mono b1.size)
    clear hb2 b1 x0 x1
    go_wp2_with fail
    refine (specLockText_any _ _ _ _ _ l1 l2 _ hl1 hl2 hg.at_).mono ?_; rintro e w3 ⟨rfl, hb3⟩
    have X := X.next hb3
    have b3 := b2.trans (hb3.mono b2.size)
    obtain ⟨x0, x1, xf⟩ := X.c2
    clear hb3 hg b2 xf
    go_wp2_with fail
    refine (toLock_any _ _ _ _ l1 l2 _ hl1 hl2 (hr.below b3 b3.size)).mono ?_; rintro e w4 ⟨K, k, K', k', rfl, hb4, hx⟩
    have X := X.next hb4
    have b4 := b3.trans (hb4.mono b3.size)
    have Y := Box.new (w := w4) (c := #[.slice K l1.length k, .slice K' l2.length k']) (t := 29) rfl
    have hb4' := hb4.alloc hb4.size (.cells #[.slice K l1.length k, .slice K' l2.length k'] 29)
    have b4' := b3.trans (hb4'.mono b3.size)
    have hx' := hx.below ((Below.refl w4.heap.size w4).alloc (Nat.le_refl _) (.cells #[.slice K l1.length k, .slice K' l2.length k'] 29)) (Nat.le_refl _)
    have X' := X.alloc (.cells #[.slice K l1.length k, .slice K' l2.length k'] 29)
    clear hb4 hb4' b3 x0 x1 X b4 hx
    go_wp2_with fail
    refine (implLockText_any _ _ _ _ _ l1 l2 _ hl1 hl2 hx'.at_).mono ?_; rintro e w5 ⟨rfl, hb5⟩
    have X := X'.next hb5
    have Y := Y.next hb5
    have b5 := b4'.trans (hb5.mono b4'.size)
    have hx := hx'.below hb5 (by simp)
    have hs45 : w4.heap.size ≤ w5.heap.size := by have := hb5.size; simp at this; omega
    obtain ⟨x0, x1, xf⟩ := X.c2
    obtain ⟨y0, y1, yf⟩ := Y.c2
    have hltY := Y.lt
    clear hb5 b4' hx' X' xf yf
    have Yd := Lib.hid Y.drew
    have hxd := Lib.hid (hx.below ((Below.refl w5.heap.size w5).drew) hs45)
    have b6 := Lib.hid b5.drew
    have hrd := Lib.hid (hr.below b5.drew b5.size)
    generalize (⟨(lockT l1 l2).toArray⟩ : ByteArray) = ans
    clear hx Y b5 hr X
    go_wp2_with fail
    go_region_law (first | (go_simp; go_at_call 6; refine (toLock_any _ _ _ _ l1 l2 _ hl1 hl2 hrd.out).mono ?_; rintro o w6 ⟨M, m, M', m', rfl, hb6, hy⟩; obtain ⟨z0, z1, zf⟩ := (Yd.out.next hb6).c2) | (go_simp; go_at_call 8; refine (eqLock_same _ _ _ _ _ _ _ _ _ _ (l1, l2) _ hm1 hm2 (hxd.out.below hb6 hs45).at_ hy.at_).mono ?_; rintro o w7 ⟨rfl, hb7⟩))
    all_goals
      have b7 := b6.out.trans ((hb6.trans (hb7.mono hb6.size)).mono b6.out.size)
      clear z0 z1 zf y0 y1 x0 x1 hb6 hb7 hy
      go_wp2
      go_ret
      exact ⟨rfl, b7⟩
  · go_enter Tryd.func3, Tryd.ntmps3
    go_wp2_with fail
    have b0 := (Below.refl w.heap.size w).alloc (Nat.le_refl _) (.cells #[.slice A1 l1.length c1, .slice A2 l2.length c2] 24)
    refine (szLock_no _ _ _ _ _ _ _ hm1 hm2 (by omega)).mono ?_; rintro e w1 ⟨rfl, hb1⟩
    go_wp2
    go_ret
    exact ⟨rfl, b0.trans (hb1.mono b0.size)⟩

end Go.Proofs.YtmdonjkkpkcpnaaDoor
