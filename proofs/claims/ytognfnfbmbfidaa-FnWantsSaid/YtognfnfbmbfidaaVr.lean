/- WarmKey of the program. -/
import Derived.Test.YtognfnfbmbfidaaVq
import Derived.Lib.MinMax
namespace Go.Proofs.Ytognfnfbmbfidaa
open Go.RowKit

def bump (f : Nat → Int) (k : Nat) (y : Int) (j : Nat) : Int := if j = k then f k + y else f j
theorem Box.put8 {w : World} {b : Nat} {a0 a1 a2 a3 a4 a5 a6 a7 : Value} (g : Nat → Int) (h : Box w b [a0, a1, a2, a3, a4, a5, a6, a7]) :
    Box ((((((((w.setCell ⟨b, 0, none⟩ (.int .i64 (g 0))).setCell ⟨b, 1, none⟩ (.int .i64 (g 1))).setCell ⟨b, 2, none⟩ (.int .i64 (g 2))).setCell ⟨b, 3, none⟩ (.int .i64 (g 3))).setCell ⟨b, 4, none⟩ (.int .i64 (g 4))).setCell ⟨b, 5, none⟩ (.int .i64 (g 5))).setCell ⟨b, 6, none⟩ (.int .i64 (g 6))).setCell ⟨b, 7, none⟩ (.int .i64 (g 7))) b [.int .i64 (g 0), .int .i64 (g 1), .int .i64 (g 2), .int .i64 (g 3), .int .i64 (g 4), .int .i64 (g 5), .int .i64 (g 6), .int .i64 (g 7)] :=
  (((((((h.set (j := 0) (.int .i64 (g 0)) (by simp)).set (j := 1) (.int .i64 (g 1)) (by simp)).set (j := 2) (.int .i64 (g 2)) (by simp)).set (j := 3) (.int .i64 (g 3)) (by simp)).set (j := 4) (.int .i64 (g 4)) (by simp)).set (j := 5) (.int .i64 (g 5)) (by simp)).set (j := 6) (.int .i64 (g 6)) (by simp)).set (j := 7) (.int .i64 (g 7)) (by simp)
theorem Box.ownI {w : World} {b lo : Nat} {g : Nat → Int} (h : Box w b [.int .i64 (g 0), .int .i64 (g 1), .int .i64 (g 2), .int .i64 (g 3), .int .i64 (g 4), .int .i64 (g 5), .int .i64 (g 6), .int .i64 (g 7)]) (hl : lo ≤ b) : OwnI w lo w.heap.size (some ⟨b, 0, none⟩) 8 g := fun _ =>
  ⟨b, 0, rfl, hl, h.lt, fun j hj => by
    rw [Nat.zero_add]
    refine ⟨?_, h.free j⟩
    have h8 : j = 0 ∨ j = 1 ∨ j = 2 ∨ j = 3 ∨ j = 4 ∨ j = 5 ∨ j = 6 ∨ j = 7 := by omega
    rcases h8 with rfl | rfl | rfl | rfl | rfl | rfl | rfl | rfl
    · exact h.cell 0 _ rfl
    · exact h.cell 1 _ rfl
    · exact h.cell 2 _ rfl
    · exact h.cell 3 _ rfl
    · exact h.cell 4 _ rfl
    · exact h.cell 5 _ rfl
    · exact h.cell 6 _ rfl
    · exact h.cell 7 _ rfl⟩
set_option maxHeartbeats 1600000 in
set_option maxRecDepth 100000 in
theorem implWarm_any (g0 o0 n cap B : Nat) (f : Nat → Int) (x y : Int) (w : World) (hn : n ≤ 1048576) (hB : B ≤ w.heap.size) (hr : IntsAt w B (some ⟨g0, o0, none⟩) n f) :
    Calls Try.prog 32 #[.slice (some ⟨g0, o0, none⟩) n cap, .int .i64 x, .int .i64 y] w (RetI w n (warmF n f x y) (mkB (warmB n f x y))) := by
  go_enter Try.func32, Try.ntmps32
  go_wp2_with fail
  refine (heatFrom_any _ n cap B f _ hB hr).mono ?_; rintro e w1 ⟨rfl, b1⟩
  have r1 := hr.below (b1.mono hB) (Nat.le_refl _)
  have hB1 : B ≤ w1.heap.size := by have := b1.size; omega
  clear hr
  have bz := b1.alloc b1.size (.cells #[.int .i64 (heatV n f 0), .int .i64 (heatV n f 1), .int .i64 (heatV n f 2), .int .i64 (heatV n f 3), .int .i64 (heatV n f 4), .int .i64 (heatV n f 5), .int .i64 (heatV n f 6), .int .i64 (heatV n f 7)] 75)
  have X := Box.new (w := w1) (b := w1.heap.size) (c := #[.int .i64 (heatV n f 0), .int .i64 (heatV n f 1), .int .i64 (heatV n f 2), .int .i64 (heatV n f 3), .int .i64 (heatV n f 4), .int .i64 (heatV n f 5), .int .i64 (heatV n f 6), .int .i64 (heatV n f 7)]) (t := 75) rfl
  have rz := r1.below ((Below.refl B w1).alloc hB1 (.cells #[.int .i64 (heatV n f 0), .int .i64 (heatV n f 1), .int .i64 (heatV n f 2), .int .i64 (heatV n f 3), .int .i64 (heatV n f 4), .int .i64 (heatV n f 5), .int .i64 (heatV n f 6), .int .i64 (heatV n f 7)] 75)) (Nat.le_refl _)
  have hBz : B ≤ (w1.alloc (.cells #[.int .i64 (heatV n f 0), .int .i64 (heatV n f 1), .int .i64 (heatV n f 2), .int .i64 (heatV n f 3), .int .i64 (heatV n f 4), .int .i64 (heatV n f 5), .int .i64 (heatV n f 6), .int .i64 (heatV n f 7)] 75)).heap.size := by simp; omega
  have hsz := b1.size
  clear b1 r1
  cases hh : heatB n f with
  | false =>
    have HW := Lib.hid (show warmB n f x y = false by simp [warmB, hh])
    go_wp2_with fail
    generalize w1.alloc (.cells #[.int .i64 (heatV n f 0), .int .i64 (heatV n f 1), .int .i64 (heatV n f 2), .int .i64 (heatV n f 3), .int .i64 (heatV n f 4), .int .i64 (heatV n f 5), .int .i64 (heatV n f 6), .int .i64 (heatV n f 7)] 75) = wz at bz rz hBz X ⊢
    clear X
    refine (cloneZ_any g0 o0 n cap f _ hn (fun h0 => by obtain ⟨b, off, e, hb, _⟩ := rz h0; injection e with e; injection e with e1 e2 _; omega) (fun j hj => by obtain ⟨b, off, e, hb, hc⟩ := rz (by omega); injection e with e; injection e with e1 e2 _; subst e1 e2; exact hc j hj)).mono ?_; rintro e w2 h1
    obtain ⟨G, gc, rfl, hO, b2⟩ := copy_own h1
    have bb := bz.trans (b2.mono bz.size)
    have hl := bz.size
    clear h1 rz b2 bz
    go_wp2
    go_ret2
    rw [HW.out]
    exact ⟨_, _, rfl, (hO.more hl (Nat.le_refl _)).congr (fun j _ => (warmF_no HW.out j).symm), bb⟩
  | true =>
    have h8 := heatB_len hh
    subst h8
    have hv : ∀ j, heatV 8 f j = f j := fun j => if_pos rfl
    simp only [hv] at bz X rz hBz ⊢
    clear hv
    go_wp2_with fail
    refine (implKey_any _ _).mono ?_; rintro e w' ⟨rfl, rfl⟩
    cases hx : inB x 0 7 with
    | false =>
      have HW := Lib.hid (show warmB 8 f x y = false by simp [warmB, hx])
      go_wp2_with fail
      generalize w1.alloc (.cells #[.int .i64 (f 0), .int .i64 (f 1), .int .i64 (f 2), .int .i64 (f 3), .int .i64 (f 4), .int .i64 (f 5), .int .i64 (f 6), .int .i64 (f 7)] 75) = wz at bz rz hBz X ⊢
      clear X
      refine (cloneZ_any g0 o0 8 cap f _ hn (fun h0 => by obtain ⟨b, off, e, hb, _⟩ := rz h0; injection e with e; injection e with e1 e2 _; omega) (fun j hj => by obtain ⟨b, off, e, hb, hc⟩ := rz (by omega); injection e with e; injection e with e1 e2 _; subst e1 e2; exact hc j hj)).mono ?_; rintro e w2 h1
      obtain ⟨G, gc, rfl, hO, b2⟩ := copy_own h1
      have bb := bz.trans (b2.mono bz.size)
      have hl := bz.size
      clear h1 rz b2 bz
      go_wp2
      go_ret2
      rw [HW.out]
      exact ⟨_, _, rfl, (hO.more hl (Nat.le_refl _)).congr (fun j _ => (warmF_no HW.out j).symm), bb⟩
    | true =>
      go_wp2_with fail
      refine (implLevel_any _ _).mono ?_; rintro e w' ⟨rfl, rfl⟩
      cases hy : inB y 0 20 with
      | false =>
        have HW := Lib.hid (show warmB 8 f x y = false by simp [warmB, hy])
        go_wp2_with fail
        generalize w1.alloc (.cells #[.int .i64 (f 0), .int .i64 (f 1), .int .i64 (f 2), .int .i64 (f 3), .int .i64 (f 4), .int .i64 (f 5), .int .i64 (f 6), .int .i64 (f 7)] 75) = wz at bz rz hBz X ⊢
        clear X
        refine (cloneZ_any g0 o0 8 cap f _ hn (fun h0 => by obtain ⟨b, off, e, hb, _⟩ := rz h0; injection e with e; injection e with e1 e2 _; omega) (fun j hj => by obtain ⟨b, off, e, hb, hc⟩ := rz (by omega); injection e with e; injection e with e1 e2 _; subst e1 e2; exact hc j hj)).mono ?_; rintro e w2 h1
        obtain ⟨G, gc, rfl, hO, b2⟩ := copy_own h1
        have bb := bz.trans (b2.mono bz.size)
        have hl := bz.size
        clear h1 rz b2 bz
        go_wp2
        go_ret2
        rw [HW.out]
        exact ⟨_, _, rfl, (hO.more hl (Nat.le_refl _)).congr (fun j _ => (warmF_no HW.out j).symm), bb⟩
      | true =>
        have hW : warmB 8 f x y = true := by simp [warmB, hh, hx, hy]
        have hxx : 0 ≤ x ∧ x ≤ 7 := by simpa [inB] using hx
        have hyy : 0 ≤ y ∧ y ≤ 20 := by simpa [inB] using hy
        obtain ⟨k, rfl⟩ := Int.eq_ofNat_of_zero_le hxx.1
        have hk8 : k < 8 := by omega
        have hkz : (k : Int) < 8 := by omega
        obtain ⟨y1, y2⟩ := hyy
        obtain ⟨fr1, fr2⟩ := heatB_get hh hk8
        generalize w1.heap.size = b0 at hsz X ⊢
        generalize w1.alloc (.cells #[.int .i64 (f 0), .int .i64 (f 1), .int .i64 (f 2), .int .i64 (f 3), .int .i64 (f 4), .int .i64 (f 5), .int .i64 (f 6), .int .i64 (f 7)] 75) = wz at bz X ⊢
        have X2 := Lib.hid (X.set (j := k) (.int .i64 (f k + y)) (by simp; omega))
        have B2 := Lib.hid (bz.setCell (p := ⟨b0, k, none⟩) hsz (.int .i64 (f k + y)))
        obtain ⟨x0, x1, x2, x3, x4, x5, x6, x7, xf, xl⟩ := X.c8
        clear rz hBz X bz
        have HWF := Lib.hid (show ∀ j, j < 8 → lim (bump f k y j) = warmF 8 f k y j from fun j hj => by
          unfold warmF bump
          rw [if_pos hW]
          by_cases e : j = k
          · subst e; simp
          · have e' : ¬ (j : Int) = k := by omega
            rw [if_neg e, if_neg e']
            exact lim_in (by have := heatB_get hh hj; simp [inB, this]))
        have HW := Lib.hid hW
        clear hW hx hy hh hxx
        have h8 : k = 0 ∨ k = 1 ∨ k = 2 ∨ k = 3 ∨ k = 4 ∨ k = 5 ∨ k = 6 ∨ k = 7 := by omega
        rcases h8 with rfl | rfl | rfl | rfl | rfl | rfl | rfl | rfl
        · go_wp2_with fail
          refine (within_any (bump f 0 y) _).mono ?_; rintro e w6 ⟨rfl, hb6⟩
          have X6 := X2.out.next hb6
          have B6 := B2.out.trans (hb6.mono B2.out.size)
          obtain ⟨q0, q1, q2, q3, q4, q5, q6, q7, qf, ql⟩ := X6.c8
          have P := Lib.hid (Box.put8 (fun j => lim (bump f 0 y j)) X6)
          have B6 := Lib.hid B6
          clear x0 x1 x2 x3 x4 x5 x6 x7 xf xl X2 B2 hb6 X6
          go_wp2
          go_ret2
          rw [HW.out]
          refine ⟨_, _, rfl, (P.out.ownI hsz).congr HWF.out, ?_⟩
          repeat' (refine Below.setCell ?_ hsz _)
          exact B6.out
        · go_wp2_with fail
          refine (within_any (bump f 1 y) _).mono ?_; rintro e w6 ⟨rfl, hb6⟩
          have X6 := X2.out.next hb6
          have B6 := B2.out.trans (hb6.mono B2.out.size)
          obtain ⟨q0, q1, q2, q3, q4, q5, q6, q7, qf, ql⟩ := X6.c8
          have P := Lib.hid (Box.put8 (fun j => lim (bump f 1 y j)) X6)
          have B6 := Lib.hid B6
          clear x0 x1 x2 x3 x4 x5 x6 x7 xf xl X2 B2 hb6 X6
          go_wp2
          go_ret2
          rw [HW.out]
          refine ⟨_, _, rfl, (P.out.ownI hsz).congr HWF.out, ?_⟩
          repeat' (refine Below.setCell ?_ hsz _)
          exact B6.out
        · go_wp2_with fail
          refine (within_any (bump f 2 y) _).mono ?_; rintro e w6 ⟨rfl, hb6⟩
          have X6 := X2.out.next hb6
          have B6 := B2.out.trans (hb6.mono B2.out.size)
          obtain ⟨q0, q1, q2, q3, q4, q5, q6, q7, qf, ql⟩ := X6.c8
          have P := Lib.hid (Box.put8 (fun j => lim (bump f 2 y j)) X6)
          have B6 := Lib.hid B6
          clear x0 x1 x2 x3 x4 x5 x6 x7 xf xl X2 B2 hb6 X6
          go_wp2
          go_ret2
          rw [HW.out]
          refine ⟨_, _, rfl, (P.out.ownI hsz).congr HWF.out, ?_⟩
          repeat' (refine Below.setCell ?_ hsz _)
          exact B6.out
        · go_wp2_with fail
          refine (within_any (bump f 3 y) _).mono ?_; rintro e w6 ⟨rfl, hb6⟩
          have X6 := X2.out.next hb6
          have B6 := B2.out.trans (hb6.mono B2.out.size)
          obtain ⟨q0, q1, q2, q3, q4, q5, q6, q7, qf, ql⟩ := X6.c8
          have P := Lib.hid (Box.put8 (fun j => lim (bump f 3 y j)) X6)
          have B6 := Lib.hid B6
          clear x0 x1 x2 x3 x4 x5 x6 x7 xf xl X2 B2 hb6 X6
          go_wp2
          go_ret2
          rw [HW.out]
          refine ⟨_, _, rfl, (P.out.ownI hsz).congr HWF.out, ?_⟩
          repeat' (refine Below.setCell ?_ hsz _)
          exact B6.out
        · go_wp2_with fail
          refine (within_any (bump f 4 y) _).mono ?_; rintro e w6 ⟨rfl, hb6⟩
          have X6 := X2.out.next hb6
          have B6 := B2.out.trans (hb6.mono B2.out.size)
          obtain ⟨q0, q1, q2, q3, q4, q5, q6, q7, qf, ql⟩ := X6.c8
          have P := Lib.hid (Box.put8 (fun j => lim (bump f 4 y j)) X6)
          have B6 := Lib.hid B6
          clear x0 x1 x2 x3 x4 x5 x6 x7 xf xl X2 B2 hb6 X6
          go_wp2
          go_ret2
          rw [HW.out]
          refine ⟨_, _, rfl, (P.out.ownI hsz).congr HWF.out, ?_⟩
          repeat' (refine Below.setCell ?_ hsz _)
          exact B6.out
        · go_wp2_with fail
          refine (within_any (bump f 5 y) _).mono ?_; rintro e w6 ⟨rfl, hb6⟩
          have X6 := X2.out.next hb6
          have B6 := B2.out.trans (hb6.mono B2.out.size)
          obtain ⟨q0, q1, q2, q3, q4, q5, q6, q7, qf, ql⟩ := X6.c8
          have P := Lib.hid (Box.put8 (fun j => lim (bump f 5 y j)) X6)
          have B6 := Lib.hid B6
          clear x0 x1 x2 x3 x4 x5 x6 x7 xf xl X2 B2 hb6 X6
          go_wp2
          go_ret2
          rw [HW.out]
          refine ⟨_, _, rfl, (P.out.ownI hsz).congr HWF.out, ?_⟩
          repeat' (refine Below.setCell ?_ hsz _)
          exact B6.out
        · go_wp2_with fail
          refine (within_any (bump f 6 y) _).mono ?_; rintro e w6 ⟨rfl, hb6⟩
          have X6 := X2.out.next hb6
          have B6 := B2.out.trans (hb6.mono B2.out.size)
          obtain ⟨q0, q1, q2, q3, q4, q5, q6, q7, qf, ql⟩ := X6.c8
          have P := Lib.hid (Box.put8 (fun j => lim (bump f 6 y j)) X6)
          have B6 := Lib.hid B6
          clear x0 x1 x2 x3 x4 x5 x6 x7 xf xl X2 B2 hb6 X6
          go_wp2
          go_ret2
          rw [HW.out]
          refine ⟨_, _, rfl, (P.out.ownI hsz).congr HWF.out, ?_⟩
          repeat' (refine Below.setCell ?_ hsz _)
          exact B6.out
        · go_wp2_with fail
          refine (within_any (bump f 7 y) _).mono ?_; rintro e w6 ⟨rfl, hb6⟩
          have X6 := X2.out.next hb6
          have B6 := B2.out.trans (hb6.mono B2.out.size)
          obtain ⟨q0, q1, q2, q3, q4, q5, q6, q7, qf, ql⟩ := X6.c8
          have P := Lib.hid (Box.put8 (fun j => lim (bump f 7 y j)) X6)
          have B6 := Lib.hid B6
          clear x0 x1 x2 x3 x4 x5 x6 x7 xf xl X2 B2 hb6 X6
          go_wp2
          go_ret2
          rw [HW.out]
          refine ⟨_, _, rfl, (P.out.ownI hsz).congr HWF.out, ?_⟩
          repeat' (refine Below.setCell ?_ hsz _)
          exact B6.out
end Go.Proofs.Ytognfnfbmbfidaa
