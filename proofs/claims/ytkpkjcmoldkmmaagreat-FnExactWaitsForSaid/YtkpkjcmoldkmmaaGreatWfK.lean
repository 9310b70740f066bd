/- FnExactWaitsFor: for every argument the program's function answers as the model's, its answer owns its memory, and the arguments read as before. No condition. -/
import Derived.Test.YtkpkjcmoldkmmaaGreatWfI
import Derived.Test.YtkpkjcmoldkmmaaGreatWfJ
import Derived.Test.YtkpkjcmoldkmmaaGreatWfC
import Derived.Test.YtkpkjcmoldkmmaaGreatGoo
import Derived.Deep.RegionLaw
namespace Go.Proofs.YtkpkjcmoldkmmaaGreat
open Go.RowKit

theorem adl_Wait : ∀ l : List DWait, adl ad_Wait l = 2 * (l.length : Int)
  | [] => rfl
  | a :: l => by
    have h := adl_Wait l
    unfold adl at *
    rw [List.map_cons, List.sum_cons, h, List.length_cons]
    unfold ad_Wait
    omega
theorem waitsL_ub (d : DEngine) : adl ad_Wait (waitsL d) ≤ 1000 := by
  rw [adl_Wait]
  cases h : engOk d with
  | false => rw [waits_no h]; decide
  | true => have := waits_len h; omega
end Go.Proofs.YtkpkjcmoldkmmaaGreat

namespace Go.Proofs.YtkpkjcmoldkmmaaGreat
open Go.ChangeShapes Go.WideShapes Go.ChangeAt Go.RowKit Go.Joins

set_option maxHeartbeats 12800000 in
set_option maxRecDepth 100000 in
theorem fnExactWaitsFor_walk (d : DEngine) (vs : List Value) (w : World) (hr : fEngine.At w w.heap.size d vs) :
    Calls Tryz.prog 4 #[.agg vs.toArray] w fun e w' => e = .returned (.bool true) ∧ Below w.heap.size w w' := by
  have HR := Lib.hid hr
  obtain ⟨A5, c5, A6, c6, A7, c7, A10, c10, rfl, _, _, _, _⟩ := at_Engine hr
  clear hr
  by_cases hs : fEngine.cnt d ≤ 1048576
  · go_enter Tryz.func4, Tryz.ntmps4
    go_wp2_with fail
    have b := (Below.refl w.heap.size w).alloc (Nat.le_refl _) (.cells #[.int .i64 d.1.1, .int .i64 d.1.2.1, .int .i64 d.1.2.2.1, .bool d.1.2.2.2.1, .int .i64 d.1.2.2.2.2, .slice A5 (d.2.1).length c5, .slice A6 (d.2.2.1).length c6, .slice A7 (d.2.2.2.1).length c7, .int .i64 d.2.2.2.2.1, .int .i64 d.2.2.2.2.2.1, .slice A10 (d.2.2.2.2.2.2.1).length c10, .int .i64 d.2.2.2.2.2.2.2.1, .int .i64 d.2.2.2.2.2.2.2.2] 31)
    have X := Bx.new (w := w) (c := #[.int .i64 d.1.1, .int .i64 d.1.2.1, .int .i64 d.1.2.2.1, .bool d.1.2.2.2.1, .int .i64 d.1.2.2.2.2, .slice A5 (d.2.1).length c5, .slice A6 (d.2.2.1).length c6, .slice A7 (d.2.2.2.1).length c7, .int .i64 d.2.2.2.2.1, .int .i64 d.2.2.2.2.2.1, .slice A10 (d.2.2.2.2.2.2.1).length c10, .int .i64 d.2.2.2.2.2.2.2.1, .int .i64 d.2.2.2.2.2.2.2.2]) (t := 31) rfl
    generalize w.alloc (.cells #[.int .i64 d.1.1, .int .i64 d.1.2.1, .int .i64 d.1.2.2.1, .bool d.1.2.2.2.1, .int .i64 d.1.2.2.2.2, .slice A5 (d.2.1).length c5, .slice A6 (d.2.2.1).length c6, .slice A7 (d.2.2.2.1).length c7, .int .i64 d.2.2.2.2.1, .int .i64 d.2.2.2.2.2.1, .slice A10 (d.2.2.2.2.2.2.1).length c10, .int .i64 d.2.2.2.2.2.2.2.1, .int .i64 d.2.2.2.2.2.2.2.2] 31) = w1 at b X ⊢
    have hsz := b.size
    have hz : ¬ ((1048576 : Int) - (fEngine.cnt d : Int) < 0) := by omega
    have HE := Lib.hid (szOf_le (left := 1048576) (n := fEngine.cnt d) (by omega))
    (with_reducible refine (sz_Engine d w.heap.size _ 1048576 _ (by omega) (by omega) b.size (fEngine.at_same HR.out (.of b (Nat.le_refl _)))).mono ?_); rintro e w2 ⟨rfl, hb⟩
    rw [HE.out]
    have hsz := hb.size
    have X := X.next hb
    have b := b.trans (hb.mono b.size)
    clear hb
    obtain ⟨⟨x0, x1, x2, x3, x4, x5, x6, x7, x8, x9, x10, x11, x12⟩, _⟩ := X.c13
    go_wp2_with fail
    clear hz x0 x1 x2 x3 x4 x5 x6 x7 x8 x9 x10 x11 x12
    (with_reducible refine (to_Engine d w.heap.size _ _ hs b.size (fEngine.at_same HR.out (.of b (Nat.le_refl _)))).mono ?_); rintro e w3 ⟨us, rfl, hb, o1⟩
    obtain ⟨A5p, c5p, A6p, c6p, A7p, c7p, A10p, c10p, rfl, _, _, _, _⟩ := at_Engine (fEngine.own_at o1)
    have hsz := hb.size
    have X := X.next hb
    have b := b.trans (hb.mono b.size)
    clear hb
    have sz3 := b.size
    go_wp2_with fail
    (with_reducible refine (specWaitsFor_any d w3.heap.size _ _ hs (by omega) (fEngine.own_at o1)).mono ?_); rintro e w4 ⟨Aa, ca, rfl, hb, a⟩
    clear o1
    have hsz := hb.size
    have X := X.next hb
    have b := b.trans (hb.mono b.size)
    clear hb
    have a := a.at_
    have sa : w3.heap.size ≤ w4.heap.size := hsz
    have sx4 : w.heap.size < w4.heap.size := X.lt
    obtain ⟨⟨x0, x1, x2, x3, x4, x5, x6, x7, x8, x9, x10, x11, x12⟩, _⟩ := X.c13
    go_wp2_with fail
    clear x0 x1 x2 x3 x4 x5 x6 x7 x8 x9 x10 x11 x12
    (with_reducible refine (to_Engine d w.heap.size _ _ hs b.size (fEngine.at_same HR.out (.of b (Nat.le_refl _)))).mono ?_); rintro e w5 ⟨us, rfl, hb, o1⟩
    obtain ⟨A5q, c5q, A6q, c6q, A7q, c7q, A10q, c10q, rfl, _, _, _, _⟩ := at_Engine (fEngine.own_at o1)
    have hsz := hb.size
    have X := X.next hb
    have a := a.keep hb (by omega)
    have b := b.trans (hb.mono b.size)
    clear hb
    have s5 : w4.heap.size ≤ w5.heap.size := hsz
    go_wp2_with fail
    have hb := (Below.refl w5.heap.size w5).alloc (Nat.le_refl _) (.cells #[.int .i64 d.1.1, .int .i64 d.1.2.1, .int .i64 d.1.2.2.1, .bool d.1.2.2.2.1, .int .i64 d.1.2.2.2.2, .slice A5q (d.2.1).length c5q, .slice A6q (d.2.2.1).length c6q, .slice A7q (d.2.2.2.1).length c7q, .int .i64 d.2.2.2.2.1, .int .i64 d.2.2.2.2.2.1, .slice A10q (d.2.2.2.2.2.2.1).length c10q, .int .i64 d.2.2.2.2.2.2.2.1, .int .i64 d.2.2.2.2.2.2.2.2] 41)
    have Y := Bx.new (w := w5) (c := #[.int .i64 d.1.1, .int .i64 d.1.2.1, .int .i64 d.1.2.2.1, .bool d.1.2.2.2.1, .int .i64 d.1.2.2.2.2, .slice A5q (d.2.1).length c5q, .slice A6q (d.2.2.1).length c6q, .slice A7q (d.2.2.2.1).length c7q, .int .i64 d.2.2.2.2.1, .int .i64 d.2.2.2.2.2.1, .slice A10q (d.2.2.2.2.2.2.1).length c10q, .int .i64 d.2.2.2.2.2.2.2.1, .int .i64 d.2.2.2.2.2.2.2.2]) (t := 41) rfl
    have hY : w5.heap.size < (w5.alloc (.cells #[.int .i64 d.1.1, .int .i64 d.1.2.1, .int .i64 d.1.2.2.1, .bool d.1.2.2.2.1, .int .i64 d.1.2.2.2.2, .slice A5q (d.2.1).length c5q, .slice A6q (d.2.2.1).length c6q, .slice A7q (d.2.2.2.1).length c7q, .int .i64 d.2.2.2.2.1, .int .i64 d.2.2.2.2.2.1, .slice A10q (d.2.2.2.2.2.2.1).length c10q, .int .i64 d.2.2.2.2.2.2.2.1, .int .i64 d.2.2.2.2.2.2.2.2] 41)).heap.size := by simp
    generalize w5.alloc (.cells #[.int .i64 d.1.1, .int .i64 d.1.2.1, .int .i64 d.1.2.2.1, .bool d.1.2.2.2.1, .int .i64 d.1.2.2.2.2, .slice A5q (d.2.1).length c5q, .slice A6q (d.2.2.1).length c6q, .slice A7q (d.2.2.2.1).length c7q, .int .i64 d.2.2.2.2.1, .int .i64 d.2.2.2.2.2.1, .slice A10q (d.2.2.2.2.2.2.1).length c10q, .int .i64 d.2.2.2.2.2.2.2.1, .int .i64 d.2.2.2.2.2.2.2.2] 41) = w6 at hb Y hY ⊢
    have hsz := hb.size
    have X := X.next hb
    have a := a.keep hb (by omega)
    have o1 := fEngine.own_same o1 (.of hb (by omega))
    have b := b.trans (hb.mono b.size)
    clear hb
    (with_reducible refine (implWaitsFor_any d w5.heap.size _ _ hs (by omega) (fEngine.own_at o1)).mono ?_); rintro e w7 ⟨Ag, cg, rfl, hb, g⟩
    have s7 : w6.heap.size ≤ w7.heap.size := hb.size
    have hsz := hb.size
    have X := X.next hb
    have a := a.keep hb (by omega)
    have o1 := fEngine.own_same o1 (.of hb (by omega))
    have Y := Y.next hb
    have b := b.trans (hb.mono b.size)
    clear hb
    obtain ⟨⟨x0, x1, x2, x3, x4, x5, x6, x7, x8, x9, x10, x11, x12⟩, _⟩ := X.c13
    obtain ⟨⟨y0, y1, y2, y3, y4, y5, y6, y7, y8, y9, y10, y11, y12⟩, _⟩ := Y.c13
    go_wp2_with fail
    clear x0 x1 x2 x3 x4 x5 x6 x7 x8 x9 x10 x11 x12 y0 y1 y2 y3 y4 y5 y6 y7 y8 y9 y10 y11 y12
    (with_reducible refine (eq_WaitS _ _ _ _ _ _ _ _ (by omega) (by omega) g.at_ a).mono ?_); rintro e w8 ⟨rfl, hb⟩
    have hsz := hb.size
    have X := X.next hb
    have a := a.keep hb (by omega)
    have o1 := fEngine.own_same o1 (.of hb (by omega))
    have Y := Y.next hb
    have g := g.next hb (by omega)
    have b := b.trans (hb.mono b.size)
    clear hb
    have s8 : w7.heap.size ≤ w8.heap.size := hsz
    have hs5 : w5.heap.size ≤ w8.heap.size := by omega
    obtain ⟨⟨x0, x1, x2, x3, x4, x5, x6, x7, x8, x9, x10, x11, x12⟩, _⟩ := X.c13
    obtain ⟨⟨y0, y1, y2, y3, y4, y5, y6, y7, y8, y9, y10, y11, y12⟩, _⟩ := Y.c13
    go_upto_region 10 with (fail)
    clear x0 x1 x2 x3 x4 x5 x6 x7 x8 x9 x10 x11 x12 y0 y1 y2 y3 y4 y5 y6 y7 y8 y9 y10 y11 y12
    go_cut [31] from 27 to 31 (fun s wx => s = .bool false ∧ Below w8.heap.size w8 wx)
    case first =>
      have hD := (Below.refl w8.heap.size w8).drew
      have Yd := Lib.hid Y.drew
      have O1 := Lib.hid (fEngine.own_at (fEngine.own_same o1 (.of hD (by omega))))
      have HD := Lib.hid (fEngine.at_same HR.out (.of b.drew (Nat.le_refl _)))
      have hbd := b.drew.size
      obtain ⟨⟨x0, x1, x2, x3, x4, x5, x6, x7, x8, x9, x10, x11, x12⟩, _⟩ := X.c13
      have Xl := X.lt
      obtain ⟨⟨y0, y1, y2, y3, y4, y5, y6, y7, y8, y9, y10, y11, y12⟩, _⟩ := Y.c13
      have Yl := Y.lt
      go_region_law (first | (go_simp; go_at_call 8; refine (to_Engine d w.heap.size _ _ hs hbd HD.out).mono ?_; rintro o w9 ⟨us, rfl, hb6, o6⟩; obtain ⟨A5r, c5r, A6r, c6r, A7r, c7r, A10r, c10r, rfl, _, _, _, _⟩ := at_Engine (fEngine.own_at o6); obtain ⟨⟨z0, z1, z2, z3, z4, z5, z6, z7, z8, z9, z10, z11, z12⟩, _⟩ := (Yd.out.next hb6).c13) | (go_simp; go_at_call 10; refine (eq_Engine d w5.heap.size _ _ _ _ (by have := hb6.size; show _ ≤ w9.heap.size; have : w8.drew.heap.size = w8.heap.size := rfl; omega) (Nat.le_refl _) (fEngine.at_same O1.out (.of hb6 (by show _ ≤ w8.heap.size; omega))) (fEngine.own_at o6)).mono ?_; rintro o w10 ⟨rfl, hb7⟩))
      all_goals
        have hb := hD.trans ((hb6.trans (hb7.mono hb6.size)).mono (Nat.le_refl _))
        clear hb6 hb7 o6 Yd O1 HD hD hbd x0 x1 x2 x3 x4 x5 x6 x7 x8 x9 x10 x11 x12 y0 y1 y2 y3 y4 y5 y6 y7 y8 y9 y10 y11 y12 z0 z1 z2 z3 z4 z5 z6 z7 z8 z9 z10 z11 z12 Xl Yl
        go_wp2_with fail
        go_meet
        exact ⟨rfl, hb⟩
    case rest =>
      obtain ⟨rfl, hb⟩ := hcut
      have hsz := hb.size
      have X := X.next hb
      have a := a.keep hb (by omega)
      have o1 := fEngine.own_same o1 (.of hb (by omega))
      have Y := Y.next hb
      have g := g.next hb (by omega)
      have b := b.trans (hb.mono b.size)
      clear hb
      have s10 := hsz
      obtain ⟨A5m, c5m, A6m, c6m, A7m, c7m, A10m, c10m, L1, H1, L2, H2, L3, H3, L4, H4, em, EO⟩ := open_EOwn o1
      clear o1
      simp only [List.cons.injEq, Value.slice.injEq, and_true, true_and] at em
      obtain ⟨⟨rfl, rfl⟩, ⟨rfl, rfl⟩, ⟨rfl, rfl⟩, rfl, rfl⟩ := em
      have hpe := pos_Engine d
      have hue := ub_Engine d
      obtain ⟨⟨x0, x1, x2, x3, x4, x5, x6, x7, x8, x9, x10, x11, x12⟩, _⟩ := X.c13
      obtain ⟨⟨y0, y1, y2, y3, y4, y5, y6, y7, y8, y9, y10, y11, y12⟩, _⟩ := Y.c13
      go_wp2_with fail
      clear x0 x1 x2 x3 x4 x5 x6 x7 x8 x9 x10 x11 x12 y0 y1 y2 y3 y4 y5 y6 y7 y8 y9 y10 y11 y12
      (with_reducible refine (mark_Engine w4.heap.size w5.heap.size d A5q A6q A7q A10q c5q c6q c7q c10q L1 H1 L2 H2 L3 H3 L4 H4 1 _ (by omega) (by omega) (by omega) EO).mono ?_); rintro e w11 ⟨rfl, hm, EO⟩
      have s11 := hm.size
      have X := X.chs hm (.inl (by omega))
      have Y := Y.chs hm (.inr (by omega))
      have a := a.same (hm.sameB (by omega) (by omega))
      have g := g.chs hm (.inr (by omega)) (by omega)
      have b := b.trans (hm.below (by omega) (by omega))
      clear hm EO
      have hk0 : ¬ ((1 : Int) + ad_Engine d < 0) := by omega
      go_wp2_with fail
      (with_reducible refine (eq_WaitS _ _ _ _ _ _ _ _ (by omega) (by omega) g.at_ a).mono ?_); rintro e w12 ⟨rfl, hb⟩
      have hsz := hb.size
      have X := X.next hb
      have a := a.keep hb (by omega)
      have Y := Y.next hb
      have g := g.next hb (by omega)
      have b := b.trans (hb.mono b.size)
      clear hb
      have s12 : w11.heap.size ≤ w12.heap.size := hsz
      go_wp2_with fail
      have hua := adl_pos pos_Wait (waitsL d)
      have hub : adl ad_Wait (waitsL d) ≤ 1099511627775 := by have := waitsL_ub d; omega
      have hq0 : ¬ ((1 : Int) + adl ad_Wait (waitsL d) < 0) := by omega
      (with_reducible refine (mark_WaitS _ _ _ _ (waitsL d) 1 _ (by omega) (by omega) g).mono ?_); rintro e w13 ⟨rfl, hm, gm⟩
      have s13 : w13.heap.size = w12.heap.size := hm.size
      have X := X.chs (Chs.onlys hm (Nat.le_refl _) (Nat.le_refl _)) (.inl (by omega))
      have a := a.same (fun k hk => hm.block k (.inl (by omega)))
      have b := b.trans (hm.below (by omega))
      clear hm g Y
      go_wp2_with fail
      (with_reducible refine (held_WaitS _ _ _ (waitsL d) 1 _ (by omega) (by omega) gm.at_).mono ?_); rintro e w14 ⟨rfl, rfl⟩
      obtain ⟨⟨x0, x1, x2, x3, x4, x5, x6, x7, x8, x9, x10, x11, x12⟩, _⟩ := X.c13
      go_wp2_with fail
      clear x0 x1 x2 x3 x4 x5 x6 x7 x8 x9 x10 x11 x12
      (with_reducible refine (to_Engine d w.heap.size _ _ hs b.size (fEngine.at_same HR.out (.of b (Nat.le_refl _)))).mono ?_); rintro e w15 ⟨us, rfl, hb, o2⟩
      obtain ⟨A5s, c5s, A6s, c6s, A7s, c7s, A10s, c10s, rfl, _, _, _, _⟩ := at_Engine (fEngine.own_at o2)
      have hsz := hb.size
      have X := X.next hb
      have a := a.keep hb (by omega)
      have gm := gm.next hb (by omega)
      have b := b.trans (hb.mono b.size)
      clear hb
      go_wp2_with fail
      (with_reducible refine (implWaitsFor_any d w15.heap.size _ _ hs (by omega) (fEngine.own_at o2)).mono ?_); rintro e w16 ⟨Ah, ch, rfl, hb, h⟩
      clear o2
      have hsz := hb.size
      have X := X.next hb
      have a := a.keep hb (by omega)
      have gm := gm.next hb (by omega)
      have b := b.trans (hb.mono b.size)
      clear hb
      go_wp2_with fail
      (with_reducible refine (eq_WaitS _ _ _ _ _ _ _ _ (by omega) (by omega) h.at_ a).mono ?_); rintro e w17 ⟨rfl, hb⟩
      have hsz := hb.size
      have X := X.next hb
      have a := a.keep hb (by omega)
      have gm := gm.next hb (by omega)
      have h := h.next hb (by omega)
      have b := b.trans (hb.mono b.size)
      clear hb
      go_wp2_with fail
      (with_reducible refine (held_WaitS _ _ _ (waitsL d) 1 _ (by omega) (by omega) gm.at_).mono ?_); rintro e w18 ⟨rfl, rfl⟩
      go_wp2
      go_ret
      exact ⟨rfl, b⟩
  · go_enter Tryz.func4, Tryz.ntmps4
    go_wp2_with fail
    have b := (Below.refl w.heap.size w).alloc (Nat.le_refl _) (.cells #[.int .i64 d.1.1, .int .i64 d.1.2.1, .int .i64 d.1.2.2.1, .bool d.1.2.2.2.1, .int .i64 d.1.2.2.2.2, .slice A5 (d.2.1).length c5, .slice A6 (d.2.2.1).length c6, .slice A7 (d.2.2.2.1).length c7, .int .i64 d.2.2.2.2.1, .int .i64 d.2.2.2.2.2.1, .slice A10 (d.2.2.2.2.2.2.1).length c10, .int .i64 d.2.2.2.2.2.2.2.1, .int .i64 d.2.2.2.2.2.2.2.2] 31)
    have X := Bx.new (w := w) (c := #[.int .i64 d.1.1, .int .i64 d.1.2.1, .int .i64 d.1.2.2.1, .bool d.1.2.2.2.1, .int .i64 d.1.2.2.2.2, .slice A5 (d.2.1).length c5, .slice A6 (d.2.2.1).length c6, .slice A7 (d.2.2.2.1).length c7, .int .i64 d.2.2.2.2.1, .int .i64 d.2.2.2.2.2.1, .slice A10 (d.2.2.2.2.2.2.1).length c10, .int .i64 d.2.2.2.2.2.2.2.1, .int .i64 d.2.2.2.2.2.2.2.2]) (t := 31) rfl
    generalize w.alloc (.cells #[.int .i64 d.1.1, .int .i64 d.1.2.1, .int .i64 d.1.2.2.1, .bool d.1.2.2.2.1, .int .i64 d.1.2.2.2.2, .slice A5 (d.2.1).length c5, .slice A6 (d.2.2.1).length c6, .slice A7 (d.2.2.2.1).length c7, .int .i64 d.2.2.2.2.1, .int .i64 d.2.2.2.2.2.1, .slice A10 (d.2.2.2.2.2.2.1).length c10, .int .i64 d.2.2.2.2.2.2.2.1, .int .i64 d.2.2.2.2.2.2.2.2] 31) = w1 at b X ⊢
    have hsz := b.size
    have HE := Lib.hid (szOf_lt (left := 1048576) (n := fEngine.cnt d) (by omega))
    (with_reducible refine (sz_Engine d w.heap.size _ 1048576 _ (by omega) (by omega) b.size (fEngine.at_same HR.out (.of b (Nat.le_refl _)))).mono ?_); rintro e w2 ⟨rfl, hb⟩
    rw [HE.out]
    have b := b.trans (hb.mono b.size)
    clear hb
    go_wp2
    go_ret
    exact ⟨rfl, b⟩

set_option maxRecDepth 100000 in
theorem fnExactWaitsFor_lifted (os : Os) (started : os.Started) (H : Type) (enc : TypeId × Value → H) :
    ReturnsInHanded {} Tryz.checked os 4 .any (Rows.fnExactWaitsForSpec.pre6 enc Tryz.prog Tryz.f4 Rows.fnExactWaitsForRow.domain false) (Rows.fnExactWaitsForSpec.post enc Tryz.prog Tryz.f4 false true false false) := by
  refine returnsInHanded_of_change (C := Tryz.checked) own started (by kernel_rfl) Tryz.func4
    (ChangeSpec.witness6 (enc := enc) (C := Tryz.checked) false ⟨#[], #[.agg #[.int .i64 0, .int .i64 0, .int .i64 0, .bool false, .int .i64 0, .slice none 0 0, .slice none 0 0, .slice none 0 0, .int .i64 0, .int .i64 0, .slice none 0 0, .int .i64 0, .int .i64 0]], []⟩ 8 (by kernel_rfl) (by kernel_rfl) (by kernel_rfl) (by kernel_rfl)) ?_
  intro W base args ds gs before hval0 hW _ _
  have hval : ∀ (j : Nat) t v, Tryz.f4.params[j]? = some t → args[j]? = some v → Value.okWide Tryz.prog W .any base t v := hval0
  have hW' := hW
  obtain ⟨p, q, hA0, hV, rfl, _, _⟩ := hW
  have hA : DataW.TrodAll enc Tryz.prog W 0 (fun _ => true) true Tryz.f4.params.toList args.toList ds p := hA0
  rw [Tryz.params4] at hA hval
  obtain ⟨v0, vs0, d0, ds0, p0, q0, hargs, rfl, rfl, h0, rr0⟩ := trodAll_cons hA
  obtain ⟨rfl, rfl, rfl⟩ := trodAll_nil rr0
  obtain rfl : args = #[v0] := by cases args; simp_all
  obtain ⟨rfl, rfl⟩ := trodVars_none hV
  have k0 := h0
  have lt0 : ∀ x ∈ p0, x.block < W.heap.size := by obtain ⟨m, hm⟩ := k0; exact DataW.trod_lt m _ _ _ hm
  obtain ⟨d, vs, rfl, hat, _⟩ := arg_Engine (hval 0 31 v0 rfl rfl) h0
  clear hA0 hval0
  refine (fnExactWaitsFor_walk d vs W hat).mono fun e W' ⟨he, bel⟩ => ?_
  subst he
  exact ⟨_, rfl, _, _, _, [], _, [], hW', trodAll_mk1 (shut_bool Tryz.underlying4 _), (trodAll_cons_mk (Below.trod laidOut (by kernel_rfl) (of_decide_eq_true (by kernel_rfl)) k0 bel lt0) (trodAll_mk0)), rfl, bel.frame _, fun h => by cases h⟩

/-- FnExactWaitsFor -/
theorem fnExactWaitsFor_holds : Rows.FnExactWaitsForSaid :=
  OpenClaim.holds_of_wide 4 Tryz.f4 rfl rfl rfl rfl rfl rfl rfl ⟨rfl, rfl, rfl, rfl, rfl⟩ rfl rfl rfl rfl rfl (by kernel_rfl) Tryz.func4 (by kernel_rfl)
    (of_decide_eq_true (by kernel_rfl)) (by unfold Func.isWrapper; first | (rw [if_pos (by decide +kernel)]; kernel_rfl) | (rw [if_neg (by decide +kernel)]; exact ⟨rfl, rfl⟩))
    (fun os started H enc _ => fnExactWaitsFor_lifted os started H enc)
#print axioms fnExactWaitsFor_holds
end Go.Proofs.YtkpkjcmoldkmmaaGreat
