/- FnExactLocksClean: for every argument the program's function answers as the model's, and the argument reads as before. No condition. -/
import Derived.Test.YtomkfldimkpmdaaGreatGoo
import Derived.Test.YtomkfldimkpmdaaGreatRl
import Derived.Deep.RegionLaw
namespace Go.Proofs.YtomkfldimkpmdaaGreat
open Go.ChangeShapes Go.WideShapes Go.ChangeAt Go.RowKit Go.Joins

set_option maxHeartbeats 6400000 in
set_option maxRecDepth 100000 in
theorem fnExactLocksClean_walk (d : DEngine) (vs : List Value) (w : World) (hr : fEngine.At w w.heap.size d vs) :
    Calls Tryz.prog 6 #[.agg vs.toArray] w fun e w' => e = .returned (.bool true) ∧ Below w.heap.size w w' := by
  have HR := Lib.hid hr
  obtain ⟨A5, c5, A6, c6, A7, c7, A10, c10, rfl, _, _, _, _⟩ := at_Engine hr
  clear hr
  by_cases hs : fEngine.cnt d ≤ 1048576
  · go_enter Tryz.func6, Tryz.ntmps6
    go_wp2_with fail
    have b := (Below.refl w.heap.size w).alloc (Nat.le_refl _) (.cells #[.int .i64 d.1.1, .int .i64 d.1.2.1, .int .i64 d.1.2.2.1, .bool d.1.2.2.2.1, .int .i64 d.1.2.2.2.2, .slice A5 (d.2.1).length c5, .slice A6 (d.2.2.1).length c6, .slice A7 (d.2.2.2.1).length c7, .int .i64 d.2.2.2.2.1, .int .i64 d.2.2.2.2.2.1, .slice A10 (d.2.2.2.2.2.2.1).length c10, .int .i64 d.2.2.2.2.2.2.2.1, .int .i64 d.2.2.2.2.2.2.2.2] 31)
    have X := Bx.new (w := w) (c := #[.int .i64 d.1.1, .int .i64 d.1.2.1, .int .i64 d.1.2.2.1, .bool d.1.2.2.2.1, .int .i64 d.1.2.2.2.2, .slice A5 (d.2.1).length c5, .slice A6 (d.2.2.1).length c6, .slice A7 (d.2.2.2.1).length c7, .int .i64 d.2.2.2.2.1, .int .i64 d.2.2.2.2.2.1, .slice A10 (d.2.2.2.2.2.2.1).length c10, .int .i64 d.2.2.2.2.2.2.2.1, .int .i64 d.2.2.2.2.2.2.2.2]) (t := 31) rfl
    generalize w.alloc (.cells #[.int .i64 d.1.1, .int .i64 d.1.2.1, .int .i64 d.1.2.2.1, .bool d.1.2.2.2.1, .int .i64 d.1.2.2.2.2, .slice A5 (d.2.1).length c5, .slice A6 (d.2.2.1).length c6, .slice A7 (d.2.2.2.1).length c7, .int .i64 d.2.2.2.2.1, .int .i64 d.2.2.2.2.2.1, .slice A10 (d.2.2.2.2.2.2.1).length c10, .int .i64 d.2.2.2.2.2.2.2.1, .int .i64 d.2.2.2.2.2.2.2.2] 31) = w1 at b X ⊢
    have hsz := b.size
    have hz : ¬ ((1048576 : Int) - (fEngine.cnt d : Int) < 0) := by omega
    have HE := Lib.hid (szOf_le (left := 1048576) (n := fEngine.cnt d) (by omega))
    refine (sz_Engine d w.heap.size _ 1048576 _ (by omega) (by omega) b.size (fEngine.at_same HR.out (.of b (Nat.le_refl _)))).mono ?_; rintro e w2 ⟨rfl, hb⟩
    rw [HE.out]
    have hsz := hb.size
    have X := X.next hb
    have b := b.trans (hb.mono b.size)
    clear hb
    obtain ⟨⟨x0, x1, x2, x3, x4, x5, x6, x7, x8, x9, x10, x11, x12⟩, _⟩ := X.c13
    go_wp2_with fail
    clear hz x0 x1 x2 x3 x4 x5 x6 x7 x8 x9 x10 x11 x12
    refine (to_Engine d w.heap.size _ _ hs b.size (fEngine.at_same HR.out (.of b (Nat.le_refl _)))).mono ?_; rintro e w3 ⟨us, rfl, hb, o1⟩
    obtain ⟨A5p, c5p, A6p, c6p, A7p, c7p, A10p, c10p, rfl, _, _, _, _⟩ := at_Engine (fEngine.own_at o1)
    have hsz := hb.size
    have X := X.next hb
    have b := b.trans (hb.mono b.size)
    clear hb
    go_wp2_with fail
    refine (specClean_any d w3.heap.size _ _ hs (Nat.le_refl _) (fEngine.own_at o1)).mono ?_; rintro e w4 ⟨rfl, hb⟩
    clear o1
    have hsz := hb.size
    have X := X.next hb
    have b := b.trans (hb.mono b.size)
    clear hb
    obtain ⟨⟨x0, x1, x2, x3, x4, x5, x6, x7, x8, x9, x10, x11, x12⟩, _⟩ := X.c13
    go_wp2_with fail
    clear x0 x1 x2 x3 x4 x5 x6 x7 x8 x9 x10 x11 x12
    refine (to_Engine d w.heap.size _ _ hs b.size (fEngine.at_same HR.out (.of b (Nat.le_refl _)))).mono ?_; rintro e w5 ⟨us, rfl, hb, o1⟩
    have O1 := Lib.hid o1
    obtain ⟨A5q, c5q, A6q, c6q, A7q, c7q, A10q, c10q, rfl, _, _, _, _⟩ := at_Engine (fEngine.own_at o1)
    clear o1
    have o1 := O1.out
    clear O1
    have hsz := hb.size
    have X := X.next hb
    have b := b.trans (hb.mono b.size)
    clear hb
    go_wp2_with fail
    have hb := (Below.refl w5.heap.size w5).alloc (Nat.le_refl _) (.cells #[.int .i64 d.1.1, .int .i64 d.1.2.1, .int .i64 d.1.2.2.1, .bool d.1.2.2.2.1, .int .i64 d.1.2.2.2.2, .slice A5q (d.2.1).length c5q, .slice A6q (d.2.2.1).length c6q, .slice A7q (d.2.2.2.1).length c7q, .int .i64 d.2.2.2.2.1, .int .i64 d.2.2.2.2.2.1, .slice A10q (d.2.2.2.2.2.2.1).length c10q, .int .i64 d.2.2.2.2.2.2.2.1, .int .i64 d.2.2.2.2.2.2.2.2] 41)
    have Y := Bx.new (w := w5) (c := #[.int .i64 d.1.1, .int .i64 d.1.2.1, .int .i64 d.1.2.2.1, .bool d.1.2.2.2.1, .int .i64 d.1.2.2.2.2, .slice A5q (d.2.1).length c5q, .slice A6q (d.2.2.1).length c6q, .slice A7q (d.2.2.2.1).length c7q, .int .i64 d.2.2.2.2.1, .int .i64 d.2.2.2.2.2.1, .slice A10q (d.2.2.2.2.2.2.1).length c10q, .int .i64 d.2.2.2.2.2.2.2.1, .int .i64 d.2.2.2.2.2.2.2.2]) (t := 41) rfl
    have hY : w5.heap.size < (w5.alloc (.cells #[.int .i64 d.1.1, .int .i64 d.1.2.1, .int .i64 d.1.2.2.1, .bool d.1.2.2.2.1, .int .i64 d.1.2.2.2.2, .slice A5q (d.2.1).length c5q, .slice A6q (d.2.2.1).length c6q, .slice A7q (d.2.2.2.1).length c7q, .int .i64 d.2.2.2.2.1, .int .i64 d.2.2.2.2.2.1, .slice A10q (d.2.2.2.2.2.2.1).length c10q, .int .i64 d.2.2.2.2.2.2.2.1, .int .i64 d.2.2.2.2.2.2.2.2] 41)).heap.size := by simp
    generalize w5.alloc (.cells #[.int .i64 d.1.1, .int .i64 d.1.2.1, .int .i64 d.1.2.2.1, .bool d.1.2.2.2.1, .int .i64 d.1.2.2.2.2, .slice A5q (d.2.1).length c5q, .slice A6q (d.2.2.1).length c6q, .slice A7q (d.2.2.2.1).length c7q, .int .i64 d.2.2.2.2.1, .int .i64 d.2.2.2.2.2.1, .slice A10q (d.2.2.2.2.2.2.1).length c10q, .int .i64 d.2.2.2.2.2.2.2.1, .int .i64 d.2.2.2.2.2.2.2.2] 41) = w6 at hb Y hY ⊢
    have hsz := hb.size
    have X := X.next hb
    have o1 := fEngine.own_same o1 (.of hb (by omega))
    have b := b.trans (hb.mono b.size)
    clear hb
    refine (implClean_any d w5.heap.size _ _ hs (by omega) (fEngine.own_at o1)).mono ?_; rintro e w7 ⟨rfl, hb⟩
    have hsz := hb.size
    have X := X.next hb
    have Y := Y.next hb
    have o1 := fEngine.own_same o1 (.of hb (by omega))
    have b := b.trans (hb.mono b.size)
    clear hb
    generalize cleanB d = ans
    have hD := (Below.refl w7.heap.size w7).drew
    have Yd := Lib.hid Y.drew
    have O1 := Lib.hid (fEngine.own_at (fEngine.own_same o1 (.of hD (by omega))))
    have HD := Lib.hid (fEngine.at_same HR.out (.of b.drew (Nat.le_refl _)))
    have hbd := b.drew.size
    obtain ⟨⟨x0, x1, x2, x3, x4, x5, x6, x7, x8, x9, x10, x11, x12⟩, _⟩ := X.c13
    have Xl := X.lt
    obtain ⟨⟨y0, y1, y2, y3, y4, y5, y6, y7, y8, y9, y10, y11, y12⟩, _⟩ := Y.c13
    have Yl := Y.lt
    have hs5 : w5.heap.size ≤ w7.heap.size := by omega
    go_wp2_with fail
    go_region_law (first | (go_simp; go_at_call 10; refine (to_Engine d w.heap.size _ _ hs hbd HD.out).mono ?_; rintro o w8 ⟨us, rfl, hb6, o6⟩; obtain ⟨A5r, c5r, A6r, c6r, A7r, c7r, A10r, c10r, rfl, _, _, _, _⟩ := at_Engine (fEngine.own_at o6); obtain ⟨⟨z0, z1, z2, z3, z4, z5, z6, z7, z8, z9, z10, z11, z12⟩, _⟩ := (Yd.out.next hb6).c13) | (go_simp; go_at_call 12; refine (eq_Engine d w5.heap.size _ _ _ _ (by have := hb6.size; show _ ≤ w8.heap.size; have : w7.drew.heap.size = w7.heap.size := rfl; omega) (Nat.le_refl _) (fEngine.at_same O1.out (.of hb6 (by show _ ≤ w7.heap.size; omega))) (fEngine.own_at o6)).mono ?_; rintro o w9 ⟨rfl, hb7⟩))
    all_goals
      have hb := hD.trans ((hb6.trans (hb7.mono hb6.size)).mono (Nat.le_refl _))
      clear hb6 hb7 o6 Yd O1 HD hD hbd x0 x1 x2 x3 x4 x5 x6 x7 x8 x9 x10 x11 x12 y0 y1 y2 y3 y4 y5 y6 y7 y8 y9 y10 y11 y12 z0 z1 z2 z3 z4 z5 z6 z7 z8 z9 z10 z11 z12 Xl Yl
      have b := b.trans (hb.mono b.size)
      clear hb
      go_wp2
      go_ret
      exact ⟨rfl, b⟩
  · go_enter Tryz.func6, Tryz.ntmps6
    go_wp2_with fail
    have b := (Below.refl w.heap.size w).alloc (Nat.le_refl _) (.cells #[.int .i64 d.1.1, .int .i64 d.1.2.1, .int .i64 d.1.2.2.1, .bool d.1.2.2.2.1, .int .i64 d.1.2.2.2.2, .slice A5 (d.2.1).length c5, .slice A6 (d.2.2.1).length c6, .slice A7 (d.2.2.2.1).length c7, .int .i64 d.2.2.2.2.1, .int .i64 d.2.2.2.2.2.1, .slice A10 (d.2.2.2.2.2.2.1).length c10, .int .i64 d.2.2.2.2.2.2.2.1, .int .i64 d.2.2.2.2.2.2.2.2] 31)
    have X := Bx.new (w := w) (c := #[.int .i64 d.1.1, .int .i64 d.1.2.1, .int .i64 d.1.2.2.1, .bool d.1.2.2.2.1, .int .i64 d.1.2.2.2.2, .slice A5 (d.2.1).length c5, .slice A6 (d.2.2.1).length c6, .slice A7 (d.2.2.2.1).length c7, .int .i64 d.2.2.2.2.1, .int .i64 d.2.2.2.2.2.1, .slice A10 (d.2.2.2.2.2.2.1).length c10, .int .i64 d.2.2.2.2.2.2.2.1, .int .i64 d.2.2.2.2.2.2.2.2]) (t := 31) rfl
    generalize w.alloc (.cells #[.int .i64 d.1.1, .int .i64 d.1.2.1, .int .i64 d.1.2.2.1, .bool d.1.2.2.2.1, .int .i64 d.1.2.2.2.2, .slice A5 (d.2.1).length c5, .slice A6 (d.2.2.1).length c6, .slice A7 (d.2.2.2.1).length c7, .int .i64 d.2.2.2.2.1, .int .i64 d.2.2.2.2.2.1, .slice A10 (d.2.2.2.2.2.2.1).length c10, .int .i64 d.2.2.2.2.2.2.2.1, .int .i64 d.2.2.2.2.2.2.2.2] 31) = w1 at b X ⊢
    have hsz := b.size
    have HE := Lib.hid (szOf_lt (left := 1048576) (n := fEngine.cnt d) (by omega))
    refine (sz_Engine d w.heap.size _ 1048576 _ (by omega) (by omega) b.size (fEngine.at_same HR.out (.of b (Nat.le_refl _)))).mono ?_; rintro e w2 ⟨rfl, hb⟩
    rw [HE.out]
    have b := b.trans (hb.mono b.size)
    clear hb
    go_wp2
    go_ret
    exact ⟨rfl, b⟩

set_option maxRecDepth 100000 in
theorem fnExactLocksClean_lifted (os : Os) (started : os.Started) (H : Type) (enc : TypeId × Value → H) :
    ReturnsInHanded {} Tryz.checked os 6 .any (Rows.fnExactLocksCleanSpec.pre6 enc Tryz.prog Tryz.f6 Rows.fnExactLocksCleanRow.domain false) (Rows.fnExactLocksCleanSpec.post enc Tryz.prog Tryz.f6 false true false false) := by
  refine returnsInHanded_of_change (C := Tryz.checked) own started (by kernel_rfl) Tryz.func6
    (ChangeSpec.witness6 (enc := enc) (C := Tryz.checked) false ⟨#[], #[.agg #[.int .i64 0, .int .i64 0, .int .i64 0, .bool false, .int .i64 0, .slice none 0 0, .slice none 0 0, .slice none 0 0, .int .i64 0, .int .i64 0, .slice none 0 0, .int .i64 0, .int .i64 0]], []⟩ 8 (by kernel_rfl) (by kernel_rfl) (by kernel_rfl) (by kernel_rfl)) ?_
  intro W base args ds gs before hval0 hW _ _
  have hval : ∀ (j : Nat) t v, Tryz.f6.params[j]? = some t → args[j]? = some v → Value.okWide Tryz.prog W .any base t v := hval0
  have hW' := hW
  obtain ⟨p, q, hA0, hV, rfl, _, _⟩ := hW
  have hA : DataW.TrodAll enc Tryz.prog W 0 (fun _ => true) true Tryz.f6.params.toList args.toList ds p := hA0
  rw [Tryz.params6] at hA hval
  obtain ⟨v0, vs0, d0, ds0, p0, q0, hargs, rfl, rfl, h0, rr0⟩ := trodAll_cons hA
  obtain ⟨rfl, rfl, rfl⟩ := trodAll_nil rr0
  obtain rfl : args = #[v0] := by cases args; simp_all
  obtain ⟨rfl, rfl⟩ := trodVars_none hV
  have k0 := h0
  have lt0 : ∀ x ∈ p0, x.block < W.heap.size := by obtain ⟨m, hm⟩ := k0; exact DataW.trod_lt m _ _ _ hm
  obtain ⟨d, vs, rfl, hat, _⟩ := arg_Engine (hval 0 31 v0 rfl rfl) h0
  clear hA0 hval0
  refine (fnExactLocksClean_walk d vs W hat).mono fun e W' ⟨he, bel⟩ => ?_
  subst he
  exact ⟨_, rfl, _, _, _, [], _, [], hW', trodAll_mk1 (shut_bool Tryz.underlying4 _), (trodAll_cons_mk (Below.trod laidOut (by kernel_rfl) (of_decide_eq_true (by kernel_rfl)) k0 bel lt0) (trodAll_mk0)), rfl, bel.frame _, fun h => by cases h⟩

/-- FnExactLocksClean -/
theorem fnExactLocksClean_holds : Rows.FnExactLocksCleanSaid :=
  OpenClaim.holds_of_wide 6 Tryz.f6 rfl rfl rfl rfl rfl rfl rfl ⟨rfl, rfl, rfl, rfl, rfl⟩ rfl rfl rfl rfl rfl (by kernel_rfl) Tryz.func6 (by kernel_rfl)
    (of_decide_eq_true (by kernel_rfl)) (by unfold Func.isWrapper; first | (rw [if_pos (by decide +kernel)]; kernel_rfl) | (rw [if_neg (by decide +kernel)]; exact ⟨rfl, rfl⟩))
    (fun os started H enc _ => fnExactLocksClean_lifted os started H enc)
#print axioms fnExactLocksClean_holds
end Go.Proofs.YtomkfldimkpmdaaGreat
