/- FnExactNewTable: for every argument the program's function answers as the model's, and its answer owns its memory. No condition. -/
import Derived.Test.YtnnjhikfbpcmfaaTn
import Derived.Test.YtnnjhikfbpcmfaaTk
import Derived.Deep.RegionLaw
namespace Go.Proofs.Ytnnjhikfbpcmfaa
open Go.ChangeShapes Go.WideShapes Go.ChangeAt Go.RowKit Go.Joins

theorem newT_fit (n : Int) : TFit (newT n) ∧ TLen (newT n) := by
  unfold newT
  split
  · rename_i h
    simp only [inB, Bool.and_eq_true, decide_eq_true_eq] at h
    have ht : ∀ k, totT (zeros n.toNat) k = 0 := fun k => by
      induction k with
      | zero => rfl
      | succ k ih => rw [totT_succ, ih, zeros_at]; rfl
    refine ⟨?_, ?_, fun j _ => ?_⟩
    · unfold TFit; rw [ht, zeros_len]; omega
    · rw [zeros_len]; unfold maxLen; omega
    · rw [zeros_at]; exact ⟨Nat.zero_le _, Nat.zero_le _⟩
  · exact ⟨by simp [TFit, totT], Nat.zero_le _, fun j hj => absurd hj (by simp)⟩
set_option maxHeartbeats 3200000 in
set_option maxRecDepth 100000 in
theorem fnExactNewTable_walk (z0 : Int) (w : World) :
    Calls Try.prog 4 #[.int .i64 z0] w fun e w' => e = .returned (.bool true) ∧ Below w.heap.size w w' := by
  have SA := fun w => specNew_any z0 w
  have IA := fun w => implNew_any z0 w
  obtain ⟨hs, hm⟩ := newT_fit z0
  generalize newT z0 = T at SA IA hs hm
  generalize inB z0 1 8 = Q at SA IA
  have SA := Lib.hid SA
  have IA := Lib.hid IA
  have hl1 := hs.len
  have hk0 : ¬ (kTo T 1 T.length < 0) := by have := kTo_range hs (Nat.le_refl _) (show (0 : Int) ≤ 1 by omega) (by omega); omega
  have b := Below.refl w.heap.size w
  go_enter Try.func4, Try.ntmps4
  go_wp2_with fail
  (with_reducible refine (SA.out _).mono ?_); rintro e w1 ⟨A3, c3, rfl, o3, hb⟩
  have a3 := o3.at_
  clear o3
  have s_w1 : w.heap.size ≤ w1.heap.size := hb.size
  have b := b.trans (hb.mono b.size)
  clear hb
  go_wp2_with fail
  have hA := (Below.refl w1.heap.size w1).alloc (Nat.le_refl _) (.cells #[.slice A3 T.length c3] 29)
  have W := Box.new (w := w1) (c := #[.slice A3 T.length c3]) (t := 29) rfl
  have sz_w2 : w1.heap.size < (w1.alloc (.cells #[.slice A3 T.length c3] 29)).heap.size := by simp
  generalize w1.alloc (.cells #[.slice A3 T.length c3] 29) = w2 at hA W sz_w2 ⊢
  have s_w2 : w1.heap.size ≤ w2.heap.size := hA.size
  have a3 := a3.keep hA (by omega)
  have b := b.trans (hA.mono b.size)
  clear hA
  (with_reducible refine (IA.out _).mono ?_); rintro e w3 ⟨A5, c5, rfl, g5, hb⟩
  have s_w3 : w2.heap.size ≤ w3.heap.size := hb.size
  have W := W.next hb
  have a3 := a3.keep hb (by omega)
  have b := b.trans (hb.mono b.size)
  clear hb
  obtain ⟨W0, Wf⟩ := W.c1
  have Wl := W.lt
  clear Wf
  go_wp2_with fail
  clear W0 Wl
  have hA := (Below.refl w3.heap.size w3).alloc (Nat.le_refl _) (.cells #[.slice A5 T.length c5] 29)
  have V := Box.new (w := w3) (c := #[.slice A5 T.length c5]) (t := 29) rfl
  have sz_w4 : w3.heap.size < (w3.alloc (.cells #[.slice A5 T.length c5] 29)).heap.size := by simp
  generalize w3.alloc (.cells #[.slice A5 T.length c5] 29) = w4 at hA V sz_w4 ⊢
  have s_w4 : w3.heap.size ≤ w4.heap.size := hA.size
  have W := W.next hA
  have g5 := g5.below hA (by omega)
  have a3 := a3.keep hA (by omega)
  have b := b.trans (hA.mono b.size)
  clear hA
  (with_reducible refine (eqTable_same _ _ _ _ _ _ T _ hm g5.at_ a3 (by omega) (by omega)).mono ?_); rintro e w5 ⟨rfl, hb⟩
  have s_w5 : w4.heap.size ≤ w5.heap.size := hb.size
  have W := W.next hb
  have V := V.next hb
  have g5 := g5.below hb (by omega)
  have a3 := a3.keep hb (by omega)
  have b := b.trans (hb.mono b.size)
  clear hb
  obtain ⟨V0, Vf⟩ := V.c1
  have Vl := V.lt
  clear Vf
  go_wp2_with fail
  (with_reducible refine (markTable_any _ _ _ _ T 1 _ hs (by omega) (by omega) (by omega) g5).mono ?_); rintro e wm ⟨rfl, hmk, g6⟩
  have hmk := MarkS.two hmk
  have s_wm : w5.heap.size ≤ wm.heap.size := hmk.size
  have W := W.mark hmk (by omega)
  have V := V.mark hmk (by omega)
  have a3 := a3.mark hmk (by omega) (by omega)
  have b := b.trans (hmk.bel (by omega) (by omega))
  clear hmk g5
  clear V0 Vl
  obtain ⟨V0, Vf⟩ := V.c1
  have Vl := V.lt
  clear Vf
  go_wp2_with fail
  (with_reducible refine (heldTable_any _ _ _ T 1 _ hs (by omega) (by omega) (by omega) g6.at_).mono ?_); rintro e w6 ⟨rfl, hb⟩
  have s_w6 : wm.heap.size ≤ w6.heap.size := hb.size
  have W := W.next hb
  have V := V.next hb
  have g6 := g6.below hb (by omega)
  have a3 := a3.keep hb (by omega)
  have b := b.trans (hb.mono b.size)
  clear hb
  clear V0 Vl
  go_wp2_with fail
  (with_reducible refine (IA.out _).mono ?_); rintro e w7 ⟨A7, c7, rfl, g7, hb⟩
  have s_w7 : w6.heap.size ≤ w7.heap.size := hb.size
  have W := W.next hb
  have V := V.next hb
  have g6 := g6.below hb (by omega)
  have a3 := a3.keep hb (by omega)
  have b := b.trans (hb.mono b.size)
  clear hb
  obtain ⟨W0, Wf⟩ := W.c1
  have Wl := W.lt
  clear Wf
  go_wp2_with fail
  clear W0 Wl
  have hA := (Below.refl w7.heap.size w7).alloc (Nat.le_refl _) (.cells #[.slice A7 T.length c7] 29)
  have U := Box.new (w := w7) (c := #[.slice A7 T.length c7]) (t := 29) rfl
  have sz_w8 : w7.heap.size < (w7.alloc (.cells #[.slice A7 T.length c7] 29)).heap.size := by simp
  generalize w7.alloc (.cells #[.slice A7 T.length c7] 29) = w8 at hA U sz_w8 ⊢
  have s_w8 : w7.heap.size ≤ w8.heap.size := hA.size
  have W := W.next hA
  have V := V.next hA
  have g6 := g6.below hA (by omega)
  have g7 := g7.below hA (by omega)
  have a3 := a3.keep hA (by omega)
  have b := b.trans (hA.mono b.size)
  clear hA
  (with_reducible refine (eqTable_same _ _ _ _ _ _ T _ hm g7.at_ a3 (by omega) (by omega)).mono ?_); rintro e w9 ⟨rfl, hb⟩
  have s_w9 : w8.heap.size ≤ w9.heap.size := hb.size
  have W := W.next hb
  have V := V.next hb
  have U := U.next hb
  have g6 := g6.below hb (by omega)
  have g7 := g7.below hb (by omega)
  have a3 := a3.keep hb (by omega)
  have b := b.trans (hb.mono b.size)
  clear hb
  obtain ⟨V0, Vf⟩ := V.c1
  have Vl := V.lt
  clear Vf
  go_wp2_with fail
  (with_reducible refine (heldTable_any _ _ _ T 1 _ hs (by omega) (by omega) (by omega) g6.at_).mono ?_); rintro e w10 ⟨rfl, hb⟩
  have s_w10 : w9.heap.size ≤ w10.heap.size := hb.size
  have W := W.next hb
  have V := V.next hb
  have U := U.next hb
  have g6 := g6.below hb (by omega)
  have g7 := g7.below hb (by omega)
  have a3 := a3.keep hb (by omega)
  have b := b.trans (hb.mono b.size)
  clear hb
  clear V0 Vl
  go_wp2
  go_ret
  exact ⟨rfl, b⟩

set_option maxRecDepth 100000 in
theorem fnExactNewTable_lifted (os : Os) (started : os.Started) (H : Type) (enc : TypeId × Value → H) :
    ReturnsInHanded {} Try.checked os 4 .any (Rows.fnExactNewTableSpec.pre6 enc Try.prog Try.f4 Rows.fnExactNewTableRow.domain false) (Rows.fnExactNewTableSpec.post enc Try.prog Try.f4 false true false false) := by
  refine returnsInHanded_of_change (C := Try.checked) own started (by kernel_rfl) Try.func4
    (ChangeSpec.witness6 (enc := enc) (C := Try.checked) false ⟨#[], #[.int .i64 0], []⟩ 8 (by kernel_rfl) (by kernel_rfl) (by kernel_rfl) (by kernel_rfl)) ?_
  intro W base args ds gs before hval0 hW _ _
  have hval : ∀ (j : Nat) t v, Try.f4.params[j]? = some t → args[j]? = some v → Value.okWide Try.prog W .any base t v := hval0
  have hW' := hW
  obtain ⟨p, q, hA0, hV, rfl, _, _⟩ := hW
  have hA : DataW.TrodAll enc Try.prog W 0 (fun _ => true) true Try.f4.params.toList args.toList ds p := hA0
  rw [Try.params4] at hA hval
  obtain ⟨v0, vs0, d0, ds0, p0, q0, hargs, rfl, rfl, h0, rr0⟩ := trodAll_cons hA
  obtain ⟨rfl, rfl, rfl⟩ := trodAll_nil rr0
  obtain rfl : args = #[v0] := by cases args; simp_all
  obtain ⟨rfl, rfl⟩ := trodVars_none hV
  have k0 := h0
  have lt0 : ∀ x ∈ p0, x.block < W.heap.size := by obtain ⟨m, hm⟩ := k0; exact DataW.trod_lt m _ _ _ hm
  obtain ⟨z0, rfl, rfl, rfl, zwf0⟩ := open_int Try.underlying3 (hval 0 3 v0 rfl rfl) h0
  clear hA0 hval0
  refine (fnExactNewTable_walk z0 W).mono fun e W' ⟨he, bel⟩ => ?_
  subst he
  exact ⟨_, rfl, _, _, _, [], _, [], hW', trodAll_mk1 (shut_bool Try.underlying4 _), (trodAll_cons_mk (Below.trod laidOut (by kernel_rfl) (of_decide_eq_true (by kernel_rfl)) k0 bel lt0) (trodAll_mk0)), rfl, bel.frame _, fun h => by cases h⟩

/-- FnExactNewTable -/
theorem fnExactNewTable_holds : Rows.FnExactNewTableSaid :=
  OpenClaim.holds_of_wide 4 Try.f4 rfl rfl rfl rfl rfl rfl rfl ⟨rfl, rfl, rfl, rfl, rfl⟩ rfl rfl rfl rfl rfl (by kernel_rfl) Try.func4 (by kernel_rfl)
    (of_decide_eq_true (by kernel_rfl)) (by unfold Func.isWrapper; first | (rw [if_pos (by decide +kernel)]; kernel_rfl) | (rw [if_neg (by decide +kernel)]; exact ⟨rfl, rfl⟩))
    (fun os started H enc _ => fnExactNewTable_lifted os started H enc)
#print axioms fnExactNewTable_holds
end Go.Proofs.Ytnnjhikfbpcmfaa
