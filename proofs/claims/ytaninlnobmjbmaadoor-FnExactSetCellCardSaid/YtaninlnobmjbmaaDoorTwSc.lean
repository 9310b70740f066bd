/- FnExactSetCell: for every argument the program's function answers as the model's, its answer owns its memory, and the argument reads as before. No condition. -/
import Derived.Test.YtaninlnobmjbmaaDoorUt
import Derived.Test.YtaninlnobmjbmaaDoorUi
import Derived.Test.YtaninlnobmjbmaaDoorTk
import Derived.Deep.RegionLaw
namespace Go.Proofs.YtaninlnobmjbmaaDoor
open Go.ChangeShapes Go.WideShapes Go.ChangeAt Go.RowKit Go.Joins

theorem implSetCellR_any (k off c B : Nat) (T : TL) (key tid v ep : Int) (ad : Addr) (w : World) (hkey : keyOf Tryd.prog 3 (.int .i64 key) = some (.int .i64 key)) (hF : Full w ad) (hs : TFit T) (hB : B ≤ w.heap.size) (h : TAt w B (some ⟨k, off, none⟩) T) :
    Calls Tryd.prog 9 #[.agg #[.slice (some ⟨k, off, none⟩) T.length c], .int .i64 key, .int .i64 tid, .int .i64 v, .int .i64 ep] w (RetTO w (scT T key tid v ep) fun x => .tuple #[x, .bool (scB T key tid v ep)]) :=
  (implSetCell_any k off c B T key tid v ep ad w hkey hF hs hB h).mono fun _ _ h => h.less
set_option maxHeartbeats 3200000 in
set_option maxRecDepth 100000 in
theorem fnExactSetCell_walk (A1 : Option Addr) (c1 : Nat) (T : TL) (z1 : Int) (z2 : Int) (z3 : Int) (z4 : Int) (w : World) (hkey : keyOf Tryd.prog 3 (.int .i64 z1) = some (.int .i64 z1)) (ad : Addr) (hF : Full w ad) (hm : TLen T) (hr : TAt w w.heap.size A1 T) :
    Calls Tryd.prog 3 #[.agg #[.slice A1 T.length c1], .int .i64 z1, .int .i64 z2, .int .i64 z3, .int .i64 z4] w fun e w' => e = .returned (.bool true) ∧ Below w.heap.size w w' := by
  by_cases hs : TFit T
  · have hl1 := hs.len
    have b := Below.refl w.heap.size w
    have SA := fun A c B w hB h => specSetCell_any A c B T z1 z2 z3 z4 w hs hB h
    have IA := fun k c B w hFw hB h => implSetCellR_any k 0 c B T z1 z2 z3 z4 ad w hkey  hFw hs hB h
    have hs8 := scT_fit (key := z1) (tid := z2) (v := z3) (ep := z4) hs
    generalize scT T z1 z2 z3 z4 = T8 at SA IA hs8
    generalize scB T z1 z2 z3 z4 = Q at SA IA
    have SA := Lib.hid SA
    have IA := Lib.hid IA
    have hm8 := fit_len hs8
    have hl8 := hs8.len
    have hk0 : ¬ (kTo T 1 T.length < 0) := by have := kTo_range hs (Nat.le_refl _) (show (0 : Int) ≤ 1 by omega) (by omega); omega
    have hk8 : ¬ (kTo T8 1 T8.length < 0) := by have := kTo_range hs8 (Nat.le_refl _) (show (0 : Int) ≤ 1 by omega) (by omega); omega
    clear hkey
    go_enter Tryd.func3, Tryd.ntmps3
    go_wp2_with fail
    have hA := (Below.refl w.heap.size w).alloc (Nat.le_refl _) (.cells #[.slice A1 T.length c1] 24)
    have X := Box.new (w := w) (c := #[.slice A1 T.length c1]) (t := 24) rfl
    have sz_w1 : w.heap.size < (w.alloc (.cells #[.slice A1 T.length c1] 24)).heap.size := by simp
    generalize w.alloc (.cells #[.slice A1 T.length c1] 24) = w1 at hA X sz_w1 ⊢
    have s_w1 : w.heap.size ≤ w1.heap.size := hA.size
    have b := b.trans (hA.mono b.size)
    clear hA
    (with_reducible refine (szTable_yes A1 c1 w.heap.size T _ hm hs b.size (hr.keep b (Nat.le_refl _))).mono ?_); rintro e w2 ⟨⟨z, rfl, hz⟩, hb⟩
    have hz : ¬ (z < 0) := by omega
    have s_w2 : w1.heap.size ≤ w2.heap.size := hb.size
    have X := X.next hb
    have b := b.trans (hb.mono b.size)
    clear hb
    obtain ⟨X0, Xf⟩ := X.c1
    have Xl := X.lt
    clear Xf
    go_wp2_with fail
    clear hz
    (with_reducible refine (toTable_any A1 c1 w.heap.size T _ hs b.size (hr.keep b (Nat.le_refl _))).mono ?_); rintro e w3 ⟨g, rfl, hg, hb⟩
    have s_w3 : w2.heap.size ≤ w3.heap.size := hb.size
    have X := X.next hb
    have b := b.trans (hb.mono b.size)
    clear hb
    clear X0 Xl
    go_wp2_with fail
    (with_reducible refine (SA.out _ _ _ _ (Nat.le_refl _) hg.at_).mono ?_); rintro e w4 ⟨A3, c3, rfl, o3, hb⟩
    have a3 := o3.at_
    clear hg o3
    have s_w4 : w3.heap.size ≤ w4.heap.size := hb.size
    have X := X.next hb
    have b := b.trans (hb.mono b.size)
    clear hb
    obtain ⟨X0, Xf⟩ := X.c1
    have Xl := X.lt
    clear Xf
    go_wp2_with fail
    clear X0 Xl
    have hA := (Below.refl w4.heap.size w4).alloc (Nat.le_refl _) (.cells #[.slice A3 T8.length c3] 28)
    have W := Box.new (w := w4) (c := #[.slice A3 T8.length c3]) (t := 28) rfl
    have sz_w5 : w4.heap.size < (w4.alloc (.cells #[.slice A3 T8.length c3] 28)).heap.size := by simp
    generalize w4.alloc (.cells #[.slice A3 T8.length c3] 28) = w5 at hA W sz_w5 ⊢
    have s_w5 : w4.heap.size ≤ w5.heap.size := hA.size
    have X := X.next hA
    have a3 := a3.keep hA (by omega)
    have b := b.trans (hA.mono b.size)
    clear hA
    (with_reducible refine (toTable_any A1 c1 w.heap.size T _ hs b.size (hr.keep b (Nat.le_refl _))).mono ?_); rintro e w6 ⟨k, rfl, hx, hb⟩
    have s_w6 : w5.heap.size ≤ w6.heap.size := hb.size
    have X := X.next hb
    have W := W.next hb
    have a3 := a3.keep hb (by omega)
    have b := b.trans (hb.mono b.size)
    clear hb
    go_wp2_with fail
    have hA := (Below.refl w6.heap.size w6).alloc (Nat.le_refl _) (.cells #[.slice (some ⟨k, 0, none⟩) T.length T.length] 28)
    have Y := Box.new (w := w6) (c := #[.slice (some ⟨k, 0, none⟩) T.length T.length]) (t := 28) rfl
    have sz_w7 : w6.heap.size < (w6.alloc (.cells #[.slice (some ⟨k, 0, none⟩) T.length T.length] 28)).heap.size := by simp
    generalize w6.alloc (.cells #[.slice (some ⟨k, 0, none⟩) T.length T.length] 28) = w7 at hA Y sz_w7 ⊢
    have s_w7 : w6.heap.size ≤ w7.heap.size := hA.size
    have X := X.next hA
    have W := W.next hA
    have hx := hx.below hA (by omega)
    have a3 := a3.keep hA (by omega)
    have b := b.trans (hA.mono b.size)
    clear hA
    (with_reducible refine (IA.out _ _ _ _ (hF.below b) (by omega) hx.at_).mono ?_); rintro e w8 ⟨A5, c5, rfl, g5, hb⟩
    have s_w8 : w7.heap.size ≤ w8.heap.size := hb.size
    have X := X.next hb
    have W := W.next hb
    have Y := Y.next hb
    have hx := hx.below hb (by omega)
    have a3 := a3.keep hb (by omega)
    have b := b.trans (hb.mono b.size)
    clear hb
    obtain ⟨W0, Wf⟩ := W.c1
    have Wl := W.lt
    clear Wf
    go_wp2_with fail
    clear W0 Wl
    have hA := (Below.refl w8.heap.size w8).alloc (Nat.le_refl _) (.cells #[.slice A5 T8.length c5] 28)
    have V := Box.new (w := w8) (c := #[.slice A5 T8.length c5]) (t := 28) rfl
    have sz_w9 : w8.heap.size < (w8.alloc (.cells #[.slice A5 T8.length c5] 28)).heap.size := by simp
    generalize w8.alloc (.cells #[.slice A5 T8.length c5] 28) = w9 at hA V sz_w9 ⊢
    have s_w9 : w8.heap.size ≤ w9.heap.size := hA.size
    have X := X.next hA
    have W := W.next hA
    have Y := Y.next hA
    have hx := hx.below hA (by omega)
    have g5 := g5.below hA (by omega)
    have a3 := a3.keep hA (by omega)
    have b := b.trans (hA.mono b.size)
    clear hA
    (with_reducible refine (eqTable_same _ _ _ _ _ _ T8 _ hm8 g5.at_ a3 (by omega) (by omega)).mono ?_); rintro e w10 ⟨rfl, hb⟩
    have s_w10 : w9.heap.size ≤ w10.heap.size := hb.size
    have X := X.next hb
    have W := W.next hb
    have Y := Y.next hb
    have V := V.next hb
    have hx := hx.below hb (by omega)
    have g5 := g5.below hb (by omega)
    have a3 := a3.keep hb (by omega)
    have b := b.trans (hb.mono b.size)
    clear hb
    have hD := (Below.refl w10.heap.size w10).drew
    have Yd := Lib.hid Y.drew
    have hxd := Lib.hid (hx.below hD (by omega))
    have hrd := Lib.hid (hr.keep b.drew (Nat.le_refl _))
    have hbd := b.drew.size
    obtain ⟨X0, Xf⟩ := X.c1
    have Xl := X.lt
    clear Xf
    obtain ⟨Y0, Yf⟩ := Y.c1
    have Yl := Y.lt
    clear Yf
    go_wp2_with fail
    go_region_law (first | (go_simp; go_at_call 8; refine (toTable_any A1 c1 w.heap.size T _ hs hbd hrd.out).mono ?_; rintro o w11 ⟨g6, rfl, hy, hb6⟩; obtain ⟨z0, zf⟩ := (Yd.out.next hb6).c1) | (go_simp; go_at_call 10; refine (eqTable_same _ _ _ _ _ _ T _ hm (hxd.out.below hb6 (by show _ ≤ w10.heap.size; omega)).at_ hy.at_ (by have := hb6.size; show _ ≤ w11.heap.size; have : w10.drew.heap.size = w10.heap.size := rfl; omega) (Nat.le_refl _)).mono ?_; rintro o w12 ⟨rfl, hb7⟩))
    all_goals
      have hb := hD.trans ((hb6.trans (hb7.mono hb6.size)).mono (Nat.le_refl _))
      clear z0 zf hb6 hb7 hy Yd hxd hrd hD hbd
      clear X0 Xl Y0 Yl
      have s_w12 : w10.heap.size ≤ w12.heap.size := hb.size
      have X := X.next hb
      have W := W.next hb
      have Y := Y.next hb
      have V := V.next hb
      have hx := hx.below hb (by omega)
      have g5 := g5.below hb (by omega)
      have a3 := a3.keep hb (by omega)
      have b := b.trans (hb.mono b.size)
      clear hb
      obtain ⟨Y0, Yf⟩ := Y.c1
      have Yl := Y.lt
      clear Yf
      obtain ⟨V0, Vf⟩ := V.c1
      have Vl := V.lt
      clear Vf
      obtain ⟨W0, Wf⟩ := W.c1
      have Wl := W.lt
      clear Wf
      go_wp2_with fail
      (with_reducible refine (markTable_any _ _ _ _ T 1 _ hs (by omega) (by omega) (by omega) hx).mono ?_); rintro e w13 ⟨rfl, hm, hx2⟩
      have hm := MarkS.two hm
      have s_w13 : w12.heap.size ≤ w13.heap.size := hm.size
      have X := X.mark hm (by omega)
      have W := W.mark hm (by omega)
      have Y := Y.mark hm (by omega)
      have V := V.mark hm (by omega)
      have g5 := g5.mark hm (by omega) (by omega)
      have a3 := a3.mark hm (by omega) (by omega)
      have b := b.trans (hm.bel (by omega) (by omega))
      clear hm
      clear Y0 Yl V0 Vl W0 Wl
      clear hx hx2
      obtain ⟨V0, Vf⟩ := V.c1
      have Vl := V.lt
      clear Vf
      obtain ⟨W0, Wf⟩ := W.c1
      have Wl := W.lt
      clear Wf
      go_wp2_with fail
      clear V0 Vl W0 Wl
      (with_reducible refine (eqTable_same _ _ _ _ _ _ T8 _ hm8 g5.at_ a3 (by omega) (by omega)).mono ?_); rintro e w14 ⟨rfl, hb⟩
      have s_w14 : w13.heap.size ≤ w14.heap.size := hb.size
      have X := X.next hb
      have W := W.next hb
      have Y := Y.next hb
      have V := V.next hb
      have g5 := g5.below hb (by omega)
      have a3 := a3.keep hb (by omega)
      have b := b.trans (hb.mono b.size)
      clear hb
      obtain ⟨V0, Vf⟩ := V.c1
      have Vl := V.lt
      clear Vf
      go_wp2_with fail
      (with_reducible refine (markTable_any _ _ _ _ T8 1 _ hs8 (by omega) (by omega) (by omega) g5).mono ?_); rintro e wm ⟨rfl, hmk, g6⟩
      have hmk := MarkS.two hmk
      have s_wm : w14.heap.size ≤ wm.heap.size := hmk.size
      have X := X.mark hmk (by omega)
      have W := W.mark hmk (by omega)
      have Y := Y.mark hmk (by omega)
      have V := V.mark hmk (by omega)
      have a3 := a3.mark hmk (by omega) (by omega)
      have b := b.trans (hmk.bel (by omega) (by omega))
      clear hmk g5
      clear V0 Vl
      obtain ⟨V0, Vf⟩ := V.c1
      have Vl := V.lt
      clear Vf
      go_wp2_with fail
      (with_reducible refine (heldTable_any _ _ _ T8 1 _ hs8 (by omega) (by omega) (by omega) g6.at_).mono ?_); rintro e w15 ⟨rfl, hb⟩
      have s_w15 : wm.heap.size ≤ w15.heap.size := hb.size
      have X := X.next hb
      have W := W.next hb
      have Y := Y.next hb
      have V := V.next hb
      have g6 := g6.below hb (by omega)
      have a3 := a3.keep hb (by omega)
      have b := b.trans (hb.mono b.size)
      clear hb
      clear V0 Vl
      obtain ⟨X0, Xf⟩ := X.c1
      have Xl := X.lt
      clear Xf
      go_wp2_with fail
      (with_reducible refine (toTable_any A1 c1 w.heap.size T _ hs b.size (hr.keep b (Nat.le_refl _))).mono ?_); rintro e w16 ⟨p, rfl, hp, hb⟩
      have s_w16 : w15.heap.size ≤ w16.heap.size := hb.size
      have X := X.next hb
      have W := W.next hb
      have Y := Y.next hb
      have V := V.next hb
      have g6 := g6.below hb (by omega)
      have a3 := a3.keep hb (by omega)
      have b := b.trans (hb.mono b.size)
      clear hb
      clear X0 Xl
      go_wp2_with fail
      (with_reducible refine (IA.out _ _ _ _ (hF.below b) (Nat.le_refl _) hp.at_).mono ?_); rintro e w17 ⟨A7, c7, rfl, g7, hb⟩
      clear hp
      have s_w17 : w16.heap.size ≤ w17.heap.size := hb.size
      have X := X.next hb
      have W := W.next hb
      have Y := Y.next hb
      have V := V.next hb
      have g6 := g6.below hb (by omega)
      have a3 := a3.keep hb (by omega)
      have b := b.trans (hb.mono b.size)
      clear hb
      obtain ⟨W0, Wf⟩ := W.c1
      have Wl := W.lt
      clear Wf
      go_wp2_with fail
      clear W0 Wl
      have hA := (Below.refl w17.heap.size w17).alloc (Nat.le_refl _) (.cells #[.slice A7 T8.length c7] 28)
      have U := Box.new (w := w17) (c := #[.slice A7 T8.length c7]) (t := 28) rfl
      have sz_w18 : w17.heap.size < (w17.alloc (.cells #[.slice A7 T8.length c7] 28)).heap.size := by simp
      generalize w17.alloc (.cells #[.slice A7 T8.length c7] 28) = w18 at hA U sz_w18 ⊢
      have s_w18 : w17.heap.size ≤ w18.heap.size := hA.size
      have X := X.next hA
      have W := W.next hA
      have Y := Y.next hA
      have V := V.next hA
      have g6 := g6.below hA (by omega)
      have g7 := g7.below hA (by omega)
      have a3 := a3.keep hA (by omega)
      have b := b.trans (hA.mono b.size)
      clear hA
      (with_reducible refine (eqTable_same _ _ _ _ _ _ T8 _ hm8 g7.at_ a3 (by omega) (by omega)).mono ?_); rintro e w19 ⟨rfl, hb⟩
      have s_w19 : w18.heap.size ≤ w19.heap.size := hb.size
      have X := X.next hb
      have W := W.next hb
      have Y := Y.next hb
      have V := V.next hb
      have U := U.next hb
      have g6 := g6.below hb (by omega)
      have g7 := g7.below hb (by omega)
      have a3 := a3.keep hb (by omega)
      have b := b.trans (hb.mono b.size)
      clear hb
      obtain ⟨V0, Vf⟩ := V.c1
      have Vl := V.lt
      clear Vf
      go_wp2_with fail
      (with_reducible refine (heldTable_any _ _ _ T8 1 _ hs8 (by omega) (by omega) (by omega) g6.at_).mono ?_); rintro e w20 ⟨rfl, hb⟩
      have s_w20 : w19.heap.size ≤ w20.heap.size := hb.size
      have X := X.next hb
      have W := W.next hb
      have Y := Y.next hb
      have V := V.next hb
      have U := U.next hb
      have g6 := g6.below hb (by omega)
      have g7 := g7.below hb (by omega)
      have a3 := a3.keep hb (by omega)
      have b := b.trans (hb.mono b.size)
      clear hb
      clear V0 Vl
      go_wp2
      go_ret
      exact ⟨rfl, b⟩
  · go_enter Tryd.func3, Tryd.ntmps3
    go_wp2_with fail
    have b0 := (Below.refl w.heap.size w).alloc (Nat.le_refl _) (.cells #[.slice A1 T.length c1] 24)
    refine (szTable_no A1 c1 w.heap.size T _ hm hs b0.size (hr.keep b0 (Nat.le_refl _))).mono ?_; rintro e w1 ⟨rfl, hb1⟩
    go_wp2
    go_ret
    exact ⟨rfl, b0.trans (hb1.mono b0.size)⟩

end Go.Proofs.YtaninlnobmjbmaaDoor
