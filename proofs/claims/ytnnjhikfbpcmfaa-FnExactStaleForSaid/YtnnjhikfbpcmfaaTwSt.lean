/- FnExactStaleFor: for every argument the program's function answers as the model's, and the argument reads as before. No condition. -/
import Derived.Test.YtnnjhikfbpcmfaaSt
import Derived.Test.YtnnjhikfbpcmfaaTk
import Derived.Deep.RegionLaw
namespace Go.Proofs.Ytnnjhikfbpcmfaa
open Go.ChangeShapes Go.WideShapes Go.ChangeAt Go.RowKit Go.Joins

set_option maxRecDepth 100000 in
theorem open_wordv {H : Type} {enc : TypeId × Value → H} {W : World} {base : Nat} {v : Value} {d : DataW H} {p : List MemPlace} (hv : Value.okWide Try.prog W .any base 43 v) (h : DataW.Trod enc Try.prog W 0 (fun _ => true) true 43 v d p) :
    ∃ (e s : Int) (g : Bool), v = .agg #[.int .i64 e, .int .i64 s, .bool g] := by
  obtain ⟨cs, rfl, hsz⟩ := Go.WideShapes.okWide_struct Try.underlying43 hv
  have hl : cs.toList.length = 3 := by rw [Array.length_toList, hsz]; exact cellsWordL
  obtain ⟨fuel, hf⟩ := h
  obtain ⟨a, b', c, hcs⟩ := list3 hl
  simp only [Value.cells, hcs] at hf
  obtain ⟨e, s, g, rfl, rfl, rfl⟩ := open_word hf
  exact ⟨e, s, g, by rw [show cs = #[.int .i64 e, .int .i64 s, .bool g] from Array.toList_inj.1 hcs]⟩

set_option maxHeartbeats 3200000 in
set_option maxRecDepth 100000 in
theorem fnExactStaleFor_walk (A1 : Option Addr) (c1 : Nat) (T : TL) (z1 : Int) (z2 : Int) (e3 s3 : Int) (g3 : Bool) (w : World) (hkey : keyOf Try.prog 3 (.int .i64 z1) = some (.int .i64 z1)) (hm : TLen T) (hr : TAt w w.heap.size A1 T) :
    Calls Try.prog 6 #[.agg #[.slice A1 T.length c1], .int .i64 z1, .int .i64 z2, .agg #[.int .i64 e3, .int .i64 s3, .bool g3]] w fun e w' => e = .returned (.bool true) ∧ Below w.heap.size w w' := by
  by_cases hs : TFit T
  · have hl1 := hs.len
    have b := Below.refl w.heap.size w
    have SA := fun A c B w hB h => specStale_any A c B T z1 z2 e3 s3 g3 w hs hB h
    have IA := fun A c B w hB h => implStale_any A c B T z1 z2 e3 s3 g3 w hkey hs hB h
    generalize staleB T z1 z2 e3 s3 = Q at SA IA
    have SA := Lib.hid SA
    have IA := Lib.hid IA
    clear hkey
    go_enter Try.func6, Try.ntmps6
    go_wp2_with fail
    have b := (b.alloc (Nat.le_refl _) (.cells #[.slice A1 T.length c1] 24)).alloc (by simp) (.cells #[.int .i64 e3, .int .i64 s3, .bool g3] 43)
    have X := (Box.new (w := w) (c := #[.slice A1 T.length c1]) (t := 24) rfl).alloc (.cells #[.int .i64 e3, .int .i64 s3, .bool g3] 43)
    have V := Box.new (w := w.alloc (.cells #[.slice A1 T.length c1] 24)) (b := w.heap.size + 1) (c := #[.int .i64 e3, .int .i64 s3, .bool g3]) (t := 43) (by simp)
    have s_w0 : w.heap.size + 2 ≤ ((w.alloc (.cells #[.slice A1 T.length c1] 24)).alloc (.cells #[.int .i64 e3, .int .i64 s3, .bool g3] 43)).heap.size := by simp
    generalize (w.alloc (.cells #[.slice A1 T.length c1] 24)).alloc (.cells #[.int .i64 e3, .int .i64 s3, .bool g3] 43) = w0 at b X V s_w0 ⊢
    (with_reducible refine (szTable_yes A1 c1 w.heap.size T _ hm hs b.size (hr.keep b (Nat.le_refl _))).mono ?_); rintro e w1 ⟨⟨z, rfl, hz⟩, hb⟩
    have hz : ¬ (z < 0) := by omega
    have s_w1 : w0.heap.size ≤ w1.heap.size := hb.size
    have X := X.next hb
    have V := V.next hb
    have b := b.trans (hb.mono b.size)
    clear hb
    obtain ⟨X0, Xf⟩ := X.c1
    have Xl := X.lt
    clear Xf
    obtain ⟨V0, V1, V2, Vf⟩ := V.c3
    have Vl := V.lt
    clear Vf
    go_upto_region 5 with (fail)
    go_cut [10] from 13 to 40 (fun s10 wx => s10 = .bool Q ∧ (Below w.heap.size w wx ∧ (w.heap.size + 2 ≤ wx.heap.size ∧ (Box wx w.heap.size [.slice A1 T.length c1] ∧ Box wx (w.heap.size + 1) [.int .i64 e3, .int .i64 s3, .bool g3]))))
    case first =>
      clear hz
      have HB := Lib.hid b.drew
      have HS := Lib.hid (show w.heap.size + 2 ≤ w1.drew.heap.size by show _ ≤ w1.heap.size; omega)
      have HX := Lib.hid X.drew
      have HV := Lib.hid V.drew
      clear b X V
      go_region_law (first
        | (go_simp; go_at_call 12; refine (toTable_any A1 c1 w.heap.size T _ hs HB.out.size (hr.keep HB.out (Nat.le_refl _))).mono ?_; rintro o wa ⟨ga, rfl, hya, hba⟩; have HY := Lib.hid hya.at_; have HX := Lib.hid (HX.out.next hba); have HV := Lib.hid (HV.out.next hba); have HB := Lib.hid (HB.out.trans (hba.mono HB.out.size)); have HS := Lib.hid (Nat.le_trans HS.out hba.size); obtain ⟨X0, Xf⟩ := HX.out.c1; obtain ⟨V0, V1, V2, Vf⟩ := HV.out.c3; have Xl := HX.out.lt; have Vl := HV.out.lt; clear hya hba Xf Vf)
        | (go_simp; go_at_call 23; refine (toWord_any e3 s3 g3 _).mono ?_; rintro o wa ⟨rfl, hba⟩; (try have HY := Lib.hid (HY.out.below hba hba.size)); have HX := Lib.hid (HX.out.next hba); have HV := Lib.hid (HV.out.next hba); have HB := Lib.hid (HB.out.trans (hba.mono HB.out.size)); have HS := Lib.hid (Nat.le_trans HS.out hba.size); obtain ⟨X0, Xf⟩ := HX.out.c1; obtain ⟨V0, V1, V2, Vf⟩ := HV.out.c3; have Xl := HX.out.lt; have Vl := HV.out.lt; clear hba Xf Vf)
        | (go_simp; go_at_call 22; refine (SA.out _ _ _ _ (Nat.le_refl _) HY.out).mono ?_; rintro o wa ⟨rfl, hba⟩; have HX := Lib.hid (HX.out.next hba); have HV := Lib.hid (HV.out.next hba); have HB := Lib.hid (HB.out.trans (hba.mono HB.out.size)); have HS := Lib.hid (Nat.le_trans HS.out hba.size); clear hba))
      all_goals (go_wp2_with fail; go_meet; exact ⟨rfl, HB.out, HS.out, HX.out, HV.out⟩)
    case rest =>
      clear X0 Xl V0 V1 V2 Vl
      obtain ⟨rfl, b, s_wc, X, V⟩ := hcut
      clear hz
      obtain ⟨X0, Xf⟩ := X.c1
      have Xl := X.lt
      clear Xf
      obtain ⟨V0, V1, V2, Vf⟩ := V.c3
      have Vl := V.lt
      clear Vf
      go_wp2_with fail
      (with_reducible refine (toTable_any A1 c1 w.heap.size T _ hs b.size (hr.keep b (Nat.le_refl _))).mono ?_); rintro e w2 ⟨k, rfl, hx, hb⟩
      have s_w2 : wc.heap.size ≤ w2.heap.size := hb.size
      have X := X.next hb
      have V := V.next hb
      have b := b.trans (hb.mono b.size)
      clear hb
      clear X0 Xl V0 V1 V2 Vl
      go_wp2_with fail
      have hA := (Below.refl w2.heap.size w2).alloc (Nat.le_refl _) (.cells #[.slice (some ⟨k, 0, none⟩) T.length T.length] 29)
      have Y := Box.new (w := w2) (c := #[.slice (some ⟨k, 0, none⟩) T.length T.length]) (t := 29) rfl
      have sz_w3 : w2.heap.size < (w2.alloc (.cells #[.slice (some ⟨k, 0, none⟩) T.length T.length] 29)).heap.size := by simp
      generalize w2.alloc (.cells #[.slice (some ⟨k, 0, none⟩) T.length T.length] 29) = w3 at hA Y sz_w3 ⊢
      have s_w3 : w2.heap.size ≤ w3.heap.size := hA.size
      have X := X.next hA
      have V := V.next hA
      have hx := hx.below hA (by omega)
      have b := b.trans (hA.mono b.size)
      clear hA
      obtain ⟨X0, Xf⟩ := X.c1
      have Xl := X.lt
      clear Xf
      obtain ⟨V0, V1, V2, Vf⟩ := V.c3
      have Vl := V.lt
      clear Vf
      obtain ⟨Y0, Yf⟩ := Y.c1
      have Yl := Y.lt
      clear Yf
      go_wp2_with fail
      clear X0 Xl V0 V1 V2 Vl Y0 Yl
      have hcl : ((Box w3.drew w.heap.size [.slice A1 T.length c1] ∧ Box w3.drew (w.heap.size + 1) [.int .i64 e3, .int .i64 s3, .bool g3]) ∧ Box w3.drew (w2.heap.size) [.slice (some ⟨k, 0, none⟩) T.length T.length]) ∧ Below w3.heap.size w3 w3.drew := ⟨⟨⟨X.drew, V.drew⟩, Y.drew⟩, (Below.refl w3.heap.size w3).drew⟩
      obtain ⟨I, F, hI, hF0, hF, hFi⟩ := cls (S := fun W => ((Box W w.heap.size [.slice A1 T.length c1] ∧ Box W (w.heap.size + 1) [.int .i64 e3, .int .i64 s3, .bool g3]) ∧ Box W (w2.heap.size) [.slice (some ⟨k, 0, none⟩) T.length T.length]) ∧ Below w3.heap.size w3 W) hcl
      have HFn := Lib.hid (show ∀ n w2, Below (F n).heap.size (F n) w2 → ∃ m, w2 = F m from fun n w2 h => hFi w2 ⟨⟨⟨(hF n).1.1.1.next h, (hF n).1.1.2.next h⟩, (hF n).1.2.next h⟩, (hF n).2.trans (h.mono (hF n).2.size)⟩)
      have f0 := fun n => (hF n).1.1.2.c3.1
      have f1 := fun n => (hF n).1.1.2.c3.2.1
      have f2 := fun n => (hF n).1.1.2.c3.2.2.1
      have f3 := fun n => (hF n).1.2.c1.1
      have HY := Lib.hid (fun n => (hx.at_.keep (hF n).2 (by omega)).up (show _ ≤ (F n).heap.size by have := (hF n).2.size; omega))
      have HF0 := Lib.hid hF0
      have HF := Lib.hid hF
      have Hx := Lib.hid hx
      have HB := Lib.hid b
      clear hF0 hF hFi hcl X V Y hx b
      refine wp_region_cls (by kernel_rfl) (by kernel_rfl) HF0.out ?_
      repeat (go_big_quiet_step (((first
        | (go_at_call 23; refine (toWord_any e3 s3 g3 _).mono ?_; rintro o w5 ⟨rfl, hb5⟩; exact ⟨rfl, HFn.out _ _ hb5⟩)
        | (go_at_call 24; refine (IA.out _ _ _ _ (Nat.le_refl _) (HY.out _)).mono ?_; rintro o w5 ⟨rfl, hb5⟩; exact ⟨rfl, HFn.out _ _ hb5⟩)))))
      refine wpQuiet_nil ?_
      rintro _ ⟨nq, rfl⟩
      obtain ⟨⟨⟨X, V⟩, Y⟩, hbq⟩ := HF.out nq
      have s_wq := hbq.size
      have hx := Hx.out.below hbq (by omega)
      have b := HB.out.trans (hbq.mono HB.out.size)
      clear f0 f1 f2 f3 HF0 HF HFn HY Hx HB hbq
      generalize F nq = wq at X V Y hx b s_wq ⊢
      have hD := (Below.refl wq.heap.size wq).drew
      have Yd := Lib.hid Y.drew
      have hxd := Lib.hid (hx.below hD (by omega))
      have hrd := Lib.hid (hr.keep b.drew (Nat.le_refl _))
      have hbd := b.drew.size
      obtain ⟨X0, Xf⟩ := X.c1
      have Xl := X.lt
      clear Xf
      obtain ⟨Y0, Yf⟩ := Y.c1
      have Yl := Y.lt
      clear Yf
      go_wp2_with fail
      go_region_law (first | (go_simp; go_at_call 12; refine (toTable_any A1 c1 w.heap.size T _ hs hbd hrd.out).mono ?_; rintro o w4 ⟨g6, rfl, hy, hb6⟩; obtain ⟨z0, zf⟩ := (Yd.out.next hb6).c1) | (go_simp; go_at_call 14; refine (eqTable_same _ _ _ _ _ _ T _ hm (hxd.out.below hb6 (by show _ ≤ wq.heap.size; omega)).at_ hy.at_ (by have := hb6.size; show _ ≤ w4.heap.size; have : wq.drew.heap.size = wq.heap.size := rfl; omega) (Nat.le_refl _)).mono ?_; rintro o w5 ⟨rfl, hb7⟩))
      all_goals
        have hb := hD.trans ((hb6.trans (hb7.mono hb6.size)).mono (Nat.le_refl _))
        clear z0 zf hb6 hb7 hy Yd hxd hrd hD hbd
        clear X0 Xl Y0 Yl
        have s_w5 : wq.heap.size ≤ w5.heap.size := hb.size
        have X := X.next hb
        have V := V.next hb
        have Y := Y.next hb
        have hx := hx.below hb (by omega)
        have b := b.trans (hb.mono b.size)
        clear hb
        go_wp2
        go_ret
        exact ⟨rfl, b⟩
  · go_enter Try.func6, Try.ntmps6
    go_wp2_with fail
    have b0 := ((Below.refl w.heap.size w).alloc (Nat.le_refl _) (.cells #[.slice A1 T.length c1] 24)).alloc (by simp) (.cells #[.int .i64 e3, .int .i64 s3, .bool g3] 43)
    refine (szTable_no A1 c1 w.heap.size T _ hm hs b0.size (hr.keep b0 (Nat.le_refl _))).mono ?_; rintro e w1 ⟨rfl, hb1⟩
    go_wp2
    go_ret
    exact ⟨rfl, b0.trans (hb1.mono b0.size)⟩

set_option maxRecDepth 100000 in
theorem fnExactStaleFor_lifted (os : Os) (started : os.Started) (H : Type) (enc : TypeId × Value → H) :
    ReturnsInHanded {} Try.checked os 6 .any (Rows.fnExactStaleForSpec.pre6 enc Try.prog Try.f6 Rows.fnExactStaleForRow.domain false) (Rows.fnExactStaleForSpec.post enc Try.prog Try.f6 false true false false) := by
  refine returnsInHanded_of_change (C := Try.checked) own started (by kernel_rfl) Try.func6
    (ChangeSpec.witness6 (enc := enc) (C := Try.checked) false ⟨#[], #[.agg #[.slice none 0 0], .int .i64 0, .int .i64 0, .agg #[.int .i64 0, .int .i64 0, .bool false]], []⟩ 8 (by kernel_rfl) (by kernel_rfl) (by kernel_rfl) (by kernel_rfl)) ?_
  intro W base args ds gs before hval0 hW _ _
  have hval : ∀ (j : Nat) t v, Try.f6.params[j]? = some t → args[j]? = some v → Value.okWide Try.prog W .any base t v := hval0
  have hW' := hW
  obtain ⟨p, q, hA0, hV, rfl, _, _⟩ := hW
  have hA : DataW.TrodAll enc Try.prog W 0 (fun _ => true) true Try.f6.params.toList args.toList ds p := hA0
  rw [Try.params6] at hA hval
  obtain ⟨v0, vs0, d0, ds0, p0, q0, hargs, rfl, rfl, h0, rr0⟩ := trodAll_cons hA
  obtain ⟨v1, vs1, d1, ds1, p1, q1, rfl, rfl, rfl, h1, rr1⟩ := trodAll_cons rr0
  obtain ⟨v2, vs2, d2, ds2, p2, q2, rfl, rfl, rfl, h2, rr2⟩ := trodAll_cons rr1
  obtain ⟨v3, vs3, d3, ds3, p3, q3, rfl, rfl, rfl, h3, rr3⟩ := trodAll_cons rr2
  obtain ⟨rfl, rfl, rfl⟩ := trodAll_nil rr3
  obtain rfl : args = #[v0, v1, v2, v3] := by cases args; simp_all
  obtain ⟨rfl, rfl⟩ := trodVars_none hV
  have k0 := h0
  have lt0 : ∀ x ∈ p0, x.block < W.heap.size := by obtain ⟨m, hm⟩ := k0; exact DataW.trod_lt m _ _ _ hm
  obtain ⟨A1, c1, T, rfl, n1, r1⟩ := open_table (hval 0 24 v0 rfl rfl) h0
  have k1 := h1
  have lt1 : ∀ x ∈ p1, x.block < W.heap.size := by obtain ⟨m, hm⟩ := k1; exact DataW.trod_lt m _ _ _ hm
  obtain ⟨z1, rfl, rfl, rfl, zwf1⟩ := open_int Try.underlying3 (hval 1 3 v1 rfl rfl) h1
  have k2 := h2
  have lt2 : ∀ x ∈ p2, x.block < W.heap.size := by obtain ⟨m, hm⟩ := k2; exact DataW.trod_lt m _ _ _ hm
  obtain ⟨z2, rfl, rfl, rfl, zwf2⟩ := open_int Try.underlying3 (hval 2 3 v2 rfl rfl) h2
  have k3 := h3
  have lt3 : ∀ x ∈ p3, x.block < W.heap.size := by obtain ⟨m, hm⟩ := k3; exact DataW.trod_lt m _ _ _ hm
  obtain ⟨e3, s3, g3, rfl⟩ := open_wordv (hval 3 43 v3 rfl rfl) h3
  clear hA0 hval0
  refine (fnExactStaleFor_walk A1 c1 T z1 z2 e3 s3 g3 W (Go.Maps.keyOf_int_mk Try.underlying3 zwf1) n1 r1).mono fun e W' ⟨he, bel⟩ => ?_
  subst he
  exact ⟨_, rfl, _, _, _, [], _, [], hW', trodAll_mk1 (shut_bool Try.underlying4 _), (trodAll_cons_mk (Below.trod laidOut (by kernel_rfl) (of_decide_eq_true (by kernel_rfl)) k0 bel lt0) (trodAll_cons_mk (Below.trod laidOut (by kernel_rfl) (of_decide_eq_true (by kernel_rfl)) k1 bel lt1) (trodAll_cons_mk (Below.trod laidOut (by kernel_rfl) (of_decide_eq_true (by kernel_rfl)) k2 bel lt2) (trodAll_cons_mk (Below.trod laidOut (by kernel_rfl) (of_decide_eq_true (by kernel_rfl)) k3 bel lt3) (trodAll_mk0))))), rfl, bel.frame _, fun h => by cases h⟩

/-- FnExactStaleFor -/
theorem fnExactStaleFor_holds : Rows.FnExactStaleForSaid :=
  OpenClaim.holds_of_wide 6 Try.f6 rfl rfl rfl rfl rfl rfl rfl ⟨rfl, rfl, rfl, rfl, rfl⟩ rfl rfl rfl rfl rfl (by kernel_rfl) Try.func6 (by kernel_rfl)
    (of_decide_eq_true (by kernel_rfl)) (by unfold Func.isWrapper; first | (rw [if_pos (by decide +kernel)]; kernel_rfl) | (rw [if_neg (by decide +kernel)]; exact ⟨rfl, rfl⟩))
    (fun os started H enc _ => fnExactStaleFor_lifted os started H enc)
#print axioms fnExactStaleFor_holds
end Go.Proofs.Ytnnjhikfbpcmfaa
