/- SetCell: the program's. -/
import Derived.Test.YtaninlnobmjbmaaDoorUs
import Derived.Test.YtaninlnobmjbmaaDoorLi3
namespace Go.Proofs.YtaninlnobmjbmaaDoor
open Go.RowKit
open Go.Maps (Keyed)

theorem field_slot (a b : Int) (w : World) : (Instr.field 84 (.agg #[.int .i64 a, .int .i64 b]) 0).run Tryd.prog w = .ok (.int .i64 a) w := by kernel_rfl
theorem holds_nil (t : Int) : holdsL [] [] t = 0 := by
  unfold holdsL
  split
  · rfl
  · rfl
theorem implHolds_zero (t : Int) (w : World) : Calls Tryd.prog 31 #[.agg #[.slice none 0 0, .slice none 0 0], .int .i64 t] w fun e w' => e = .returned (.int .i64 0) ∧ Below w.heap.size w w' := by
  have h := implHolds_any none none 0 0 0 [] [] t w (by simp) (by simp) ⟨fun h => absurd h (by simp), fun h => absurd h (by simp)⟩
  rw [holds_nil] at h
  exact h
set_option maxHeartbeats 3200000 in
set_option maxRecDepth 100000 in
theorem implSetCell_any (b off c B : Nat) (T : TL) (key tid v ep : Int) (ad : Addr) (w : World) (hkey : keyOf Tryd.prog 3 (.int .i64 key) = some (.int .i64 key)) (hF : Full w ad) (hs : TFit T) (hB : B ≤ w.heap.size) (h : TAt w B (some ⟨b, off, none⟩) T) :
    Calls Tryd.prog 9 #[.agg #[.slice (some ⟨b, off, none⟩) T.length c], .int .i64 key, .int .i64 tid, .int .i64 v, .int .i64 ep] w (RetTOC w (scT T key tid v ep) fun x => .tuple #[x, .bool (scB T key tid v ep)]) := by
  go_enter Tryd.func9, Tryd.ntmps9
  go_wp2_with fail
  have b0 := ((Below.refl w.heap.size w).alloc (Nat.le_refl _) (.cells #[.slice (some ⟨b, off, none⟩) T.length c] 28)).alloc (by simp) (.cells #[.slice none 0 0] 28)
  have X := (Box.new (w := w) (c := #[.slice (some ⟨b, off, none⟩) T.length c]) (t := 28) rfl).alloc (.cells #[.slice none 0 0] 28)
  have R := Box.new (w := w.alloc (.cells #[.slice (some ⟨b, off, none⟩) T.length c] 28)) (b := w.heap.size + 1) (c := #[.slice none 0 0]) (t := 28) (by simp)
  have hz0 : w.heap.size + 2 ≤ ((w.alloc (.cells #[.slice (some ⟨b, off, none⟩) T.length c] 28)).alloc (.cells #[.slice none 0 0] 28)).heap.size := by simp
  generalize (w.alloc (.cells #[.slice (some ⟨b, off, none⟩) T.length c] 28)).alloc (.cells #[.slice none 0 0] 28) = w0 at b0 X R hz0 ⊢
  cases hT : tabOk T with
  | false =>
    have HE0 := Lib.hid (sc_not (tid := tid) (v := v) (ep := ep) (show thereB T key = false by simp [thereB, hT]))
    refine (storeOf_bad _ c B T _ hs (Nat.le_trans hB b0.size) (h.keep b0 hB) hT).mono ?_; rintro o w1 ⟨rfl, hb1⟩
    have hA := (Below.refl w1.heap.size w1).alloc (Nat.le_refl _) (.cells #[.map none, .map none] 80)
    have hbA := hb1.trans (hA.mono hb1.size)
    have X := X.next hbA
    have R := R.next hbA
    have b2 := b0.trans (hbA.mono b0.size)
    have hz2 := Nat.le_trans hz0 hbA.size
    have hlk := Go.Maps.look_nil (w := w1.alloc (.cells #[.map none, .map none] 80)) false keyI Tryd.underlying78 (zeroLock _) hkey
    clear hb1 hT hA hbA
    go_wp2_with fail
    clear hlk
    generalize w1.alloc (.cells #[.map none, .map none] 80) = w2 at X R b2 hz2 ⊢
    refine (implHolds_zero tid _).mono ?_; rintro o w3 ⟨rfl, hb⟩
    have X := X.next hb
    have R := R.next hb
    have b2 := b2.trans (hb.mono b2.size)
    have hz3 := Nat.le_trans hz2 hb.size
    clear hb
    have HE := Lib.hid (HE0.out)
    obtain ⟨x0, xf⟩ := X.c1
    have Xl := X.lt
    clear X xf
    go_wp2_with fail
    refine (copiedTableC_any b off c B T _ hs (Nat.le_trans hB b2.size) (h.keep b2 hB)).mono ?_; rintro o w8 ⟨A8, c8, rfl, ht, hb8, hcx⟩
    have R8 := R.next hb8
    have b8 := b2.trans (hb8.mono b2.size)
    have HO := Lib.hid ((ht.put (a := w.heap.size + 1) (.slice A8 T.length c8) (by omega)).more (lo' := w.heap.size) (B' := (w8.setCell ⟨w.heap.size + 1, 0, none⟩ (.slice A8 T.length c8)).heap.size) (by omega) (by simp))
    have HB8 := Lib.hid (b8.setCell (p := ⟨w.heap.size + 1, 0, none⟩) (by simp) (.slice A8 T.length c8))
    have HCX := Lib.hid (capl_far ht hcx (a := ⟨w.heap.size + 1, 0, none⟩) (.slice A8 T.length c8) (by show w.heap.size + 1 < _; omega))
    obtain ⟨r8, rf8⟩ := R8.c1
    have Rl8 := R8.lt
    clear ht hb8 R8 b8 R b2 x0 Xl hcx
    go_wp2
    exact bodyPost_ret (v := .tuple #[.agg #[.slice A8 T.length c8], .bool false]) (by simp [results, Tryd.results9, go_sem, r8]) rfl (by
      rw [HE.out.1, HE.out.2]
      exact ⟨A8, c8, rfl, HO.out, HB8.out, HCX.out⟩)
  | true =>
    have hl8 := tabOk_len hT
    have hTE : thereB T key = decide (0 ≤ key ∧ key < (T.length : Int)) := by
      rw [Bool.eq_iff_iff, there_iff, decide_eq_true_eq]
      constructor
      · rintro ⟨_, h1, h2⟩; omega
      · rintro ⟨h1, h2⟩; exact ⟨hT, h1, by omega⟩
    have HT := Lib.hid hT
    obtain ⟨bb, off', e, hbB, q, hc⟩ := h (by omega)
    injection e with e
    injection e with e1 e2 _
    subst e1 e2
    have hcl0 : TCl w0 B b off T q := ⟨hbB, fun j hj => ⟨(hc j hj).1.below b0 (by omega), LAt.keep (hc j hj).2 b0 hB⟩⟩
    have q0H : ∃ q : Nat → Pl, ∀ j, j < T.length → CCells w b (off + j * 6) (cd T j) (q j) ∧ LsAt w B (cd T j) (q j) := ⟨q, hc⟩
    have HLs := Lib.hid (fun j (hj : j < T.length) => (hc j hj).2)
    refine (storeOf_ok b off c B T q _ hs (Nat.le_trans hB b0.size) hcl0 hT).mono ?_; rintro o w1 ⟨m1, m2, mm, rfl, hne, hm1, hm2, M1, hmm, M2, hb1⟩
    have X := X.next hb1
    have R := R.next hb1
    have b1 := b0.trans (hb1.mono b0.size)
    have hz1 := Nat.le_trans hz0 hb1.size
    have hm1l := M1.lt
    have hm2l := M2.lt
    have hA := (Below.refl w1.heap.size w1).alloc (Nat.le_refl _) (.cells #[.map (some m1), .map (some m2)] 80)
    have St := Box.new (w := w1) (c := #[.map (some m1), .map (some m2)]) (t := 80) rfl
    have M1 := M1.next hA
    have M2 := M2.next hA
    have X := X.next hA
    have R := R.next hA
    have b1 := b1.trans (hA.mono b1.size)
    have hz2 : w1.heap.size < (w1.alloc (.cells #[.map (some m1), .map (some m2)] 80)).heap.size := by simp
    clear hb1 hcl0 hc hT hA b0
    go_upto_region 2 with (fail)
    generalize w1.alloc (.cells #[.map (some m1), .map (some m2)] 80) = w2 at M1 M2 St X R b1 hz2 ⊢
    obtain ⟨t0, t1, tf⟩ := St.c2
    have Tl := St.lt
    by_cases hk : 0 ≤ key ∧ key < (T.length : Int)
    · obtain ⟨k, rfl⟩ := Int.eq_ofNat_of_zero_le hk.1
      have hkn : k < T.length := by omega
      have HTh := Lib.hid (show thereB T (k : Int) = true by rw [hTE, decide_eq_true hk])
      have hwo := tabOk_wordOk HT.out hkn
      have HSl := Lib.hid (show slotsF T T.length (k : Int) = some (.agg #[.int .i64 (pk (cd T k).e (cd T k).s (cd T k).h), .int .i64 (cd T k).v]) by unfold slotsF; rw [if_pos hk]; rfl)
      have HLk := Lib.hid (locks_get (q := q) HT.out hkn)
      have hlk := hs.at_ hkn
      have HN1 := Lib.hid (fun hh : ¬ holdsL (cd T k).hs (cd T k).ws tid = 2 => sc_no (sc_k1 (T := T) (k := k) (tid := tid) (v := v) (ep := ep) hh))
      have HN4 := Lib.hid (fun (h1 : holdsL (cd T k).hs (cd T k).ws tid = 2) h2 h3 => And.intro (sc_yes HTh.out (sc_k4 (T := T) (k := k) (tid := tid) (v := v) (ep := ep) h1 h2 h3)) (putV_ok HT.out hkn h1 h2 h3))
      clear hTE hk tf
      have b2 := b1
      have hLA : LAt w2 B (lkP T q k).G (lkP T q k).G' ((cd T k).hs, (cd T k).ws) := LAt.keep (locks_at HT.out hkn (HLs.out k hkn)) b2 hB
      go_wp2_with (first | (at_lookup; refine wp_look _ rfl _ _ rfl keyI Tryd.underlying78 (zeroLock _) rfl M2 (k : Int) rfl hkey (.agg #[.slice (lkP T q k).G (cd T k).hs.length (lkP T q k).c, .slice (lkP T q k).G' (cd T k).ws.length (lkP T q k).c']) (by rw [HLk.out]; rfl) ?_) | fail)
      refine (implHolds_any _ _ _ _ B (cd T k).hs (cd T k).ws tid _ hlk.1 hlk.2 hLA).mono ?_; rintro o w4 ⟨rfl, hb⟩
      have X := X.next hb
      have R := R.next hb
      have St := St.next hb
      have M1 := M1.next hb
      have M2 := M2.next hb
      have b2 := b2.trans (hb.mono b2.size)
      have hz4 := Nat.lt_of_lt_of_le hz2 hb.size
      clear hb t0 t1 Tl hLA b1
      have h : TAt w B (some ⟨b, off, none⟩) T := fun _ => ⟨b, off, rfl, hbB, q0H⟩
      generalize holdsL (cd T k).hs (cd T k).ws tid = z at HN1 HN4 ⊢
      by_cases hz : z = 2
      · subst hz
        go_wp2_with fail
        refine (implVal_any v _).mono ?_; rintro o w5 ⟨rfl, rfl⟩
        cases hv : valB v with
        | false =>
          have HE := Lib.hid (sc_no (sc_k2 (T := T) (k := k) (tid := tid) (v := v) (ep := ep) hv))
          obtain ⟨x0, xf⟩ := X.c1
          have Xl := X.lt
          clear X xf M1 M2 St
          go_wp2_with fail
          refine (copiedTableC_any b off c B T _ hs (Nat.le_trans hB b2.size) (h.keep b2 hB)).mono ?_; rintro o w8 ⟨A8, c8, rfl, ht, hb8, hcx⟩
          have R8 := R.next hb8
          have b8 := b2.trans (hb8.mono b2.size)
          have HO := Lib.hid ((ht.put (a := w.heap.size + 1) (.slice A8 T.length c8) (by omega)).more (lo' := w.heap.size) (B' := (w8.setCell ⟨w.heap.size + 1, 0, none⟩ (.slice A8 T.length c8)).heap.size) (by omega) (by simp))
          have HB8 := Lib.hid (b8.setCell (p := ⟨w.heap.size + 1, 0, none⟩) (by simp) (.slice A8 T.length c8))
          have HCX := Lib.hid (capl_far ht hcx (a := ⟨w.heap.size + 1, 0, none⟩) (.slice A8 T.length c8) (by show w.heap.size + 1 < _; omega))
          obtain ⟨r8, rf8⟩ := R8.c1
          have Rl8 := R8.lt
          clear ht hb8 R8 b8 R b2 x0 Xl hcx
          go_wp2
          exact bodyPost_ret (v := .tuple #[.agg #[.slice A8 T.length c8], .bool false]) (by simp [results, Tryd.results9, go_sem, r8]) rfl (by
            rw [HE.out.1, HE.out.2]
            exact ⟨A8, c8, rfl, HO.out, HB8.out, HCX.out⟩)
        | true =>
          obtain ⟨t0, t1, tf⟩ := St.c2
          have Tl := St.lt
          have HV := Lib.hid hv
          have hfs := field_slot (pk (cd T k).e (cd T k).s (cd T k).h) (cd T k).v w4
          clear hv tf
          go_wp2_with (first | (at_lookup; refine wp_look _ rfl _ _ rfl keyI Tryd.underlying77 (zeroSlot _) rfl M1 (k : Int) rfl hkey (.agg #[.int .i64 (pk (cd T k).e (cd T k).s (cd T k).h), .int .i64 (cd T k).v]) (by rw [HSl.out]; rfl) ?_) | fail)
          refine (word_pk (cd T k).e (cd T k).s (cd T k).h hwo _).mono ?_; rintro o w5 ⟨rfl, hb⟩
          have X := X.next hb
          have R := R.next hb
          have St := St.next hb
          have M1 := M1.next hb
          have M2 := M2.next hb
          have b2 := b2.trans (hb.mono b2.size)
          have hz5 := Nat.lt_of_lt_of_le hz4 hb.size
          clear hb t0 t1 Tl hfs
          go_wp2_with fail
          refine (implNextW_any (cd T k).e (cd T k).s (cd T k).h ep hwo ad _ (hF.below b2)).mono ?_; rintro o w6 ⟨rfl, hb⟩
          have X := X.next hb
          have R := R.next hb
          have St := St.next hb
          have M1 := M1.next hb
          have M2 := M2.next hb
          have b2 := b2.trans (hb.mono b2.size)
          have hz6 := Nat.lt_of_lt_of_le hz5 hb.size
          clear hb
          cases hn : nwB (cd T k).e (cd T k).s ep with
          | false =>
            rw [nw_no hn]
            have hA := (Below.refl w6.heap.size w6).alloc (Nat.le_refl _) (.cells #[.int .i64 0, .int .i64 0, .bool false] 67)
            have X := X.next hA
            have R := R.next hA
            have b2 := b2.trans (hA.mono b2.size)
            have hz7 := Nat.lt_of_lt_of_le hz6 hA.size
            clear hA
            go_upto_region 5 with (fail)
            generalize w6.alloc (.cells #[.int .i64 0, .int .i64 0, .bool false] 67) = w7 at X R b2 hz7 ⊢
            have HE := Lib.hid (sc_no (sc_k3 (T := T) (k := k) (tid := tid) (v := v) (ep := ep) hn))
            obtain ⟨x0, xf⟩ := X.c1
            have Xl := X.lt
            clear X xf M1 M2 St
            go_wp2_with fail
            refine (copiedTableC_any b off c B T _ hs (Nat.le_trans hB b2.size) (h.keep b2 hB)).mono ?_; rintro o w8 ⟨A8, c8, rfl, ht, hb8, hcx⟩
            have R8 := R.next hb8
            have b8 := b2.trans (hb8.mono b2.size)
            have HO := Lib.hid ((ht.put (a := w.heap.size + 1) (.slice A8 T.length c8) (by omega)).more (lo' := w.heap.size) (B' := (w8.setCell ⟨w.heap.size + 1, 0, none⟩ (.slice A8 T.length c8)).heap.size) (by omega) (by simp))
            have HB8 := Lib.hid (b8.setCell (p := ⟨w.heap.size + 1, 0, none⟩) (by simp) (.slice A8 T.length c8))
            have HCX := Lib.hid (capl_far ht hcx (a := ⟨w.heap.size + 1, 0, none⟩) (.slice A8 T.length c8) (by show w.heap.size + 1 < _; omega))
            obtain ⟨r8, rf8⟩ := R8.c1
            have Rl8 := R8.lt
            clear ht hb8 R8 b8 R b2 x0 Xl hcx
            go_wp2
            exact bodyPost_ret (v := .tuple #[.agg #[.slice A8 T.length c8], .bool false]) (by simp [results, Tryd.results9, go_sem, r8]) rfl (by
              rw [HE.out.1, HE.out.2]
              exact ⟨A8, c8, rfl, HO.out, HB8.out, HCX.out⟩)
          | true =>
            have hEn := HN4.out (by trivial) HV.out hn
            have how := nw_ok hn hwo
            rw [nw_yes hn]
            generalize nwE (cd T k).e ep = e' at hEn how ⊢
            generalize nwS (cd T k).e (cd T k).s ep = s' at hEn how ⊢
            have HE := Lib.hid hEn.1
            have HTO := Lib.hid hEn.2
            have HO := Lib.hid (wordOk_iff.1 how)
            have hA := ((Below.refl w6.heap.size w6).alloc (Nat.le_refl _) (.cells #[.int .i64 e', .int .i64 s', .bool false] 67)).setCell (p := ⟨w6.heap.size, 2, none⟩) (Nat.le_refl _) (.bool true)
            have W := Box.new (w := w6) (c := #[.int .i64 e', .int .i64 s', .bool false]) (t := 67) rfl
            clear hn HN1 HN4 hEn how
            go_upto_region 5 with (fail)
            generalize w6.alloc (.cells #[.int .i64 e', .int .i64 s', .bool false] 67) = w7 at W hA ⊢
            obtain ⟨v0, v1, v2, vf⟩ := W.c3
            have Wl := W.lt
            go_upto_region 8 with (fail)
            have W : Box (w7.setCell ⟨w6.heap.size, 2, none⟩ (.bool true)) w6.heap.size [.int .i64 e', .int .i64 s', .bool true] := W.set (j := 2) (.bool true) (by simp)
            clear v0 v1 v2 vf Wl
            generalize w7.setCell ⟨w6.heap.size, 2, none⟩ (.bool true) = w8 at W hA ⊢
            have R := R.next hA
            have St := St.next hA
            have M1 := M1.next hA
            have M2 := M2.next hA
            have b2 := b2.trans (hA.mono b2.size)
            clear hA X
            have HSt := Lib.hid St.drew
            have HW := Lib.hid W.drew
            have HR := Lib.hid R.drew
            have HB := Lib.hid b2.drew
            have HM1 := Lib.hid (M1.block (w' := w8.drew) rfl)
            have HM2 := Lib.hid (M2.block (w' := w8.drew) rfl)
            have hS0 := Lib.hid (And.intro St.drew.c2.1 (And.intro W.drew.c3.1 (And.intro W.drew.c3.2.1 W.drew.c3.2.2.1)))
            clear St W R b2 M1 M2
            go_region_held3 (fun W => W.cell? ⟨w1.heap.size, 0, none⟩ = some (.map (some m1)) ∧ W.cell? ⟨w6.heap.size, 0, none⟩ = some (.int .i64 e') ∧ W.cell? ⟨w6.heap.size, 1, none⟩ = some (.int .i64 s') ∧ W.cell? ⟨w6.heap.size, 2, none⟩ = some (.bool true)) (first | exact hS0.out | exact hS5.out | exact hS6.out) ((go_at_call 36; refine (packedOf_any e' s' true HO.out.1.1 HO.out.1.2 HO.out.2.1 HO.out.2.2 _).mono ?_; rintro o w9 ⟨rfl, hb5⟩; obtain ⟨w10, hrun, M6, hT6⟩ := (HM1.out.next hb5).store keyI Tryd.underlying77 (by unfold maxLen; omega) (x := (k : Int)) hkey (.agg #[.int .i64 (pk e' s' true), .int .i64 v]); have hU := But2.of_turn1 (b2 := m2) hT6; have hS5 := Lib.hid (And.intro (HSt.out.next hb5).c2.1 (And.intro (HW.out.next hb5).c3.1 (And.intro (HW.out.next hb5).c3.2.1 (HW.out.next hb5).c3.2.2.1))); have HSt6 := Lib.hid ((HSt.out.next hb5).but hU (by omega) (by omega)); have HR6 := Lib.hid ((HR.out.next hb5).but hU (by omega) (by omega)); have HW6 := (HW.out.next hb5).but hU (by omega) (by omega); have hS6 := Lib.hid (And.intro HSt6.out.c2.1 (And.intro HW6.c3.1 (And.intro HW6.c3.2.1 HW6.c3.2.2.1))); have M6 := Lib.hid M6; have M26 := Lib.hid ((HM2.out.next hb5).kept hT6.grown (fun e => by injection e with e; exact hne e.symm)); have HB6 := Lib.hid ((HB.out.trans (hb5.mono HB.out.size)).trans (hU.below (L := w.heap.size) (by omega) (by omega) (Nat.le_trans HB.out.size hb5.size))); clear hb5 hU HW6 hT6))
            rename_i hS
            clear hS
            have N1 := M6.out
            rw [if_pos (show (slotsF T T.length (k : Int)).isSome = true by rw [HSl.out]; rfl)] at N1
            have N1 := N1.congr (slots_val hkn v e' s')
            rw [← putT_len T k (valC (cd T k) v e' s')] at N1
            have hto := HTO.out
            have b6 := HB6.out
            obtain ⟨t0, t1, tf⟩ := HSt6.out.c2
            have Tl := HSt6.out.lt
            have R := HR6.out
            have hz6 : w.heap.size + 2 ≤ w10.heap.size := by omega
            clear hS0 hS5 hS6 hrun M6 HSt HW HR HM1 HM2 HB tf
            go_wp2_with fail
            refine (tableC_any m1 m2 mm w10.heap.size (putT T k (valC (cd T k) v e' s')) (lkP T q) _ _ (tab_fit hto) (Nat.le_refl _) (fun j hj => tabOk_wordOk hto hj) N1 M26.out (fun j hj => locks_val HT.out v e' s' (by rw [putT_len] at hj; exact hj)) (fun j hj => lists_val HT.out v e' s' (fun i hi => (LAt.keep (HLs.out i hi) b6 hB).up (Nat.le_trans hB b6.size)) (by rw [putT_len] at hj; exact hj))).mono ?_; rintro o w11 ⟨A8, c8, rfl, ht, hb8, hcx⟩
            have R8 := R.next hb8
            have b8 := b6.trans (hb8.mono b6.size)
            generalize putT T k (valC (cd T k) v e' s') = T8 at HE ht hcx
            have HO := Lib.hid ((ht.put (a := w.heap.size + 1) (.slice A8 T8.length c8) (by omega)).more (lo' := w.heap.size) (B' := (w11.setCell ⟨w.heap.size + 1, 0, none⟩ (.slice A8 T8.length c8)).heap.size) (by omega) (by simp))
            have HB8 := Lib.hid (b8.setCell (p := ⟨w.heap.size + 1, 0, none⟩) (by simp) (.slice A8 T8.length c8))
            have HCX := Lib.hid (capl_far ht hcx (a := ⟨w.heap.size + 1, 0, none⟩) (.slice A8 T8.length c8) (by show w.heap.size + 1 < _; omega))
            obtain ⟨r8, rf8⟩ := R8.c1
            have Rl8 := R8.lt
            clear ht hcx hb8 R8 b8 R t0 t1 Tl N1 b6 hto
            go_wp2
            exact bodyPost_ret (v := .tuple #[.agg #[.slice A8 T8.length c8], .bool true]) (by simp [results, Tryd.results9, go_sem, r8]) rfl (by
              rw [HE.out.1, HE.out.2]
              exact ⟨A8, c8, rfl, HO.out, HB8.out, HCX.out⟩)
      · have hz' : (z != 2) = true := by rw [bne_iff_ne]; exact hz
        have HE := Lib.hid (HN1.out hz)
        obtain ⟨x0, xf⟩ := X.c1
        have Xl := X.lt
        clear X xf M1 M2 St
        go_wp2_with fail
        refine (copiedTableC_any b off c B T _ hs (Nat.le_trans hB b2.size) (h.keep b2 hB)).mono ?_; rintro o w8 ⟨A8, c8, rfl, ht, hb8, hcx⟩
        have R8 := R.next hb8
        have b8 := b2.trans (hb8.mono b2.size)
        have HO := Lib.hid ((ht.put (a := w.heap.size + 1) (.slice A8 T.length c8) (by omega)).more (lo' := w.heap.size) (B' := (w8.setCell ⟨w.heap.size + 1, 0, none⟩ (.slice A8 T.length c8)).heap.size) (by omega) (by simp))
        have HB8 := Lib.hid (b8.setCell (p := ⟨w.heap.size + 1, 0, none⟩) (by simp) (.slice A8 T.length c8))
        have HCX := Lib.hid (capl_far ht hcx (a := ⟨w.heap.size + 1, 0, none⟩) (.slice A8 T.length c8) (by show w.heap.size + 1 < _; omega))
        obtain ⟨r8, rf8⟩ := R8.c1
        have Rl8 := R8.lt
        clear ht hb8 R8 b8 R b2 x0 Xl hcx
        go_wp2
        exact bodyPost_ret (v := .tuple #[.agg #[.slice A8 T.length c8], .bool false]) (by simp [results, Tryd.results9, go_sem, r8]) rfl (by
          rw [HE.out.1, HE.out.2]
          exact ⟨A8, c8, rfl, HO.out, HB8.out, HCX.out⟩)
    · have HE0 := Lib.hid (sc_not (tid := tid) (v := v) (ep := ep) (show thereB T key = false by rw [hTE, decide_eq_false hk]))
      have HSl := Lib.hid (show locksF T q T.length key = none by unfold locksF; rw [if_neg (fun h => hk h.1)])
      have b2 := b1
      have h : TAt w B (some ⟨b, off, none⟩) T := fun _ => ⟨b, off, rfl, hbB, q0H⟩
      clear hTE hk b1 tf
      go_wp2_with (first | (at_lookup; refine wp_look _ rfl _ _ rfl keyI Tryd.underlying78 (zeroLock _) rfl M2 key rfl hkey (.agg #[.slice none 0 0, .slice none 0 0]) (by rw [HSl.out]; rfl) ?_) | fail)
      refine (implHolds_zero tid _).mono ?_; rintro o w4 ⟨rfl, hb⟩
      have X := X.next hb
      have R := R.next hb
      have b2 := b2.trans (hb.mono b2.size)
      have hz5 := Nat.le_trans (show w.heap.size + 2 ≤ w2.heap.size by omega) hb.size
      clear hb t0 t1 Tl
      have HE := Lib.hid (HE0.out)
      obtain ⟨x0, xf⟩ := X.c1
      have Xl := X.lt
      clear X xf
      go_wp2_with fail
      refine (copiedTableC_any b off c B T _ hs (Nat.le_trans hB b2.size) (h.keep b2 hB)).mono ?_; rintro o w8 ⟨A8, c8, rfl, ht, hb8, hcx⟩
      have R8 := R.next hb8
      have b8 := b2.trans (hb8.mono b2.size)
      have HO := Lib.hid ((ht.put (a := w.heap.size + 1) (.slice A8 T.length c8) (by omega)).more (lo' := w.heap.size) (B' := (w8.setCell ⟨w.heap.size + 1, 0, none⟩ (.slice A8 T.length c8)).heap.size) (by omega) (by simp))
      have HB8 := Lib.hid (b8.setCell (p := ⟨w.heap.size + 1, 0, none⟩) (by simp) (.slice A8 T.length c8))
      have HCX := Lib.hid (capl_far ht hcx (a := ⟨w.heap.size + 1, 0, none⟩) (.slice A8 T.length c8) (by show w.heap.size + 1 < _; omega))
      obtain ⟨r8, rf8⟩ := R8.c1
      have Rl8 := R8.lt
      clear ht hb8 R8 b8 R b2 x0 Xl hcx
      go_wp2
      exact bodyPost_ret (v := .tuple #[.agg #[.slice A8 T.length c8], .bool false]) (by simp [results, Tryd.results9, go_sem, r8]) rfl (by
        rw [HE.out.1, HE.out.2]
        exact ⟨A8, c8, rfl, HO.out, HB8.out, HCX.out⟩)
end Go.Proofs.YtaninlnobmjbmaaDoor
