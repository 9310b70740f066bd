/- SetCell: the model's. -/
import Derived.Test.YtaninlnobmjbmaaDoorUs
import Derived.Test.YtaninlnobmjbmaaDoorLs3
namespace Go.Proofs.YtaninlnobmjbmaaDoor
open Go.RowKit
open Go.Maps (Keyed)

set_option maxHeartbeats 3200000 in
set_option maxRecDepth 100000 in
theorem specSetCell_any (A : Option Addr) (c B : Nat) (T : TL) (key tid v ep : Int) (w : World) (hs : TFit T) (hB : B ≤ w.heap.size) (h : TAt w B A T) :
    Calls Tryd.prog 7 #[.agg #[.slice A T.length c], .int .i64 key, .int .i64 tid, .int .i64 v, .int .i64 ep] w (RetTA w (scT T key tid v ep) fun x => .tuple #[x, .bool (scB T key tid v ep)]) := by
  have hlen := hs.len
  go_enter Tryd.func7, Tryd.ntmps7
  go_wp2_with fail
  have b := ((Below.refl w.heap.size w).alloc (Nat.le_refl _) (.cells #[.slice A T.length c] 28)).alloc (by simp) (.cells #[.slice none 0 0] 28)
  have X := (Box.new (w := w) (c := #[.slice A T.length c]) (t := 28) rfl).alloc (.cells #[.slice none 0 0] 28)
  have R := Box.new (w := w.alloc (.cells #[.slice A T.length c] 28)) (b := w.heap.size + 1) (c := #[.slice none 0 0]) (t := 28) (by simp)
  have hs0 : w.heap.size + 2 ≤ ((w.alloc (.cells #[.slice A T.length c] 28)).alloc (.cells #[.slice none 0 0] 28)).heap.size := by simp
  generalize (w.alloc (.cells #[.slice A T.length c] 28)).alloc (.cells #[.slice none 0 0] 28) = w0 at b X R hs0 ⊢
  refine (l05Copy_any A c B T _ hs (Nat.le_trans hB b.size) (h.keep b hB)).mono ?_; rintro o w1 ⟨vv, q, rfl, hcp, hb⟩
  have hcp := hcp.less hs0
  have X := X.next hb
  have R := R.next hb
  have b := b.trans (hb.mono b.size)
  have hs1 : w.heap.size + 2 ≤ w1.heap.size := Nat.le_trans hs0 hb.size
  obtain ⟨A2, c2, rfl, hA2⟩ := hcp.tab
  obtain ⟨x0, xf⟩ := X.c1
  have Xl := X.lt
  clear hb hs0 xf
  go_wp2_with fail
  have HC1 := Lib.hid hcp
  have hA := (Below.refl w1.heap.size w1).alloc (Nat.le_refl _) (.cells #[.slice A2 T.length c2] 28)
  have U := Box.new (w := w1) (c := #[.slice A2 T.length c2]) (t := 28) rfl
  have X := X.next hA
  have R := R.next hA
  have hcp := hcp.next hA
  have b := b.trans (hA.mono b.size)
  have hlu : w.heap.size + 2 ≤ w1.heap.size := hs1
  have hs2 : w1.heap.size < (w1.alloc (.cells #[.slice A2 T.length c2] 28)).heap.size := by simp
  clear x0 Xl hA2
  generalize w1.alloc (.cells #[.slice A2 T.length c2] 28) = w2 at X R U b hcp hs2 hA ⊢
  refine (specThere_any A c B T key _ hs (Nat.le_trans hB b.size) (h.keep b hB)).mono ?_; rintro o w3 ⟨rfl, hb⟩
  have X := X.next hb
  have R := R.next hb
  have U := U.next hb
  have hcp := hcp.next hb
  have b := b.trans (hb.mono b.size)
  have h13 := hA.trans (hb.mono hA.size)
  have hs3 : w1.heap.size < w3.heap.size := Nat.lt_of_lt_of_le hs2 hb.size
  clear hb hs2 hA
  cases hT : thereB T key with
  | false =>
    have HE := Lib.hid (sc_not (tid := tid) (v := v) (ep := ep) hT)
    obtain ⟨y0, yf⟩ := U.c1
    obtain ⟨r0, rf⟩ := R.c1
    have Rl := R.lt
    have Ul := U.lt
    have hb8 := b.setCell (p := ⟨w.heap.size + 1, 0, none⟩) (by simp) (.slice A2 T.length c2)
    have HA := Lib.hid ((hcp.far (a := ⟨w.heap.size + 1, 0, none⟩) (.slice A2 T.length c2) (by simp)).tlo.less (lo' := w.heap.size) (by omega))
    have HB8 := Lib.hid hb8
    clear hcp yf X hT hb8 U R b
    go_wp2
    exact bodyPost_ret (v := .tuple #[.agg #[.slice A2 T.length c2], .bool false]) (by simp [results, Tryd.results7, go_sem, r0]) rfl (by
      rw [HE.out.1, HE.out.2]
      exact ⟨_, c2, rfl, HA.out, HB8.out⟩)
  | true =>
    obtain ⟨hto, hk0, hk1⟩ := there_iff.1 hT
    obtain ⟨k, rfl⟩ := Int.eq_ofNat_of_zero_le hk0
    have hkn : k < T.length := by simpa using hk1
    have hkz : (k : Int) < T.length := by omega
    have hlk := hs.at_ hkn
    obtain ⟨g, cap, e3, htg⟩ := HC1.out.tg (by omega)
    injection e3 with e3 _ e4
    subst e3 e4
    have hg0 := htg.lt
    have htg := htg.next h13
    obtain ⟨bb, off, rfl, hbB, qa, hc⟩ := h (by omega)
    have HCC := Lib.hid (hc k hkn).1
    have hbw : bb < w.heap.size := by omega
    obtain ⟨a0, a1, a2, a3, a4, a5⟩ := HCC.out.below b hbw
    have i1 : LAt w3 B (qa k).G (qa k).G' ((cd T k).hs, (cd T k).ws) := LAt.keep (hc k hkn).2 b hB
    obtain ⟨x0, xf⟩ := X.c1
    have Xl := X.lt
    have HT := Lib.hid hT
    have HTO := Lib.hid hto
    have hwo := tabOk_wordOk hto hkn
    clear hcp h hc hk1 hk0 xf hT hto
    go_wp2_with fail
    refine (specHolds_any _ _ _ _ B (cd T k).hs (cd T k).ws tid _ hlk.1 hlk.2 i1).mono ?_; rintro o w4 ⟨rfl, hb⟩
    have X := X.next hb
    have R := R.next hb
    have U := U.next hb
    have htg := htg.next hb
    have b := b.trans (hb.mono b.size)
    have hs4 : w1.heap.size < w4.heap.size := Nat.lt_of_lt_of_le hs3 hb.size
    clear a0 a1 a2 a3 a4 a5 i1 x0 Xl hb hs3
    have HN1 := Lib.hid (fun hh : ¬ holdsL (cd T k).hs (cd T k).ws tid = 2 => sc_no (sc_k1 (T := T) (k := k) (tid := tid) (v := v) (ep := ep) hh))
    have HN4 := Lib.hid (fun (h1 : holdsL (cd T k).hs (cd T k).ws tid = 2) h2 h3 => And.intro (sc_yes HT.out (sc_k4 (T := T) (k := k) (tid := tid) (v := v) (ep := ep) h1 h2 h3)) (putV_ok HTO.out hkn h1 h2 h3))
    generalize holdsL (cd T k).hs (cd T k).ws tid = z at HN1 HN4 ⊢
    by_cases hz : z = 2
    · subst hz
      go_wp2_with fail
      refine (specVal_any v _).mono ?_; rintro o w5 ⟨rfl, rfl⟩
      cases hv : valB v with
      | false =>
        have HE := Lib.hid (sc_no (sc_k2 (T := T) (k := k) (tid := tid) (v := v) (ep := ep) hv))
        obtain ⟨y0, yf⟩ := U.c1
        obtain ⟨r0, rf⟩ := R.c1
        have Rl := R.lt
        have Ul := U.lt
        have hb8 := b.setCell (p := ⟨w.heap.size + 1, 0, none⟩) (by simp) (.slice (some ⟨g, 0, none⟩) T.length c2)
        have HA := Lib.hid ((htg.far (a := ⟨w.heap.size + 1, 0, none⟩) (.slice (some ⟨g, 0, none⟩) T.length c2) (by simp)).tlo.less (lo' := w.heap.size) (by omega))
        have HB8 := Lib.hid hb8
        clear htg yf X hv hb8 U R b
        go_wp2
        exact bodyPost_ret (v := .tuple #[.agg #[.slice (some ⟨g, 0, none⟩) T.length c2], .bool false]) (by simp [results, Tryd.results7, go_sem, r0]) rfl (by
          rw [HE.out.1, HE.out.2]
          exact ⟨_, c2, rfl, HA.out, HB8.out⟩)
      | true =>
        obtain ⟨a0, a1, a2, a3, a4, a5⟩ := HCC.out.below b hbw
        obtain ⟨x0, xf⟩ := X.c1
        have Xl := X.lt
        have HV := Lib.hid hv
        clear hv xf
        go_wp2_with fail
        refine (specNextW_any (cd T k).e (cd T k).s (cd T k).h ep hwo _).mono ?_; rintro o w6 ⟨rfl, hb⟩
        have R := R.next hb
        have U := U.next hb
        have htg := htg.next hb
        have b := b.trans (hb.mono b.size)
        have hs6 : w1.heap.size < w6.heap.size := Nat.lt_of_lt_of_le hs4 hb.size
        clear a0 a1 a2 a3 a4 a5 x0 Xl hb X
        cases hn : nwB (cd T k).e (cd T k).s ep with
        | false =>
          rw [nw_no hn]
          have hA := (Below.refl w6.heap.size w6).alloc (Nat.le_refl _) (.cells #[.int .i64 0, .int .i64 0, .bool false] 67)
          have R := R.next hA
          have U := U.next hA
          have htg := htg.next hA
          have b := b.trans (hA.mono b.size)
          clear hA
          go_upto_region 5 with (fail)
          generalize w6.alloc (.cells #[.int .i64 0, .int .i64 0, .bool false] 67) = w7 at R U htg b ⊢
          have HE := Lib.hid (sc_no (sc_k3 (T := T) (k := k) (tid := tid) (v := v) (ep := ep) hn))
          obtain ⟨y0, yf⟩ := U.c1
          obtain ⟨r0, rf⟩ := R.c1
          have Rl := R.lt
          have Ul := U.lt
          have hb8 := b.setCell (p := ⟨w.heap.size + 1, 0, none⟩) (by simp) (.slice (some ⟨g, 0, none⟩) T.length c2)
          have HA := Lib.hid ((htg.far (a := ⟨w.heap.size + 1, 0, none⟩) (.slice (some ⟨g, 0, none⟩) T.length c2) (by simp)).tlo.less (lo' := w.heap.size) (by omega))
          have HB8 := Lib.hid hb8
          clear htg yf hn hb8 U R b
          go_wp2
          exact bodyPost_ret (v := .tuple #[.agg #[.slice (some ⟨g, 0, none⟩) T.length c2], .bool false]) (by simp [results, Tryd.results7, go_sem, r0]) rfl (by
            rw [HE.out.1, HE.out.2]
            exact ⟨_, c2, rfl, HA.out, HB8.out⟩)
        | true =>
          have HE := Lib.hid (HN4.out (by trivial) HV.out hn).1
          rw [nw_yes hn]
          generalize nwE (cd T k).e ep = e' at HE ⊢
          generalize nwS (cd T k).e (cd T k).s ep = s' at HE ⊢
          have hA := ((Below.refl w6.heap.size w6).alloc (Nat.le_refl _) (.cells #[.int .i64 e', .int .i64 s', .bool false] 67)).setCell (p := ⟨w6.heap.size, 2, none⟩) (Nat.le_refl _) (.bool true)
          have W := Box.new (w := w6) (c := #[.int .i64 e', .int .i64 s', .bool false]) (t := 67) rfl
          clear hn HN1 HN4
          go_upto_region 5 with (fail)
          generalize w6.alloc (.cells #[.int .i64 e', .int .i64 s', .bool false] 67) = w7 at W hA ⊢
          obtain ⟨v0, v1, v2, vf⟩ := W.c3
          have Wl := W.lt
          go_upto_region 8 with (fail)
          have W : Box (w7.setCell ⟨w6.heap.size, 2, none⟩ (.bool true)) w6.heap.size [.int .i64 e', .int .i64 s', .bool true] := W.set (j := 2) (.bool true) (by simp)
          clear v0 v1 v2 vf Wl
          generalize w7.setCell ⟨w6.heap.size, 2, none⟩ (.bool true) = w8 at W hA ⊢
          have R := R.next hA
          have U := U.next hA
          have htg := htg.next hA
          have b := b.trans (hA.mono b.size)
          have hgl : w.heap.size + 2 ≤ g := htg.low
          have hgu : ¬ g = w1.heap.size := by omega
          have hgw : ¬ g = w6.heap.size := by omega
          have hgr : ¬ g = w.heap.size + 1 := by omega
          clear hA
          obtain ⟨y0, yf⟩ := U.c1
          obtain ⟨r0, rf⟩ := R.c1
          obtain ⟨v0, v1, v2, vf⟩ := W.c3
          have Rl := R.lt
          have Ul := U.lt
          have Wl := W.lt
          obtain ⟨c0, c1, c2', c3, _, _⟩ := (htg.cell k hkn).and6
          have cf := htg.free
          have cl := htg.lt
          have HT1 : TG ((((w8.setCell ⟨g, k * 6, none⟩ (.int .i64 v)).setCell ⟨g, k * 6 + 1, none⟩ (.int .i64 e')).setCell ⟨g, k * 6 + 1 + 1, none⟩ (.int .i64 s')).setCell ⟨g, k * 6 + 1 + 2, none⟩ (.bool true)) (w.heap.size + 2) g (putT T k (valC (cd T k) v e' s')).length (cd (putT T k (valC (cd T k) v e' s'))) q := htg.val hkn v e' s'
          have HT1 := Lib.hid HT1
          have HB1 := Lib.hid ((((b.setCell (p := ⟨g, k * 6, none⟩) (show w.heap.size ≤ g by omega) (.int .i64 v)).setCell (p := ⟨g, k * 6 + 1, none⟩) (show w.heap.size ≤ g by omega) (.int .i64 e')).setCell (p := ⟨g, k * 6 + 1 + 1, none⟩) (show w.heap.size ≤ g by omega) (.int .i64 s')).setCell (p := ⟨g, k * 6 + 1 + 2, none⟩) (show w.heap.size ≤ g by omega) (.bool true))
          have HRb := Lib.hid R
          clear htg U R W b yf vf HCC
          have HR1 := Lib.hid ((((HRb.out.far (a := ⟨g, k * 6, none⟩) (.int .i64 v) hgr).far (a := ⟨g, k * 6 + 1, none⟩) (.int .i64 e') hgr).far (a := ⟨g, k * 6 + 1 + 1, none⟩) (.int .i64 s') hgr).far (a := ⟨g, k * 6 + 1 + 2, none⟩) (.bool true) hgr)
          have HA := Lib.hid ((HT1.out.far (a := ⟨w.heap.size + 1, 0, none⟩) (.slice (some ⟨g, 0, none⟩) T.length c2) (by simp)).tlo.less (lo' := w.heap.size) (by omega))
          have HB8 := Lib.hid (HB1.out.setCell (p := ⟨w.heap.size + 1, 0, none⟩) (by simp) (.slice (some ⟨g, 0, none⟩) T.length c2))
          go_wp2
          generalize ((((w8.setCell ⟨g, k * 6, none⟩ (.int .i64 v)).setCell ⟨g, k * 6 + 1, none⟩ (.int .i64 e')).setCell ⟨g, k * 6 + 1 + 1, none⟩ (.int .i64 s')).setCell ⟨g, k * 6 + 1 + 2, none⟩ (.bool true)) = w9 at HR1 HA HB8 ⊢
          obtain ⟨r9, _⟩ := HR1.out.c1
          have Rl9 := HR1.out.lt
          exact bodyPost_ret (v := .tuple #[.agg #[.slice (some ⟨g, 0, none⟩) T.length c2], .bool true]) (by simp [results, Tryd.results7, go_sem, r9]) rfl (by
            rw [HE.out.1, HE.out.2]
            exact ⟨_, c2, by rw [putT_len], HA.out, HB8.out⟩)
    · have hz' : (z != 2) = true := by rw [bne_iff_ne]; exact hz
      have hz'' : ¬ z = 2 := hz
      have HE := Lib.hid (HN1.out hz)
      obtain ⟨y0, yf⟩ := U.c1
      obtain ⟨r0, rf⟩ := R.c1
      have Rl := R.lt
      have Ul := U.lt
      have hb8 := b.setCell (p := ⟨w.heap.size + 1, 0, none⟩) (by simp) (.slice (some ⟨g, 0, none⟩) T.length c2)
      have HA := Lib.hid ((htg.far (a := ⟨w.heap.size + 1, 0, none⟩) (.slice (some ⟨g, 0, none⟩) T.length c2) (by simp)).tlo.less (lo' := w.heap.size) (by omega))
      have HB8 := Lib.hid hb8
      clear htg yf X hb8 U R b
      go_wp2
      exact bodyPost_ret (v := .tuple #[.agg #[.slice (some ⟨g, 0, none⟩) T.length c2], .bool false]) (by simp [results, Tryd.results7, go_sem, r0]) rfl (by
        rw [HE.out.1, HE.out.2]
        exact ⟨_, c2, rfl, HA.out, HB8.out⟩)
end Go.Proofs.YtaninlnobmjbmaaDoor
