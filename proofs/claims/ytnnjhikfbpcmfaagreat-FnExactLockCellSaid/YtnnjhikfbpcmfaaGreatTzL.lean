/- The model's LockCell and TryCell. -/
import Derived.Test.YtnnjhikfbpcmfaaGreatTz
import Derived.Test.YtnnjhikfbpcmfaaGreatTq
import Derived.Test.YtnnjhikfbpcmfaaGreatTv
import Derived.Test.YtnnjhikfbpcmfaaGreatLi8
import Derived.Deep.RegionHeld3
namespace Go.Proofs.YtnnjhikfbpcmfaaGreat
open Go.RowKit

/-- a table of the call's own making, to be read -/
def RetTA (w : World) (T : TL) (F : Value → Value) (e : Ending) (w' : World) : Prop := ∃ A c, e = .returned (F (.agg #[.slice A T.length c])) ∧ TLo w' w.heap.size A T ∧ Below w.heap.size w w'
theorem lcC_not {T : TL} {key tid : Int} {wr : Bool} (h : thereB T key = false) : lcC T key tid wr = 2 ∧ lcT T key tid wr = T := by
  have h1 : lcC T key tid wr = 2 := by simp [lcC, h]
  exact ⟨h1, by simp [lcT, h1]⟩
theorem lcC_yes {T : TL} {k : Nat} {tid : Int} {wr : Bool} (h : thereB T (k : Int) = true) : lcC T k tid wr = askC (cd T k).hs (cd T k).ws tid wr := by
  simp only [lcC, h, if_true]; rfl
theorem lcT_bad {T : TL} {key tid : Int} {wr : Bool} (h : lcC T key tid wr = 2) : lcT T key tid wr = T := by simp [lcT, h]
theorem lcT_put {T : TL} {k : Nat} {tid : Int} {wr : Bool} (h : ¬ lcC T k tid wr = 2) : lcT T k tid wr = putT T k (lockC (cd T k) (askL (cd T k).hs (cd T k).ws tid wr)) := by
  simp only [lcT, h, if_false]; rfl
theorem ask_two {hs ws : HL} {tid : Int} {wr : Bool} (h : ¬ askC hs ws tid wr = 2) : lockOk (askL hs ws tid wr).1 (askL hs ws tid wr).2 = true := by
  have hb : askBad hs ws tid = false := by
    cases hb : askBad hs ws tid with
    | false => rfl
    | true => exact absurd (askC_bad hb).1 h
  have hp := pre_ask wr hb
  have e : askL hs ws tid wr = askG hs ws tid wr := by simp [askL, hb]
  rw [e]
  exact grant_ok hp
set_option maxHeartbeats 1600000 in
set_option maxRecDepth 100000 in
theorem specLockCell_any (A : Option Addr) (c B : Nat) (T : TL) (key tid : Int) (wr : Bool) (w : World) (hs : TFit T) (hB : B ≤ w.heap.size) (h : TAt w B A T) :
    Calls Tryz.prog 7 #[.agg #[.slice A T.length c], .int .i64 key, .int .i64 tid, .bool wr] w (RetTA w (lcT T key tid wr) fun v => .tuple #[v, .int .i64 (lcC T key tid wr)]) := by
  have hlen := hs.len
  go_enter Tryz.func7, Tryz.ntmps7
  go_wp2_with fail
  have b := ((Below.refl w.heap.size w).alloc (Nat.le_refl _) (.cells #[.slice A T.length c] 28)).alloc (by simp) (.cells #[.slice none 0 0] 28)
  have X := (Box.new (w := w) (c := #[.slice A T.length c]) (t := 28) rfl).alloc (.cells #[.slice none 0 0] 28)
  have R := Box.new (w := w.alloc (.cells #[.slice A T.length c] 28)) (b := w.heap.size + 1) (c := #[.slice none 0 0]) (t := 28) (by simp)
  have hs0 : w.heap.size + 2 ≤ ((w.alloc (.cells #[.slice A T.length c] 28)).alloc (.cells #[.slice none 0 0] 28)).heap.size := by simp
  generalize (w.alloc (.cells #[.slice A T.length c] 28)).alloc (.cells #[.slice none 0 0] 28) = w0 at b X R hs0 ⊢
  refine (l05Copy_any A c B T _ hs (Nat.le_trans hB b.size) (h.keep b hB)).mono ?_; rintro o w1 ⟨v, q, rfl, hcp, hb⟩
  have hcp := hcp.less hs0
  have X := X.next hb
  have R := R.next hb
  have b := b.trans (hb.mono b.size)
  have hs1 : w.heap.size + 2 ≤ w1.heap.size := Nat.le_trans hs0 hb.size
  obtain ⟨A2, c2, rfl, hA2⟩ := hcp.tab
  obtain ⟨x0, xf⟩ := X.c1
  have Xl := X.lt
  clear hb hs0 xf
  go_wp2_with fail
  have HC1 := Lib.hid hcp
  have hA := (Below.refl w1.heap.size w1).alloc (Nat.le_refl _) (.cells #[.slice A2 T.length c2] 28)
  have U := Box.new (w := w1) (c := #[.slice A2 T.length c2]) (t := 28) rfl
  have X := X.next hA
  have R := R.next hA
  have hcp := hcp.next hA
  have b := b.trans (hA.mono b.size)
  have hlu : w.heap.size + 2 ≤ w1.heap.size := hs1
  have hs2 : w1.heap.size < (w1.alloc (.cells #[.slice A2 T.length c2] 28)).heap.size := by simp
  clear x0 Xl hA2
  generalize w1.alloc (.cells #[.slice A2 T.length c2] 28) = w2 at X R U b hcp hs2 hA ⊢
  refine (specThere_any A c B T key _ hs (Nat.le_trans hB b.size) (h.keep b hB)).mono ?_; rintro o w3 ⟨rfl, hb⟩
  have X := X.next hb
  have R := R.next hb
  have U := U.next hb
  have hcp := hcp.next hb
  have b := b.trans (hb.mono b.size)
  have h13 := hA.trans (hb.mono hA.size)
  have hs3 : w1.heap.size < w3.heap.size := Nat.lt_of_lt_of_le hs2 hb.size
  clear hb hs2 hA
  cases hT : thereB T key with
  | false =>
    have HE := Lib.hid (lcC_not (tid := tid) (wr := wr) hT)
    obtain ⟨y0, yf⟩ := U.c1
    obtain ⟨r0, rf⟩ := R.c1
    have Rl := R.lt
    have Ul := U.lt
    have hb8 := b.setCell (p := ⟨w.heap.size + 1, 0, none⟩) (by simp) (.slice A2 T.length c2)
    have hcp := hcp.far (a := ⟨w.heap.size + 1, 0, none⟩) (.slice A2 T.length c2) (by simp)
    have HA := Lib.hid (hcp.tlo.less (lo' := w.heap.size) (by omega))
    have HB8 := Lib.hid hb8
    clear hT hcp yf hb8
    go_wp2
    exact bodyPost_ret (v := .tuple #[.agg #[.slice A2 T.length c2], .int .i64 2]) (by simp [results, Tryz.results7, go_sem, r0]) rfl (by
      rw [HE.out.1, HE.out.2]
      exact ⟨A2, c2, rfl, HA.out, HB8.out⟩)
  | true =>
    obtain ⟨hto, hk0, hk1⟩ := there_iff.1 hT
    obtain ⟨k, rfl⟩ := Int.eq_ofNat_of_zero_le hk0
    have hkn : k < T.length := by simpa using hk1
    have hkz : (k : Int) < T.length := by omega
    have hlk := hs.at_ hkn
    obtain ⟨g, cap, e3, htg⟩ := HC1.out.tg (by omega)
    injection e3 with e3 _ e4
    subst e3 e4
    have hg0 := htg.lt
    have htg := htg.next h13
    obtain ⟨bb, off, rfl, hbB, qa, hc⟩ := h (by omega)
    obtain ⟨a0, a1, a2, a3, a4, a5⟩ := (hc k hkn).1.below b (show bb < w.heap.size by omega)
    have i1 : LAt w3 B (qa k).G (qa k).G' ((cd T k).hs, (cd T k).ws) := LAt.keep (hc k hkn).2 b hB
    obtain ⟨x0, xf⟩ := X.c1
    have Xl := X.lt
    have HCo := Lib.hid (lcC_yes (tid := tid) (wr := wr) hT)
    clear hcp h hc hk1 hk0 xf hT hto
    go_wp2_with fail
    refine (specAskL _ _ _ _ B (cd T k).hs (cd T k).ws tid wr _ hlk.1 hlk.2 i1).mono ?_; rintro o w4 ⟨G1, d1, G2, d2, rfl, hown, hb⟩
    have X := X.next hb
    have R := R.next hb
    have U := U.next hb
    have hg1 : HG w4 (w.heap.size + 2) g G1 (askL (cd T k).hs (cd T k).ws tid wr).1 := HG.of_own hown.1 htg.lt (by omega)
    have hg2 : HG w4 (w.heap.size + 2) g G2 (askL (cd T k).hs (cd T k).ws tid wr).2 := HG.of_own hown.2.1 htg.lt (by omega)
    have htg := htg.next hb
    have b := b.trans (hb.mono b.size)
    have hs4 : w1.heap.size < w4.heap.size := Nat.lt_of_lt_of_le hs3 hb.size
    clear a0 a1 a2 a3 a4 a5 i1 x0 Xl hb hown hs3
    have HOk := Lib.hid (fun h => ask_two (hs := (cd T k).hs) (ws := (cd T k).ws) (tid := tid) (wr := wr) h)
    have HPut := Lib.hid (fun h => lcT_put (T := T) (k := k) (tid := tid) (wr := wr) h)
    have HBad := Lib.hid (fun h => lcT_bad (T := T) (key := k) (tid := tid) (wr := wr) h)
    rw [HCo.out] at HPut HBad
    generalize askC (cd T k).hs (cd T k).ws tid wr = code at HOk HPut HBad HCo ⊢
    generalize askL (cd T k).hs (cd T k).ws tid wr = m at hg1 hg2 HOk HPut ⊢
    have hA := (Below.refl w4.heap.size w4).alloc (Nat.le_refl _) (.cells #[.slice G1 m.1.length d1, .slice G2 m.2.length d2] 44)
    have L := Box.new (w := w4) (c := #[.slice G1 m.1.length d1, .slice G2 m.2.length d2]) (t := 44) rfl
    have R := R.next hA
    have U := U.next hA
    have htg := htg.next hA
    have hg1 := hg1.next hA
    have hg2 := hg2.next hA
    have b := b.trans (hA.mono b.size)
    clear X hA
    go_upto_region 5 with (fail)
    generalize w4.alloc (.cells #[.slice G1 m.1.length d1, .slice G2 m.2.length d2] 44) = w5 at L R U htg hg1 hg2 b ⊢
    obtain ⟨y0, yf⟩ := U.c1
    obtain ⟨r0, rf⟩ := R.c1
    have Rl := R.lt
    have Ul := U.lt
    by_cases h2 : code = 2
    · subst h2
      have HE := Lib.hid (HBad.out rfl)
      have hb8 := b.setCell (p := ⟨w.heap.size + 1, 0, none⟩) (by simp) (.slice (some ⟨g, 0, none⟩) T.length c2)
      have HA := Lib.hid ((htg.far (a := ⟨w.heap.size + 1, 0, none⟩) (.slice (some ⟨g, 0, none⟩) T.length c2) (by simp)).tlo.less (lo' := w.heap.size) (by omega))
      have HB8 := Lib.hid hb8
      clear htg hg1 hg2 L hb8 yf R U b
      go_wp2
      exact bodyPost_ret (v := .tuple #[.agg #[.slice (some ⟨g, 0, none⟩) T.length c2], .int .i64 2]) (by simp [results, Tryz.results7, go_sem, r0]) rfl (by
        rw [HE.out, HCo.out]
        exact ⟨_, c2, rfl, HA.out, HB8.out⟩)
    · have HE := Lib.hid (HPut.out h2)
      have HW := Lib.hid (wrote_lock (HOk.out h2))
      clear HPut HBad HOk
      have hgl : w.heap.size + 2 ≤ g := htg.low
      have c4 := (htg.cell k hkn).c4
      have c5 := (htg.cell k hkn).c5
      have cf := htg.free
      have cl := htg.lt
      obtain ⟨l0, l1, lf⟩ := L.c2
      have Ll := L.lt
      clear yf rf r0 Rl lf
      have htg1 := htg.lock (k := k) ⟨G1, d1, G2, d2⟩ hg1 hg2
      have hgu : ¬ g = w1.heap.size := by omega
      have hgw : ¬ g = w4.heap.size := by omega
      have U1 := (U.far (a := ⟨g, k * 6 + 4, none⟩) (.slice G1 m.1.length d1) hgu).far (a := ⟨g, k * 6 + 5, none⟩) (.slice G2 m.2.length d2) hgu
      have L1 := (L.far (a := ⟨g, k * 6 + 4, none⟩) (.slice G1 m.1.length d1) hgw).far (a := ⟨g, k * 6 + 5, none⟩) (.slice G2 m.2.length d2) hgw
      have R1 := (R.far (a := ⟨g, k * 6 + 4, none⟩) (.slice G1 m.1.length d1) (show ¬ g = w.heap.size + 1 by omega)).far (a := ⟨g, k * 6 + 5, none⟩) (.slice G2 m.2.length d2) (show ¬ g = w.heap.size + 1 by omega)
      have b1 := (b.setCell (p := ⟨g, k * 6 + 4, none⟩) (show w.heap.size ≤ g by omega) (.slice G1 m.1.length d1)).setCell (p := ⟨g, k * 6 + 5, none⟩) (show w.heap.size ≤ g by omega) (.slice G2 m.2.length d2)
      have hg1 := (hg1.far (a := ⟨g, k * 6 + 4, none⟩) (.slice G1 m.1.length d1) (.inr rfl)).far (a := ⟨g, k * 6 + 5, none⟩) (.slice G2 m.2.length d2) (.inr rfl)
      have hg2 := (hg2.far (a := ⟨g, k * 6 + 4, none⟩) (.slice G1 m.1.length d1) (.inr rfl)).far (a := ⟨g, k * 6 + 5, none⟩) (.slice G2 m.2.length d2) (.inr rfl)
      clear b U L R htg
      go_upto_region 8 with (fail)
      generalize (World.setCell (World.setCell _ _ _) _ _) = w6 at U1 L1 R1 b1 hg1 hg2 htg1 ⊢
      clear y0 Ul c4 c5 cf cl l0 l1 Ll
      obtain ⟨y0, yf⟩ := U1.c1
      obtain ⟨l0, l1, lf⟩ := L1.c2
      obtain ⟨r0, rf⟩ := R1.c1
      have Rl := R1.lt
      have Ul := U1.lt
      have Ll := L1.lt
      have HU := Lib.hid U1.drew
      have HL := Lib.hid L1.drew
      have HR := Lib.hid R1.drew
      have hD := (Below.refl w6.heap.size w6).drew
      have HB := Lib.hid b1.drew
      have HT := Lib.hid (htg1.next hD)
      have HLA := Lib.hid (show LAt w6.drew w6.drew.heap.size G1 G2 (m.1, m.2) from ⟨(hg1.next hD).at_, (hg2.next hD).at_⟩)
      have HS0 := Lib.hid (And.intro HU.out.c1.1 (And.intro HL.out.c2.1 HL.out.c2.2.1))
      have c3 := (HT.out.cell k hkn).c3
      have cf := htg1.free
      clear hD hg1 hg2 U1 L1 R1 b1 htg1 yf lf rf
      go_region_held3 (fun W => W.cell? ⟨w1.heap.size, 0, none⟩ = some (.slice (some ⟨g, 0, none⟩) T.length c2) ∧ W.cell? ⟨w4.heap.size, 0, none⟩ = some (.slice G1 m.1.length d1) ∧ W.cell? ⟨w4.heap.size, 1, none⟩ = some (.slice G2 m.2.length d2)) (first | exact HS0.out | exact HS7.out | exact HS8.out) (first
        | (go_at_call 21; refine (specWritten_any _ _ _ _ _ m.1 m.2 _ HLA.out).mono ?_; rintro o w7 ⟨rfl, hb⟩; have HU7 := Lib.hid (HU.out.next hb); have HL7 := Lib.hid (HL.out.next hb); have HR7 := Lib.hid (HR.out.next hb); have HT7 := Lib.hid (HT.out.next hb); have HB7 := Lib.hid (HB.out.trans (hb.mono HB.out.size)); have HS7 := Lib.hid (And.intro HU7.out.c1.1 (And.intro HL7.out.c2.1 HL7.out.c2.2.1)); have d3 := (HT7.out.cell k hkn).c3; have df := HT7.out.free; have dl := HT7.out.lt; have HU8 := HU7.out.far (a := ⟨g, k * 6 + 3, none⟩) (.bool (wroteS m.1)) hgu; have HL8 := HL7.out.far (a := ⟨g, k * 6 + 3, none⟩) (.bool (wroteS m.1)) hgw; have HS8 := Lib.hid (And.intro HU8.c1.1 (And.intro HL8.c2.1 HL8.c2.2.1)); have HU8 := Lib.hid HU8; clear HL8 hb))
      all_goals
        have HR8 := HR7.out.far (a := ⟨g, k * 6 + 3, none⟩) (.bool (wroteS m.1)) (show ¬ g = w.heap.size + 1 by omega)
        have HT8 := HT7.out.held (k := k) (wroteS m.1)
        have HT9 := (HT8.congr (f' := fun j => if j = k then ⟨(cd T k).v, (cd T k).e, (cd T k).s, wrote m.1, m.1, m.2⟩ else cd T j) (fun j _ => by
          by_cases e : j = k
          · simp only [e, if_true]; rw [HW.out]
          · simp only [e, if_false])).put
        have HT10 := HT9.far (a := ⟨w.heap.size + 1, 0, none⟩) (.slice (some ⟨g, 0, none⟩) T.length c2) (by simp)
        have HA := Lib.hid (HT10.tlo.less (lo' := w.heap.size) (by omega))
        have HB8 := Lib.hid ((HB7.out.setCell (p := ⟨g, k * 6 + 3, none⟩) (show w.heap.size ≤ g by omega) (.bool (wroteS m.1))).setCell (p := ⟨w.heap.size + 1, 0, none⟩) (by simp) (.slice (some ⟨g, 0, none⟩) T.length c2))
        obtain ⟨y8, yf8⟩ := HU8.out.c1
        obtain ⟨r8, rf8⟩ := HR8.c1
        have Rl8 := HR8.lt
        have Ul8 := HU8.out.lt
        clear HT8 HT9 HT10 HR8 c3 cf y0 l0 l1 r0 d3 df dl Rl Ul Ll yf8
        go_wp2
        exact bodyPost_ret (v := .tuple #[.agg #[.slice (some ⟨g, 0, none⟩) T.length c2], .int .i64 code]) (by simp [results, Tryz.results7, go_sem, r8]) rfl (by
          rw [HE.out, HCo.out]
          exact ⟨_, c2, by rw [putT_len], HA.out, HB8.out⟩)
theorem tc_hit {T : TL} {key tid : Int} {wr : Bool} (h : lcC T key tid wr = 0) : tcT T key tid wr = lcT T key tid wr ∧ tcB T key tid wr = true := by simp [tcT, tcB, h]
theorem tc_miss {T : TL} {key tid : Int} {wr : Bool} (h : ¬ lcC T key tid wr = 0) : tcT T key tid wr = T ∧ tcB T key tid wr = false := by simp [tcT, tcB, h]
set_option maxHeartbeats 800000 in
set_option maxRecDepth 100000 in
theorem specTryCell_any (A : Option Addr) (c B : Nat) (T : TL) (key tid : Int) (wr : Bool) (w : World) (hs : TFit T) (hB : B ≤ w.heap.size) (h : TAt w B A T) :
    Calls Tryz.prog 13 #[.agg #[.slice A T.length c], .int .i64 key, .int .i64 tid, .bool wr] w (RetTA w (tcT T key tid wr) fun v => .tuple #[v, .bool (tcB T key tid wr)]) := by
  go_enter Tryz.func13, Tryz.ntmps13
  go_wp2_with fail
  have b := ((Below.refl w.heap.size w).alloc (Nat.le_refl _) (.cells #[.slice A T.length c] 28)).alloc (by simp) (.cells #[.slice none 0 0] 28)
  have X := (Box.new (w := w) (c := #[.slice A T.length c]) (t := 28) rfl).alloc (.cells #[.slice none 0 0] 28)
  have R := Box.new (w := w.alloc (.cells #[.slice A T.length c] 28)) (b := w.heap.size + 1) (c := #[.slice none 0 0]) (t := 28) (by simp)
  have hs0 : w.heap.size + 2 ≤ ((w.alloc (.cells #[.slice A T.length c] 28)).alloc (.cells #[.slice none 0 0] 28)).heap.size := by simp
  generalize (w.alloc (.cells #[.slice A T.length c] 28)).alloc (.cells #[.slice none 0 0] 28) = w0 at b X R hs0 ⊢
  refine (specLockCell_any A c B T key tid wr _ hs (Nat.le_trans hB b.size) (h.keep b hB)).mono ?_; rintro o w1 ⟨A2, c2, rfl, ta, hb⟩
  have X := X.next hb
  have R := R.next hb
  have b := b.trans (hb.mono b.size)
  have hs1 : w.heap.size + 2 ≤ w1.heap.size := Nat.le_trans hs0 hb.size
  have HH := Lib.hid (tc_hit (T := T) (key := key) (tid := tid) (wr := wr))
  have HM := Lib.hid (tc_miss (T := T) (key := key) (tid := tid) (wr := wr))
  generalize lcT T key tid wr = T' at ta HH ⊢
  generalize lcC T key tid wr = code at HH HM ⊢
  have hA := (Below.refl w1.heap.size w1).alloc (Nat.le_refl _) (.cells #[.slice A2 T'.length c2] 28)
  have U := Box.new (w := w1) (c := #[.slice A2 T'.length c2]) (t := 28) rfl
  have X := X.next hA
  have R := R.next hA
  have b := b.trans (hA.mono b.size)
  have ta := (ta.less hs0).next hA
  have hs2 : w1.heap.size < (w1.alloc (.cells #[.slice A2 T'.length c2] 28)).heap.size := by simp
  clear hb hs0 hA
  go_upto_region 2 with (fail)
  generalize w1.alloc (.cells #[.slice A2 T'.length c2] 28) = w2 at X R U b ta hs2 ⊢
  obtain ⟨x0, xf⟩ := X.c1
  have Xl := X.lt
  by_cases h0 : code = 0
  · subst h0
    have HE := Lib.hid (HH.out rfl)
    obtain ⟨y0, yf⟩ := U.c1
    obtain ⟨r0, rf⟩ := R.c1
    have Rl := R.lt
    have Ul := U.lt
    have HA := Lib.hid ((ta.far (a := ⟨w.heap.size + 1, 0, none⟩) (.slice A2 T'.length c2) (by simp)).less (lo' := w.heap.size) (by omega))
    have HB8 := Lib.hid (b.setCell (p := ⟨w.heap.size + 1, 0, none⟩) (by simp) (.slice A2 T'.length c2))
    clear ta b U R X yf
    go_wp2
    exact bodyPost_ret (v := .tuple #[.agg #[.slice A2 T'.length c2], .bool true]) (by simp [results, Tryz.results13, go_sem, r0]) rfl (by
      rw [HE.out.1, HE.out.2]
      exact ⟨A2, c2, rfl, HA.out, HB8.out⟩)
  · have HE := Lib.hid (HM.out h0)
    clear ta U
    go_wp2_with fail
    refine (l05Copy_any A c B T _ hs (Nat.le_trans hB b.size) (h.keep b hB)).mono ?_; rintro o w3 ⟨v, q, rfl, hcp, hb⟩
    obtain ⟨A3, c3, rfl, _⟩ := hcp.tab
    have R := R.next hb
    have b := b.trans (hb.mono b.size)
    obtain ⟨r0, rf⟩ := R.c1
    have Rl := R.lt
    have HA := Lib.hid ((hcp.far (a := ⟨w.heap.size + 1, 0, none⟩) (.slice A3 T.length c3) (by simp; omega)).tlo.less (lo' := w.heap.size) (by omega))
    have HB8 := Lib.hid (b.setCell (p := ⟨w.heap.size + 1, 0, none⟩) (by simp) (.slice A3 T.length c3))
    clear hcp hb b R X x0 xf Xl
    go_wp2
    exact bodyPost_ret (v := .tuple #[.agg #[.slice A3 T.length c3], .bool false]) (by simp [results, Tryz.results13, go_sem, r0]) rfl (by
      rw [HE.out.1, HE.out.2]
      exact ⟨A3, c3, rfl, HA.out, HB8.out⟩)
end Go.Proofs.YtnnjhikfbpcmfaaGreat
