/- The program's AskLock. -/
import Derived.Test.YtcndmdglnohbcaaGreatDoorLi6f
import Derived.Test.YtcndmdglnohbcaaGreatDoorLs6f
namespace Go.Proofs.YtcndmdglnohbcaaGreatDoor
open Go.RowKit

theorem askC_in {hs ws : HL} {t : Int} {wr : Bool} (h : askBad hs ws t = false) (hm : t ∈ ids (askG hs ws t wr).1) : askC hs ws t wr = 0 ∧ askL hs ws t wr = askG hs ws t wr := by
  simp [askC, askL, h, hm]
theorem askC_out {hs ws : HL} {t : Int} {wr : Bool} (h : askBad hs ws t = false) (hm : ¬ t ∈ ids (askG hs ws t wr).1) : askC hs ws t wr = 1 ∧ askL hs ws t wr = askG hs ws t wr := by
  simp [askC, askL, h, hm]
theorem LOwn.far {w : World} {lo B : Nat} {A A' : Option Addr} {p : HL × HL} {a : Addr} (h : LOwn w lo B A A' p) (v : Value) (hd : a.block < lo ∨ B ≤ a.block) : LOwn (w.setCell a v) lo B A A' p := ⟨h.1.far v hd, h.2.1.far v hd, h.2.2⟩

set_option maxHeartbeats 3200000 in
set_option maxRecDepth 100000 in
theorem implAsk_any (A A' : Option Addr) (c c' B : Nat) (hs ws : HL) (t : Int) (wr : Bool) (w : World) (hn : hs.length ≤ 1048576) (hn' : ws.length ≤ 1048576) (h : LAt w B A A' (hs, ws)) :
    Calls Tryz.prog 26 #[.agg #[.slice A hs.length c, .slice A' ws.length c'], .int .i64 t, .bool wr] w (RetLock w (askL hs ws t wr) fun v => .tuple #[v, .int .i64 (askC hs ws t wr)]) := by
  have hh : LAt w w.heap.size A A' (hs, ws) := ⟨h.1.lt, h.2.lt⟩
  clear h
  go_enter Tryz.func26, Tryz.ntmps26
  go_wp2_with fail
  have b := (((Below.refl w.heap.size w).alloc (Nat.le_refl _) (.cells #[.slice A hs.length c, .slice A' ws.length c'] 40)).alloc (by simp) (.cells #[.slice none 0 0, .slice none 0 0] 40))
  have X := ((Box.new (w := w) (c := #[.slice A hs.length c, .slice A' ws.length c']) (t := 40) rfl).alloc (.cells #[.slice none 0 0, .slice none 0 0] 40))
  have R := (Box.new (w := w.alloc (.cells #[.slice A hs.length c, .slice A' ws.length c'] 40)) (b := w.heap.size + 1) (c := #[.slice none 0 0, .slice none 0 0]) (t := 40) (by simp))
  refine (implLockOk_any _ _ _ _ _ hs ws _ hn hn' (hh.below b b.size)).mono ?_; rintro e w1 ⟨rfl, hb1⟩
  have X := X.next hb1
  have R := R.next hb1
  have b := b.trans (hb1.mono b.size)
  clear hb1
  cases hl : lockOk hs ws with
  | false =>
    have HB := Lib.hid (askC_bad (wr := wr) (askBad_lock (t := t) hl))
    clear hl
    obtain ⟨x0, x1, xf⟩ := X.c2
    clear xf
    go_wp2_with fail
    refine (implCopy_any _ _ _ _ _ hs ws _ hn hn' (hh.below b b.size)).mono ?_; rintro e w9 ⟨v1, v2, rfl, ho, hb9⟩
    obtain ⟨A3, c3, A4, c4, rfl, rfl, _⟩ := ho.lock
    have hlo := R.lt
    have R := R.next hb9
    have b9 := b.trans (hb9.mono b.size)
    obtain ⟨r0, r1, rf⟩ := R.c2
    have hltR : w.heap.size + 1 < w9.heap.size := R.lt
    have hOB := Lib.hid (ho.far (a := ⟨w.heap.size + 1, 0, none⟩) (.slice A3 hs.length c3) (by simp; omega))
    have hOB := Lib.hid (hOB.out.far (a := ⟨w.heap.size + 1, 1, none⟩) (.slice A4 ws.length c4) (by simp; omega))
    clear x0 x1 hb9 X R
    go_wp2
    exact bodyPost_ret (v := .tuple #[.agg #[.slice A3 hs.length c3, .slice A4 ws.length c4], .int .i64 2]) (by simp [results, Tryz.results26, go_sem, r0, r1]) rfl (RetOwn.lock ⟨_, _, by rw [HB.out.1], by rw [HB.out.2]; exact hOB.out.less b.size, (b9.setCell (p := ⟨w.heap.size + 1, 0, none⟩) (by simp) _).setCell (p := ⟨w.heap.size + 1, 1, none⟩) (by simp) _⟩)
  | true =>
    go_wp2_with fail
    refine (tidOk_any _ _).mono ?_; rintro e w' ⟨rfl, rfl⟩
    cases ht : tidB t with
    | false =>
      have HB := Lib.hid (askC_bad (wr := wr) (askBad_tid (hs := hs) (ws := ws) ht))
      clear hl ht
      obtain ⟨x0, x1, xf⟩ := X.c2
      clear xf
      go_wp2_with fail
      refine (implCopy_any _ _ _ _ _ hs ws _ hn hn' (hh.below b b.size)).mono ?_; rintro e w9 ⟨v1, v2, rfl, ho, hb9⟩
      obtain ⟨A3, c3, A4, c4, rfl, rfl, _⟩ := ho.lock
      have hlo := R.lt
      have R := R.next hb9
      have b9 := b.trans (hb9.mono b.size)
      obtain ⟨r0, r1, rf⟩ := R.c2
      have hltR : w.heap.size + 1 < w9.heap.size := R.lt
      have hOB := Lib.hid (ho.far (a := ⟨w.heap.size + 1, 0, none⟩) (.slice A3 hs.length c3) (by simp; omega))
      have hOB := Lib.hid (hOB.out.far (a := ⟨w.heap.size + 1, 1, none⟩) (.slice A4 ws.length c4) (by simp; omega))
      clear x0 x1 hb9 X R
      go_wp2
      exact bodyPost_ret (v := .tuple #[.agg #[.slice A3 hs.length c3, .slice A4 ws.length c4], .int .i64 2]) (by simp [results, Tryz.results26, go_sem, r0, r1]) rfl (RetOwn.lock ⟨_, _, by rw [HB.out.1], by rw [HB.out.2]; exact hOB.out.less b.size, (b9.setCell (p := ⟨w.heap.size + 1, 0, none⟩) (by simp) _).setCell (p := ⟨w.heap.size + 1, 1, none⟩) (by simp) _⟩)
    | true =>
      obtain ⟨x0, x1, xf⟩ := X.c2
      clear xf
      go_wp2_with fail
      refine (implHolds_any _ _ _ _ _ hs ws t _ hn hn' (hh.below b b.size)).mono ?_; rintro e w2 ⟨rfl, hb2⟩
      have X := X.next hb2
      have R := R.next hb2
      have b := b.trans (hb2.mono b.size)
      clear hb2 x0 x1
      obtain ⟨x0, x1, xf⟩ := X.c2
      clear xf
      by_cases h0 : holdsL hs ws t = 0
      · have HG := Lib.hid (askBad_no hl ht h0)
        rw [h0]
        clear hl ht h0
        go_wp2_with fail
        refine (queueFrom_any A' c' _ ws _ hn' (hh.2.below b b.size)).mono ?_; rintro e w3 ⟨q, bs, rfl, hq, hb3⟩
        have hlo := R.lt
        have hb0 := b.size
        have X := X.next hb3
        have R := R.next hb3
        have b3 := b.trans (hb3.mono b.size)
        have s3 := hb3.size
        clear x0 x1 hb3 b
        obtain ⟨x0, x1, xf⟩ := X.c2
        clear xf
        go_wp2_with fail
        refine (add_any _ _ bs ws (t, wr) _ hq).mono ?_; rintro e w4 ⟨rfl, nb, hq4, hb4⟩
        have X := X.below hb4 (by omega)
        have R := R.below hb4 (by omega)
        have b4 := b3.trans (hb4.mono (by omega))
        have s4 := hb4.size
        clear x0 x1 hb4 b3 hq
        obtain ⟨x0, x1, xf⟩ := X.c2
        clear xf
        go_wp2_with fail
        refine (granted_any A c _ _ q _ hs (ws ++ [(t, wr)]) _ (pre_ask wr HG.out) hq4 (hh.1.below b4 b4.size)).mono ?_; rintro e w5 ⟨A5, c5, A6, c6, rfl, hG, hb5⟩
        have H1 := Lib.hid (show t ∈ ids (askG hs ws t wr).1 → _ from fun hm => askC_in (wr := wr) HG.out hm)
        have H2 := Lib.hid (show ¬ t ∈ ids (askG hs ws t wr).1 → _ from fun hm => askC_out (wr := wr) HG.out hm)
        have PL : (askG hs ws t wr).1.length + (askG hs ws t wr).2.length ≤ 9 := by
          have := (grant_perm (ws ++ [(t, wr)]) hs).length_eq
          have h8 := ask_len HG.out
          simp only [List.length_append, List.length_cons, List.length_nil] at this
          unfold askG
          omega
        have hgp : grantS hs (ws ++ [(t, wr)]) = askG hs ws t wr := rfl
        rw [hgp] at hG ⊢
        clear hgp
        generalize askG hs ws t wr = p at hG H1 H2 PL ⊢
        have R := R.below hb5 (by omega)
        have b5 := b4.trans (hb5.mono (by omega))
        have s5 := hb5.size
        clear x0 x1 hb5 b4 hq4 X
        go_wp2_with fail
        have O6 := Box.new (w := w5) (c := #[.slice A5 p.1.length c5, .slice A6 p.2.length c6]) (t := 40) rfl
        have hA := (Below.refl w5.heap.size w5).alloc (Nat.le_refl _) (.cells #[.slice A5 p.1.length c5, .slice A6 p.2.length c6] 40)
        have hG := hG.below hA (Nat.le_refl _)
        have R := R.next hA
        have b6 := b5.trans (hA.mono b5.size)
        have s6 : w5.heap.size < (w5.alloc (.cells #[.slice A5 p.1.length c5, .slice A6 p.2.length c6] 40)).heap.size := by simp
        clear hA b5
        generalize w5.alloc (.cells #[.slice A5 p.1.length c5, .slice A6 p.2.length c6] 40) = w6 at O6 hG R b6 s6 ⊢
        refine (indexOf_any A5 c5 _ p.1 t _ (by omega) hG.1.at_).mono ?_; rintro e w7 ⟨rfl, hb7⟩
        have O7 := O6.next hb7
        have R := R.next hb7
        have hG := hG.below hb7 (by omega)
        have b7 := b6.trans (hb7.mono b6.size)
        have s7 := hb7.size
        have hltR := R.lt
        obtain ⟨y0, y1, yf⟩ := O7.c2
        obtain ⟨r0, r1, rf⟩ := R.c2
        have hOB := Lib.hid (((hG.far (a := ⟨w.heap.size + 1, 0, none⟩) (.slice A5 p.1.length c5) (.inl (by show w.heap.size + 1 < w4.heap.size; omega))).far (a := ⟨w.heap.size + 1, 1, none⟩) (.slice A6 p.2.length c6) (.inl (by show w.heap.size + 1 < w4.heap.size; omega))).more (lo' := w.heap.size) (by omega) (B' := w7.heap.size) (by omega))
        clear yf hb7 b6 hG O6 O7 R
        rcases idxT_cases p.1 t with ⟨k, hk, he, _, hi⟩ | ⟨hno, hi⟩
        · have HQ := Lib.hid (H1.out (he ▸ hT_mem hk))
          rw [hi]
          clear hi he H1 H2
          go_wp2
          exact bodyPost_ret (v := .tuple #[.agg #[.slice A5 p.1.length c5, .slice A6 p.2.length c6], .int .i64 0]) (by simp [results, Tryz.results26, go_sem, r0, r1]) rfl ⟨A5, c5, A6, c6, by rw [HQ.out.1, HQ.out.2], by rw [HQ.out.2]; exact hOB.out.more (Nat.le_refl _) (by simp), (b7.setCell (p := ⟨w.heap.size + 1, 0, none⟩) (by simp) _).setCell (p := ⟨w.heap.size + 1, 1, none⟩) (by simp) _⟩
        · have HQ := Lib.hid (H2.out (noT_ids hno))
          rw [hi]
          clear hi hno H1 H2
          go_wp2
          exact bodyPost_ret (v := .tuple #[.agg #[.slice A5 p.1.length c5, .slice A6 p.2.length c6], .int .i64 1]) (by simp [results, Tryz.results26, go_sem, r0, r1]) rfl ⟨A5, c5, A6, c6, by rw [HQ.out.1, HQ.out.2], by rw [HQ.out.2]; exact hOB.out.more (Nat.le_refl _) (by simp), (b7.setCell (p := ⟨w.heap.size + 1, 0, none⟩) (by simp) _).setCell (p := ⟨w.heap.size + 1, 1, none⟩) (by simp) _⟩
      · have HB := Lib.hid (askC_bad (wr := wr) (askBad_held h0))
        have h0' : (holdsL hs ws t == 0) = false := by simpa using h0
        generalize holdsL hs ws t = q at h0 h0' ⊢
        clear hl ht
        go_wp2_with fail
        refine (implCopy_any _ _ _ _ _ hs ws _ hn hn' (hh.below b b.size)).mono ?_; rintro e w9 ⟨v1, v2, rfl, ho, hb9⟩
        obtain ⟨A3, c3, A4, c4, rfl, rfl, _⟩ := ho.lock
        have hlo := R.lt
        have R := R.next hb9
        have b9 := b.trans (hb9.mono b.size)
        obtain ⟨r0, r1, rf⟩ := R.c2
        have hltR : w.heap.size + 1 < w9.heap.size := R.lt
        have hOB := Lib.hid (ho.far (a := ⟨w.heap.size + 1, 0, none⟩) (.slice A3 hs.length c3) (by simp; omega))
        have hOB := Lib.hid (hOB.out.far (a := ⟨w.heap.size + 1, 1, none⟩) (.slice A4 ws.length c4) (by simp; omega))
        clear x0 x1 hb9 X R
        go_wp2
        exact bodyPost_ret (v := .tuple #[.agg #[.slice A3 hs.length c3, .slice A4 ws.length c4], .int .i64 2]) (by simp [results, Tryz.results26, go_sem, r0, r1]) rfl (RetOwn.lock ⟨_, _, by rw [HB.out.1], by rw [HB.out.2]; exact hOB.out.less b.size, (b9.setCell (p := ⟨w.heap.size + 1, 0, none⟩) (by simp) _).setCell (p := ⟨w.heap.size + 1, 1, none⟩) (by simp) _⟩)
end Go.Proofs.YtcndmdglnohbcaaGreatDoor

