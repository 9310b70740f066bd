/- The program's LeaveLock. -/
import Derived.Test.YtaninlnobmjbmaaGreatLv3
namespace Go.Proofs.YtaninlnobmjbmaaGreat
open Go.RowKit

theorem off_notin {l : HL} {t : Int} (h : ¬ t ∈ ids l) : offL l t = l := List.filter_eq_self.2 fun z hz => by
  have : ¬ z.1 = t := fun e => h (e ▸ List.mem_map_of_mem (f := (·.1)) hz)
  simpa using this
theorem off_hit {l : HL} {t : Int} {k : Nat} (hk : k < l.length) (e : hT l k = t) (hn : (ids l).Nodup) : offL l t = l.eraseIdx k := by
  have hx : l[k].1 = t := by rw [← hT_get hk]; exact e
  have hl : l = l.take k ++ (l[k] :: l.drop (k + 1)) := by rw [List.getElem_cons_drop]; exact (List.take_append_drop k l).symm
  have hi := congrArg ids hl
  rw [ids_append, ids_cons, hx] at hi
  rw [hi, List.nodup_append] at hn
  have n1 : ¬ t ∈ ids (l.take k) := fun hm => hn.2.2 t hm t (List.mem_cons_self ..) rfl
  have n2 : ¬ t ∈ ids (l.drop (k + 1)) := (List.nodup_cons.1 hn.2.1).1
  have h1 : offL l t = offL (l.take k) t ++ offL (l[k] :: l.drop (k + 1)) t := by
    have h2 : offL (l.take k ++ (l[k] :: l.drop (k + 1))) t = offL (l.take k) t ++ offL (l[k] :: l.drop (k + 1)) t := List.filter_append ..
    rw [← h2, ← hl]
  have h3 : offL (l[k] :: l.drop (k + 1)) t = offL (l.drop (k + 1)) t := List.filter_cons_of_neg (by rw [hx]; simp)
  rw [h1, h3, off_notin n1, off_notin n2, erase_eq]
theorem leave_bad {hs ws : HL} {t : Int} (h : lockOk hs ws = false) : leaveL hs ws t = (hs, ws) ∧ leaveB hs ws t = false := leave_no (by simp [holdsL, h])
theorem leave_none {hs ws : HL} {t : Int} (h1 : NoT hs t hs.length) (h2 : NoT ws t ws.length) : leaveL hs ws t = (hs, ws) ∧ leaveB hs ws t = false := leave_no (by
  unfold holdsL
  split
  · exact holds_none h1 h2
  · rfl)
theorem leave_hold {hs ws : HL} {t : Int} {k : Nat} (h : lockOk hs ws = true) (hk : k < hs.length) (e : hT hs k = t) (hn : NoT hs t k) : leaveL hs ws t = grantS (hs.eraseIdx k) ws ∧ leaveB hs ws t = true ∧ PreG (hs.eraseIdx k) ws := by
  have hp := ((lockOk_iff _ _).1 h).1
  have nd := hp.nd
  rw [ids_append, List.nodup_append] at nd
  have e1 := off_hit hk e nd.1
  have hm : t ∈ ids hs := e ▸ hT_mem hk
  have e2 : offL ws t = ws := off_notin fun hw => nd.2.2 t hm t hw rfl
  have hy : ¬ holdsL hs ws t = 0 := by
    rw [holdsL, if_pos h, holds_hit ws hk e hn]; split <;> omega
  have hq := pre_off t hp
  have hy := leave_yes hy
  rw [e1, e2] at hq hy
  exact ⟨hy.1, hy.2, hq⟩
theorem leave_wait {hs ws : HL} {t : Int} {k : Nat} (h : lockOk hs ws = true) (h0 : NoT hs t hs.length) (hk : k < ws.length) (e : hT ws k = t) : leaveL hs ws t = grantS hs (ws.eraseIdx k) ∧ leaveB hs ws t = true ∧ PreG hs (ws.eraseIdx k) := by
  have hp := ((lockOk_iff _ _).1 h).1
  have nd := hp.nd
  rw [ids_append, List.nodup_append] at nd
  have e1 := off_hit hk e nd.2.1
  have e2 : offL hs t = hs := off_notin (noT_ids h0)
  have hy : ¬ holdsL hs ws t = 0 := by
    rw [holdsL, if_pos h, holds_wait h0 hk e]; omega
  have hq := pre_off t hp
  have hy := leave_yes hy
  rw [e1, e2] at hq hy
  exact ⟨hy.1, hy.2, hq⟩

set_option maxHeartbeats 3200000 in
set_option maxRecDepth 100000 in
theorem implLeave_any (A A' : Option Addr) (B : Nat) (hs ws : HL) (t : Int) (w : World) (hn : hs.length ≤ 1048576) (hn' : ws.length ≤ 1048576) (h : LAt w B A A' (hs, ws)) :
    Calls Tryz.prog 67 #[.agg #[.slice A hs.length hs.length, .slice A' ws.length ws.length], .int .i64 t] w (RetLock w (leaveL hs ws t) fun v => .tuple #[v, .bool (leaveB hs ws t)]) := by
  have hh : LAt w w.heap.size A A' (hs, ws) := ⟨h.1.lt, h.2.lt⟩
  clear h
  go_enter Tryz.func67, Tryz.ntmps67
  go_wp2_with fail
  have b := (((Below.refl w.heap.size w).alloc (Nat.le_refl _) (.cells #[.slice A hs.length hs.length, .slice A' ws.length ws.length] 109)).alloc (by simp) (.cells #[.slice none 0 0, .slice none 0 0] 109))
  have X := ((Box.new (w := w) (c := #[.slice A hs.length hs.length, .slice A' ws.length ws.length]) (t := 109) rfl).alloc (.cells #[.slice none 0 0, .slice none 0 0] 109))
  have R := (Box.new (w := w.alloc (.cells #[.slice A hs.length hs.length, .slice A' ws.length ws.length] 109)) (b := w.heap.size + 1) (c := #[.slice none 0 0, .slice none 0 0]) (t := 109) (by simp))
  refine (implLockOk_any _ _ _ _ _ hs ws _ hn hn' (hh.below b b.size)).mono ?_; rintro e w1 ⟨rfl, hb1⟩
  have hlo := R.lt
  have hs0 : w.heap.size + 2 ≤ w1.heap.size := by have := hb1.size; simp at this; omega
  have X := X.next hb1
  have R := R.next hb1
  have b := b.trans (hb1.mono b.size)
  clear hb1 hlo
  cases hl : lockOk hs ws with
  | false =>
    have HB := Lib.hid (leave_bad (t := t) hl)
    clear hl
    obtain ⟨x0, x1, xf⟩ := X.c2
    clear xf
    go_wp2_with fail
    refine (implCopy_any _ _ _ _ _ hs ws _ hn hn' (hh.below b b.size)).mono ?_; rintro e w9 ⟨v1, v2, rfl, ho, hb9⟩
    obtain ⟨A3, c3, A4, c4, rfl, rfl, _⟩ := ho.lock
    have hlR := R.lt
    have R := R.next hb9
    have b9 := b.trans (hb9.mono b.size)
    obtain ⟨r0, r1, rf⟩ := R.c2
    have hOB := Lib.hid (ho.far (a := ⟨w.heap.size + 1, 0, none⟩) (.slice A3 hs.length c3) (by simpa using hlR))
    have hOB := Lib.hid (hOB.out.far (a := ⟨w.heap.size + 1, 1, none⟩) (.slice A4 ws.length c4) (by simpa using hlR))
    have hltR : w.heap.size + 1 < w9.heap.size := R.lt
    clear x0 x1 hb9 X R ho hlR
    go_wp2
    exact bodyPost_ret (v := .tuple #[.agg #[.slice A3 hs.length c3, .slice A4 ws.length c4], .bool false]) (by simp [results, Tryz.results67, go_sem, r0, r1]) rfl (RetOwn.lock ⟨_, _, by rw [HB.out.2], by rw [HB.out.1]; exact hOB.out.less b.size, (b9.setCell (p := ⟨w.heap.size + 1, 0, none⟩) (by simp) _).setCell (p := ⟨w.heap.size + 1, 1, none⟩) (by simp) _⟩)
  | true =>
    have HLK := Lib.hid hl
    clear hl
    obtain ⟨x0, x1, xf⟩ := X.c2
    clear xf
    go_wp2_with fail
    refine (indexOf_any A _ _ hs t _ hn (hh.1.below b b.size)).mono ?_; rintro e w2 ⟨rfl, hb2⟩
    have X := X.next hb2
    have R := R.next hb2
    have s2 := hb2.size
    have b := b.trans (hb2.mono b.size)
    clear hb2 x0 x1
    obtain ⟨x0, x1, xf⟩ := X.c2
    have hltX := X.lt
    have Xk := Lib.hid X
    clear xf X
    rcases idxT_cases hs t with ⟨k, hk, he, hno, hi⟩ | ⟨hno, hi⟩
    · rw [hi]
      obtain ⟨e1, e2, e3⟩ := leave_hold HLK.out hk he hno
      have E1 := Lib.hid e1
      have E2 := Lib.hid e2
      have E3 := Lib.hid e3
      clear hi he hno e1 e2 e3
      have WW := Lib.hid (fun B w h => without_any A B hs k w hn hk h)
      generalize hs.eraseIdx k = P at E1 E3 WW
      have GA := Lib.hid (fun A c B lo q bs w hq h => granted_any A c B lo q bs P ws w E3.out hq h)
      generalize grantS P ws = G at E1 GA
      have HD := Lib.hid (hh.below b.drew b.size)
      have XD := Lib.hid Xk.out.drew
      have RD := Lib.hid R.drew
      go_wp2_with fail
      go_region_law (first
        | (go_simp; go_at_call 105; refine (WW.out _ _ HD.out.1).mono ?_; rintro o w3 ⟨A3, c3, rfl, hA3, hb3⟩; obtain ⟨z0, z1, zf⟩ := (XD.out.next hb3).c2)
        | (go_simp; go_at_call 106; refine (queueFrom_any A' _ _ ws _ hn' (HD.out.2.below hb3 hb3.size)).mono ?_; rintro o w4 ⟨q, bs, rfl, hq, hb4⟩)
        | (go_simp; go_at_call 104; refine (GA.out A3 c3 _ _ q bs _ hq (hA3.below hb4 hb4.size)).mono ?_; rintro o w5 ⟨A5, c5, A6, c6, rfl, hG, hb5⟩; have RR := ((RD.out.next hb3).next hb4).below hb5 (Nat.lt_of_lt_of_le R.lt hb3.size); obtain ⟨r0, r1, rf⟩ := RR.c2))
      all_goals
        have hz3 : w2.heap.size ≤ w3.heap.size := hb3.size
        have hz4 := hb4.size
        have b5 := ((b.drew.trans (hb3.mono (Nat.le_trans b.size (Nat.le_refl _)))).trans (hb4.mono (Nat.le_trans b.size hz3))).trans (hb5.mono (Nat.le_trans b.size hz3))
        have hz5 := hb5.size
        have hltR := RR.lt
        have hOB := Lib.hid (((hG.far (a := ⟨w.heap.size + 1, 0, none⟩) (.slice A5 G.1.length c5) (.inl (by show w.heap.size + 1 < w4.heap.size; omega))).far (a := ⟨w.heap.size + 1, 1, none⟩) (.slice A6 G.2.length c6) (.inl (by show w.heap.size + 1 < w4.heap.size; omega))).more (lo' := w.heap.size) (by omega) (B' := w5.heap.size) (by omega))
        clear hG hb3 hb4 hb5 hq hA3 RR Xk R XD RD HD WW GA z0 z1 zf x0 x1
        go_wp2
        exact bodyPost_ret (v := .tuple #[.agg #[.slice A5 G.1.length c5, .slice A6 G.2.length c6], .bool true]) (by simp [results, Tryz.results67, go_sem, r0, r1]) rfl ⟨A5, c5, A6, c6, by rw [E2.out, E1.out], by rw [E1.out]; exact hOB.out.more (Nat.le_refl _) (by simp), (b5.setCell (p := ⟨w.heap.size + 1, 0, none⟩) (by simp) _).setCell (p := ⟨w.heap.size + 1, 1, none⟩) (by simp) _⟩
    · rw [hi]
      have Hno := Lib.hid hno
      clear hi hno
      go_wp2_with fail
      refine (indexOf_any A' _ _ ws t _ hn' (hh.2.below b b.size)).mono ?_; rintro e w3 ⟨rfl, hb3⟩
      have X := Xk.out.next hb3
      have R := R.next hb3
      have s3 := hb3.size
      have b := b.trans (hb3.mono b.size)
      clear hb3 x0 x1 hltX Xk
      rcases idxT_cases ws t with ⟨k, hk, he, _, hi⟩ | ⟨hno2, hi⟩
      · rw [hi]
        obtain ⟨e1, e2, e3⟩ := leave_wait HLK.out Hno.out hk he
        have E1 := Lib.hid e1
        have E2 := Lib.hid e2
        have E3 := Lib.hid e3
        clear hi he e1 e2 e3
        obtain ⟨x0, x1, xf⟩ := X.c2
        have hltX := X.lt
        have Xk := Lib.hid X
        have WW := Lib.hid (fun B w h => without_any A' B ws k w hn' hk h)
        have PL : (ws.eraseIdx k).length ≤ 1048576 := by rw [List.length_eraseIdx]; split <;> omega
        generalize ws.eraseIdx k = P at E1 E3 WW PL
        have GA := Lib.hid (fun A c B lo q bs w hq h => granted_any A c B lo q bs hs P w E3.out hq h)
        generalize grantS hs P = G at E1 GA
        have HD := Lib.hid (hh.below b.drew b.size)
        have XD := Lib.hid Xk.out.drew
        have RD := Lib.hid R.drew
        clear xf X
        go_wp2_with fail
        go_region_law (first
          | (go_simp; go_at_call 105; refine (WW.out _ _ HD.out.2).mono ?_; rintro o w4 ⟨A3, c3, rfl, hA3, hb3⟩; obtain ⟨z0, z1, zf⟩ := (XD.out.next hb3).c2)
          | (go_simp; go_at_call 106; refine (queueFrom_any A3 c3 _ P _ PL hA3).mono ?_; rintro o w5 ⟨q, bs, rfl, hq, hb4⟩; obtain ⟨y0, y1, yf⟩ := ((XD.out.next hb3).next hb4).c2)
          | (go_simp; go_at_call 104; refine (GA.out A _ _ _ q bs _ hq ((HD.out.1.below hb3 hb3.size).below hb4 hb4.size)).mono ?_; rintro o w6 ⟨A5, c5, A6, c6, rfl, hG, hb5⟩; have RR := ((RD.out.next hb3).next hb4).below hb5 (Nat.lt_of_lt_of_le R.lt hb3.size); obtain ⟨r0, r1, rf⟩ := RR.c2))
        all_goals
          have hz3 : w3.heap.size ≤ w4.heap.size := hb3.size
          have hz4 := hb4.size
          have b5 := ((b.drew.trans (hb3.mono (Nat.le_trans b.size (Nat.le_refl _)))).trans (hb4.mono (Nat.le_trans b.size hz3))).trans (hb5.mono (Nat.le_trans b.size hz3))
          have hz5 := hb5.size
          have hltR := RR.lt
          have hOB := Lib.hid (((hG.far (a := ⟨w.heap.size + 1, 0, none⟩) (.slice A5 G.1.length c5) (.inl (by show w.heap.size + 1 < w5.heap.size; omega))).far (a := ⟨w.heap.size + 1, 1, none⟩) (.slice A6 G.2.length c6) (.inl (by show w.heap.size + 1 < w5.heap.size; omega))).more (lo' := w.heap.size) (by omega) (B' := w6.heap.size) (by omega))
          clear hG hb3 hb4 hb5 hq hA3 RR Xk R XD RD HD WW GA z0 z1 zf y0 y1 yf x0 x1
          go_wp2
          exact bodyPost_ret (v := .tuple #[.agg #[.slice A5 G.1.length c5, .slice A6 G.2.length c6], .bool true]) (by simp [results, Tryz.results67, go_sem, r0, r1]) rfl ⟨A5, c5, A6, c6, by rw [E2.out, E1.out], by rw [E1.out]; exact hOB.out.more (Nat.le_refl _) (by simp), (b5.setCell (p := ⟨w.heap.size + 1, 0, none⟩) (by simp) _).setCell (p := ⟨w.heap.size + 1, 1, none⟩) (by simp) _⟩
      · rw [hi]
        have HB := Lib.hid (leave_none Hno.out hno2)
        clear hi hno2
        obtain ⟨x0, x1, xf⟩ := X.c2
        clear xf
        go_wp2_with fail
        refine (implCopy_any _ _ _ _ _ hs ws _ hn hn' (hh.below b b.size)).mono ?_; rintro e w9 ⟨v1, v2, rfl, ho, hb9⟩
        obtain ⟨A3, c3, A4, c4, rfl, rfl, _⟩ := ho.lock
        have hlR := R.lt
        have R := R.next hb9
        have b9 := b.trans (hb9.mono b.size)
        obtain ⟨r0, r1, rf⟩ := R.c2
        have hOB := Lib.hid (ho.far (a := ⟨w.heap.size + 1, 0, none⟩) (.slice A3 hs.length c3) (by simpa using hlR))
        have hOB := Lib.hid (hOB.out.far (a := ⟨w.heap.size + 1, 1, none⟩) (.slice A4 ws.length c4) (by simpa using hlR))
        have hltR : w.heap.size + 1 < w9.heap.size := R.lt
        clear x0 x1 hb9 X R ho hlR
        go_wp2
        exact bodyPost_ret (v := .tuple #[.agg #[.slice A3 hs.length c3, .slice A4 ws.length c4], .bool false]) (by simp [results, Tryz.results67, go_sem, r0, r1]) rfl (RetOwn.lock ⟨_, _, by rw [HB.out.2], by rw [HB.out.1]; exact hOB.out.less b.size, (b9.setCell (p := ⟨w.heap.size + 1, 0, none⟩) (by simp) _).setCell (p := ⟨w.heap.size + 1, 1, none⟩) (by simp) _⟩)
end Go.Proofs.YtaninlnobmjbmaaGreat
