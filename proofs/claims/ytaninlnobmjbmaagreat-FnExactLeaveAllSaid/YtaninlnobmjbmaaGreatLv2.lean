/- The model's LeaveLock. -/
import Derived.Test.YtaninlnobmjbmaaGreatLi8
import Derived.Deep.RegionLaw
import Derived.Deep.AppendLies
namespace Go.Proofs.YtaninlnobmjbmaaGreat
open Go.RowKit

theorem offL_take {l : HL} {t : Int} {k : Nat} (hk : k < l.length) : offL (l.take (k + 1)) t = offL (l.take k) t ++ (if hT l k = t then [] else [(hT l k, hW l k)]) := by
  unfold offL
  rw [List.take_succ_eq_append_getElem hk, List.filter_append, ← hT_get hk]
  by_cases e : hT l k = t
  · simp [e]
  · simp [e]
theorem off_eq {l : HL} {t : Int} {k : Nat} (hk : k < l.length) (e : hT l k = t) : offL (l.take (k + 1)) t = offL (l.take k) t := by rw [offL_take hk, if_pos e, List.append_nil]
theorem off_ne {l : HL} {t : Int} {k : Nat} (hk : k < l.length) (e : ¬ hT l k = t) : offL (l.take (k + 1)) t = offL (l.take k) t ++ [(hT l k, hW l k)] := by rw [offL_take hk, if_neg e]
theorem off_len (l : HL) (t : Int) : (offL l t).length ≤ l.length := List.length_filter_le _ _
theorem leave_no {hs ws : HL} {t : Int} (h : holdsL hs ws t = 0) : leaveL hs ws t = (hs, ws) ∧ leaveB hs ws t = false := by simp [leaveL, leaveB, h]
theorem leave_yes {hs ws : HL} {t : Int} (h : ¬ holdsL hs ws t = 0) : leaveL hs ws t = grantS (offL hs t) (offL ws t) ∧ leaveB hs ws t = true := by simp [leaveL, leaveB, h]
theorem leave_lock {hs ws : HL} {t : Int} (h : ¬ holdsL hs ws t = 0) : lockOk hs ws = true := by
  unfold holdsL at h
  cases hl : lockOk hs ws with
  | true => rfl
  | false => rw [hl] at h; simp at h
theorem leave_len {hs ws : HL} {t : Int} (h : ¬ holdsL hs ws t = 0) : hs.length + ws.length ≤ 8 := ((lockOk_iff _ _).1 (leave_lock h)).1.len

/-- the first loop of LeaveLock, after k holders -/
def LvA (hs : HL) (t : Int) (xs : List Value) (w : World) (ob k : Nat) (wr : World) : Prop := ob < wr.heap.size ∧ ∃ v, Box wr w.heap.size xs ∧ OwnH wr (ob + 1) v (offL (hs.take k) t) ∧ Box wr ob [v, .slice none 0 0] ∧ Box wr (w.heap.size + 1) [.slice none 0 0, .slice none 0 0] ∧ Below w.heap.size w wr
/-- the second loop, after k waiters -/
def LvB (hs ws : HL) (t : Int) (xs : List Value) (w : World) (ob m k : Nat) (wr : World) : Prop := ob < wr.heap.size ∧ ∃ v1 v2, Box wr w.heap.size xs ∧ OwnH wr (ob + 1) v1 (offL hs t) ∧ (∀ q, v1.ownBlock = some q → q < m) ∧ OwnH wr m v2 (offL (ws.take k) t) ∧ Box wr ob [v1, v2] ∧ Box wr (w.heap.size + 1) [.slice none 0 0, .slice none 0 0] ∧ Below w.heap.size w wr ∧ m ≤ wr.heap.size

set_option maxHeartbeats 3200000 in
set_option maxRecDepth 100000 in
theorem specLeave_any (A A' : Option Addr) (c c' B : Nat) (hs ws : HL) (t : Int) (w : World) (hn : hs.length ≤ 1048576) (hn' : ws.length ≤ 1048576) (h : LAt w B A A' (hs, ws)) :
    Calls Tryz.prog 58 #[.agg #[.slice A hs.length c, .slice A' ws.length c'], .int .i64 t] w (RetLock w (leaveL hs ws t) fun v => .tuple #[v, .bool (leaveB hs ws t)]) := by
  have hh : LAt w w.heap.size A A' (hs, ws) := ⟨h.1.lt, h.2.lt⟩
  obtain ⟨i0, hi, hz0, hz1, hz2⟩ := info_parts infoHold
  have Hi := Lib.hid hi
  have Hz0 := Lib.hid hz0
  have Hz1 := Lib.hid hz1
  have Hz2 := Lib.hid hz2
  clear hi hz0 hz1 hz2 h
  go_enter Tryz.func58, Tryz.ntmps58
  go_wp2_with fail
  have b := (((Below.refl w.heap.size w).alloc (Nat.le_refl _) (.cells #[.slice A hs.length c, .slice A' ws.length c'] 109)).alloc (by simp) (.cells #[.slice none 0 0, .slice none 0 0] 109))
  have X := ((Box.new (w := w) (c := #[.slice A hs.length c, .slice A' ws.length c']) (t := 109) rfl).alloc (.cells #[.slice none 0 0, .slice none 0 0] 109))
  have R := (Box.new (w := w.alloc (.cells #[.slice A hs.length c, .slice A' ws.length c'] 109)) (b := w.heap.size + 1) (c := #[.slice none 0 0, .slice none 0 0]) (t := 109) (by simp))
  refine (specHolds_any _ _ _ _ _ hs ws t _ hn hn' (hh.below b b.size)).mono ?_; rintro e w1 ⟨rfl, hb1⟩
  have hlo := R.lt
  have X := X.next hb1
  have R := R.next hb1
  have b := b.trans (hb1.mono b.size)
  have s1 := hb1.size
  have H1 := Lib.hid (fun h => leave_no (hs := hs) (ws := ws) (t := t) h)
  have H2 := Lib.hid (fun h => leave_yes (hs := hs) (ws := ws) (t := t) h)
  have H8 := Lib.hid (fun h => leave_len (hs := hs) (ws := ws) (t := t) h)
  have hnn := (holdsL_nn hs ws t).1
  clear hb1
  generalize holdsL hs ws t = q at H1 H2 H8 hnn ⊢
  by_cases h0 : q = 0
  · obtain ⟨e1, e2⟩ := H1.out h0
    have E1 := Lib.hid e1
    have E2 := Lib.hid e2
    subst h0
    have hltX := X.lt
    obtain ⟨x0, x1, xf⟩ := X.c2
    clear H1 H2 H8 e1 e2 xf X
    go_wp2_with fail
    refine (specCopy_any _ _ _ _ _ hs ws _ hn hn' (hh.below b b.size)).mono ?_; rintro e w9 ⟨v1, v2, rfl, ho, hb9⟩
    obtain ⟨A3, c3, A4, c4, rfl, rfl, _⟩ := ho.lock
    have hlR := R.lt
    have R := R.next hb9
    have b9 := b.trans (hb9.mono b.size)
    obtain ⟨r0, r1, rf⟩ := R.c2
    have hOB := Lib.hid (ho.far (a := ⟨w.heap.size + 1, 0, none⟩) (.slice A3 hs.length c3) (by simpa using hlR))
    have hOB := Lib.hid (hOB.out.far (a := ⟨w.heap.size + 1, 1, none⟩) (.slice A4 ws.length c4) (by simpa using hlR))
    have hltR : w.heap.size + 1 < w9.heap.size := R.lt
    clear hb9 R ho hh x0 x1 hlo s1 hlR
    go_wp2
    exact bodyPost_ret (v := .tuple #[.agg #[.slice A3 hs.length c3, .slice A4 ws.length c4], .bool false]) (by simp [results, Tryz.results58, go_sem, r0, r1]) rfl (RetOwn.lock ⟨_, _, by rw [E2.out], by rw [E1.out]; exact hOB.out.less b.size, (b9.setCell (p := ⟨w.heap.size + 1, 0, none⟩) (by simp) _).setCell (p := ⟨w.heap.size + 1, 1, none⟩) (by simp) _⟩)
  · obtain ⟨e1, e2⟩ := H2.out h0
    have E1 := Lib.hid e1
    have E2 := Lib.hid e2
    have h0' : (q == 0) = false := by simpa using h0
    have hltX := X.lt
    obtain ⟨x0, x1, xf⟩ := X.c2
    have hob : w.heap.size + 1 < w1.heap.size := R.lt
    clear H1 H2 e1 e2 xf
    go_wp2
    go_loopw [7] (fun i wr => ∃ k : Nat, k ≤ hs.length ∧ i = .int .i64 k ∧ LvA hs t [.slice A hs.length c, .slice A' ws.length c'] w w1.heap.size k wr) (fun i _ => hs.length - (intOf i).toNat)
    case atStart =>
      exact ⟨0, Nat.zero_le _, rfl, by simp, _, X.alloc _, OwnH.nil _ _, Box.new rfl, R.alloc _, b.alloc b.size _⟩
    case round =>
      clear X b x0 x1 R
      obtain ⟨k, hk, rfl, hobr, v, X, hown, O, R, hb⟩ := hrel
      have hsz := hb.size
      have hltX := X.lt
      have Xk := Lib.hid X
      have Ok := Lib.hid O
      have Rk := Lib.hid R
      obtain ⟨x0, x1, xf⟩ := X.c2
      obtain ⟨o0, o1, of⟩ := O.c2
      clear xf X O R
      by_cases hkn : k < hs.length
      · obtain ⟨g, off, rfl, hB, hc⟩ := hh.1 (by show 0 < hs.length; omega)
        have hkz : (k : Int) < hs.length := by omega
        have d0 : wr.cell? ⟨g, off + k * 2, none⟩ = some (.int .i64 (hT hs k)) := (hb.cell (p := ⟨g, off + k * 2, none⟩) hB).trans (hc k hkn).1
        have d1 : wr.cell? ⟨g, off + k * 2 + 1, none⟩ = some (.bool (hW hs k)) := (hb.cell (p := ⟨g, off + k * 2 + 1, none⟩) hB).trans (hc k hkn).2
        have hl2 : (offL (hs.take k) t).length ≤ 1048576 := by have := off_len (hs.take k) t; rw [List.length_take] at this; omega
        clear hc
        by_cases e : hT hs k = t
        · have HN := Lib.hid (off_eq hkn e)
          have hown0 := Lib.hid hown
          rw [e] at d0
          clear e hown
          go_wp2
          exact ⟨⟨k + 1, by omega, by go_num, hobr, v, Xk.out, by rw [HN.out]; exact hown0.out, Ok.out, Rk.out, hb⟩, by simp [intOf]; omega⟩
        · have HN := Lib.hid (off_ne hkn e)
          have e' : (hT hs k == t) = false := by simpa using e
          clear e
          generalize offL (hs.take k) t = P at hown hl2 HN
          have dr := (Below.refl wr.heap.size wr).drew
          have HOW := Lib.hid (World.ownsRow.alloc (hown.next dr) (.cells #[.int .i64 (hT hs k), .bool (hW hs k)] 162))
          have NB := (Box.new (w := wr.drew) (b := wr.heap.size) (c := #[.int .i64 (hT hs k), .bool (hW hs k)]) (t := 162) rfl).c2
          have NEWS : Hid (∀ j u, [Value.int .i64 (hT hs k), Value.bool (hW hs k)][j]? = some u → (wr.drew.alloc (.cells #[.int .i64 (hT hs k), .bool (hW hs k)] 162)).cell? ((⟨wr.heap.size, 0, none⟩ : Addr).add j) = some u) := Lib.hid (by
            intro j u hj
            match j, hj with
            | 0, hj => simp at hj; subst hj; simp [Addr.add]; exact NB.1
            | 1, hj => simp at hj; subst hj; simp [Addr.add]; exact NB.2.1)
          have ONE : Hid (∀ u ∈ [Value.int .i64 (hT hs k), Value.bool (hW hs k)], u.oneCell' = true) := Lib.hid (by
            intro u hu; simp at hu; rcases hu with rfl | rfl <;> rfl)
          have HRow : Hid (∀ q, v.ownBlock = some q → w1.heap.size + 1 ≤ q) := Lib.hid fun q hq => (hown.lt q hq).1
          have SZ : Hid (w1.heap.size + 1 ≤ (wr.drew.alloc (.cells #[.int .i64 (hT hs k), .bool (hW hs k)] 162)).heap.size) := Lib.hid (by simp; omega)
          have HH : Hid ((wr.drew.alloc (.cells #[.int .i64 (hT hs k), .bool (hW hs k)] 162)).heap.size = wr.heap.size + 1) := Lib.hid (by simp)
          have hown0 := Lib.hid hown
          clear hown NB
          go_wp2_with fail
          go_region_law (refine step_append_lies _ rfl _ _ 107 rfl (w1.heap.size + 1) 162 i0 (.agg #[.int .i64 0, .bool false]) 2 16 Tryz.underlying107 Hi.out Hz0.out Hz1.out Hz2.out rfl (by decide) v P.length (hcs P) (by simp [Act.eval]) HOW.out ⟨wr.heap.size, 0, none⟩ 1 1 [.int .i64 (hT hs k), .bool (hW hs k)] (by simp [Act.eval]) rfl NEWS.out ONE.out (by decide) (by unfold maxLen; omega) (by omega) SZ.out (wr.heap.size + 1) HH.out ?_; intro g5 cap5 w5 hown5 hgrow hat5 hlt5; obtain ⟨p0, p1, pf⟩ := ((Ok.out.drew.alloc (.cells #[.int .i64 (hT hs k), .bool (hW hs k)] 162)).grown hgrow (fun q hq => by have := HRow.out q hq; omega)).c2)
          all_goals
            have hgr : (wr.drew.alloc (.cells #[.int .i64 (hT hs k), .bool (hW hs k)] 162)).grownBy w5 v.ownBlock := hgrow
            have BX := ((Xk.out.drew.alloc (.cells #[.int .i64 (hT hs k), .bool (hW hs k)] 162)).grown hgr (fun q hq => by have := HRow.out q hq; omega)).far (a := ⟨w1.heap.size, 0, none⟩) (.slice (some ⟨g5, 0, none⟩) (P.length + 1) cap5) (by show ¬ w1.heap.size = w.heap.size; omega)
            have BO := ((Ok.out.drew.alloc (.cells #[.int .i64 (hT hs k), .bool (hW hs k)] 162)).grown hgr (fun q hq => by have := HRow.out q hq; omega)).set (j := 0) (.slice (some ⟨g5, 0, none⟩) (P.length + 1) cap5) (by simp)
            have BR := ((Rk.out.drew.alloc (.cells #[.int .i64 (hT hs k), .bool (hW hs k)] 162)).grown hgr (fun q hq => by have := HRow.out q hq; omega)).far (a := ⟨w1.heap.size, 0, none⟩) (.slice (some ⟨g5, 0, none⟩) (P.length + 1) cap5) (by show ¬ w1.heap.size = w.heap.size + 1; omega)
            have B5 := (((hb.trans (dr.mono hsz)).alloc (by show w.heap.size ≤ wr.heap.size; omega) (.cells #[.int .i64 (hT hs k), .bool (hW hs k)] 162)).grown hgr (by simp; omega) (fun q hq => by have := HRow.out q hq; omega)).setCell (p := ⟨w1.heap.size, 0, none⟩) (by show w.heap.size ≤ w1.heap.size; omega) (.slice (some ⟨g5, 0, none⟩) (P.length + 1) cap5)
            have OW : OwnH w5 (w1.heap.size + 1) (.slice (some ⟨g5, 0, none⟩) (P.length + 1) cap5) (P ++ [(hT hs k, hW hs k)]) := OwnH.grown (x := (hT hs k, hW hs k)) hown0.out hown5
            have OW := OW.far (a := ⟨w1.heap.size, 0, none⟩) (.slice (some ⟨g5, 0, none⟩) (P.length + 1) cap5) (by show w1.heap.size < _; omega)
            have hlt6 := BO.lt
            clear p0 p1 pf hgrow hgr hown5 hat5 hlt5 d0 d1 x0 x1 o0 o1 of hb HOW NEWS ONE HRow SZ HH hown0 Xk Ok Rk dr
            generalize w5.setCell ⟨w1.heap.size, 0, none⟩ (.slice (some ⟨g5, 0, none⟩) (P.length + 1) cap5) = w6 at BX BO BR B5 OW hlt6 ⊢
            go_wp2
            exact ⟨⟨k + 1, by omega, by go_num, hlt6, _, BX, by rw [HN.out]; exact OW, BO, BR, B5⟩, by simp [intOf]; omega⟩
      · obtain rfl : k = hs.length := by omega
        rw [List.take_length] at hown
        obtain ⟨m, hm⟩ : ∃ m, m = wr.heap.size := ⟨_, rfl⟩
        have HM := Lib.hid hm
        have hmo : w1.heap.size < m := by rw [hm]; exact hobr
        have hown0 := Lib.hid hown
        have hb0 := Lib.hid hb
        clear hm hown
        go_wp2
        go_loopw [8] (fun i wr => ∃ k : Nat, k ≤ ws.length ∧ i = .int .i64 k ∧ LvB hs ws t [.slice A hs.length c, .slice A' ws.length c'] w w1.heap.size m k wr) (fun i _ => ws.length - (intOf i).toNat)
        case atStart =>
          exact ⟨0, Nat.zero_le _, rfl, hobr, v, _, Xk.out, hown0.out, fun q hq => by rw [HM.out]; exact (hown0.out.lt q hq).2, OwnH.nil _ _, Ok.out, Rk.out, hb0.out, by rw [HM.out]; exact Nat.le_refl _⟩
        case round =>
          clear Xk Ok Rk hb hown0 hb0 HM hkn x0 x1 o0 o1 of hsz hobr hltX
          obtain ⟨k, hk, rfl, hobr, u, v, X, hkeep, hkm, hown, O, R, hb, hmr⟩ := hrel
          have HK := Lib.hid hkeep
          have HKM := Lib.hid hkm
          clear hkeep hkm
          have hsz := hb.size
          have hltX := X.lt
          have Xk := Lib.hid X
          have Ok := Lib.hid O
          have Rk := Lib.hid R
          obtain ⟨x0, x1, xf⟩ := X.c2
          obtain ⟨o0, o1, of⟩ := O.c2
          clear xf X O R
          by_cases hkn : k < ws.length
          · obtain ⟨g, off, rfl, hB, hc⟩ := hh.2 (by show 0 < ws.length; omega)
            have hkz : (k : Int) < ws.length := by omega
            have d0 : wr.cell? ⟨g, off + k * 2, none⟩ = some (.int .i64 (hT ws k)) := (hb.cell (p := ⟨g, off + k * 2, none⟩) hB).trans (hc k hkn).1
            have d1 : wr.cell? ⟨g, off + k * 2 + 1, none⟩ = some (.bool (hW ws k)) := (hb.cell (p := ⟨g, off + k * 2 + 1, none⟩) hB).trans (hc k hkn).2
            have hl2 : (offL (ws.take k) t).length ≤ 1048576 := by have := off_len (ws.take k) t; rw [List.length_take] at this; omega
            clear hc
            by_cases e : hT ws k = t
            · have HN := Lib.hid (off_eq hkn e)
              have hown0 := Lib.hid hown
              rw [e] at d0
              clear e hown
              go_wp2
              exact ⟨⟨k + 1, by omega, by go_num, hobr, u, v, Xk.out, HK.out, HKM.out, by rw [HN.out]; exact hown0.out, Ok.out, Rk.out, hb, hmr⟩, by simp [intOf]; omega⟩
            · have HN := Lib.hid (off_ne hkn e)
              have e' : (hT ws k == t) = false := by simpa using e
              clear e
              generalize offL (ws.take k) t = P at hown hl2 HN
              have dr := (Below.refl wr.heap.size wr).drew
              have HOW := Lib.hid (World.ownsRow.alloc (hown.next dr) (.cells #[.int .i64 (hT ws k), .bool (hW ws k)] 162))
              have NB := (Box.new (w := wr.drew) (b := wr.heap.size) (c := #[.int .i64 (hT ws k), .bool (hW ws k)]) (t := 162) rfl).c2
              have NEWS : Hid (∀ j u, [Value.int .i64 (hT ws k), Value.bool (hW ws k)][j]? = some u → (wr.drew.alloc (.cells #[.int .i64 (hT ws k), .bool (hW ws k)] 162)).cell? ((⟨wr.heap.size, 0, none⟩ : Addr).add j) = some u) := Lib.hid (by
                intro j u hj
                match j, hj with
                | 0, hj => simp at hj; subst hj; simp [Addr.add]; exact NB.1
                | 1, hj => simp at hj; subst hj; simp [Addr.add]; exact NB.2.1)
              have ONE : Hid (∀ u ∈ [Value.int .i64 (hT ws k), Value.bool (hW ws k)], u.oneCell' = true) := Lib.hid (by
                intro u hu; simp at hu; rcases hu with rfl | rfl <;> rfl)
              have HRow : Hid (∀ q, v.ownBlock = some q → w1.heap.size + 1 ≤ q) := Lib.hid fun q hq => by have := (hown.lt q hq).1; omega
              have HRM : Hid (∀ q, v.ownBlock = some q → m ≤ q) := Lib.hid fun q hq => (hown.lt q hq).1
              have SZ : Hid (m ≤ (wr.drew.alloc (.cells #[.int .i64 (hT ws k), .bool (hW ws k)] 162)).heap.size) := Lib.hid (by simp; omega)
              have HH : Hid ((wr.drew.alloc (.cells #[.int .i64 (hT ws k), .bool (hW ws k)] 162)).heap.size = wr.heap.size + 1) := Lib.hid (by simp)
              have hown0 := Lib.hid hown
              clear hown NB
              go_wp2_with fail
              go_region_law (refine step_append_lies _ rfl _ _ 107 rfl (m) 162 i0 (.agg #[.int .i64 0, .bool false]) 2 16 Tryz.underlying107 Hi.out Hz0.out Hz1.out Hz2.out rfl (by decide) v P.length (hcs P) (by simp [Act.eval]) HOW.out ⟨wr.heap.size, 0, none⟩ 1 1 [.int .i64 (hT ws k), .bool (hW ws k)] (by simp [Act.eval]) rfl NEWS.out ONE.out (by decide) (by unfold maxLen; omega) (by omega) SZ.out (wr.heap.size + 1) HH.out ?_; intro g5 cap5 w5 hown5 hgrow hat5 hlt5; obtain ⟨p0, p1, pf⟩ := ((Ok.out.drew.alloc (.cells #[.int .i64 (hT ws k), .bool (hW ws k)] 162)).grown hgrow (fun q hq => by have := HRow.out q hq; omega)).c2)
              all_goals
                have hgr : (wr.drew.alloc (.cells #[.int .i64 (hT ws k), .bool (hW ws k)] 162)).grownBy w5 v.ownBlock := hgrow
                have BX := ((Xk.out.drew.alloc (.cells #[.int .i64 (hT ws k), .bool (hW ws k)] 162)).grown hgr (fun q hq => by have := HRow.out q hq; omega)).far (a := ⟨w1.heap.size, 1, none⟩) (.slice (some ⟨g5, 0, none⟩) (P.length + 1) cap5) (by show ¬ w1.heap.size = w.heap.size; omega)
                have BO := ((Ok.out.drew.alloc (.cells #[.int .i64 (hT ws k), .bool (hW ws k)] 162)).grown hgr (fun q hq => by have := HRow.out q hq; omega)).set (j := 1) (.slice (some ⟨g5, 0, none⟩) (P.length + 1) cap5) (by simp)
                have BR := ((Rk.out.drew.alloc (.cells #[.int .i64 (hT ws k), .bool (hW ws k)] 162)).grown hgr (fun q hq => by have := HRow.out q hq; omega)).far (a := ⟨w1.heap.size, 1, none⟩) (.slice (some ⟨g5, 0, none⟩) (P.length + 1) cap5) (by show ¬ w1.heap.size = w.heap.size + 1; omega)
                have B5 := (((hb.trans (dr.mono hsz)).alloc (by show w.heap.size ≤ wr.heap.size; omega) (.cells #[.int .i64 (hT ws k), .bool (hW ws k)] 162)).grown hgr (by simp; omega) (fun q hq => by have := HRow.out q hq; omega)).setCell (p := ⟨w1.heap.size, 1, none⟩) (by show w.heap.size ≤ w1.heap.size; omega) (.slice (some ⟨g5, 0, none⟩) (P.length + 1) cap5)
                have OW : OwnH w5 (m) (.slice (some ⟨g5, 0, none⟩) (P.length + 1) cap5) (P ++ [(hT ws k, hW ws k)]) := OwnH.grown (x := (hT ws k, hW ws k)) hown0.out hown5
                have OW := OW.far (a := ⟨w1.heap.size, 1, none⟩) (.slice (some ⟨g5, 0, none⟩) (P.length + 1) cap5) (by show w1.heap.size < _; omega)
                have KEEP : OwnH w5 (w1.heap.size + 1) u (offL hs t) := (World.ownsRow.alloc (HK.out.next dr) (.cells #[.int .i64 (hT ws k), .bool (hW ws k)] 162)).kept hgr (by
                  cases hv : u.ownBlock with
                  | none => exact .inl rfl
                  | some z => exact .inr (fun e => by have := HKM.out z hv; have := HRM.out z e.symm; omega))
                have KEEP := KEEP.far (a := ⟨w1.heap.size, 1, none⟩) (.slice (some ⟨g5, 0, none⟩) (P.length + 1) cap5) (by show w1.heap.size < _; omega)
                have hs5 : (w5.setCell ⟨w1.heap.size, 1, none⟩ (.slice (some ⟨g5, 0, none⟩) (P.length + 1) cap5)).heap.size = w5.heap.size := by simp [World.setCell]
                have hg5 : wr.heap.size + 1 ≤ w5.heap.size := by have h1 := hgr.size; simp at h1; exact h1
                have hm6 : m ≤ (w5.setCell ⟨w1.heap.size, 1, none⟩ (.slice (some ⟨g5, 0, none⟩) (P.length + 1) cap5)).heap.size := by rw [hs5]; omega
                clear hs5 hg5
                have hlt6 := BO.lt
                clear p0 p1 pf hgrow hgr hown5 hat5 hlt5 d0 d1 x0 x1 o0 o1 of hb HOW NEWS ONE HRow SZ HH hown0 Xk Ok Rk dr
                generalize w5.setCell ⟨w1.heap.size, 1, none⟩ (.slice (some ⟨g5, 0, none⟩) (P.length + 1) cap5) = w6 at BX BO BR B5 OW KEEP hm6 hlt6 ⊢
                go_wp2
                exact ⟨⟨k + 1, by omega, by go_num, hlt6, u, _, BX, KEEP, HKM.out, by rw [HN.out]; exact OW, BO, BR, B5, hm6⟩, by simp [intOf]; omega⟩
          · obtain rfl : k = ws.length := by omega
            rw [List.take_length] at hown
            have HW := hown
            have hOL : OwnL wr (w1.heap.size + 1) u v (offL hs t, offL ws t) := OwnL.two HK.out HKM.out HW (by omega)
            have hl8 := H8.out h0
            have l1 := off_len hs t
            have l2 := off_len ws t
            clear hown HW
            go_wp2_with fail
            refine (specGrant_any u v (w1.heap.size + 1) (offL hs t) (offL ws t) _ (by omega) (by omega) hOL).mono ?_; rintro e w7 ⟨u1, u2, rfl, hG, hb7⟩
            generalize grantS (offL hs t) (offL ws t) = p at hG E1
            obtain ⟨A5, c5, A6, c6, rfl, rfl, _⟩ := hG.lock
            have R := Rk.out.next hb7
            have b7 := hb.trans (hb7.mono hsz)
            have hltR := R.lt
            obtain ⟨r0, r1, rf⟩ := R.c2
            have HG := Lib.hid ((hG.far (a := ⟨w.heap.size + 1, 0, none⟩) (.slice A5 p.1.length c5) (by show w.heap.size + 1 < w1.heap.size + 1; omega)).far (a := ⟨w.heap.size + 1, 1, none⟩) (.slice A6 p.2.length c6) (by show w.heap.size + 1 < w1.heap.size + 1; omega))
            clear hG hb7 hOL x0 x1 o0 o1 of hb HK HKM Xk Ok Rk R l1 l2
            go_wp2
            exact bodyPost_ret (v := .tuple #[.agg #[.slice A5 p.1.length c5, .slice A6 p.2.length c6], .bool true]) (by simp [results, Tryz.results58, go_sem, r0, r1]) rfl (RetOwn.lock ⟨_, _, by rw [E2.out], by rw [E1.out]; exact HG.out.less (by omega), (b7.setCell (p := ⟨w.heap.size + 1, 0, none⟩) (by simp) _).setCell (p := ⟨w.heap.size + 1, 1, none⟩) (by simp) _⟩)
end Go.Proofs.YtaninlnobmjbmaaGreat
