/- The model's AskLock, TryLock, FreeFor. -/
import Derived.Test.YtnnjhikfbpcmfaaGreatLs5
namespace Go.Proofs.YtnnjhikfbpcmfaaGreat
open Go.RowKit

theorem OwnL.lat {w : World} {lo c c' : Nat} {A A' : Option Addr} {p : HL × HL} (h : OwnL w lo (.slice A p.1.length c) (.slice A' p.2.length c') p) : LAt w w.heap.size A A' p := by
  obtain ⟨B, d, B', d', e1, e2, hl⟩ := h.lock
  injection e1 with e1 _ _
  injection e2 with e2 _ _
  subst e1 e2
  exact hl.at_
theorem holdsL_nn (hs ws : HL) (t : Int) : 0 ≤ holdsL hs ws t ∧ holdsL hs ws t ≤ 3 := by
  unfold holdsL holdsAt
  split
  · split
    · split <;> omega
    · split <;> omega
  · omega
theorem askBad_lock {hs ws : HL} {t : Int} (h : lockOk hs ws = false) : askBad hs ws t = true := by simp [askBad, h]
theorem askBad_tid {hs ws : HL} {t : Int} (h : tidB t = false) : askBad hs ws t = true := by simp [askBad, h]
theorem askBad_held {hs ws : HL} {t : Int} (h : ¬ holdsL hs ws t = 0) : askBad hs ws t = true := by simp [askBad, h]
theorem askBad_no {hs ws : HL} {t : Int} (h1 : lockOk hs ws = true) (h2 : tidB t = true) (h3 : holdsL hs ws t = 0) : askBad hs ws t = false := by simp [askBad, h1, h2, h3]
theorem ask_len {hs ws : HL} {t : Int} (h : askBad hs ws t = false) : hs.length + ws.length ≤ 8 := by
  cases h1 : lockOk hs ws with
  | true => exact ((lockOk_iff _ _).1 h1).1.len
  | false => rw [askBad_lock h1] at h; cases h
/-- who has asked holds or waits -/
theorem ask_code {hs ws : HL} {t : Int} (wr : Bool) (h : askBad hs ws t = false) : holdsL (askG hs ws t wr).1 (askG hs ws t wr).2 t = 3 ↔ (ids (askG hs ws t wr).1).contains t = false := by
  have hp := pre_ask wr h
  have hok : lockOk (askG hs ws t wr).1 (askG hs ws t wr).2 = true := grant_ok hp
  have hperm : List.Perm ((askG hs ws t wr).1 ++ (askG hs ws t wr).2) (hs ++ (ws ++ [(t, wr)])) := grant_perm (ws ++ [(t, wr)]) hs
  have hm : t ∈ ids ((askG hs ws t wr).1 ++ (askG hs ws t wr).2) := by
    have : t ∈ ids (hs ++ (ws ++ [(t, wr)])) := by simp [ids]
    exact ((hperm.map (fun x : Int × Bool => x.1)).mem_iff).2 this
  rw [holdsL, if_pos hok]
  unfold holdsAt
  rw [ids_append, List.mem_append] at hm
  show _ ↔ _
  cases hf : (askG hs ws t wr).1.find? (·.1 == t) with
  | some x =>
    have h1 := List.find?_some hf
    have h2 := List.mem_of_find?_eq_some hf
    simp only [beq_iff_eq] at h1
    have h4 : x.1 ∈ ids (askG hs ws t wr).1 := List.mem_map_of_mem (f := (·.1)) h2
    have h3 : t ∈ ids (askG hs ws t wr).1 := (congrArg (· ∈ ids (askG hs ws t wr).1) h1).mp h4
    simp only [List.contains_eq_mem, h3, decide_true, Bool.true_eq_false, iff_false]
    split <;> omega
  | none =>
    have h3 : ¬ t ∈ ids (askG hs ws t wr).1 := fun hm => by
      obtain ⟨x, hx, e⟩ := List.mem_map.1 hm
      have := List.find?_eq_none.1 hf x hx
      simp [e] at this
    have h4 : t ∈ ids (askG hs ws t wr).2 := hm.resolve_left h3
    simp [h3, h4]
theorem askC_bad {hs ws : HL} {t : Int} {wr : Bool} (h : askBad hs ws t = true) : askC hs ws t wr = 2 ∧ askL hs ws t wr = (hs, ws) := by simp [askC, askL, h]
theorem askC_waits {hs ws : HL} {t : Int} {wr : Bool} (h : askBad hs ws t = false) (h3 : holdsL (askG hs ws t wr).1 (askG hs ws t wr).2 t = 3) : askC hs ws t wr = 1 ∧ askL hs ws t wr = askG hs ws t wr := by
  have := (ask_code wr h).1 h3
  simp only [askC, askL, h, this, Bool.false_eq_true, if_false, and_self]
theorem askC_held {hs ws : HL} {t : Int} {wr : Bool} (h : askBad hs ws t = false) (h3 : ¬ holdsL (askG hs ws t wr).1 (askG hs ws t wr).2 t = 3) : askC hs ws t wr = 0 ∧ askL hs ws t wr = askG hs ws t wr := by
  have : (ids (askG hs ws t wr).1).contains t = true := by
    cases hc : (ids (askG hs ws t wr).1).contains t with
    | true => rfl
    | false => exact absurd ((ask_code wr h).2 hc) h3
  simp only [askC, askL, h, this, Bool.false_eq_true, if_false, if_true, and_self]

def askRet (q : Int) (v : Value) : Value := .tuple #[v, .int .i64 q]

set_option maxHeartbeats 3200000 in
set_option maxRecDepth 100000 in
theorem specAsk_any (A A' : Option Addr) (c c' B : Nat) (hs ws : HL) (t : Int) (wr : Bool) (w : World) (hn : hs.length ≤ 1048576) (hn' : ws.length ≤ 1048576) (h : LAt w B A A' (hs, ws)) :
    Calls Tryz.prog 20 #[.agg #[.slice A hs.length c, .slice A' ws.length c'], .int .i64 t, .bool wr] w (RetOwn w (askL hs ws t wr) fun v => .tuple #[v, .int .i64 (askC hs ws t wr)]) := by
  have hh : LAt w w.heap.size A A' (hs, ws) := ⟨h.1.lt, h.2.lt⟩
  obtain ⟨i0, hi, hz0, hz1, hz2⟩ := info_parts infoHold
  have Hi := Lib.hid hi
  have Hz0 := Lib.hid hz0
  have Hz1 := Lib.hid hz1
  have Hz2 := Lib.hid hz2
  clear hi hz0 hz1 hz2 h
  go_enter Tryz.func20, Tryz.ntmps20
  go_wp2_with fail
  have b := (((Below.refl w.heap.size w).alloc (Nat.le_refl _) (.cells #[.slice A hs.length c, .slice A' ws.length c'] 44)).alloc (by simp) (.cells #[.slice none 0 0, .slice none 0 0] 44))
  have X := ((Box.new (w := w) (c := #[.slice A hs.length c, .slice A' ws.length c']) (t := 44) rfl).alloc (.cells #[.slice none 0 0, .slice none 0 0] 44))
  have R := (Box.new (w := w.alloc (.cells #[.slice A hs.length c, .slice A' ws.length c'] 44)) (b := w.heap.size + 1) (c := #[.slice none 0 0, .slice none 0 0]) (t := 44) (by simp))
  refine (specLockOk_any _ _ _ _ _ hs ws _ hn hn' (hh.below b b.size)).mono ?_; rintro e w1 ⟨rfl, hb1⟩
  have X := X.next hb1
  have R := R.next hb1
  have b := b.trans (hb1.mono b.size)
  clear hb1
  cases hl : lockOk hs ws with
  | false =>
    have HB := Lib.hid (askC_bad (wr := wr) (askBad_lock (t := t) hl))
    clear hl
    obtain ⟨x0, x1, xf⟩ := X.c2
    clear xf
    go_wp2_with fail
    refine (specCopy_any _ _ _ _ _ hs ws _ hn hn' (hh.below b b.size)).mono ?_; rintro e w9 ⟨v1, v2, rfl, ho, hb9⟩
    obtain ⟨A3, c3, A4, c4, rfl, rfl, _⟩ := ho.lock
    have hlo := R.lt
    have R := R.next hb9
    have b9 := b.trans (hb9.mono b.size)
    obtain ⟨r0, r1, rf⟩ := R.c2
    have hltR : w.heap.size + 1 < w9.heap.size := R.lt
    have hOB := Lib.hid (ho.far (a := ⟨w.heap.size + 1, 0, none⟩) (.slice A3 hs.length c3) (by simp; omega))
    have hOB := Lib.hid (hOB.out.far (a := ⟨w.heap.size + 1, 1, none⟩) (.slice A4 ws.length c4) (by simp; omega))
    clear x0 x1 hb9 X R
    go_wp2
    exact bodyPost_ret (v := .tuple #[.agg #[.slice A3 hs.length c3, .slice A4 ws.length c4], .int .i64 2]) (by simp [results, Tryz.results20, go_sem, r0, r1]) rfl ⟨_, _, by rw [HB.out.1], by rw [HB.out.2]; exact hOB.out.less b.size, (b9.setCell (p := ⟨w.heap.size + 1, 0, none⟩) (by simp) _).setCell (p := ⟨w.heap.size + 1, 1, none⟩) (by simp) _⟩
  | true =>
    go_wp2_with fail
    refine (specTid_any _ _).mono ?_; rintro e w' ⟨rfl, rfl⟩
    cases ht : tidB t with
    | false =>
      have HB := Lib.hid (askC_bad (wr := wr) (askBad_tid (hs := hs) (ws := ws) ht))
      clear hl ht
      obtain ⟨x0, x1, xf⟩ := X.c2
      clear xf
      go_wp2_with fail
      refine (specCopy_any _ _ _ _ _ hs ws _ hn hn' (hh.below b b.size)).mono ?_; rintro e w9 ⟨v1, v2, rfl, ho, hb9⟩
      obtain ⟨A3, c3, A4, c4, rfl, rfl, _⟩ := ho.lock
      have hlo := R.lt
      have R := R.next hb9
      have b9 := b.trans (hb9.mono b.size)
      obtain ⟨r0, r1, rf⟩ := R.c2
      have hltR : w.heap.size + 1 < w9.heap.size := R.lt
      have hOB := Lib.hid (ho.far (a := ⟨w.heap.size + 1, 0, none⟩) (.slice A3 hs.length c3) (by simp; omega))
      have hOB := Lib.hid (hOB.out.far (a := ⟨w.heap.size + 1, 1, none⟩) (.slice A4 ws.length c4) (by simp; omega))
      clear x0 x1 hb9 X R
      go_wp2
      exact bodyPost_ret (v := .tuple #[.agg #[.slice A3 hs.length c3, .slice A4 ws.length c4], .int .i64 2]) (by simp [results, Tryz.results20, go_sem, r0, r1]) rfl ⟨_, _, by rw [HB.out.1], by rw [HB.out.2]; exact hOB.out.less b.size, (b9.setCell (p := ⟨w.heap.size + 1, 0, none⟩) (by simp) _).setCell (p := ⟨w.heap.size + 1, 1, none⟩) (by simp) _⟩
    | true =>
      obtain ⟨x0, x1, xf⟩ := X.c2
      clear xf
      go_wp2_with fail
      refine (specHolds_any _ _ _ _ _ hs ws t _ hn hn' (hh.below b b.size)).mono ?_; rintro e w2 ⟨rfl, hb2⟩
      have X := X.next hb2
      have R := R.next hb2
      have b := b.trans (hb2.mono b.size)
      clear hb2 x0 x1
      obtain ⟨x0, x1, xf⟩ := X.c2
      clear xf
      have hnn := (holdsL_nn hs ws t).1
      by_cases h0 : holdsL hs ws t = 0
      · have HG := Lib.hid (askBad_no hl ht h0)
        rw [h0]
        clear hl ht h0 hnn
        go_wp2_with fail
        refine (specCopy_any _ _ _ _ _ hs ws _ hn hn' (hh.below b b.size)).mono ?_; rintro e w3 ⟨v1, v2, rfl, ho, hb3⟩
        obtain ⟨A3, c3, A4, c4, rfl, rfl, _⟩ := ho.lock
        have hlo := R.lt
        have R := R.next hb3
        have b3 := b.trans (hb3.mono b.size)
        have s3 := hb3.size
        have hb0 := b.size
        have HL8 := ask_len HG.out
        clear x0 x1 hb3 X
        go_wp2_with (at_builtin; refine wpList_append_lies _ rfl _ _ 42 rfl w2.heap.size 81 i0 (.agg #[.int .i64 0, .bool false]) 2 16 Tryz.underlying42 Hi.out Hz0.out Hz1.out Hz2.out rfl (by decide) _ _ _ rfl ((World.ownsRow.alloc ho.2.1 _).alloc _) ⟨w3.heap.size + 1, 0, none⟩ 1 1 [.int .i64 t, .bool wr] rfl rfl ?g1 ?g2 (by decide) ?g3 ?g4 ?g5 (w3.heap.size + 1 + 1) ?g6 ?_)
        try
          case g1 =>
            intro j u hj
            match j, hj with
            | 0, hj => simp at hj; subst hj; simp [Addr.add]
            | 1, hj => simp at hj; subst hj; simp [Addr.add]
        case g2 =>
          first
          | exact ⟨rfl, rfl⟩
          | (intro u hu; simp at hu; rcases hu with rfl | rfl <;> rfl)
        case g3 => unfold maxLen; omega
        case g4 => omega
        case g5 => first | omega | (simp; omega)
        try
          case g6 => first | rfl | simp
        intro g cap w5 hown' hgrow hat hlt5
        have row3 : ∀ q, (Value.slice A4 ws.length c4).ownBlock = some q → q < w3.heap.size := fun q hq => (ho.2.1.lt q hq).2
        have T5 := ((BoxT.new (w := w3) (c := #[.slice A3 hs.length c3, .slice A4 ws.length c4]) rfl).alloc (.cells #[.int .i64 t, .bool wr] 81)).grown hgrow (fun q hq => by have := row3 q hq; omega)
        have O5 := ((Box.new (w := w3) (c := #[.slice A3 hs.length c3, .slice A4 ws.length c4]) (t := 44) rfl).alloc (.cells #[.int .i64 t, .bool wr] 81)).grown hgrow (fun q hq => by have := row3 q hq; omega)
        have R := ((R.alloc (.cells #[.slice A3 hs.length c3, .slice A4 ws.length c4] 44)).alloc (.cells #[.int .i64 t, .bool wr] 81)).grown hgrow (fun q hq => by have := (ho.2.1.lt q hq).1; omega)
        have o1 : OwnH w5 w2.heap.size (.slice A3 hs.length c3) hs := ((World.ownsRow.alloc ho.1 _).alloc _).kept hgrow (by
          cases hv : (Value.slice A3 hs.length c3).ownBlock with
          | none => exact .inl rfl
          | some k => exact .inr (fun e => ho.2.2 k hv e.symm))
        have o2 : OwnH w5 w2.heap.size (.slice (some ⟨g, 0, none⟩) (ws.length + 1) cap) (ws ++ [(t, wr)]) := OwnH.grown (x := (t, wr)) ho.2.1 hown'
        have ap : ∀ k, (Value.slice A3 hs.length c3).ownBlock = some k → ¬ (Value.slice (some ⟨g, 0, none⟩) (ws.length + 1) cap).ownBlock = some k := fun k hk e => by
          have hgk : g = k := by simpa [Value.ownBlock] using e
          rcases hat with h1 | h1
          · exact ho.2.2 k hk (by rw [h1, hgk])
          · have := (ho.1.lt k hk).2; omega
        have b5 := ((b3.alloc (by omega) (.cells #[.slice A3 hs.length c3, .slice A4 ws.length c4] 44)).alloc (by simp; omega) (.cells #[.int .i64 t, .bool wr] 81)).grown hgrow (by simp; omega) (fun q hq => by have := (ho.2.1.lt q hq).1; omega)
        have s5 : w3.heap.size < w5.heap.size := T5.lt
        have s5' : w3.heap.size + 1 < w5.heap.size := by have := hgrow.size; simp at this; omega
        obtain ⟨y0, y1, yf⟩ := O5.c2
        clear hown' hgrow hat hlt5 b3 ho row3 b
        go_wp2_with fail
        have T6 := T5.set 1 (.slice (some ⟨g, 0, none⟩) (ws.length + 1) cap)
        have O6 := O5.set (j := 1) (.slice (some ⟨g, 0, none⟩) (ws.length + 1) cap) (by simp)
        have R := R.far (a := ⟨w3.heap.size, 1, none⟩) (.slice (some ⟨g, 0, none⟩) (ws.length + 1) cap) (by simp; omega)
        have o1 := o1.ne (a := ⟨w3.heap.size, 1, none⟩) (.slice (some ⟨g, 0, none⟩) (ws.length + 1) cap) (T5.ne o1)
        have o2 := o2.ne (a := ⟨w3.heap.size, 1, none⟩) (.slice (some ⟨g, 0, none⟩) (ws.length + 1) cap) (T5.ne o2)
        have b6 := b5.setCell (p := ⟨w3.heap.size, 1, none⟩) (by simp; omega) (.slice (some ⟨g, 0, none⟩) (ws.length + 1) cap)
        have s6 : w5.heap.size = (w5.setCell ⟨w3.heap.size, 1, none⟩ (.slice (some ⟨g, 0, none⟩) (ws.length + 1) cap)).heap.size := by simp [World.setCell]
        have s6' : w3.heap.size < (w5.setCell ⟨w3.heap.size, 1, none⟩ (.slice (some ⟨g, 0, none⟩) (ws.length + 1) cap)).heap.size := by rw [← s6]; exact s5
        clear y0 y1 yf b5 T5 O5 s6 s5 s5'
        generalize w5.setCell ⟨w3.heap.size, 1, none⟩ (.slice (some ⟨g, 0, none⟩) (ws.length + 1) cap) = w6 at T6 O6 R o1 o2 b6 s6' ⊢
        refine (specGrant_any _ _ w2.heap.size hs (ws ++ [(t, wr)]) _ (by simp; omega) (by omega) ⟨o1, o2, ap⟩).mono ?_; rintro e w7 ⟨u1, u2, rfl, hG, hb7⟩
        have hG : OwnL w7 w2.heap.size u1 u2 (askG hs ws t wr) := hG
        have H1 := Lib.hid (fun h3 => askC_waits (wr := wr) HG.out h3)
        have H2 := Lib.hid (fun h3 => askC_held (wr := wr) HG.out h3)
        have PL : (askG hs ws t wr).1.length + (askG hs ws t wr).2.length ≤ 9 := by
          have := (grant_perm (ws ++ [(t, wr)]) hs).length_eq
          simp only [List.length_append, List.length_cons, List.length_nil] at this
          unfold askG
          omega
        generalize askG hs ws t wr = p at hG H1 H2 PL
        obtain ⟨A5, c5, A6, c6, rfl, rfl, _⟩ := hG.lock
        have T7 := T6.next hb7
        have O7 := O6.next hb7
        have R := R.next hb7
        have b7 := b6.trans (hb7.mono b6.size)
        have s7 := hb7.size
        obtain ⟨y0, y1, yf⟩ := O7.c2
        clear T6 O6 b6 hb7 o1 o2 ap
        go_wp2_with fail
        have O8 := (O7.set (j := 0) (.slice A5 p.1.length c5) (by simp)).set (j := 1) (.slice A6 p.2.length c6) (by simp)
        have R := (R.far (a := ⟨w3.heap.size, 0, none⟩) (.slice A5 p.1.length c5) (by simp; omega)).far (a := ⟨w3.heap.size, 1, none⟩) (.slice A6 p.2.length c6) (by simp; omega)
        have g1 := hG.1.ne (a := ⟨w3.heap.size, 0, none⟩) (.slice A5 p.1.length c5) (T7.ne hG.1)
        have g2 := hG.2.1.ne (a := ⟨w3.heap.size, 0, none⟩) (.slice A5 p.1.length c5) (T7.ne hG.2.1)
        have T8 := T7.set 0 (.slice A5 p.1.length c5)
        have hG8 : OwnL ((w7.setCell ⟨w3.heap.size, 0, none⟩ (.slice A5 p.1.length c5)).setCell ⟨w3.heap.size, 1, none⟩ (.slice A6 p.2.length c6)) w2.heap.size (.slice A5 p.1.length c5) (.slice A6 p.2.length c6) p := ⟨g1.ne _ (T8.ne g1), g2.ne _ (T8.ne g2), hG.2.2⟩
        have b8 := (b7.setCell (p := ⟨w3.heap.size, 0, none⟩) (by simp; omega) (.slice A5 p.1.length c5)).setCell (p := ⟨w3.heap.size, 1, none⟩) (by simp; omega) (.slice A6 p.2.length c6)
        clear y0 y1 yf T7 T8 g1 g2 hG O7 b7
        generalize (w7.setCell ⟨w3.heap.size, 0, none⟩ (.slice A5 p.1.length c5)).setCell ⟨w3.heap.size, 1, none⟩ (.slice A6 p.2.length c6) = w8 at O8 R hG8 b8 ⊢
        refine (specHolds_any _ _ _ _ _ p.1 p.2 t _ (by omega) (by omega) hG8.lat).mono ?_; rintro e w9 ⟨rfl, hb9⟩
        have O9 := O8.next hb9
        have R := R.next hb9
        have hG9 := hG8.next hb9
        have b9 := b8.trans (hb9.mono b8.size)
        have hltR := R.lt
        obtain ⟨y0, y1, yf⟩ := O9.c2
        obtain ⟨r0, r1, rf⟩ := R.c2
        have hOB := Lib.hid ((hG9.far (a := ⟨w.heap.size + 1, 0, none⟩) (.slice A5 p.1.length c5) (by simp; omega)).far (a := ⟨w.heap.size + 1, 1, none⟩) (.slice A6 p.2.length c6) (by simp; omega))
        clear yf hb9 b8 hG8 hG9 O8 O9 R
        by_cases h3 : holdsL p.1 p.2 t = 3
        · have HQ := Lib.hid (H1.out h3)
          rw [h3]
          clear h3 H1 H2
          go_wp2
          exact bodyPost_ret (v := .tuple #[.agg #[.slice A5 p.1.length c5, .slice A6 p.2.length c6], .int .i64 1]) (by simp [results, Tryz.results20, go_sem, r0, r1]) rfl ⟨_, _, by rw [HQ.out.1], by rw [HQ.out.2]; exact hOB.out.less hb0, (b9.setCell (p := ⟨w.heap.size + 1, 0, none⟩) (by simp) _).setCell (p := ⟨w.heap.size + 1, 1, none⟩) (by simp) _⟩
        · have HQ := Lib.hid (H2.out h3)
          have h3' : (holdsL p.1 p.2 t == 3) = false := by simpa using h3
          clear H1 H2
          generalize holdsL p.1 p.2 t = q at h3 h3' ⊢
          go_wp2
          exact bodyPost_ret (v := .tuple #[.agg #[.slice A5 p.1.length c5, .slice A6 p.2.length c6], .int .i64 0]) (by simp [results, Tryz.results20, go_sem, r0, r1]) rfl ⟨_, _, by rw [HQ.out.1], by rw [HQ.out.2]; exact hOB.out.less hb0, (b9.setCell (p := ⟨w.heap.size + 1, 0, none⟩) (by simp) _).setCell (p := ⟨w.heap.size + 1, 1, none⟩) (by simp) _⟩
      · have HB := Lib.hid (askC_bad (wr := wr) (askBad_held h0))
        have hpos : 0 < holdsL hs ws t := by omega
        generalize holdsL hs ws t = q at hpos ⊢
        clear hl ht h0 hnn
        go_wp2_with fail
        refine (specCopy_any _ _ _ _ _ hs ws _ hn hn' (hh.below b b.size)).mono ?_; rintro e w9 ⟨v1, v2, rfl, ho, hb9⟩
        obtain ⟨A3, c3, A4, c4, rfl, rfl, _⟩ := ho.lock
        have hlo := R.lt
        have R := R.next hb9
        have b9 := b.trans (hb9.mono b.size)
        obtain ⟨r0, r1, rf⟩ := R.c2
        have hltR : w.heap.size + 1 < w9.heap.size := R.lt
        have hOB := Lib.hid (ho.far (a := ⟨w.heap.size + 1, 0, none⟩) (.slice A3 hs.length c3) (by simp; omega))
        have hOB := Lib.hid (hOB.out.far (a := ⟨w.heap.size + 1, 1, none⟩) (.slice A4 ws.length c4) (by simp; omega))
        clear x0 x1 hb9 X R
        go_wp2
        exact bodyPost_ret (v := .tuple #[.agg #[.slice A3 hs.length c3, .slice A4 ws.length c4], .int .i64 2]) (by simp [results, Tryz.results20, go_sem, r0, r1]) rfl ⟨_, _, by rw [HB.out.1], by rw [HB.out.2]; exact hOB.out.less b.size, (b9.setCell (p := ⟨w.heap.size + 1, 0, none⟩) (by simp) _).setCell (p := ⟨w.heap.size + 1, 1, none⟩) (by simp) _⟩
end Go.Proofs.YtnnjhikfbpcmfaaGreat

