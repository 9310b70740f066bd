/- The model's grant: l03Grant. -/
import Derived.Test.YtaninlnobmjbmaaGreatLs4
namespace Go.Proofs.YtaninlnobmjbmaaGreat
open Go.RowKit

def stepIns (h : Int × Bool) (acc : HL × Bool) (x : Int × Bool) : HL × Bool := if !acc.2 && decide (h.1 < x.1) then (acc.1 ++ [h, x], true) else (acc.1 ++ [x], acc.2)
/-- what the model's loop has laid after k holders -/
def insTo (h : Int × Bool) (hs : HL) (k : Nat) : HL × Bool := (hs.take k).foldl (stepIns h) ([], false)
theorem insTo_succ {h : Int × Bool} {hs : HL} {k : Nat} (hk : k < hs.length) : insTo h hs (k + 1) = stepIns h (insTo h hs k) (hT hs k, hW hs k) := by
  unfold insTo
  rw [List.take_succ_eq_append_getElem hk, List.foldl_append, ← hT_get hk]; rfl
theorem foldIns_true (h : Int × Bool) (l : HL) : ∀ a : HL, l.foldl (stepIns h) (a, true) = (a ++ l, true) := by
  induction l with
  | nil => intro a; simp
  | cons x l ih => intro a; simp only [List.foldl_cons, stepIns, Bool.not_true, Bool.false_and, Bool.false_eq_true, if_false]; rw [ih]; simp
theorem foldIns_false (h : Int × Bool) (l : HL) : ∀ a : HL, (let r := l.foldl (stepIns h) (a, false); if r.2 then r.1 else r.1 ++ [h]) = a ++ ins h l := by
  induction l with
  | nil => intro a; simp [ins]
  | cons x l ih =>
    intro a
    by_cases hlt : h.1 < x.1
    · simp only [List.foldl_cons, stepIns, Bool.not_false, Bool.true_and, decide_eq_true hlt, if_true, ins, if_pos hlt]
      rw [foldIns_true]; simp
    · simp only [List.foldl_cons, stepIns, Bool.not_false, Bool.true_and, decide_eq_false hlt, Bool.false_eq_true, if_false, ins, if_neg hlt]
      have := ih (a ++ [x])
      simp only at this
      rw [this]; simp
theorem insTo_true {h : Int × Bool} {hs : HL} (e : (insTo h hs hs.length).2 = true) : ins h hs = (insTo h hs hs.length).1 := by
  have := foldIns_false h hs []
  unfold insTo at e ⊢
  rw [List.take_length] at e ⊢
  simp only [e, if_true, List.nil_append] at this
  exact this.symm
theorem insTo_false {h : Int × Bool} {hs : HL} (e : (insTo h hs hs.length).2 = false) : ins h hs = (insTo h hs hs.length).1 ++ [h] := by
  have := foldIns_false h hs []
  unfold insTo at e ⊢
  rw [List.take_length] at e ⊢
  simp only [e, Bool.false_eq_true, if_false, List.nil_append] at this
  exact this.symm
theorem insTo_len (h : Int × Bool) (hs : HL) : ∀ k, k ≤ hs.length → (insTo h hs k).1.length ≤ k + 1 ∧ ((insTo h hs k).2 = false → (insTo h hs k).1.length ≤ k) := by
  intro k
  induction k with
  | zero => intro _; simp [insTo]
  | succ k ih =>
    intro hk
    have h1 := ih (by omega)
    rw [insTo_succ (by omega)]
    unfold stepIns
    split
    · rename_i hc
      simp only [Bool.and_eq_true, Bool.not_eq_true'] at hc
      have := h1.2 hc.1
      simp; omega
    · simp; exact ⟨h1.1, fun e => h1.2 e⟩

/-- a lock that is granted on to the same end -/
def SameG (hs ws : HL) (p : HL × HL) : Prop := grantS p.1 p.2 = grantS hs ws ∧ p.1.length + p.2.length = hs.length + ws.length
theorem SameG.next {hs ws a : HL} {y : Int × Bool} {r : HL} (h : SameG hs ws (a, y :: r)) (hg : grantsS a (y :: r) = true) : SameG hs ws (ins y a, r) := by
  refine ⟨?_, ?_⟩
  · rw [← h.1]; simp only; rw [grantS, if_pos hg]
  · have := h.2; have := (ins_perm y a).length_eq; simp at *; omega
theorem SameG.done {hs ws : HL} {p : HL × HL} (h : SameG hs ws p) (hg : grantsS p.1 p.2 = false) : p = grantS hs ws := by
  rw [← h.1]
  obtain ⟨a, b⟩ := p
  cases b with
  | nil => rfl
  | cons y r => simp only at hg ⊢; rw [grantS, if_neg (by rw [hg]; simp)]
theorem grants_cons {a b : HL} (h : grantsS a b = true) : ∃ y r, b = y :: r := by
  cases b with
  | nil => cases h
  | cons y r => exact ⟨y, r, rfl⟩

theorem OwnH.ne {w : World} {lo : Nat} {v : Value} {l : HL} {a : Addr} (h : OwnH w lo v l) (u : Value) (hd : ∀ k, v.ownBlock = some k → ¬ a.block = k) : OwnH (w.setCell a u) lo v l := by
  refine ⟨h.1, ?_⟩
  rcases h.2 with h' | ⟨g, cap, cur, rfl, h2, h3, h4⟩
  · exact .inl h'
  · refine .inr ⟨g, cap, cur, rfl, h2, ?_, h4⟩
    rw [Below.heap_setCell _ _ _ _ (fun e => hd g rfl e.symm)]
    exact h3
/-- a row of holds, one more behind it -/
theorem OwnH.grown {w w' : World} {lo : Nat} {v v' : Value} {l : HL} {x : Int × Bool} (_ : OwnH w lo v l) (h : w'.ownsRow lo 162 2 v' (l.length + 1) (hcs l ++ [.int .i64 x.1, .bool x.2])) : OwnH w' lo v' (l ++ [x]) := by
  unfold OwnH
  rw [hcs_append, List.length_append]
  exact h

theorem OwnH.cap {w : World} {lo c : Nat} {A : Option Addr} {l : HL} (h : OwnH w lo (.slice A l.length c) l) : l.length ≤ c ∧ c ≤ maxLen := by
  rcases h.2 with ⟨e, e0⟩ | ⟨g, cap, cur, e, h2, h3, h4, h5, _⟩
  · injection e with _ e1 e2; subst e2; omega
  · injection e with _ e1 e2; subst e2; exact ⟨h4, h5⟩
/-- the lists of a lock lie apart from the boxes b and b + 1 -/
def NeB (v1 v2 : Value) (b : Nat) : Prop := (∀ k, v1.ownBlock = some k → ¬ k = b ∧ ¬ k = b + 1) ∧ (∀ k, v2.ownBlock = some k → ¬ k = b ∧ ¬ k = b + 1)

/-- what the outer loop hands on -/
def RoundEnd (hs ws : HL) (lo b gk : Nat) (w wr : World) : Prop := ∃ (u1 u2 : Value) (p : HL × HL), p.2.length = gk ∧ SameG hs ws p ∧ OwnL wr lo u1 u2 p ∧ NeB u1 u2 b ∧ Below w.heap.size w wr ∧ Box wr b [u1, u2] ∧ Box wr (b + 1) [.slice none 0 0, .slice none 0 0]

set_option maxHeartbeats 3200000 in
set_option maxRecDepth 100000 in
theorem specGrant_any (v1 v2 : Value) (lo : Nat) (hs ws : HL) (w : World) (hn : hs.length + ws.length ≤ 1048576) (hlo : lo ≤ w.heap.size) (h : OwnL w lo v1 v2 (hs, ws)) :
    Calls Tryz.prog 94 #[.agg #[v1, v2]] w fun e w' => ∃ u1 u2, e = .returned (.agg #[u1, u2]) ∧ OwnL w' lo u1 u2 (grantS hs ws) ∧ Below w.heap.size w w' := by
  obtain ⟨i0, hi, hz0, hz1, hz2⟩ := info_parts infoHold
  have Hi := Lib.hid hi
  have Hz0 := Lib.hid hz0
  have Hz1 := Lib.hid hz1
  have Hz2 := Lib.hid hz2
  clear hi hz0 hz1 hz2
  obtain ⟨A, c, A', c', rfl, rfl, hl0⟩ := h.lock
  have hne0 : NeB (.slice A hs.length c) (.slice A' ws.length c') w.heap.size := ⟨fun k hk => by have := (h.1.lt k hk).2; omega, fun k hk => by have := (h.2.1.lt k hk).2; omega⟩
  go_enter Tryz.func94, Tryz.ntmps94
  go_wp2
  go_loopg [4] ws.length (fun gk _ wr => RoundEnd hs ws lo w.heap.size gk w wr)
  case atStart =>
    exact ⟨_, _, (hs, ws), rfl, ⟨rfl, rfl⟩, (h.next (((Below.refl w.heap.size w).alloc (Nat.le_refl _) _).alloc (by simp) _)), hne0, (((Below.refl w.heap.size w).alloc (Nat.le_refl _) _).alloc (by simp) _), (Box.new (w := w) rfl).alloc _, Box.new (by simp)⟩
  case round =>
    obtain ⟨u1, u2, ⟨a, r⟩, hgk, hsame, ho, hne, hb, X, Y⟩ := hrel
    obtain ⟨A1, c1, A2, c2, rfl, rfl, hl⟩ := ho.lock
    have hloR : lo ≤ wr.heap.size := by have := hb.size; omega
    obtain ⟨x0, x1, xf⟩ := X.c2
    have Hs := Lib.hid hsame
    have Hgk := Lib.hid hgk
    clear hsame hgk xf
    go_wp2_with fail
    (with_reducible refine (specGrants_any A1 A2 c1 c2 _ a r _ hl.at_).mono ?_); rintro e w1 ⟨rfl, hb1⟩
    have X := X.next hb1
    have Y := Y.next hb1
    have ho := ho.next hb1
    have b1 := hb.trans (hb1.mono hb.size)
    have s1 := hb1.size
    have hl := hl.below hb1 (Nat.le_refl _)
    clear hb hb1 x0 x1
    obtain ⟨x0, x1, xf⟩ := X.c2
    obtain ⟨y0, y1, yf⟩ := Y.c2
    have hlt := Y.lt
    have hlt0 := X.lt
    cases hg : grantsS a r with
    | false =>
      have HD := Lib.hid (Hs.out.done hg)
      have HO := Lib.hid ho
      have HN := Lib.hid hne
      clear hg ho hne hl X Y
      go_wp2
      refine bodyPost_ret (v := .agg #[.slice A1 a.length c1, .slice A2 r.length c2]) (by simp [results, Tryz.results94, go_sem, y0, y1]) rfl ⟨_, _, rfl, ?_, ?_⟩
      · rw [← HD.out]
        have h1 : ∀ k, (Value.slice A1 a.length c1).ownBlock = some k → ¬ w.heap.size + 1 = k := fun k hk e => (HN.out.1 k hk).2 e.symm
        have h2 : ∀ k, (Value.slice A2 r.length c2).ownBlock = some k → ¬ w.heap.size + 1 = k := fun k hk e => (HN.out.2 k hk).2 e.symm
        exact ⟨(HO.out.1.ne _ h1).ne _ h1, (HO.out.2.1.ne _ h2).ne _ h2, HO.out.2.2⟩
      · exact (b1.setCell (p := ⟨w.heap.size + 1, 0, none⟩) (by simp) _).setCell (p := ⟨w.heap.size + 1, 1, none⟩) (by simp) _
    | true =>
      obtain ⟨y, r, rfl⟩ := grants_cons hg
      have hcap := ho.2.1.cap
      have HS2 := Lib.hid (Hs.out.next hg)
      obtain ⟨b2, off2, rfl, _, hlt2, hc2⟩ := hl.2.1 (by simp)
      have d0 : w1.cell? ⟨b2, off2, none⟩ = some (.int .i64 y.1) := by have := (hc2 0 (by simp)).1.1; simpa [hT] using this
      have d1 : w1.cell? ⟨b2, off2 + 1, none⟩ = some (.bool y.2) := by have := (hc2 0 (by simp)).1.2; simpa [hW] using this
      have hlen : (y :: r).length = r.length + 1 := rfl
      simp only [hlen] at hcap x1 ⊢
      clear hg
      by_cases hc1 : c2 = 1
      · subst hc1
        have hat2 : ∀ W : World, HAt W W.heap.size (some ⟨b2, off2, none⟩) r := fun W hr => absurd hr (by omega)
        have hr5 : r.length ≤ 1048576 := by omega
        have hC := specHoldsCopy_any (some ⟨b2, off2, none⟩) 0 _ r (w1.alloc (.cells #[.int .i64 y.1, .bool y.2] 162)) hr5 (hat2 _)
        rw [show r.length = 0 by omega] at hC
        go_wp2_with fail
        (with_reducible refine hC.mono ?_); rintro e w2 ⟨v2, rfl, o2, hb2⟩
        clear hC
        obtain ⟨A4, c4, rfl, _⟩ := o2.own
        have hA := (Below.refl w1.heap.size w1).alloc (Nat.le_refl _) (.cells #[.int .i64 y.1, .bool y.2] 162)
        have hA2 : Below w1.heap.size w1 w2 := hA.trans (hb2.mono (by simp))
        have hlo2 : w1.heap.size < (w1.alloc (.cells #[.int .i64 y.1, .bool y.2] 162)).heap.size := by simp
        have H := (Box.new (w := w1) (c := #[.int .i64 y.1, .bool y.2]) (t := 162) rfl).next hb2
        have X := X.next hA2
        have Y := Y.next hA2
        have b2 := b1.trans (hA2.mono (by omega))
        have o1 := ho.1.next hA2
        have s2 := hA2.size
        have hn1 : ∀ k, (Value.slice A1 a.length c1).ownBlock = some k → ¬ w.heap.size = k := fun k hk e => (hne.1 k hk).1 e.symm
        obtain ⟨x0, x1, xf⟩ := X.c2
        clear y0 y1 yf hc2 hl ho hne d0 d1 hA hb2
        go_wp2_with fail
        have X := X.set (j := 1) (.slice A4 r.length c4) (by simp)
        have Y := Y.far (a := ⟨w.heap.size, 1, none⟩) (.slice A4 r.length c4) (by simp)
        have H := H.far (a := ⟨w.heap.size, 1, none⟩) (.slice A4 r.length c4) (by simp; omega)
        have o1 := o1.ne (a := ⟨w.heap.size, 1, none⟩) (.slice A4 r.length c4) hn1
        have o2 := o2.far (a := ⟨w.heap.size, 1, none⟩) (.slice A4 r.length c4) (by simp; omega)
        have b2 := b2.setCell (p := ⟨w.heap.size, 1, none⟩) (by simp) (.slice A4 r.length c4)
        have hsw : (w2.setCell ⟨w.heap.size, 1, none⟩ (.slice A4 r.length c4)).heap.size = w2.heap.size := by simp [World.setCell]
        have o2lt : ∀ k, (Value.slice A4 r.length c4).ownBlock = some k → w1.heap.size < k ∧ k < w2.heap.size := fun k hk => by have := o2.lt k hk; rw [hsw] at this; omega
        have O2lt := Lib.hid o2lt
        have HSW := Lib.hid hsw
        clear x0 x1 xf o2lt hsw hn1
        generalize w2.setCell ⟨w.heap.size, 1, none⟩ (.slice A4 r.length c4) = wq at X Y H o1 o2 b2 HSW ⊢
        have hsq : w1.heap.size < wq.heap.size := by rw [HSW.out]; have := H.lt; rw [HSW.out] at this; exact this
        have o2lt : ∀ k, (Value.slice A4 r.length c4).ownBlock = some k → w1.heap.size < k ∧ k < wq.heap.size := fun k hk => by rw [HSW.out]; exact O2lt.out k hk
        have O2lt := Lib.hid o2lt
        clear o2lt
        go_wp2
        have hat := o1.own
        obtain ⟨A5, c5, e5, hat⟩ := hat
        injection e5 with e5 _ e6
        subst e5 e6
        have hat := hat.at_
        go_loopw [4, 5, 6] (fun v q i wr => ∃ k : Nat, k ≤ a.length ∧ i = .int .i64 k ∧ q = .bool (insTo y a k).2 ∧ OwnH wr w2.heap.size v (insTo y a k).1 ∧ Below wq.heap.size wq wr) (fun _ _ i _ => a.length - (intOf i).toNat)
        case atStart => exact ⟨0, Nat.zero_le _, rfl, rfl, (by have := World.ownsRow_made (base := wq.heap.size) (size := 2) (e := 162) wq #[] 0 (Nat.le_refl _) (Nat.zero_le _) rfl; rw [HSW.out] at this; exact this), (Below.refl _ _).alloc (Nat.le_refl _) _⟩
        case round =>
          obtain ⟨k, hk, rfl, rfl, hown, hbk⟩ := hrel
          have Xk := X.next hbk
          have Hk := H.next hbk
          obtain ⟨x0, x1, xf⟩ := Xk.c2
          obtain ⟨h0, h1, hf⟩ := Hk.c2
          have hszk := hbk.size
          have hltX := Xk.lt
          have hltH := Hk.lt
          clear xf hf
          by_cases hkn : k < a.length
          · obtain ⟨b, off, rfl, hB, hc⟩ := hat (by omega)
            have hkz : (k : Int) < a.length := by omega
            have e0 : wr.cell? ⟨b, off + k * 2, none⟩ = some (.int .i64 (hT a k)) := (hbk.cell (p := ⟨b, off + k * 2, none⟩) hB).trans (hc k hkn).1
            have e1 : wr.cell? ⟨b, off + k * 2 + 1, none⟩ = some (.bool (hW a k)) := (hbk.cell (p := ⟨b, off + k * 2 + 1, none⟩) hB).trans (hc k hkn).2
            have hle := (insTo_len y a k (by omega)).1
            have hn5 : a.length ≤ 1048576 := by have := Hs.out.2; simp at this; omega
            have HN := Lib.hid (insTo_succ (h := y) hkn)
            clear hc hat
            cases hp : (insTo y a k).2 with
            | true =>
              have HR := Lib.hid (show insTo y a (k + 1) = ((insTo y a k).1 ++ [(hT a k, hW a k)], true) by rw [HN.out]; simp [stepIns, hp])
              clear hp
              go_wp2_with fail
              go_quiet (fail)
              have hq : Below wr.heap.size wr (wr.drewN nq) := below_drewN (Below.refl _ _) nq
              have e0 := (hq.cell (p := ⟨b, off + k * 2, none⟩) (by show b < wr.heap.size; omega)).trans e0
              have e1 := (hq.cell (p := ⟨b, off + k * 2 + 1, none⟩) (by show b < wr.heap.size; omega)).trans e1
              have Xk := Xk.next hq
              have Hk := Hk.next hq
              have hown := hown.next hq
              have hbk := hbk.trans (hq.mono hszk)
              clear x0 x1 h0 h1 hq
              generalize wr.drewN nq = w4 at e0 e1 Xk Hk hown hbk ⊢
              obtain ⟨x0, x1, xf⟩ := Xk.c2
              obtain ⟨h0, h1, hf⟩ := Hk.c2
              have hszk := hbk.size
              have hltX := Xk.lt
              have hltH := Hk.lt
              have HSQ := HSW.out
              clear xf hf
              go_wp2_with (at_builtin; refine wpList_append_own _ rfl _ _ 107 rfl w2.heap.size 162 i0 (.agg #[.int .i64 0, .bool false]) 2 16 Tryz.underlying107 Hi.out Hz0.out Hz1.out Hz2.out rfl (by decide) _ _ _ rfl (hown.alloc _) ⟨w4.heap.size, 0, none⟩ 1 1 [.int .i64 (hT a k), .bool (hW a k)] rfl rfl ?pw5a ?pw5b ?pw5c ?pw5d ?pw5e ?_)
              try
                case pw5a =>
                  intro j u hj
                  match j, hj with
                  | 0, hj => simp at hj; subst hj; simp [Addr.add]
                  | 1, hj => simp at hj; subst hj; simp [Addr.add]
              case pw5b =>
                first
                | exact ⟨rfl, rfl⟩
                | (intro u hu; simp at hu; rcases hu with rfl | rfl <;> rfl)
              case pw5c => unfold maxLen; omega
              case pw5d => omega
              case pw5e => first | omega | (simp; omega)
              intro vw5 w5 hown' hgrow _
              have hbw5 : Below wq.heap.size w4 w5 := ((Below.refl wq.heap.size w4).alloc (by omega) (.cells #[.int .i64 (hT a k), .bool (hW a k)] 162)).grown hgrow (by simp; omega) (fun q hq => by have := (hown.lt q hq).1; rw [HSW.out]; exact this)
              have o5 : OwnH w5 w2.heap.size vw5 ((insTo y a k).1 ++ [((hT a k), (hW a k))]) := OwnH.grown (x := ((hT a k), (hW a k))) hown hown'
              clear hown' hgrow
              have hb5 := hbk.trans (hbw5.mono (Nat.le_refl _))
              clear Xk Hk x0 x1 h0 h1 e0 e1 hown hbk hbw5 HSQ
              go_wp2
              exact ⟨⟨k + 1, by omega, by go_num, by rw [HR.out], by rw [HR.out]; exact o5, hb5⟩, by simp [intOf]; omega⟩
            | false =>
              by_cases hlt1 : y.1 < hT a k
              · have HR := Lib.hid (show insTo y a (k + 1) = (((insTo y a k).1 ++ [y]) ++ [(hT a k, hW a k)], true) by rw [HN.out]; simp [stepIns, hp, hlt1])
                have hd1 : decide (y.1 < hT a k) = true := by simpa using hlt1
                clear hp
                go_wp2_with fail
                go_quiet (fail)
                have hq : Below wr.heap.size wr (wr.drewN nq) := below_drewN (Below.refl _ _) nq
                have e0 := (hq.cell (p := ⟨b, off + k * 2, none⟩) (by show b < wr.heap.size; omega)).trans e0
                have e1 := (hq.cell (p := ⟨b, off + k * 2 + 1, none⟩) (by show b < wr.heap.size; omega)).trans e1
                have Xk := Xk.next hq
                have Hk := Hk.next hq
                have hown := hown.next hq
                have hbk := hbk.trans (hq.mono hszk)
                clear x0 x1 h0 h1 hq
                generalize wr.drewN nq = w4 at e0 e1 Xk Hk hown hbk ⊢
                obtain ⟨x0, x1, xf⟩ := Xk.c2
                obtain ⟨h0, h1, hf⟩ := Hk.c2
                have hszk := hbk.size
                have hltX := Xk.lt
                have hltH := Hk.lt
                have HSQ := HSW.out
                clear xf hf
                go_wp2_with (at_builtin; refine wpList_append_own _ rfl _ _ 107 rfl w2.heap.size 162 i0 (.agg #[.int .i64 0, .bool false]) 2 16 Tryz.underlying107 Hi.out Hz0.out Hz1.out Hz2.out rfl (by decide) _ _ _ rfl (hown.alloc _) ⟨w4.heap.size, 0, none⟩ 1 1 [.int .i64 y.1, .bool y.2] rfl rfl ?pw5a ?pw5b ?pw5c ?pw5d ?pw5e ?_)
                try
                  case pw5a =>
                    intro j u hj
                    match j, hj with
                    | 0, hj => simp at hj; subst hj; simp [Addr.add]
                    | 1, hj => simp at hj; subst hj; simp [Addr.add]
                case pw5b =>
                  first
                  | exact ⟨rfl, rfl⟩
                  | (intro u hu; simp at hu; rcases hu with rfl | rfl <;> rfl)
                case pw5c => unfold maxLen; omega
                case pw5d => omega
                case pw5e => first | omega | (simp; omega)
                intro vw5 w5 hown' hgrow _
                have hbw5 : Below wq.heap.size w4 w5 := ((Below.refl wq.heap.size w4).alloc (by omega) (.cells #[.int .i64 y.1, .bool y.2] 162)).grown hgrow (by simp; omega) (fun q hq => by have := (hown.lt q hq).1; rw [HSW.out]; exact this)
                have o5 : OwnH w5 w2.heap.size vw5 ((insTo y a k).1 ++ [(y.1, y.2)]) := OwnH.grown (x := (y.1, y.2)) hown hown'
                clear hown' hgrow
                have e0 : w5.cell? ⟨b, off + k * 2, none⟩ = some (.int .i64 (hT a k)) := (hbw5.cell (p := ⟨b, off + k * 2, none⟩) hB).trans e0
                have e1 : w5.cell? ⟨b, off + k * 2 + 1, none⟩ = some (.bool (hW a k)) := (hbw5.cell (p := ⟨b, off + k * 2 + 1, none⟩) hB).trans e1
                have Xk := Xk.below hbw5 (by omega)
                have Hk := Hk.below hbw5 (by omega)
                have hb5 := hbk.trans (hbw5.mono (Nat.le_refl _))
                have hsz5 := hb5.size
                have hl5 : ((insTo y a k).1 ++ [(y.1, y.2)]).length ≤ k + 2 := by simp; omega
                clear x0 x1 h0 h1 hown hbk hbw5
                obtain ⟨x0, x1, xf⟩ := Xk.c2
                obtain ⟨h0, h1, hf⟩ := Hk.c2
                have hltX := Xk.lt
                have hltH := Hk.lt
                clear xf hf
                generalize hLL : (insTo y a k).1 ++ [(y.1, y.2)] = LL at o5 hl5
                have HLL := Lib.hid hLL
                clear hLL
                go_wp2_with (at_builtin; refine wpList_append_own _ rfl _ _ 107 rfl w2.heap.size 162 i0 (.agg #[.int .i64 0, .bool false]) 2 16 Tryz.underlying107 Hi.out Hz0.out Hz1.out Hz2.out rfl (by decide) _ _ _ rfl (o5.alloc _) ⟨w5.heap.size, 0, none⟩ 1 1 [.int .i64 (hT a k), .bool (hW a k)] rfl rfl ?pw6a ?pw6b ?pw6c ?pw6d ?pw6e ?_)
                try
                  case pw6a =>
                    intro j u hj
                    match j, hj with
                    | 0, hj => simp at hj; subst hj; simp [Addr.add]
                    | 1, hj => simp at hj; subst hj; simp [Addr.add]
                case pw6b =>
                  first
                  | exact ⟨rfl, rfl⟩
                  | (intro u hu; simp at hu; rcases hu with rfl | rfl <;> rfl)
                case pw6c => unfold maxLen; omega
                case pw6d => omega
                case pw6e => first | omega | (simp; omega)
                intro vw6 w6 hown' hgrow _
                have hbw6 : Below wq.heap.size w5 w6 := ((Below.refl wq.heap.size w5).alloc (by omega) (.cells #[.int .i64 (hT a k), .bool (hW a k)] 162)).grown hgrow (by simp; omega) (fun q hq => by have := (o5.lt q hq).1; rw [HSW.out]; exact this)
                have o6 : OwnH w6 w2.heap.size vw6 (LL ++ [((hT a k), (hW a k))]) := OwnH.grown (x := ((hT a k), (hW a k))) o5 hown'
                clear hown' hgrow
                have hb6 := hb5.trans (hbw6.mono (Nat.le_refl _))
                clear Xk Hk x0 x1 h0 h1 e0 e1 o5 hb5 hbw6 HSQ
                go_wp2
                exact ⟨⟨k + 1, by omega, by go_num, by rw [HR.out], by rw [HR.out]; have := HLL.out; simp only at this ⊢; rw [this]; exact o6, hb6⟩, by simp [intOf]; omega⟩
              · have HR := Lib.hid (show insTo y a (k + 1) = ((insTo y a k).1 ++ [(hT a k, hW a k)], false) by rw [HN.out]; simp [stepIns, hp, hlt1])
                have hd1 : decide (y.1 < hT a k) = false := by simpa using hlt1
                clear hp
                go_wp2_with fail
                go_quiet (fail)
                have hq : Below wr.heap.size wr (wr.drewN nq) := below_drewN (Below.refl _ _) nq
                have e0 := (hq.cell (p := ⟨b, off + k * 2, none⟩) (by show b < wr.heap.size; omega)).trans e0
                have e1 := (hq.cell (p := ⟨b, off + k * 2 + 1, none⟩) (by show b < wr.heap.size; omega)).trans e1
                have Xk := Xk.next hq
                have Hk := Hk.next hq
                have hown := hown.next hq
                have hbk := hbk.trans (hq.mono hszk)
                clear x0 x1 h0 h1 hq
                generalize wr.drewN nq = w4 at e0 e1 Xk Hk hown hbk ⊢
                obtain ⟨x0, x1, xf⟩ := Xk.c2
                obtain ⟨h0, h1, hf⟩ := Hk.c2
                have hszk := hbk.size
                have hltX := Xk.lt
                have hltH := Hk.lt
                have HSQ := HSW.out
                clear xf hf
                go_wp2_with (at_builtin; refine wpList_append_own _ rfl _ _ 107 rfl w2.heap.size 162 i0 (.agg #[.int .i64 0, .bool false]) 2 16 Tryz.underlying107 Hi.out Hz0.out Hz1.out Hz2.out rfl (by decide) _ _ _ rfl (hown.alloc _) ⟨w4.heap.size, 0, none⟩ 1 1 [.int .i64 (hT a k), .bool (hW a k)] rfl rfl ?pw5a ?pw5b ?pw5c ?pw5d ?pw5e ?_)
                try
                  case pw5a =>
                    intro j u hj
                    match j, hj with
                    | 0, hj => simp at hj; subst hj; simp [Addr.add]
                    | 1, hj => simp at hj; subst hj; simp [Addr.add]
                case pw5b =>
                  first
                  | exact ⟨rfl, rfl⟩
                  | (intro u hu; simp at hu; rcases hu with rfl | rfl <;> rfl)
                case pw5c => unfold maxLen; omega
                case pw5d => omega
                case pw5e => first | omega | (simp; omega)
                intro vw5 w5 hown' hgrow _
                have hbw5 : Below wq.heap.size w4 w5 := ((Below.refl wq.heap.size w4).alloc (by omega) (.cells #[.int .i64 (hT a k), .bool (hW a k)] 162)).grown hgrow (by simp; omega) (fun q hq => by have := (hown.lt q hq).1; rw [HSW.out]; exact this)
                have o5 : OwnH w5 w2.heap.size vw5 ((insTo y a k).1 ++ [((hT a k), (hW a k))]) := OwnH.grown (x := ((hT a k), (hW a k))) hown hown'
                clear hown' hgrow
                have hb5 := hbk.trans (hbw5.mono (Nat.le_refl _))
                clear Xk Hk x0 x1 h0 h1 e0 e1 hown hbk hbw5 HSQ
                go_wp2
                exact ⟨⟨k + 1, by omega, by go_num, by rw [HR.out], by rw [HR.out]; exact o5, hb5⟩, by simp [intOf]; omega⟩
          · obtain rfl : k = a.length := by omega
            have hle := (insTo_len y a a.length (Nat.le_refl _)).1
            have hn5 : a.length ≤ 1048576 := by have := Hs.out.2; simp at this; omega
            have HSQ := HSW.out
            have hbw := b2.trans (hbk.mono (by omega))
            cases hp : (insTo y a a.length).2 with
            | true =>
              have HE := Lib.hid (insTo_true hp)
              clear hp x0 x1
              obtain ⟨x0, x1, xf⟩ := Xk.c2
              have hbk' := hbk
              obtain ⟨A6, c6, rfl, _⟩ := hown.own
              have E1 := hown.ne (a := ⟨w.heap.size, 0, none⟩) (.slice A6 ((insTo y a a.length).1.length) c6) (fun k hk e => by have := (hown.lt k hk).1; simp at e; omega)
              have E2 := ((o2.next hbk').ne (a := ⟨w.heap.size, 0, none⟩) (.slice A6 ((insTo y a a.length).1.length) c6) (fun k hk e => by have := (O2lt.out k hk).1; simp at e; omega))
              have E3 := Xk.set (j := 0) (.slice A6 ((insTo y a a.length).1.length) c6) (by simp)
              have E4 := (Y.next hbk').far (a := ⟨w.heap.size, 0, none⟩) (.slice A6 ((insTo y a a.length).1.length) c6) (by simp)
              have E5 := hbw.setCell (p := ⟨w.heap.size, 0, none⟩) (Nat.le_refl _) (.slice A6 ((insTo y a a.length).1.length) c6)
              have F := Lib.hid (show RoundEnd hs ws lo w.heap.size (gk - 1) w _ from ⟨_, _, (ins y a, r), by have := Hgk.out; simp at this ⊢; omega, HS2.out, OwnL.two' (by rw [HE.out]; exact E1) (E2.less (by simp; omega)) (fun k hk => by rw [← HSQ]; exact (O2lt.out k hk).2) (by omega), ⟨fun k hk => by have := (hown.lt k hk).1; omega, fun k hk => by have := (O2lt.out k hk).1; omega⟩, E5, E3, E4⟩)
              clear E1 E2 E3 E4 E5 hown hbk hbk' hbw Xk Hk X Y H o2 o1
              go_wp2
              go_roundg (gk - 1)
              case measure => have := Hgk.out; simp at this; omega
              case rel => exact F.out
            | false =>
              have HE := Lib.hid (insTo_false hp)
              clear hp
              go_wp2_with (at_builtin; refine wpList_append_own _ rfl _ _ 107 rfl w2.heap.size 162 i0 (.agg #[.int .i64 0, .bool false]) 2 16 Tryz.underlying107 Hi.out Hz0.out Hz1.out Hz2.out rfl (by decide) _ _ _ rfl (hown.alloc _) ⟨wr.heap.size, 0, none⟩ 1 1 [.int .i64 y.1, .bool y.2] rfl rfl ?pw7a ?pw7b ?pw7c ?pw7d ?pw7e ?_)
              try
                case pw7a =>
                  intro j u hj
                  match j, hj with
                  | 0, hj => simp at hj; subst hj; simp [Addr.add]
                  | 1, hj => simp at hj; subst hj; simp [Addr.add]
              case pw7b =>
                first
                | exact ⟨rfl, rfl⟩
                | (intro u hu; simp at hu; rcases hu with rfl | rfl <;> rfl)
              case pw7c => unfold maxLen; omega
              case pw7d => omega
              case pw7e => first | omega | (simp; omega)
              intro vw7 w7 hown' hgrow _
              have hbw7 : Below wq.heap.size wr w7 := ((Below.refl wq.heap.size wr).alloc (by omega) (.cells #[.int .i64 y.1, .bool y.2] 162)).grown hgrow (by simp; omega) (fun q hq => by have := (hown.lt q hq).1; rw [HSW.out]; exact this)
              have o7 : OwnH w7 w2.heap.size vw7 ((insTo y a a.length).1 ++ [(y.1, y.2)]) := OwnH.grown (x := (y.1, y.2)) hown hown'
              clear hown' hgrow
              have hbk' := hbk.trans (hbw7.mono (Nat.le_refl _))
              have hbw := hbw.trans (hbw7.mono (by omega))
              have Xk := Xk.below hbw7 (by omega)
              clear x0 x1 h0 h1 hown hbk hbw7
              obtain ⟨x0, x1, xf⟩ := Xk.c2
              have hbk := hbk'
              generalize hL6 : (insTo y a a.length).1 ++ [(y.1, y.2)] = L6 at o7
              have HE := Lib.hid (show ins y a = L6 by rw [HE.out, ← hL6])
              clear hL6
              obtain ⟨A6, c6, rfl, _⟩ := o7.own
              have E1 := o7.ne (a := ⟨w.heap.size, 0, none⟩) (.slice A6 (L6.length) c6) (fun k hk e => by have := (o7.lt k hk).1; simp at e; omega)
              have E2 := ((o2.next hbk').ne (a := ⟨w.heap.size, 0, none⟩) (.slice A6 (L6.length) c6) (fun k hk e => by have := (O2lt.out k hk).1; simp at e; omega))
              have E3 := Xk.set (j := 0) (.slice A6 (L6.length) c6) (by simp)
              have E4 := (Y.next hbk').far (a := ⟨w.heap.size, 0, none⟩) (.slice A6 (L6.length) c6) (by simp)
              have E5 := hbw.setCell (p := ⟨w.heap.size, 0, none⟩) (Nat.le_refl _) (.slice A6 (L6.length) c6)
              have F := Lib.hid (show RoundEnd hs ws lo w.heap.size (gk - 1) w _ from ⟨_, _, (ins y a, r), by have := Hgk.out; simp at this ⊢; omega, HS2.out, OwnL.two' (by rw [HE.out]; exact E1) (E2.less (by simp; omega)) (fun k hk => by rw [← HSQ]; exact (O2lt.out k hk).2) (by omega), ⟨fun k hk => by have := (o7.lt k hk).1; omega, fun k hk => by have := (O2lt.out k hk).1; omega⟩, E5, E3, E4⟩)
              clear E1 E2 E3 E4 E5 o7 hbk hbk' hbw Xk Hk X Y H o2 o1
              go_wp2
              go_roundg (gk - 1)
              case measure => have := Hgk.out; simp at this; omega
              case rel => exact F.out
      · have hat2 : HAt w1 w1.heap.size (some ⟨b2, off2 + 2, none⟩) r := fun hr => ⟨b2, off2 + 2, rfl, by omega, fun j hj => by
          have := (hc2 (j + 1) (by simp; omega)).1
          rw [show off2 + (j + 1) * 2 = off2 + 2 + j * 2 by omega] at this
          exact this⟩
        have hr5 : r.length ≤ 1048576 := by have := Hs.out.2; simp at this; omega
        go_wp2_with fail
        (with_reducible refine (specHoldsCopy_any _ _ _ r _ hr5 (hat2.below ((Below.refl w1.heap.size w1).alloc (Nat.le_refl _) _) (Nat.le_refl _))).mono ?_); rintro e w2 ⟨v2, rfl, o2, hb2⟩
        obtain ⟨A4, c4, rfl, _⟩ := o2.own
        have hA := (Below.refl w1.heap.size w1).alloc (Nat.le_refl _) (.cells #[.int .i64 y.1, .bool y.2] 162)
        have hA2 : Below w1.heap.size w1 w2 := hA.trans (hb2.mono (by simp))
        have hlo2 : w1.heap.size < (w1.alloc (.cells #[.int .i64 y.1, .bool y.2] 162)).heap.size := by simp
        have H := (Box.new (w := w1) (c := #[.int .i64 y.1, .bool y.2]) (t := 162) rfl).next hb2
        have X := X.next hA2
        have Y := Y.next hA2
        have b2 := b1.trans (hA2.mono (by omega))
        have o1 := ho.1.next hA2
        have s2 := hA2.size
        have hn1 : ∀ k, (Value.slice A1 a.length c1).ownBlock = some k → ¬ w.heap.size = k := fun k hk e => (hne.1 k hk).1 e.symm
        obtain ⟨x0, x1, xf⟩ := X.c2
        clear y0 y1 yf hc2 hl ho hne d0 d1 hA hb2
        go_wp2_with fail
        have X := X.set (j := 1) (.slice A4 r.length c4) (by simp)
        have Y := Y.far (a := ⟨w.heap.size, 1, none⟩) (.slice A4 r.length c4) (by simp)
        have H := H.far (a := ⟨w.heap.size, 1, none⟩) (.slice A4 r.length c4) (by simp; omega)
        have o1 := o1.ne (a := ⟨w.heap.size, 1, none⟩) (.slice A4 r.length c4) hn1
        have o2 := o2.far (a := ⟨w.heap.size, 1, none⟩) (.slice A4 r.length c4) (by simp; omega)
        have b2 := b2.setCell (p := ⟨w.heap.size, 1, none⟩) (by simp) (.slice A4 r.length c4)
        have hsw : (w2.setCell ⟨w.heap.size, 1, none⟩ (.slice A4 r.length c4)).heap.size = w2.heap.size := by simp [World.setCell]
        have o2lt : ∀ k, (Value.slice A4 r.length c4).ownBlock = some k → w1.heap.size < k ∧ k < w2.heap.size := fun k hk => by have := o2.lt k hk; rw [hsw] at this; omega
        have O2lt := Lib.hid o2lt
        have HSW := Lib.hid hsw
        clear x0 x1 xf o2lt hsw hn1
        generalize w2.setCell ⟨w.heap.size, 1, none⟩ (.slice A4 r.length c4) = wq at X Y H o1 o2 b2 HSW ⊢
        have hsq : w1.heap.size < wq.heap.size := by rw [HSW.out]; have := H.lt; rw [HSW.out] at this; exact this
        have o2lt : ∀ k, (Value.slice A4 r.length c4).ownBlock = some k → w1.heap.size < k ∧ k < wq.heap.size := fun k hk => by rw [HSW.out]; exact O2lt.out k hk
        have O2lt := Lib.hid o2lt
        clear o2lt
        go_wp2
        have hat := o1.own
        obtain ⟨A5, c5, e5, hat⟩ := hat
        injection e5 with e5 _ e6
        subst e5 e6
        have hat := hat.at_
        go_loopw [4, 5, 6] (fun v q i wr => ∃ k : Nat, k ≤ a.length ∧ i = .int .i64 k ∧ q = .bool (insTo y a k).2 ∧ OwnH wr w2.heap.size v (insTo y a k).1 ∧ Below wq.heap.size wq wr) (fun _ _ i _ => a.length - (intOf i).toNat)
        case atStart => exact ⟨0, Nat.zero_le _, rfl, rfl, (by have := World.ownsRow_made (base := wq.heap.size) (size := 2) (e := 162) wq #[] 0 (Nat.le_refl _) (Nat.zero_le _) rfl; rw [HSW.out] at this; exact this), (Below.refl _ _).alloc (Nat.le_refl _) _⟩
        case round =>
          obtain ⟨k, hk, rfl, rfl, hown, hbk⟩ := hrel
          have Xk := X.next hbk
          have Hk := H.next hbk
          obtain ⟨x0, x1, xf⟩ := Xk.c2
          obtain ⟨h0, h1, hf⟩ := Hk.c2
          have hszk := hbk.size
          have hltX := Xk.lt
          have hltH := Hk.lt
          clear xf hf
          by_cases hkn : k < a.length
          · obtain ⟨b, off, rfl, hB, hc⟩ := hat (by omega)
            have hkz : (k : Int) < a.length := by omega
            have e0 : wr.cell? ⟨b, off + k * 2, none⟩ = some (.int .i64 (hT a k)) := (hbk.cell (p := ⟨b, off + k * 2, none⟩) hB).trans (hc k hkn).1
            have e1 : wr.cell? ⟨b, off + k * 2 + 1, none⟩ = some (.bool (hW a k)) := (hbk.cell (p := ⟨b, off + k * 2 + 1, none⟩) hB).trans (hc k hkn).2
            have hle := (insTo_len y a k (by omega)).1
            have hn5 : a.length ≤ 1048576 := by have := Hs.out.2; simp at this; omega
            have HN := Lib.hid (insTo_succ (h := y) hkn)
            clear hc hat
            cases hp : (insTo y a k).2 with
            | true =>
              have HR := Lib.hid (show insTo y a (k + 1) = ((insTo y a k).1 ++ [(hT a k, hW a k)], true) by rw [HN.out]; simp [stepIns, hp])
              clear hp
              go_wp2_with fail
              go_quiet (fail)
              have hq : Below wr.heap.size wr (wr.drewN nq) := below_drewN (Below.refl _ _) nq
              have e0 := (hq.cell (p := ⟨b, off + k * 2, none⟩) (by show b < wr.heap.size; omega)).trans e0
              have e1 := (hq.cell (p := ⟨b, off + k * 2 + 1, none⟩) (by show b < wr.heap.size; omega)).trans e1
              have Xk := Xk.next hq
              have Hk := Hk.next hq
              have hown := hown.next hq
              have hbk := hbk.trans (hq.mono hszk)
              clear x0 x1 h0 h1 hq
              generalize wr.drewN nq = w4 at e0 e1 Xk Hk hown hbk ⊢
              obtain ⟨x0, x1, xf⟩ := Xk.c2
              obtain ⟨h0, h1, hf⟩ := Hk.c2
              have hszk := hbk.size
              have hltX := Xk.lt
              have hltH := Hk.lt
              have HSQ := HSW.out
              clear xf hf
              go_wp2_with (at_builtin; refine wpList_append_own _ rfl _ _ 107 rfl w2.heap.size 162 i0 (.agg #[.int .i64 0, .bool false]) 2 16 Tryz.underlying107 Hi.out Hz0.out Hz1.out Hz2.out rfl (by decide) _ _ _ rfl (hown.alloc _) ⟨w4.heap.size, 0, none⟩ 1 1 [.int .i64 (hT a k), .bool (hW a k)] rfl rfl ?w5a ?w5b ?w5c ?w5d ?w5e ?_)
              try
                case w5a =>
                  intro j u hj
                  match j, hj with
                  | 0, hj => simp at hj; subst hj; simp [Addr.add]
                  | 1, hj => simp at hj; subst hj; simp [Addr.add]
              case w5b =>
                first
                | exact ⟨rfl, rfl⟩
                | (intro u hu; simp at hu; rcases hu with rfl | rfl <;> rfl)
              case w5c => unfold maxLen; omega
              case w5d => omega
              case w5e => first | omega | (simp; omega)
              intro vw5 w5 hown' hgrow _
              have hbw5 : Below wq.heap.size w4 w5 := ((Below.refl wq.heap.size w4).alloc (by omega) (.cells #[.int .i64 (hT a k), .bool (hW a k)] 162)).grown hgrow (by simp; omega) (fun q hq => by have := (hown.lt q hq).1; rw [HSW.out]; exact this)
              have o5 : OwnH w5 w2.heap.size vw5 ((insTo y a k).1 ++ [((hT a k), (hW a k))]) := OwnH.grown (x := ((hT a k), (hW a k))) hown hown'
              clear hown' hgrow
              have hb5 := hbk.trans (hbw5.mono (Nat.le_refl _))
              clear Xk Hk x0 x1 h0 h1 e0 e1 hown hbk hbw5 HSQ
              go_wp2
              exact ⟨⟨k + 1, by omega, by go_num, by rw [HR.out], by rw [HR.out]; exact o5, hb5⟩, by simp [intOf]; omega⟩
            | false =>
              by_cases hlt1 : y.1 < hT a k
              · have HR := Lib.hid (show insTo y a (k + 1) = (((insTo y a k).1 ++ [y]) ++ [(hT a k, hW a k)], true) by rw [HN.out]; simp [stepIns, hp, hlt1])
                have hd1 : decide (y.1 < hT a k) = true := by simpa using hlt1
                clear hp
                go_wp2_with fail
                go_quiet (fail)
                have hq : Below wr.heap.size wr (wr.drewN nq) := below_drewN (Below.refl _ _) nq
                have e0 := (hq.cell (p := ⟨b, off + k * 2, none⟩) (by show b < wr.heap.size; omega)).trans e0
                have e1 := (hq.cell (p := ⟨b, off + k * 2 + 1, none⟩) (by show b < wr.heap.size; omega)).trans e1
                have Xk := Xk.next hq
                have Hk := Hk.next hq
                have hown := hown.next hq
                have hbk := hbk.trans (hq.mono hszk)
                clear x0 x1 h0 h1 hq
                generalize wr.drewN nq = w4 at e0 e1 Xk Hk hown hbk ⊢
                obtain ⟨x0, x1, xf⟩ := Xk.c2
                obtain ⟨h0, h1, hf⟩ := Hk.c2
                have hszk := hbk.size
                have hltX := Xk.lt
                have hltH := Hk.lt
                have HSQ := HSW.out
                clear xf hf
                go_wp2_with (at_builtin; refine wpList_append_own _ rfl _ _ 107 rfl w2.heap.size 162 i0 (.agg #[.int .i64 0, .bool false]) 2 16 Tryz.underlying107 Hi.out Hz0.out Hz1.out Hz2.out rfl (by decide) _ _ _ rfl (hown.alloc _) ⟨w4.heap.size, 0, none⟩ 1 1 [.int .i64 y.1, .bool y.2] rfl rfl ?w5a ?w5b ?w5c ?w5d ?w5e ?_)
                try
                  case w5a =>
                    intro j u hj
                    match j, hj with
                    | 0, hj => simp at hj; subst hj; simp [Addr.add]
                    | 1, hj => simp at hj; subst hj; simp [Addr.add]
                case w5b =>
                  first
                  | exact ⟨rfl, rfl⟩
                  | (intro u hu; simp at hu; rcases hu with rfl | rfl <;> rfl)
                case w5c => unfold maxLen; omega
                case w5d => omega
                case w5e => first | omega | (simp; omega)
                intro vw5 w5 hown' hgrow _
                have hbw5 : Below wq.heap.size w4 w5 := ((Below.refl wq.heap.size w4).alloc (by omega) (.cells #[.int .i64 y.1, .bool y.2] 162)).grown hgrow (by simp; omega) (fun q hq => by have := (hown.lt q hq).1; rw [HSW.out]; exact this)
                have o5 : OwnH w5 w2.heap.size vw5 ((insTo y a k).1 ++ [(y.1, y.2)]) := OwnH.grown (x := (y.1, y.2)) hown hown'
                clear hown' hgrow
                have e0 : w5.cell? ⟨b, off + k * 2, none⟩ = some (.int .i64 (hT a k)) := (hbw5.cell (p := ⟨b, off + k * 2, none⟩) hB).trans e0
                have e1 : w5.cell? ⟨b, off + k * 2 + 1, none⟩ = some (.bool (hW a k)) := (hbw5.cell (p := ⟨b, off + k * 2 + 1, none⟩) hB).trans e1
                have Xk := Xk.below hbw5 (by omega)
                have Hk := Hk.below hbw5 (by omega)
                have hb5 := hbk.trans (hbw5.mono (Nat.le_refl _))
                have hsz5 := hb5.size
                have hl5 : ((insTo y a k).1 ++ [(y.1, y.2)]).length ≤ k + 2 := by simp; omega
                clear x0 x1 h0 h1 hown hbk hbw5
                obtain ⟨x0, x1, xf⟩ := Xk.c2
                obtain ⟨h0, h1, hf⟩ := Hk.c2
                have hltX := Xk.lt
                have hltH := Hk.lt
                clear xf hf
                generalize hLL : (insTo y a k).1 ++ [(y.1, y.2)] = LL at o5 hl5
                have HLL := Lib.hid hLL
                clear hLL
                go_wp2_with (at_builtin; refine wpList_append_own _ rfl _ _ 107 rfl w2.heap.size 162 i0 (.agg #[.int .i64 0, .bool false]) 2 16 Tryz.underlying107 Hi.out Hz0.out Hz1.out Hz2.out rfl (by decide) _ _ _ rfl (o5.alloc _) ⟨w5.heap.size, 0, none⟩ 1 1 [.int .i64 (hT a k), .bool (hW a k)] rfl rfl ?w6a ?w6b ?w6c ?w6d ?w6e ?_)
                try
                  case w6a =>
                    intro j u hj
                    match j, hj with
                    | 0, hj => simp at hj; subst hj; simp [Addr.add]
                    | 1, hj => simp at hj; subst hj; simp [Addr.add]
                case w6b =>
                  first
                  | exact ⟨rfl, rfl⟩
                  | (intro u hu; simp at hu; rcases hu with rfl | rfl <;> rfl)
                case w6c => unfold maxLen; omega
                case w6d => omega
                case w6e => first | omega | (simp; omega)
                intro vw6 w6 hown' hgrow _
                have hbw6 : Below wq.heap.size w5 w6 := ((Below.refl wq.heap.size w5).alloc (by omega) (.cells #[.int .i64 (hT a k), .bool (hW a k)] 162)).grown hgrow (by simp; omega) (fun q hq => by have := (o5.lt q hq).1; rw [HSW.out]; exact this)
                have o6 : OwnH w6 w2.heap.size vw6 (LL ++ [((hT a k), (hW a k))]) := OwnH.grown (x := ((hT a k), (hW a k))) o5 hown'
                clear hown' hgrow
                have hb6 := hb5.trans (hbw6.mono (Nat.le_refl _))
                clear Xk Hk x0 x1 h0 h1 e0 e1 o5 hb5 hbw6 HSQ
                go_wp2
                exact ⟨⟨k + 1, by omega, by go_num, by rw [HR.out], by rw [HR.out]; have := HLL.out; simp only at this ⊢; rw [this]; exact o6, hb6⟩, by simp [intOf]; omega⟩
              · have HR := Lib.hid (show insTo y a (k + 1) = ((insTo y a k).1 ++ [(hT a k, hW a k)], false) by rw [HN.out]; simp [stepIns, hp, hlt1])
                have hd1 : decide (y.1 < hT a k) = false := by simpa using hlt1
                clear hp
                go_wp2_with fail
                go_quiet (fail)
                have hq : Below wr.heap.size wr (wr.drewN nq) := below_drewN (Below.refl _ _) nq
                have e0 := (hq.cell (p := ⟨b, off + k * 2, none⟩) (by show b < wr.heap.size; omega)).trans e0
                have e1 := (hq.cell (p := ⟨b, off + k * 2 + 1, none⟩) (by show b < wr.heap.size; omega)).trans e1
                have Xk := Xk.next hq
                have Hk := Hk.next hq
                have hown := hown.next hq
                have hbk := hbk.trans (hq.mono hszk)
                clear x0 x1 h0 h1 hq
                generalize wr.drewN nq = w4 at e0 e1 Xk Hk hown hbk ⊢
                obtain ⟨x0, x1, xf⟩ := Xk.c2
                obtain ⟨h0, h1, hf⟩ := Hk.c2
                have hszk := hbk.size
                have hltX := Xk.lt
                have hltH := Hk.lt
                have HSQ := HSW.out
                clear xf hf
                go_wp2_with (at_builtin; refine wpList_append_own _ rfl _ _ 107 rfl w2.heap.size 162 i0 (.agg #[.int .i64 0, .bool false]) 2 16 Tryz.underlying107 Hi.out Hz0.out Hz1.out Hz2.out rfl (by decide) _ _ _ rfl (hown.alloc _) ⟨w4.heap.size, 0, none⟩ 1 1 [.int .i64 (hT a k), .bool (hW a k)] rfl rfl ?w5a ?w5b ?w5c ?w5d ?w5e ?_)
                try
                  case w5a =>
                    intro j u hj
                    match j, hj with
                    | 0, hj => simp at hj; subst hj; simp [Addr.add]
                    | 1, hj => simp at hj; subst hj; simp [Addr.add]
                case w5b =>
                  first
                  | exact ⟨rfl, rfl⟩
                  | (intro u hu; simp at hu; rcases hu with rfl | rfl <;> rfl)
                case w5c => unfold maxLen; omega
                case w5d => omega
                case w5e => first | omega | (simp; omega)
                intro vw5 w5 hown' hgrow _
                have hbw5 : Below wq.heap.size w4 w5 := ((Below.refl wq.heap.size w4).alloc (by omega) (.cells #[.int .i64 (hT a k), .bool (hW a k)] 162)).grown hgrow (by simp; omega) (fun q hq => by have := (hown.lt q hq).1; rw [HSW.out]; exact this)
                have o5 : OwnH w5 w2.heap.size vw5 ((insTo y a k).1 ++ [((hT a k), (hW a k))]) := OwnH.grown (x := ((hT a k), (hW a k))) hown hown'
                clear hown' hgrow
                have hb5 := hbk.trans (hbw5.mono (Nat.le_refl _))
                clear Xk Hk x0 x1 h0 h1 e0 e1 hown hbk hbw5 HSQ
                go_wp2
                exact ⟨⟨k + 1, by omega, by go_num, by rw [HR.out], by rw [HR.out]; exact o5, hb5⟩, by simp [intOf]; omega⟩
          · obtain rfl : k = a.length := by omega
            have hle := (insTo_len y a a.length (Nat.le_refl _)).1
            have hn5 : a.length ≤ 1048576 := by have := Hs.out.2; simp at this; omega
            have HSQ := HSW.out
            have hbw := b2.trans (hbk.mono (by omega))
            cases hp : (insTo y a a.length).2 with
            | true =>
              have HE := Lib.hid (insTo_true hp)
              clear hp x0 x1
              obtain ⟨x0, x1, xf⟩ := Xk.c2
              have hbk' := hbk
              obtain ⟨A6, c6, rfl, _⟩ := hown.own
              have E1 := hown.ne (a := ⟨w.heap.size, 0, none⟩) (.slice A6 ((insTo y a a.length).1.length) c6) (fun k hk e => by have := (hown.lt k hk).1; simp at e; omega)
              have E2 := ((o2.next hbk').ne (a := ⟨w.heap.size, 0, none⟩) (.slice A6 ((insTo y a a.length).1.length) c6) (fun k hk e => by have := (O2lt.out k hk).1; simp at e; omega))
              have E3 := Xk.set (j := 0) (.slice A6 ((insTo y a a.length).1.length) c6) (by simp)
              have E4 := (Y.next hbk').far (a := ⟨w.heap.size, 0, none⟩) (.slice A6 ((insTo y a a.length).1.length) c6) (by simp)
              have E5 := hbw.setCell (p := ⟨w.heap.size, 0, none⟩) (Nat.le_refl _) (.slice A6 ((insTo y a a.length).1.length) c6)
              have F := Lib.hid (show RoundEnd hs ws lo w.heap.size (gk - 1) w _ from ⟨_, _, (ins y a, r), by have := Hgk.out; simp at this ⊢; omega, HS2.out, OwnL.two' (by rw [HE.out]; exact E1) (E2.less (by simp; omega)) (fun k hk => by rw [← HSQ]; exact (O2lt.out k hk).2) (by omega), ⟨fun k hk => by have := (hown.lt k hk).1; omega, fun k hk => by have := (O2lt.out k hk).1; omega⟩, E5, E3, E4⟩)
              clear E1 E2 E3 E4 E5 hown hbk hbk' hbw Xk Hk X Y H o2 o1
              go_wp2
              go_roundg (gk - 1)
              case measure => have := Hgk.out; simp at this; omega
              case rel => exact F.out
            | false =>
              have HE := Lib.hid (insTo_false hp)
              clear hp
              go_wp2_with (at_builtin; refine wpList_append_own _ rfl _ _ 107 rfl w2.heap.size 162 i0 (.agg #[.int .i64 0, .bool false]) 2 16 Tryz.underlying107 Hi.out Hz0.out Hz1.out Hz2.out rfl (by decide) _ _ _ rfl (hown.alloc _) ⟨wr.heap.size, 0, none⟩ 1 1 [.int .i64 y.1, .bool y.2] rfl rfl ?w7a ?w7b ?w7c ?w7d ?w7e ?_)
              try
                case w7a =>
                  intro j u hj
                  match j, hj with
                  | 0, hj => simp at hj; subst hj; simp [Addr.add]
                  | 1, hj => simp at hj; subst hj; simp [Addr.add]
              case w7b =>
                first
                | exact ⟨rfl, rfl⟩
                | (intro u hu; simp at hu; rcases hu with rfl | rfl <;> rfl)
              case w7c => unfold maxLen; omega
              case w7d => omega
              case w7e => first | omega | (simp; omega)
              intro vw7 w7 hown' hgrow _
              have hbw7 : Below wq.heap.size wr w7 := ((Below.refl wq.heap.size wr).alloc (by omega) (.cells #[.int .i64 y.1, .bool y.2] 162)).grown hgrow (by simp; omega) (fun q hq => by have := (hown.lt q hq).1; rw [HSW.out]; exact this)
              have o7 : OwnH w7 w2.heap.size vw7 ((insTo y a a.length).1 ++ [(y.1, y.2)]) := OwnH.grown (x := (y.1, y.2)) hown hown'
              clear hown' hgrow
              have hbk' := hbk.trans (hbw7.mono (Nat.le_refl _))
              have hbw := hbw.trans (hbw7.mono (by omega))
              have Xk := Xk.below hbw7 (by omega)
              clear x0 x1 h0 h1 hown hbk hbw7
              obtain ⟨x0, x1, xf⟩ := Xk.c2
              have hbk := hbk'
              generalize hL6 : (insTo y a a.length).1 ++ [(y.1, y.2)] = L6 at o7
              have HE := Lib.hid (show ins y a = L6 by rw [HE.out, ← hL6])
              clear hL6
              obtain ⟨A6, c6, rfl, _⟩ := o7.own
              have E1 := o7.ne (a := ⟨w.heap.size, 0, none⟩) (.slice A6 (L6.length) c6) (fun k hk e => by have := (o7.lt k hk).1; simp at e; omega)
              have E2 := ((o2.next hbk').ne (a := ⟨w.heap.size, 0, none⟩) (.slice A6 (L6.length) c6) (fun k hk e => by have := (O2lt.out k hk).1; simp at e; omega))
              have E3 := Xk.set (j := 0) (.slice A6 (L6.length) c6) (by simp)
              have E4 := (Y.next hbk').far (a := ⟨w.heap.size, 0, none⟩) (.slice A6 (L6.length) c6) (by simp)
              have E5 := hbw.setCell (p := ⟨w.heap.size, 0, none⟩) (Nat.le_refl _) (.slice A6 (L6.length) c6)
              have F := Lib.hid (show RoundEnd hs ws lo w.heap.size (gk - 1) w _ from ⟨_, _, (ins y a, r), by have := Hgk.out; simp at this ⊢; omega, HS2.out, OwnL.two' (by rw [HE.out]; exact E1) (E2.less (by simp; omega)) (fun k hk => by rw [← HSQ]; exact (O2lt.out k hk).2) (by omega), ⟨fun k hk => by have := (o7.lt k hk).1; omega, fun k hk => by have := (O2lt.out k hk).1; omega⟩, E5, E3, E4⟩)
              clear E1 E2 E3 E4 E5 o7 hbk hbk' hbw Xk Hk X Y H o2 o1
              go_wp2
              go_roundg (gk - 1)
              case measure => have := Hgk.out; simp at this; omega
              case rel => exact F.out
end Go.Proofs.YtaninlnobmjbmaaGreat
