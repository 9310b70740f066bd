/- The program's indexOfTid and HoldsLock. -/
import Derived.Test.YtkpkjcmoldkmmaaGreatLi2
import Derived.Test.YtkpkjcmoldkmmaaGreatLs3
namespace Go.Proofs.YtkpkjcmoldkmmaaGreat
open Go.RowKit

/-- the place of the first hold of this id, or -1 -/
def idxT (l : HL) (t : Int) : Int := match l.findIdx? (·.1 == t) with | some k => (k : Int) | none => -1
theorem idxT_hit {l : HL} {t : Int} {k : Nat} (hk : k < l.length) (he : hT l k = t) (hn : NoT l t k) : idxT l t = k := by
  unfold idxT
  have : l.findIdx? (·.1 == t) = some k := by
    rw [List.findIdx?_eq_some_iff_getElem]
    refine ⟨hk, ?_, fun j hj => ?_⟩
    · have e : l[k].1 = hT l k := by rw [← hT_get hk]
      rw [e]; simpa using he
    · have e : (l[j]'(by omega)).1 = hT l j := by rw [← hT_get (l := l) (k := j) (by omega)]
      simpa [e] using hn j hj
  rw [this]
theorem idxT_none {l : HL} {t : Int} (hn : NoT l t l.length) : idxT l t = -1 := by
  unfold idxT
  have : l.findIdx? (·.1 == t) = none := by
    rw [List.findIdx?_eq_none_iff]
    intro z hz
    obtain ⟨k, hk, rfl⟩ := get_hW hz
    simpa using hn k hk
  rw [this]
/-- either a place, the first, or none -/
theorem idxT_cases (l : HL) (t : Int) : (∃ k : Nat, k < l.length ∧ hT l k = t ∧ NoT l t k ∧ idxT l t = k) ∨ (NoT l t l.length ∧ idxT l t = -1) := by
  by_cases h : ∃ k, k < l.length ∧ hT l k = t
  · have key : ∀ n k, k < n → k < l.length → hT l k = t → ∃ m, m < l.length ∧ hT l m = t ∧ NoT l t m := by
      intro n
      induction n with
      | zero => intro k hk; omega
      | succ n ih =>
        intro k hk hl he
        by_cases hn : NoT l t k
        · exact ⟨k, hl, he, hn⟩
        · simp only [NoT, Classical.not_forall, Classical.not_not] at hn
          obtain ⟨j, hj, ej⟩ := hn
          exact ih j (by omega) (by omega) ej
    obtain ⟨k, hk, he⟩ := h
    obtain ⟨m, hm, em, hn⟩ := key (k + 1) k (by omega) hk he
    exact .inl ⟨m, hm, em, hn, idxT_hit hm em hn⟩
  · have hn : NoT l t l.length := fun j hj e => h ⟨j, hj, e⟩
    exact .inr ⟨hn, idxT_none hn⟩

theorem idxClosure_any (x : Int) (y : Bool) (t : Int) (B : Nat) (w : World) (hc : w.cell? ⟨B, 0, none⟩ = some (.int .i64 t)) (hB : B < w.heap.size) :
    Calls Tryz.prog 148 #[.agg #[.int .i64 x, .bool y], .pointer (some ⟨B, 0, none⟩)] w fun e w' => e = .returned (.bool (x == t)) ∧ Below w.heap.size w w' := by
  go_enter Tryz.func148, Tryz.ntmps148
  go_wp2
  go_ret
  exact ⟨rfl, (Below.refl _ _).alloc (Nat.le_refl _) _⟩

theorem indexFunc_any (A : Option Addr) (c B D : Nat) (l : HL) (t : Int) (w : World) (hn : l.length ≤ 1048576) (h : HAt w D A l) (hc : w.cell? ⟨B, 0, none⟩ = some (.int .i64 t)) (hB : B < w.heap.size) :
    Calls Tryz.prog 147 #[.slice A l.length c, .func (.func 148) #[] #[.pointer (some ⟨B, 0, none⟩)]] w fun e w' => e = .returned (.int .i64 (idxT l t)) ∧ Below w.heap.size w w' := by
  have h := h.lt
  have Hc := Lib.hid hc
  clear hc
  go_enter Tryz.func147, Tryz.ntmps147
  go_wp2
  go_loopw [8] (fun i wr => ∃ k : Nat, k ≤ l.length ∧ i = .int .i64 k ∧ NoT l t k ∧ Below w.heap.size w wr) (fun i _ => l.length - (intOf i).toNat)
  case atStart => exact ⟨0, Nat.zero_le _, rfl, fun j hj => absurd hj (by omega), Below.refl _ _⟩
  case round =>
    obtain ⟨k, hk, rfl, hno, hb⟩ := hrel
    have Hno := Lib.hid hno
    have hsz := hb.size
    clear hno
    by_cases hkn : k < l.length
    · obtain ⟨b, off, rfl, hlt, hcc⟩ := h (by omega)
      have hkz : (k : Int) < l.length := by omega
      have d0 : wr.cell? ⟨b, off + k * 2, none⟩ = some (.int .i64 (hT l k)) := (hb.cell (p := ⟨b, off + k * 2, none⟩) hlt).trans (hcc k hkn).1
      have d1 : wr.cell? ⟨b, off + k * 2 + 1, none⟩ = some (.bool (hW l k)) := (hb.cell (p := ⟨b, off + k * 2 + 1, none⟩) hlt).trans (hcc k hkn).2
      have hcw : wr.cell? ⟨B, 0, none⟩ = some (.int .i64 t) := (hb.cell (p := ⟨B, 0, none⟩) hB).trans Hc.out
      clear hcc h
      go_wp2_with fail
      refine (idxClosure_any _ _ t B _ hcw (by omega)).mono ?_; rintro e w2 ⟨rfl, hb2⟩
      have b2 := hb.trans (hb2.mono hsz)
      clear hcw d0 d1 hb2
      by_cases e : hT l k = t
      · have HF := Lib.hid (idxT_hit hkn e Hno.out)
        have e' : (hT l k == t) = true := by simpa using e
        clear e
        generalize (hT l k == t) = q at e' ⊢
        subst e'
        go_wp2
        go_ret
        exact ⟨ret_i HF.out.symm, b2⟩
      · have HN := Lib.hid (Hno.out.next e)
        have e' : (hT l k == t) = false := by simpa using e
        clear e
        generalize (hT l k == t) = q at e' ⊢
        subst e'
        go_wp2
        exact ⟨⟨k + 1, by omega, by go_num, HN.out, b2⟩, by simp [intOf]; omega⟩
    · obtain rfl : k = l.length := by omega
      have HF := Lib.hid (idxT_none Hno.out)
      go_wp2
      go_ret
      exact ⟨ret_i HF.out.symm, hb⟩

theorem indexOf_any (A : Option Addr) (c D : Nat) (l : HL) (t : Int) (w : World) (hn : l.length ≤ 1048576) (h : HAt w D A l) :
    Calls Tryz.prog 93 #[.slice A l.length c, .int .i64 t] w fun e w' => e = .returned (.int .i64 (idxT l t)) ∧ Below w.heap.size w w' := by
  have h := h.lt
  go_enter Tryz.func93, Tryz.ntmps93
  go_wp2_with fail
  have b0 := (Below.refl w.heap.size w).alloc (Nat.le_refl _) (.cells #[.int .i64 t] 3)
  refine (indexFunc_any A c w.heap.size _ l t _ hn (h.below b0 b0.size) (by simp) (by simp)).mono ?_; rintro e w1 ⟨rfl, hb1⟩
  go_wp2
  go_ret
  exact ⟨rfl, b0.trans (hb1.mono b0.size)⟩

set_option maxHeartbeats 800000 in
theorem implHolds_any (A A' : Option Addr) (c c' B : Nat) (hs ws : HL) (t : Int) (w : World) (hn : hs.length ≤ 1048576) (hn' : ws.length ≤ 1048576) (h : LAt w B A A' (hs, ws)) :
    Calls Tryz.prog 195 #[.agg #[.slice A hs.length c, .slice A' ws.length c'], .int .i64 t] w fun e w' => e = .returned (.int .i64 (holdsL hs ws t)) ∧ Below w.heap.size w w' := by
  obtain ⟨h1, h2⟩ := h
  have h1 := h1.lt
  have h2 := h2.lt
  have HL0 := Lib.hid (show holdsL hs ws t = if lockOk hs ws then holdsAt hs ws t else 0 from rfl)
  go_enter Tryz.func195, Tryz.ntmps195
  go_wp2_with fail
  have b0 := (Below.refl w.heap.size w).alloc (Nat.le_refl _) (.cells #[.slice A hs.length c, .slice A' ws.length c'] 65)
  have X := Box.new (w := w) (c := #[.slice A hs.length c, .slice A' ws.length c']) (t := 65) rfl
  refine (implLockOk_any _ _ _ _ _ hs ws _ hn hn' ⟨h1.below b0 b0.size, h2.below b0 b0.size⟩).mono ?_; rintro e w1 ⟨rfl, hb1⟩
  have X := X.next hb1
  have b1 := b0.trans (hb1.mono b0.size)
  clear hb1 b0
  cases hl : lockOk hs ws with
  | false =>
    have HE := Lib.hid (show holdsL hs ws t = 0 by rw [HL0.out, hl]; rfl)
    clear hl
    go_wp2
    go_ret
    exact ⟨ret_i HE.out.symm, b1⟩
  | true =>
    have HE := Lib.hid (show holdsL hs ws t = holdsAt hs ws t by rw [HL0.out, hl]; rfl)
    clear hl HL0
    obtain ⟨x0, x1, xf⟩ := X.c2
    clear xf
    go_wp2_with fail
    refine (indexOf_any A c _ hs t _ hn (h1.below b1 b1.size)).mono ?_; rintro e w2 ⟨rfl, hb2⟩
    have X := X.next hb2
    have b2 := b1.trans (hb2.mono b1.size)
    obtain ⟨y0, y1, yf⟩ := X.c2
    clear yf x0 x1 hb2 b1
    rcases idxT_cases hs t with ⟨k, hk, he, hno, hi⟩ | ⟨hno, hi⟩
    · rw [hi]
      have HH := Lib.hid (holds_hit ws hk he hno)
      obtain ⟨b, off, rfl, hB, hc⟩ := h1 (by omega)
      have hkz : (k : Int) < hs.length := by omega
      have d1 : w2.cell? ⟨b, off + k * 2 + 1, none⟩ = some (.bool (hW hs k)) := (b2.cell (p := ⟨b, off + k * 2 + 1, none⟩) hB).trans (hc k hk).2
      clear hi he hno hc h1 h2
      cases hw : hW hs k with
      | true =>
        rw [hw] at d1
        have HF := Lib.hid (show holdsL hs ws t = 2 by rw [HE.out, HH.out, hw]; rfl)
        clear hw HH
        go_wp2
        go_ret
        exact ⟨ret_i HF.out.symm, b2⟩
      | false =>
        rw [hw] at d1
        have HF := Lib.hid (show holdsL hs ws t = 1 by rw [HE.out, HH.out, hw]; rfl)
        clear hw HH
        go_wp2
        go_ret
        exact ⟨ret_i HF.out.symm, b2⟩
    · rw [hi]
      have Hno := Lib.hid hno
      clear hi hno
      go_wp2_with fail
      refine (indexOf_any A' c' _ ws t _ hn' (h2.below b2 b2.size)).mono ?_; rintro e w3 ⟨rfl, hb3⟩
      have b3 := b2.trans (hb3.mono b2.size)
      clear hb3 y0 y1
      rcases idxT_cases ws t with ⟨k, hk, he, _, hi⟩ | ⟨hno2, hi⟩
      · rw [hi]
        have HF := Lib.hid (show holdsL hs ws t = 3 by rw [HE.out]; exact holds_wait Hno.out hk he)
        clear hi he
        go_wp2
        go_ret
        exact ⟨ret_i HF.out.symm, b3⟩
      · rw [hi]
        have HF := Lib.hid (show holdsL hs ws t = 0 by rw [HE.out]; exact holds_none Hno.out hno2)
        clear hi hno2
        go_wp2
        go_ret
        exact ⟨ret_i HF.out.symm, b3⟩
end Go.Proofs.YtkpkjcmoldkmmaaGreat
