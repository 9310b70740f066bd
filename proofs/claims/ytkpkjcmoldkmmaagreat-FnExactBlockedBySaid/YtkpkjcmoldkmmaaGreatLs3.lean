/- spec.HoldsLock, and what it answers. -/
import Derived.Test.YtkpkjcmoldkmmaaGreatLs2
namespace Go.Proofs.YtkpkjcmoldkmmaaGreat
open Go.RowKit

def NoT (l : HL) (t : Int) (k : Nat) : Prop := ∀ j, j < k → ¬ hT l j = t
theorem NoT.next {l : HL} {t : Int} {k : Nat} (h : NoT l t k) (hk : ¬ hT l k = t) : NoT l t (k + 1) := fun j hj => by
  by_cases e : j = k
  · subst e; exact hk
  · exact h j (by omega)
theorem find_hit {l : HL} {t : Int} {k : Nat} (hk : k < l.length) (he : hT l k = t) (hn : NoT l t k) : l.find? (·.1 == t) = some (hT l k, hW l k) := by
  rw [List.find?_eq_some_iff_getElem]
  refine ⟨by simp [he], k, hk, (hT_get hk).symm, fun j hj => ?_⟩
  have := hn j hj
  have e : (l[j]'(by omega)).1 = hT l j := by rw [← hT_get (l := l) (k := j) (by omega)]
  simp only [Bool.not_eq_true', beq_eq_false_iff_ne]
  rw [e]; exact this
theorem find_none {l : HL} {t : Int} (hn : NoT l t l.length) : l.find? (·.1 == t) = none := by
  rw [List.find?_eq_none]
  intro z hz
  obtain ⟨k, hk, rfl⟩ := get_hW hz
  simpa using hn k hk
theorem noT_ids {l : HL} {t : Int} (hn : NoT l t l.length) : ¬ t ∈ ids l := fun hm => by
  obtain ⟨z, hz, rfl⟩ := List.mem_map.1 hm
  obtain ⟨k, hk, rfl⟩ := get_hW hz
  exact hn k hk rfl
theorem holds_hit {hs : HL} (ws : HL) {t : Int} {k : Nat} (hk : k < hs.length) (he : hT hs k = t) (hn : NoT hs t k) : holdsAt hs ws t = if hW hs k then 2 else 1 := by
  unfold holdsAt; rw [find_hit hk he hn]
theorem holds_wait {hs ws : HL} {t : Int} {k : Nat} (hn : NoT hs t hs.length) (hk : k < ws.length) (he : hT ws k = t) : holdsAt hs ws t = 3 := by
  unfold holdsAt; rw [find_none hn]
  have : t ∈ ids ws := he ▸ hT_mem hk
  simp [this]
theorem holds_none {hs ws : HL} {t : Int} (hn : NoT hs t hs.length) (hn' : NoT ws t ws.length) : holdsAt hs ws t = 0 := by
  unfold holdsAt; rw [find_none hn]
  simp [noT_ids hn']
theorem ret_i {a b : Int} (h : a = b) : Ending.returned (.int .i64 a) = .returned (.int .i64 b) := by rw [h]

set_option maxHeartbeats 800000 in
theorem specHolds_any (A A' : Option Addr) (c c' B : Nat) (hs ws : HL) (t : Int) (w : World) (hn : hs.length ≤ 1048576) (hn' : ws.length ≤ 1048576) (h : LAt w B A A' (hs, ws)) :
    Calls Tryz.prog 138 #[.agg #[.slice A hs.length c, .slice A' ws.length c'], .int .i64 t] w fun e w' => e = .returned (.int .i64 (holdsL hs ws t)) ∧ Below w.heap.size w w' := by
  obtain ⟨h1, h2⟩ := h
  have h1 := h1.lt
  have h2 := h2.lt
  have HL0 := Lib.hid (show holdsL hs ws t = if lockOk hs ws then holdsAt hs ws t else 0 from rfl)
  go_enter Tryz.func138, Tryz.ntmps138
  go_wp2_with fail
  have b0 := (Below.refl w.heap.size w).alloc (Nat.le_refl _) (.cells #[.slice A hs.length c, .slice A' ws.length c'] 65)
  have X := Box.new (w := w) (c := #[.slice A hs.length c, .slice A' ws.length c']) (t := 65) rfl
  refine (specLockOk_any _ _ _ _ _ hs ws _ hn hn' ⟨h1.below b0 b0.size, h2.below b0 b0.size⟩).mono ?_; rintro e w1 ⟨rfl, hb1⟩
  have X := X.next hb1
  have b1 := b0.trans (hb1.mono b0.size)
  clear hb1 b0
  cases hl : lockOk hs ws with
  | false =>
    have HE := Lib.hid (show holdsL hs ws t = 0 by rw [HL0.out, hl]; rfl)
    clear hl
    go_wp2
    go_ret
    exact ⟨ret_i HE.out.symm, b1⟩
  | true =>
    have HE := Lib.hid (show holdsL hs ws t = holdsAt hs ws t by rw [HL0.out, hl]; rfl)
    clear hl HL0
    have h1 := h1.below b1 b1.size
    have h2 := h2.below b1 b1.size
    obtain ⟨x0, x1, xf⟩ := X.c2
    clear xf X
    go_wp2
    go_loop [5] (fun i => ∃ k : Nat, k ≤ hs.length ∧ i = .int .i64 k ∧ NoT hs t k) (fun i => hs.length - (intOf i).toNat)
    case atStart => exact ⟨0, Nat.zero_le _, rfl, fun j hj => absurd hj (by omega)⟩
    case round =>
      obtain ⟨k, hk, rfl, hno⟩ := hrel
      have Hno := Lib.hid hno
      clear hno
      by_cases hkn : k < hs.length
      · obtain ⟨b, off, rfl, _, hc⟩ := h1 (by omega)
        have hkz : (k : Int) < hs.length := by omega
        have d0 : w1.cell? ⟨b, off + k * 2, none⟩ = some (.int .i64 (hT hs k)) := (hc k hkn).1
        have d1 : w1.cell? ⟨b, off + k * 2 + 1, none⟩ = some (.bool (hW hs k)) := (hc k hkn).2
        clear hc h1 h2
        by_cases e : hT hs k = t
        · have HH := Lib.hid (holds_hit ws hkn e Hno.out)
          rw [e] at d0
          cases hw : hW hs k with
          | true =>
            rw [hw] at d1
            have HF := Lib.hid (show holdsL hs ws t = 2 by rw [HE.out, HH.out, hw]; rfl)
            clear hw HH e
            go_wp2
            go_ret
            exact ⟨ret_i HF.out.symm, b1⟩
          | false =>
            rw [hw] at d1
            have HF := Lib.hid (show holdsL hs ws t = 1 by rw [HE.out, HH.out, hw]; rfl)
            clear hw HH e
            go_wp2
            go_ret
            exact ⟨ret_i HF.out.symm, b1⟩
        · have HN := Lib.hid (Hno.out.next e)
          have e' : (hT hs k == t) = false := by simpa using e
          generalize hT hs k = y at d0 e' e
          go_wp2
          exact ⟨⟨k + 1, by omega, by go_num, HN.out⟩, by simp [intOf]; omega⟩
      · obtain rfl : k = hs.length := by omega
        clear h1
        go_wp2
        go_loop [6] (fun i => ∃ k : Nat, k ≤ ws.length ∧ i = .int .i64 k ∧ NoT ws t k) (fun i => ws.length - (intOf i).toNat)
        case atStart => exact ⟨0, Nat.zero_le _, rfl, fun j hj => absurd hj (by omega)⟩
        case round =>
          obtain ⟨k, hk, rfl, hno⟩ := hrel
          have Hn2 := Lib.hid hno
          clear hno
          by_cases hkn : k < ws.length
          · obtain ⟨b, off, rfl, _, hc⟩ := h2 (by omega)
            have hkz : (k : Int) < ws.length := by omega
            have d0 : w1.cell? ⟨b, off + k * 2, none⟩ = some (.int .i64 (hT ws k)) := (hc k hkn).1
            clear hc h2
            by_cases e : hT ws k = t
            · have HF := Lib.hid (show holdsL hs ws t = 3 by rw [HE.out]; exact holds_wait Hno.out hkn e)
              rw [e] at d0
              clear e
              go_wp2
              go_ret
              exact ⟨ret_i HF.out.symm, b1⟩
            · have HN := Lib.hid (Hn2.out.next e)
              have e' : (hT ws k == t) = false := by simpa using e
              generalize hT ws k = y at d0 e' e
              go_wp2
              exact ⟨⟨k + 1, by omega, by go_num, HN.out⟩, by simp [intOf]; omega⟩
          · obtain rfl : k = ws.length := by omega
            have HF := Lib.hid (show holdsL hs ws t = 0 by rw [HE.out]; exact holds_none Hno.out Hn2.out)
            go_wp2
            go_ret
            exact ⟨ret_i HF.out.symm, b1⟩
end Go.Proofs.YtkpkjcmoldkmmaaGreat
