/- The model's LockText. -/
import Derived.Test.YtmdonjkkpkcpnaaDoorLx3
namespace Go.Proofs.YtmdonjkkpkcpnaaDoor
open Go.RowKit

theorem namesT_none {l : HL} (h : l.length = 0) : namesT l = [] := by
  rw [List.length_eq_zero_iff.1 h]; rfl

set_option maxHeartbeats 1600000 in
set_option maxRecDepth 100000 in
theorem specLockText_any (A A' : Option Addr) (c c' B : Nat) (hs ws : HL) (w : World) (hn : hs.length ≤ 1048576) (hn' : ws.length ≤ 1048576) (h : LAt w B A A' (hs, ws)) :
    Calls Tryd.prog 5 #[.agg #[.slice A hs.length c, .slice A' ws.length c']] w fun e w' => e = .returned (.string ⟨(lockT hs ws).toArray⟩) ∧ Below w.heap.size w w' := by
  obtain ⟨h1, h2⟩ := h
  have h1 : HAt w w.heap.size A hs := h1.lt
  have h2 : HAt w w.heap.size A' ws := h2.lt
  have b0 := (Below.refl w.heap.size w).alloc (Nat.le_refl _) (.cells #[.slice A hs.length c, .slice A' ws.length c'] 29)
  have X := Box.new (w := w) (c := #[.slice A hs.length c, .slice A' ws.length c']) (t := 29) rfl
  go_enter Tryd.func5, Tryd.ntmps5
  go_wp2_with fail
  refine (specLockOk_any _ _ _ _ _ hs ws _ hn hn' ⟨h1.below b0 b0.size, h2.below b0 b0.size⟩).mono ?_; rintro e w1 ⟨rfl, hb1⟩
  have X := X.next hb1
  have b1 := b0.trans (hb1.mono b0.size)
  have hlt := X.lt
  clear hb1 b0
  cases hl : lockOk hs ws with
  | false =>
    have HE := Lib.hid (lockT_no hl)
    clear hl
    go_wp2
    go_ret
    rw [HE.out]
    exact ⟨rfl, b1⟩
  | true =>
    have h8 : hs.length + ws.length ≤ 8 := ((lockOk_iff _ _).1 hl).1.len
    obtain ⟨t1, t2⟩ := tids_of hl
    have HE := lockT_yes hl
    have l1 := namesT_len (by omega) t1
    have l2 := namesT_len (by omega) t2
    clear hl
    obtain ⟨x0, x1, xf⟩ := X.c2
    go_wp2_with fail
    refine (l03Names_any _ _ _ hs _ (by omega) t1 (h1.below b1 b1.size)).mono ?_; rintro e w2 ⟨rfl, hb2⟩
    have X := X.next hb2
    have b2 := b1.trans (hb2.mono b1.size)
    have hlt2 := X.lt
    clear hb2 x0 x1 xf
    obtain ⟨x0, x1, xf⟩ := X.c2
    have HN := Lib.hid (l03Names_any A' c' _ ws w2 (by omega) t2 (h2.below b2 b2.size))
    clear t1 t2 h1 h2
    by_cases hh : hs.length = 0
    · have hz : ¬ ((0 : Int) < hs.length) := by omega
      by_cases hw : ws.length = 0
      · have hzw : ¬ ((0 : Int) < ws.length) := by omega
        have HE2 := Lib.hid (show lockT hs ws = namesT hs ++ [124] by rw [HE, parts_00 hh hw, namesT_none hh]; rfl)
        clear HE HN hh hw
        generalize namesT hs = P at l1 HE2 ⊢
        have hc1 : ¬ (9223372036854775807 < P.length + 1) := by omega
        go_wp2
        go_ret
        exact ⟨ret_str (by rw [HE2.out]; apply ByteArray.ext; simp [ByteArray.data_append]), b2⟩
      · have hzw : (0 : Int) < ws.length := by omega
        have HE2 := Lib.hid (show lockT hs ws = namesT hs ++ [124] ++ [32] ++ namesT ws by rw [HE, parts_01 hh (by omega), namesT_none hh]; rfl)
        clear HE hh hw
        generalize namesT hs = P at l1 HE2 ⊢
        generalize namesT ws = Q at l2 HE2 HN
        have hc1 : ¬ (9223372036854775807 < P.length + 1) := by omega
        have hc2 : ¬ (9223372036854775807 < P.length + 1 + 1) := by omega
        have hc4 : ¬ (9223372036854775807 < P.length + 1 + 1 + Q.length) := by omega
        go_wp2_with fail
        refine HN.out.mono ?_; rintro e w3 ⟨rfl, hb3⟩
        have B3 := Lib.hid (b2.trans (hb3.mono b2.size))
        clear b2 hb3 HN
        go_wp2
        go_ret
        exact ⟨ret_str (by rw [HE2.out]; apply ByteArray.ext; simp [ByteArray.data_append]), B3.out⟩
    · have hz : (0 : Int) < hs.length := by omega
      by_cases hw : ws.length = 0
      · have hzw : ¬ ((0 : Int) < ws.length) := by omega
        have HE2 := Lib.hid (show lockT hs ws = namesT hs ++ [32] ++ [124] by rw [HE, parts_10 (by omega) hw])
        clear HE HN hh hw
        generalize namesT hs = P at l1 HE2 ⊢
        have hc1 : ¬ (9223372036854775807 < P.length + 1) := by omega
        have hc2 : ¬ (9223372036854775807 < P.length + 1 + 1) := by omega
        go_wp2
        go_ret
        exact ⟨ret_str (by rw [HE2.out]; apply ByteArray.ext; simp [ByteArray.data_append]), b2⟩
      · have hzw : (0 : Int) < ws.length := by omega
        have HE2 := Lib.hid (show lockT hs ws = namesT hs ++ [32] ++ [124] ++ [32] ++ namesT ws by rw [HE, parts_11 (by omega) (by omega)])
        clear HE hh hw
        generalize namesT hs = P at l1 HE2 ⊢
        generalize namesT ws = Q at l2 HE2 HN
        have hc1 : ¬ (9223372036854775807 < P.length + 1) := by omega
        have hc2 : ¬ (9223372036854775807 < P.length + 1 + 1) := by omega
        have hc3 : ¬ (9223372036854775807 < P.length + 1 + 1 + 1) := by omega
        have hc4 : ¬ (9223372036854775807 < P.length + 1 + 1 + 1 + Q.length) := by omega
        go_wp2_with fail
        refine HN.out.mono ?_; rintro e w3 ⟨rfl, hb3⟩
        have B3 := Lib.hid (b2.trans (hb3.mono b2.size))
        clear b2 hb3 HN
        go_wp2
        go_ret
        exact ⟨ret_str (by rw [HE2.out]; apply ByteArray.ext; simp [ByteArray.data_append]), B3.out⟩
end Go.Proofs.YtmdonjkkpkcpnaaDoor
