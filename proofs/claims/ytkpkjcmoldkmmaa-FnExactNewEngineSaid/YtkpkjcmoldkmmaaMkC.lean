/- The laws' marking and looking again: programs. -/
import Derived.Test.YtkpkjcmoldkmmaaMkA
import Derived.Test.YtkpkjcmoldkmmaaGd
namespace Go.Proofs.Ytkpkjcmoldkmmaa
open Go.RowKit

abbrev mkd_ActS : (List DAct) → Int → (List DAct) := mkl mkd_Act ad_Act
abbrev ad_ActS : (List DAct) → Int := adl ad_Act
theorem pos_ActS (l : (List DAct)) : 0 ≤ ad_ActS l := adl_pos pos_Act l
theorem ub_ActS (l : (List DAct)) : ad_ActS l ≤ 16 * ((rowF fAct).cnt l : Int) + 16 := by
  have := adl_ub (F := fAct) ub_Act l
  show adl ad_Act l ≤ _
  omega
abbrev mkd_ActSS : (List (List DAct)) → Int → (List (List DAct)) := mkl mkd_ActS ad_ActS
abbrev ad_ActSS : (List (List DAct)) → Int := adl ad_ActS
theorem pos_ActSS (l : (List (List DAct))) : 0 ≤ ad_ActSS l := adl_pos pos_ActS l
theorem ub_ActSS (l : (List (List DAct))) : ad_ActSS l ≤ 16 * ((rowF (rowF fAct)).cnt l : Int) + 16 := by
  have := adl_ub (F := (rowF fAct)) ub_ActS l
  show adl ad_ActS l ≤ _
  omega
set_option maxHeartbeats 1600000 in
set_option maxRecDepth 100000 in
theorem mark_ActSS (A : Option Addr) (c lo B : Nat) (l : List (List DAct)) (k0 : Int) (w : World) (h0 : 0 ≤ k0) (h1 : k0 + adl ad_ActS l ≤ 1099511627776) (h : ROwn (rowF fAct) w lo B A l) :
    Calls Try.prog 58 #[.slice A l.length c, .int .i64 k0] w fun e w' => e = .returned (.int .i64 (k0 + adl ad_ActS l)) ∧ Onlys lo B w w' ∧ ROwn (rowF fAct) w' lo B A (mkl mkd_ActS ad_ActS l k0) := by
  have hmx := h.1
  unfold maxLen at hmx
  rcases Nat.eq_zero_or_pos l.length with hz | hpos
  · obtain rfl := List.eq_nil_of_length_eq_zero hz
    clear hz hmx
    go_enter Try.func58, Try.ntmps58
    go_wp2
    refine wp_loop_rounds 1 ?_; rw [rounds_succ]
    go_wp2
    go_ret
    exact ⟨ret_intG (by simp [adl]), Onlys.refl _ _ _, ROwn.nil⟩
  obtain ⟨b, off, rfl, vs0, L, H, hr0⟩ := h.2 hpos
  clear h
  have blo := hr0.rlo
  have bhi := hr0.rhi
  go_enter Try.func58, Try.ntmps58
  go_wp2
  go_loopw [1, 5] (fun s i wr => ∃ k : Nat, k ≤ l.length ∧ i = .int .i64 k ∧ s = .int .i64 (k0 + adk ad_ActS l k) ∧ Onlys lo B w wr ∧ ∃ l' vs, Mix l (mkl mkd_ActS ad_ActS l k0) l' k ∧ RRow (rowF fAct) wr lo B b off l' vs L H) (fun _ i _ => l.length - (intOf i).toNat)
  case atStart => exact ⟨0, Nat.zero_le _, rfl, int_eq (by rw [adk_zero]; omega), Onlys.refl _ _ _, _, _, Mix.start, hr0⟩
  case round =>
    clear hr0
    obtain ⟨k, hk, rfl, rfl, ho, l', vs, hmix, hr⟩ := hrel
    by_cases hkn : k < l.length
    · have hkz : (k : Int) < l.length := by omega
      have hget : l[k]? = some l[k] := List.getElem?_eq_getElem hkn
      have hk' : k < l'.length := by rw [hmix.len]; exact hkn
      have hmk := mkl_get (mk := mkd_ActS) (ad := ad_ActS) l k0 k _ hget
      have hs := adk_succ (ad := ad_ActS) hget
      have hle := adk_le (ad := ad_ActS) pos_ActS l (k + 1)
      have hp := adk_pos (ad := ad_ActS) pos_ActS l k
      have hown := hr.own k _ (by rw [hmix.old k (Nat.le_refl _)]; exact hget)
      have C := hr.chg hk'
      have spn := hr.span k hk'
      rw [show (rowF fAct).n = 1 from rfl] at C
      have HR := Lib.hid hr
      have HM := Lib.hid hmix
      have HK := Lib.hid hmk
      clear hr hmix hk' hmk
      generalize l[k] = d at hget hs hown HK
      generalize hL : L k = Lk at C spn hown
      generalize hH : H k = Hk at C spn hown
      generalize hv : vs k = v at C hown
      have HL := Lib.hid hL
      have HH := Lib.hid hH
      clear hL hH hv
      obtain ⟨A0, c0, rfl, r0⟩ := hown
      have hps := adl_pos pos_Act d
      have had : ad_ActS d = adl ad_Act d := rfl
      rw [had] at hs
      clear had
      generalize hx : adk ad_ActS l k = x at hs hle hp HK ⊢
      generalize hy : adk ad_ActS l (k + 1) = y at hs hle
      have HY := Lib.hid hy
      clear hy hx
      rw [Nat.mul_one] at C
      have a0 := C.cell.c1
      have f0 := C.free
      go_wp2_with fail
      clear a0 f0
      refine (mark_ActS A0 c0 Lk Hk d (k0 + x) _ (by omega) (by omega) r0).mono ?_; rintro o w0 ⟨rfl, ho0, q0⟩
      have C := Chg.call (C) ho0 (by omega) (by omega) (by omega) (by omega) (by omega)
      clear ho0 r0
      have cc0 := C.cell
      have a0 := RCells.c1 cc0
      clear cc0
      have f0 := C.free
      have HC := Lib.hid C
      clear C
      have Q0 := Lib.hid q0
      clear q0
      go_wp2
      refine ⟨⟨k + 1, by omega, by go_num, int_eq (by rw [HY.out]; omega), ?_, _, _, HM.out.step hkn HK.out, RRow.put HR.out (v := [.slice A0 (mkl mkd_Act ad_Act d (k0 + x)).length c0]) (by rw [HM.out.len]; exact hkn) ?_ rfl ?_⟩, by simp [intOf]; omega⟩
      · exact ho.trans (HC.out).only
      · rw [HL.out, HH.out]
        rw [show (rowF fAct).n = 1 from rfl, Nat.mul_one]
        refine Chg.cast (HC.out) ?_
        simp [mkl_len]
        all_goals (try (repeat' apply And.intro))
        all_goals (first | omega | (rw [Bool.eq_iff_iff]; simp; done) | (rw [Bool.eq_iff_iff]; simp; omega))
      · rw [HL.out, HH.out]
        exact ⟨A0, c0, rfl, Q0.out⟩
    · obtain rfl : k = l.length := by omega
      have HD := Lib.hid (hmix.done (mkl_len _ _))
      have HR := Lib.hid hr
      have HA := Lib.hid (adk_all (ad := ad_ActS) l)
      clear hr hmix
      go_wp2
      go_ret
      refine ⟨ret_intG (by rw [HA.out]), ho, ?_⟩
      have hr := HR.out
      rw [HD.out] at hr
      exact ⟨by rw [mkl_len]; unfold maxLen; omega, fun _ => ⟨b, off, rfl, _, _, _, hr⟩⟩
set_option maxHeartbeats 1600000 in
set_option maxRecDepth 100000 in
theorem held_ActSS (A : Option Addr) (c B : Nat) (l : List (List DAct)) (k0 : Int) (w : World) (h0 : 0 ≤ k0) (h1 : k0 + adl ad_ActS l ≤ 1099511627776) (h : RAt (rowF fAct) w B A (mkl mkd_ActS ad_ActS l k0)) :
    Calls Try.prog 100 #[.slice A l.length c, .int .i64 k0] w fun e w' => e = .returned (.int .i64 (k0 + adl ad_ActS l)) ∧ w = w' := by
  obtain ⟨hmx, hc0⟩ := h
  rw [mkl_len] at hmx hc0
  unfold maxLen at hmx
  have HC := Lib.hid hc0
  clear hc0
  go_enter Try.func100, Try.ntmps100
  go_wp2
  go_loop [1, 5] (fun s i => ∃ k : Nat, k ≤ l.length ∧ i = .int .i64 k ∧ s = .int .i64 (k0 + adk ad_ActS l k)) (fun _ i => l.length - (intOf i).toNat)
  case atStart => exact ⟨0, Nat.zero_le _, rfl, int_eq (by rw [adk_zero]; omega)⟩
  case round =>
    obtain ⟨k, hk, rfl, rfl⟩ := hrel
    by_cases hkn : k < l.length
    · obtain ⟨b, off, rfl, hbB, hc⟩ := HC.out (by omega)
      have hkz : (k : Int) < l.length := by omega
      have hget : l[k]? = some l[k] := List.getElem?_eq_getElem hkn
      obtain ⟨v, hv, hat⟩ := hc k _ (mkl_get (mk := mkd_ActS) (ad := ad_ActS) l k0 k _ hget)
      rw [show (rowF fAct).n = 1 from rfl] at hv
      have hs := adk_succ (ad := ad_ActS) hget
      have hle := adk_le (ad := ad_ActS) pos_ActS l (k + 1)
      have hp := adk_pos (ad := ad_ActS) pos_ActS l k
      clear hc
      generalize l[k] = d at hget hs hat
      have hps := adl_pos pos_Act d
      have had : ad_ActS d = adl ad_Act d := rfl
      rw [had] at hs
      clear had
      generalize hx : adk ad_ActS l k = x at hs hle hp hat ⊢
      generalize hy : adk ad_ActS l (k + 1) = y at hs hle
      have HY := Lib.hid hy
      clear hy hx
      obtain ⟨A0, c0, rfl, q0⟩ := hat
      rw [mkl_len] at hv
      have a0 := hv.c1
      rw [Nat.mul_one] at a0
      clear hv hget
      go_wp2_with fail
      refine (held_ActS A0 c0 B d (k0 + x) _ (by omega) (by omega) q0).mono ?_; rintro o w0 ⟨rfl, rfl⟩
      go_wp2
      exact ⟨⟨k + 1, by omega, by go_num, int_eq (by rw [HY.out]; omega)⟩, by simp [intOf]; omega⟩
    · obtain rfl : k = l.length := by omega
      have HA := Lib.hid (adk_all (ad := ad_ActS) l)
      go_wp2
      go_ret
      exact ⟨ret_intG (by rw [HA.out]), rfl⟩
set_option maxHeartbeats 1600000 in
set_option maxRecDepth 100000 in
theorem mark_ActSSS (A : Option Addr) (c lo B : Nat) (l : List (List (List DAct))) (k0 : Int) (w : World) (h0 : 0 ≤ k0) (h1 : k0 + adl ad_ActSS l ≤ 1099511627776) (h : ROwn (rowF (rowF fAct)) w lo B A l) :
    Calls Try.prog 17 #[.slice A l.length c, .int .i64 k0] w fun e w' => e = .returned (.int .i64 (k0 + adl ad_ActSS l)) ∧ Onlys lo B w w' ∧ ROwn (rowF (rowF fAct)) w' lo B A (mkl mkd_ActSS ad_ActSS l k0) := by
  have hmx := h.1
  unfold maxLen at hmx
  rcases Nat.eq_zero_or_pos l.length with hz | hpos
  · obtain rfl := List.eq_nil_of_length_eq_zero hz
    clear hz hmx
    go_enter Try.func17, Try.ntmps17
    go_wp2
    refine wp_loop_rounds 1 ?_; rw [rounds_succ]
    go_wp2
    go_ret
    exact ⟨ret_intG (by simp [adl]), Onlys.refl _ _ _, ROwn.nil⟩
  obtain ⟨b, off, rfl, vs0, L, H, hr0⟩ := h.2 hpos
  clear h
  have blo := hr0.rlo
  have bhi := hr0.rhi
  go_enter Try.func17, Try.ntmps17
  go_wp2
  go_loopw [1, 5] (fun s i wr => ∃ k : Nat, k ≤ l.length ∧ i = .int .i64 k ∧ s = .int .i64 (k0 + adk ad_ActSS l k) ∧ Onlys lo B w wr ∧ ∃ l' vs, Mix l (mkl mkd_ActSS ad_ActSS l k0) l' k ∧ RRow (rowF (rowF fAct)) wr lo B b off l' vs L H) (fun _ i _ => l.length - (intOf i).toNat)
  case atStart => exact ⟨0, Nat.zero_le _, rfl, int_eq (by rw [adk_zero]; omega), Onlys.refl _ _ _, _, _, Mix.start, hr0⟩
  case round =>
    clear hr0
    obtain ⟨k, hk, rfl, rfl, ho, l', vs, hmix, hr⟩ := hrel
    by_cases hkn : k < l.length
    · have hkz : (k : Int) < l.length := by omega
      have hget : l[k]? = some l[k] := List.getElem?_eq_getElem hkn
      have hk' : k < l'.length := by rw [hmix.len]; exact hkn
      have hmk := mkl_get (mk := mkd_ActSS) (ad := ad_ActSS) l k0 k _ hget
      have hs := adk_succ (ad := ad_ActSS) hget
      have hle := adk_le (ad := ad_ActSS) pos_ActSS l (k + 1)
      have hp := adk_pos (ad := ad_ActSS) pos_ActSS l k
      have hown := hr.own k _ (by rw [hmix.old k (Nat.le_refl _)]; exact hget)
      have C := hr.chg hk'
      have spn := hr.span k hk'
      rw [show (rowF (rowF fAct)).n = 1 from rfl] at C
      have HR := Lib.hid hr
      have HM := Lib.hid hmix
      have HK := Lib.hid hmk
      clear hr hmix hk' hmk
      generalize l[k] = d at hget hs hown HK
      generalize hL : L k = Lk at C spn hown
      generalize hH : H k = Hk at C spn hown
      generalize hv : vs k = v at C hown
      have HL := Lib.hid hL
      have HH := Lib.hid hH
      clear hL hH hv
      obtain ⟨A0, c0, rfl, r0⟩ := hown
      have hps := adl_pos pos_ActS d
      have had : ad_ActSS d = adl ad_ActS d := rfl
      rw [had] at hs
      clear had
      generalize hx : adk ad_ActSS l k = x at hs hle hp HK ⊢
      generalize hy : adk ad_ActSS l (k + 1) = y at hs hle
      have HY := Lib.hid hy
      clear hy hx
      rw [Nat.mul_one] at C
      have a0 := C.cell.c1
      have f0 := C.free
      go_wp2_with fail
      clear a0 f0
      refine (mark_ActSS A0 c0 Lk Hk d (k0 + x) _ (by omega) (by omega) r0).mono ?_; rintro o w0 ⟨rfl, ho0, q0⟩
      have C := Chg.call (C) ho0 (by omega) (by omega) (by omega) (by omega) (by omega)
      clear ho0 r0
      have cc0 := C.cell
      have a0 := RCells.c1 cc0
      clear cc0
      have f0 := C.free
      have HC := Lib.hid C
      clear C
      have Q0 := Lib.hid q0
      clear q0
      go_wp2
      refine ⟨⟨k + 1, by omega, by go_num, int_eq (by rw [HY.out]; omega), ?_, _, _, HM.out.step hkn HK.out, RRow.put HR.out (v := [.slice A0 (mkl mkd_ActS ad_ActS d (k0 + x)).length c0]) (by rw [HM.out.len]; exact hkn) ?_ rfl ?_⟩, by simp [intOf]; omega⟩
      · exact ho.trans (HC.out).only
      · rw [HL.out, HH.out]
        rw [show (rowF (rowF fAct)).n = 1 from rfl, Nat.mul_one]
        refine Chg.cast (HC.out) ?_
        simp [mkl_len]
        all_goals (try (repeat' apply And.intro))
        all_goals (first | omega | (rw [Bool.eq_iff_iff]; simp; done) | (rw [Bool.eq_iff_iff]; simp; omega))
      · rw [HL.out, HH.out]
        exact ⟨A0, c0, rfl, Q0.out⟩
    · obtain rfl : k = l.length := by omega
      have HD := Lib.hid (hmix.done (mkl_len _ _))
      have HR := Lib.hid hr
      have HA := Lib.hid (adk_all (ad := ad_ActSS) l)
      clear hr hmix
      go_wp2
      go_ret
      refine ⟨ret_intG (by rw [HA.out]), ho, ?_⟩
      have hr := HR.out
      rw [HD.out] at hr
      exact ⟨by rw [mkl_len]; unfold maxLen; omega, fun _ => ⟨b, off, rfl, _, _, _, hr⟩⟩
end Go.Proofs.Ytkpkjcmoldkmmaa
