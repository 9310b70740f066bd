/- The laws' marking and looking again: slices of ints, acts, puts. -/
import Derived.Test.YtkpkjcmoldkmmaaMk
namespace Go.Proofs.Ytkpkjcmoldkmmaa
open Go.RowKit

def ad_Int (_d : Int) : Int := 1
def mkd_Int (_d : Int) (k : Int) : Int := k
theorem pos_Int (d : Int) : 0 ≤ ad_Int d := by
  unfold ad_Int
  omega
theorem ub_Int (d : Int) : ad_Int d ≤ 16 * (intF.cnt d : Int) + 16 := by
  unfold ad_Int
  omega
theorem adl_Int : ∀ l : List Int, adl ad_Int l = l.length
  | [] => rfl
  | a :: l => by
    rw [adl_cons, adl_Int l, List.length_cons]
    unfold ad_Int
    omega
def ad_Act (_d : DAct) : Int := 3
def mkd_Act (_d : DAct) (k : Int) : DAct := (k, k + 1, k + 2)
theorem pos_Act (d : DAct) : 0 ≤ ad_Act d := by
  unfold ad_Act
  omega
theorem ub_Act (d : DAct) : ad_Act d ≤ 16 * (fAct.cnt d : Int) + 16 := by
  unfold ad_Act
  omega
theorem upd_Act {w : World} {lo B : Nat} {d : DAct} {vs : List Value} (h : fAct.Own w lo B d vs) : vs = [.int .i64 d.1, .int .i64 d.2.1, .int .i64 d.2.2] ∧ ∀ (w' : World) (d' : DAct), fAct.Own w' lo B d' [.int .i64 d'.1, .int .i64 d'.2.1, .int .i64 d'.2.2] := by
  obtain ⟨x0, y0, P0, Q0, M0, N0, rfl, hd0, h0, x1, y1, P1, Q1, M1, N1, rfl, hd1, h1, h2⟩ := h
  cases h0
  cases h1
  cases h2
  exact ⟨rfl, fun w' d' => ⟨[.int .i64 d'.1], _, P0, Q0, M0, N0, rfl, hd0, rfl, ⟨[.int .i64 d'.2.1], _, P1, Q1, M1, N1, rfl, hd1, rfl, rfl⟩⟩⟩
def ad_Put (_d : DPut) : Int := 2
def mkd_Put (_d : DPut) (k : Int) : DPut := (k, k + 1)
theorem pos_Put (d : DPut) : 0 ≤ ad_Put d := by
  unfold ad_Put
  omega
theorem ub_Put (d : DPut) : ad_Put d ≤ 16 * (fPut.cnt d : Int) + 16 := by
  unfold ad_Put
  omega
theorem upd_Put {w : World} {lo B : Nat} {d : DPut} {vs : List Value} (h : fPut.Own w lo B d vs) : vs = [.int .i64 d.1, .int .i64 d.2] ∧ ∀ (w' : World) (d' : DPut), fPut.Own w' lo B d' [.int .i64 d'.1, .int .i64 d'.2] := by
  obtain ⟨x0, y0, P0, Q0, M0, N0, rfl, hd0, h0, h1⟩ := h
  cases h0
  cases h1
  exact ⟨rfl, fun w' d' => ⟨[.int .i64 d'.1], _, P0, Q0, M0, N0, rfl, hd0, rfl, rfl⟩⟩
set_option maxHeartbeats 1600000 in
set_option maxRecDepth 100000 in
theorem mark_IntS (A : Option Addr) (c lo B : Nat) (l : List Int) (k0 : Int) (w : World) (h0 : 0 ≤ k0) (h1 : k0 + adl ad_Int l ≤ 1099511627776) (h : ROwn intF w lo B A l) :
    Calls Try.prog 30 #[.slice A l.length c, .int .i64 k0] w fun e w' => e = .returned (.int .i64 (k0 + adl ad_Int l)) ∧ Onlys lo B w w' ∧ ROwn intF w' lo B A (mkl mkd_Int ad_Int l k0) := by
  have hmx := h.1
  unfold maxLen at hmx
  rcases Nat.eq_zero_or_pos l.length with hz | hpos
  · obtain rfl := List.eq_nil_of_length_eq_zero hz
    clear hz hmx
    go_enter Try.func30, Try.ntmps30
    go_wp2
    refine wp_loop_rounds 1 ?_; rw [rounds_succ]
    go_wp2
    go_ret
    exact ⟨ret_intG (by simp [adl]), Onlys.refl _ _ _, ROwn.nil⟩
  obtain ⟨b, off, rfl, vs0, L, H, hr0⟩ := h.2 hpos
  clear h
  have blo := hr0.rlo
  have bhi := hr0.rhi
  go_enter Try.func30, Try.ntmps30
  go_wp2
  go_loopw [1, 5] (fun s i wr => ∃ k : Nat, k ≤ l.length ∧ i = .int .i64 k ∧ s = .int .i64 (k0 + adk ad_Int l k) ∧ Onlys lo B w wr ∧ ∃ l' vs, Mix l (mkl mkd_Int ad_Int l k0) l' k ∧ RRow intF wr lo B b off l' vs L H) (fun _ i _ => l.length - (intOf i).toNat)
  case atStart => exact ⟨0, Nat.zero_le _, rfl, int_eq (by rw [adk_zero]; omega), Onlys.refl _ _ _, _, _, Mix.start, hr0⟩
  case round =>
    clear hr0
    obtain ⟨k, hk, rfl, rfl, ho, l', vs, hmix, hr⟩ := hrel
    by_cases hkn : k < l.length
    · have hkz : (k : Int) < l.length := by omega
      have hget : l[k]? = some l[k] := List.getElem?_eq_getElem hkn
      have hk' : k < l'.length := by rw [hmix.len]; exact hkn
      have hmk := mkl_get (mk := mkd_Int) (ad := ad_Int) l k0 k _ hget
      have hs := adk_succ (ad := ad_Int) hget
      have hle := adk_le (ad := ad_Int) pos_Int l (k + 1)
      have hp := adk_pos (ad := ad_Int) pos_Int l k
      have hown := hr.own k _ (by rw [hmix.old k (Nat.le_refl _)]; exact hget)
      have C := hr.chg hk'
      have spn := hr.span k hk'
      rw [show intF.n = 1 from rfl] at C
      have HR := Lib.hid hr
      have HM := Lib.hid hmix
      have HK := Lib.hid hmk
      clear hr hmix hk' hmk
      generalize l[k] = d at hget hs hown HK
      generalize hL : L k = Lk at C spn hown
      generalize hH : H k = Hk at C spn hown
      generalize hv : vs k = v at C hown
      have HL := Lib.hid hL
      have HH := Lib.hid hH
      clear hL hH hv
      cases hown
      have had : ad_Int d = 1 := rfl
      rw [had] at hs
      generalize hx : adk ad_Int l k = x at hs hle hp HK ⊢
      generalize hy : adk ad_Int l (k + 1) = y at hs hle
      have HY := Lib.hid hy
      clear hy hx
      rw [Nat.mul_one] at C
      have a0 := C.cell.c1
      have f0 := C.free
      have HC := Lib.hid C
      clear C
      go_wp2
      refine ⟨⟨k + 1, by omega, by go_num, int_eq (by rw [HY.out]; omega), ?_, _, _, HM.out.step hkn HK.out, RRow.put HR.out (v := [.int .i64 (k0 + x)]) (by rw [HM.out.len]; exact hkn) ?_ rfl ?_⟩, by simp [intOf]; omega⟩
      · exact ho.trans ((HC.out).set 0 _ (by simp) (by omega) (by omega)).only
      · rw [HL.out, HH.out]
        rw [show intF.n = 1 from rfl, Nat.mul_one]
        refine Chg.cast ((HC.out).set 0 _ (by simp) (by omega) (by omega)) ?_
        simp [List.set]
        all_goals (try (repeat' apply And.intro))
        all_goals (first | omega | (rw [Bool.eq_iff_iff]; simp; done) | (rw [Bool.eq_iff_iff]; simp; omega))
      · rw [HL.out, HH.out]
        exact rfl
    · obtain rfl : k = l.length := by omega
      have HD := Lib.hid (hmix.done (mkl_len _ _))
      have HR := Lib.hid hr
      have HA := Lib.hid (adk_all (ad := ad_Int) l)
      clear hr hmix
      go_wp2
      go_ret
      refine ⟨ret_intG (by rw [HA.out]), ho, ?_⟩
      have hr := HR.out
      rw [HD.out] at hr
      exact ⟨by rw [mkl_len]; unfold maxLen; omega, fun _ => ⟨b, off, rfl, _, _, _, hr⟩⟩
set_option maxHeartbeats 1600000 in
set_option maxRecDepth 100000 in
theorem held_IntS (A : Option Addr) (c B : Nat) (l : List Int) (k0 : Int) (w : World) (h0 : 0 ≤ k0) (h1 : k0 + adl ad_Int l ≤ 1099511627776) (h : RAt intF w B A (mkl mkd_Int ad_Int l k0)) :
    Calls Try.prog 31 #[.slice A l.length c, .int .i64 k0] w fun e w' => e = .returned (.int .i64 (k0 + adl ad_Int l)) ∧ w = w' := by
  obtain ⟨hmx, hc0⟩ := h
  rw [mkl_len] at hmx hc0
  unfold maxLen at hmx
  have HC := Lib.hid hc0
  clear hc0
  go_enter Try.func31, Try.ntmps31
  go_wp2
  go_loop [1, 5] (fun s i => ∃ k : Nat, k ≤ l.length ∧ i = .int .i64 k ∧ s = .int .i64 (k0 + adk ad_Int l k)) (fun _ i => l.length - (intOf i).toNat)
  case atStart => exact ⟨0, Nat.zero_le _, rfl, int_eq (by rw [adk_zero]; omega)⟩
  case round =>
    obtain ⟨k, hk, rfl, rfl⟩ := hrel
    by_cases hkn : k < l.length
    · obtain ⟨b, off, rfl, hbB, hc⟩ := HC.out (by omega)
      have hkz : (k : Int) < l.length := by omega
      have hget : l[k]? = some l[k] := List.getElem?_eq_getElem hkn
      obtain ⟨v, hv, hat⟩ := hc k _ (mkl_get (mk := mkd_Int) (ad := ad_Int) l k0 k _ hget)
      rw [show intF.n = 1 from rfl] at hv
      have hs := adk_succ (ad := ad_Int) hget
      have hle := adk_le (ad := ad_Int) pos_Int l (k + 1)
      have hp := adk_pos (ad := ad_Int) pos_Int l k
      clear hc
      generalize l[k] = d at hget hs hat
      have had : ad_Int d = 1 := rfl
      rw [had] at hs
      clear had
      generalize hx : adk ad_Int l k = x at hs hle hp hat ⊢
      generalize hy : adk ad_Int l (k + 1) = y at hs hle
      have HY := Lib.hid hy
      clear hy hx
      have hat : v = [.int .i64 (k0 + x)] := hat
      subst hat
      have a0 := hv.c1
      rw [Nat.mul_one] at a0
      clear hv hget
      go_wp2
      exact ⟨⟨k + 1, by omega, by go_num, int_eq (by rw [HY.out]; omega)⟩, by simp [intOf]; omega⟩
    · obtain rfl : k = l.length := by omega
      have HA := Lib.hid (adk_all (ad := ad_Int) l)
      go_wp2
      go_ret
      exact ⟨ret_intG (by rw [HA.out]), rfl⟩
set_option maxHeartbeats 1600000 in
set_option maxRecDepth 100000 in
theorem mark_ActS (A : Option Addr) (c lo B : Nat) (l : List DAct) (k0 : Int) (w : World) (h0 : 0 ≤ k0) (h1 : k0 + adl ad_Act l ≤ 1099511627776) (h : ROwn fAct w lo B A l) :
    Calls Try.prog 95 #[.slice A l.length c, .int .i64 k0] w fun e w' => e = .returned (.int .i64 (k0 + adl ad_Act l)) ∧ Onlys lo B w w' ∧ ROwn fAct w' lo B A (mkl mkd_Act ad_Act l k0) := by
  have hmx := h.1
  unfold maxLen at hmx
  rcases Nat.eq_zero_or_pos l.length with hz | hpos
  · obtain rfl := List.eq_nil_of_length_eq_zero hz
    clear hz hmx
    go_enter Try.func95, Try.ntmps95
    go_wp2
    refine wp_loop_rounds 1 ?_; rw [rounds_succ]
    go_wp2
    go_ret
    exact ⟨ret_intG (by simp [adl]), Onlys.refl _ _ _, ROwn.nil⟩
  obtain ⟨b, off, rfl, vs0, L, H, hr0⟩ := h.2 hpos
  clear h
  have blo := hr0.rlo
  have bhi := hr0.rhi
  go_enter Try.func95, Try.ntmps95
  go_wp2
  go_loopw [1, 5] (fun s i wr => ∃ k : Nat, k ≤ l.length ∧ i = .int .i64 k ∧ s = .int .i64 (k0 + adk ad_Act l k) ∧ Onlys lo B w wr ∧ ∃ l' vs, Mix l (mkl mkd_Act ad_Act l k0) l' k ∧ RRow fAct wr lo B b off l' vs L H) (fun _ i _ => l.length - (intOf i).toNat)
  case atStart => exact ⟨0, Nat.zero_le _, rfl, int_eq (by rw [adk_zero]; omega), Onlys.refl _ _ _, _, _, Mix.start, hr0⟩
  case round =>
    clear hr0
    obtain ⟨k, hk, rfl, rfl, ho, l', vs, hmix, hr⟩ := hrel
    by_cases hkn : k < l.length
    · have hkz : (k : Int) < l.length := by omega
      have hget : l[k]? = some l[k] := List.getElem?_eq_getElem hkn
      have hk' : k < l'.length := by rw [hmix.len]; exact hkn
      have hmk := mkl_get (mk := mkd_Act) (ad := ad_Act) l k0 k _ hget
      have hs := adk_succ (ad := ad_Act) hget
      have hle := adk_le (ad := ad_Act) pos_Act l (k + 1)
      have hp := adk_pos (ad := ad_Act) pos_Act l k
      have hown := hr.own k _ (by rw [hmix.old k (Nat.le_refl _)]; exact hget)
      have C := hr.chg hk'
      have spn := hr.span k hk'
      rw [show fAct.n = 3 from rfl] at C
      have HR := Lib.hid hr
      have HM := Lib.hid hmix
      have HK := Lib.hid hmk
      clear hr hmix hk' hmk
      generalize l[k] = d at hget hs hown HK
      generalize hL : L k = Lk at C spn hown
      generalize hH : H k = Hk at C spn hown
      generalize hv : vs k = v at C hown
      have HL := Lib.hid hL
      have HH := Lib.hid hH
      clear hL hH hv
      obtain ⟨rfl, clo⟩ := upd_Act hown
      have CLO := Lib.hid clo
      clear clo
      have had : ad_Act d = 3 := rfl
      rw [had] at hs
      generalize hx : adk ad_Act l k = x at hs hle hp HK ⊢
      generalize hy : adk ad_Act l (k + 1) = y at hs hle
      have HY := Lib.hid hy
      clear hy hx
      obtain ⟨a0, a1, a2⟩ := C.cell.c3
      have f0 := C.free
      have HC := Lib.hid C
      clear C
      go_wp2
      refine ⟨⟨k + 1, by omega, by go_num, int_eq (by rw [HY.out]; omega), ?_, _, _, HM.out.step hkn HK.out, RRow.put HR.out (v := [.int .i64 (mkd_Act d (k0 + x)).1, .int .i64 (mkd_Act d (k0 + x)).2.1, .int .i64 (mkd_Act d (k0 + x)).2.2]) (by rw [HM.out.len]; exact hkn) ?_ rfl ?_⟩, by simp [intOf]; omega⟩
      · exact ho.trans ((((HC.out).set 0 _ (by simp) (by omega) (by omega)).set 1 _ (by simp) (by omega) (by omega)).set 2 _ (by simp) (by omega) (by omega)).only
      · rw [HL.out, HH.out]
        rw [show fAct.n = 3 from rfl]
        refine Chg.cast ((((HC.out).set 0 _ (by simp) (by omega) (by omega)).set 1 _ (by simp) (by omega) (by omega)).set 2 _ (by simp) (by omega) (by omega)) ?_
        simp [List.set, mkd_Act]
        all_goals (try (repeat' apply And.intro))
        all_goals (first | omega | (rw [Bool.eq_iff_iff]; simp; done) | (rw [Bool.eq_iff_iff]; simp; omega))
      · rw [HL.out, HH.out]
        exact CLO.out _ (mkd_Act d (k0 + x)) 
    · obtain rfl : k = l.length := by omega
      have HD := Lib.hid (hmix.done (mkl_len _ _))
      have HR := Lib.hid hr
      have HA := Lib.hid (adk_all (ad := ad_Act) l)
      clear hr hmix
      go_wp2
      go_ret
      refine ⟨ret_intG (by rw [HA.out]), ho, ?_⟩
      have hr := HR.out
      rw [HD.out] at hr
      exact ⟨by rw [mkl_len]; unfold maxLen; omega, fun _ => ⟨b, off, rfl, _, _, _, hr⟩⟩
set_option maxHeartbeats 1600000 in
set_option maxRecDepth 100000 in
theorem held_ActS (A : Option Addr) (c B : Nat) (l : List DAct) (k0 : Int) (w : World) (h0 : 0 ≤ k0) (h1 : k0 + adl ad_Act l ≤ 1099511627776) (h : RAt fAct w B A (mkl mkd_Act ad_Act l k0)) :
    Calls Try.prog 130 #[.slice A l.length c, .int .i64 k0] w fun e w' => e = .returned (.int .i64 (k0 + adl ad_Act l)) ∧ w = w' := by
  obtain ⟨hmx, hc0⟩ := h
  rw [mkl_len] at hmx hc0
  unfold maxLen at hmx
  have HC := Lib.hid hc0
  clear hc0
  go_enter Try.func130, Try.ntmps130
  go_wp2
  go_loop [1, 5] (fun s i => ∃ k : Nat, k ≤ l.length ∧ i = .int .i64 k ∧ s = .int .i64 (k0 + adk ad_Act l k)) (fun _ i => l.length - (intOf i).toNat)
  case atStart => exact ⟨0, Nat.zero_le _, rfl, int_eq (by rw [adk_zero]; omega)⟩
  case round =>
    obtain ⟨k, hk, rfl, rfl⟩ := hrel
    by_cases hkn : k < l.length
    · obtain ⟨b, off, rfl, hbB, hc⟩ := HC.out (by omega)
      have hkz : (k : Int) < l.length := by omega
      have hget : l[k]? = some l[k] := List.getElem?_eq_getElem hkn
      obtain ⟨v, hv, hat⟩ := hc k _ (mkl_get (mk := mkd_Act) (ad := ad_Act) l k0 k _ hget)
      rw [show fAct.n = 3 from rfl] at hv
      have hs := adk_succ (ad := ad_Act) hget
      have hle := adk_le (ad := ad_Act) pos_Act l (k + 1)
      have hp := adk_pos (ad := ad_Act) pos_Act l k
      clear hc
      generalize l[k] = d at hget hs hat
      have had : ad_Act d = 3 := rfl
      rw [had] at hs
      clear had
      generalize hx : adk ad_Act l k = x at hs hle hp hat ⊢
      generalize hy : adk ad_Act l (k + 1) = y at hs hle
      have HY := Lib.hid hy
      clear hy hx
      have ev := at_Act hat
      subst ev
      simp only [mkd_Act] at hv
      obtain ⟨a0, a1, a2⟩ := hv.c3
      clear hv hget hat
      go_wp2
      exact ⟨⟨k + 1, by omega, by go_num, int_eq (by rw [HY.out]; omega)⟩, by simp [intOf]; omega⟩
    · obtain rfl : k = l.length := by omega
      have HA := Lib.hid (adk_all (ad := ad_Act) l)
      go_wp2
      go_ret
      exact ⟨ret_intG (by rw [HA.out]), rfl⟩
set_option maxHeartbeats 1600000 in
set_option maxRecDepth 100000 in
theorem mark_PutS (A : Option Addr) (c lo B : Nat) (l : List DPut) (k0 : Int) (w : World) (h0 : 0 ≤ k0) (h1 : k0 + adl ad_Put l ≤ 1099511627776) (h : ROwn fPut w lo B A l) :
    Calls Try.prog 69 #[.slice A l.length c, .int .i64 k0] w fun e w' => e = .returned (.int .i64 (k0 + adl ad_Put l)) ∧ Onlys lo B w w' ∧ ROwn fPut w' lo B A (mkl mkd_Put ad_Put l k0) := by
  have hmx := h.1
  unfold maxLen at hmx
  rcases Nat.eq_zero_or_pos l.length with hz | hpos
  · obtain rfl := List.eq_nil_of_length_eq_zero hz
    clear hz hmx
    go_enter Try.func69, Try.ntmps69
    go_wp2
    refine wp_loop_rounds 1 ?_; rw [rounds_succ]
    go_wp2
    go_ret
    exact ⟨ret_intG (by simp [adl]), Onlys.refl _ _ _, ROwn.nil⟩
  obtain ⟨b, off, rfl, vs0, L, H, hr0⟩ := h.2 hpos
  clear h
  have blo := hr0.rlo
  have bhi := hr0.rhi
  go_enter Try.func69, Try.ntmps69
  go_wp2
  go_loopw [1, 5] (fun s i wr => ∃ k : Nat, k ≤ l.length ∧ i = .int .i64 k ∧ s = .int .i64 (k0 + adk ad_Put l k) ∧ Onlys lo B w wr ∧ ∃ l' vs, Mix l (mkl mkd_Put ad_Put l k0) l' k ∧ RRow fPut wr lo B b off l' vs L H) (fun _ i _ => l.length - (intOf i).toNat)
  case atStart => exact ⟨0, Nat.zero_le _, rfl, int_eq (by rw [adk_zero]; omega), Onlys.refl _ _ _, _, _, Mix.start, hr0⟩
  case round =>
    clear hr0
    obtain ⟨k, hk, rfl, rfl, ho, l', vs, hmix, hr⟩ := hrel
    by_cases hkn : k < l.length
    · have hkz : (k : Int) < l.length := by omega
      have hget : l[k]? = some l[k] := List.getElem?_eq_getElem hkn
      have hk' : k < l'.length := by rw [hmix.len]; exact hkn
      have hmk := mkl_get (mk := mkd_Put) (ad := ad_Put) l k0 k _ hget
      have hs := adk_succ (ad := ad_Put) hget
      have hle := adk_le (ad := ad_Put) pos_Put l (k + 1)
      have hp := adk_pos (ad := ad_Put) pos_Put l k
      have hown := hr.own k _ (by rw [hmix.old k (Nat.le_refl _)]; exact hget)
      have C := hr.chg hk'
      have spn := hr.span k hk'
      rw [show fPut.n = 2 from rfl] at C
      have HR := Lib.hid hr
      have HM := Lib.hid hmix
      have HK := Lib.hid hmk
      clear hr hmix hk' hmk
      generalize l[k] = d at hget hs hown HK
      generalize hL : L k = Lk at C spn hown
      generalize hH : H k = Hk at C spn hown
      generalize hv : vs k = v at C hown
      have HL := Lib.hid hL
      have HH := Lib.hid hH
      clear hL hH hv
      obtain ⟨rfl, clo⟩ := upd_Put hown
      have CLO := Lib.hid clo
      clear clo
      have had : ad_Put d = 2 := rfl
      rw [had] at hs
      generalize hx : adk ad_Put l k = x at hs hle hp HK ⊢
      generalize hy : adk ad_Put l (k + 1) = y at hs hle
      have HY := Lib.hid hy
      clear hy hx
      obtain ⟨a0, a1⟩ := C.cell.c2
      have f0 := C.free
      have HC := Lib.hid C
      clear C
      go_wp2
      refine ⟨⟨k + 1, by omega, by go_num, int_eq (by rw [HY.out]; omega), ?_, _, _, HM.out.step hkn HK.out, RRow.put HR.out (v := [.int .i64 (mkd_Put d (k0 + x)).1, .int .i64 (mkd_Put d (k0 + x)).2]) (by rw [HM.out.len]; exact hkn) ?_ rfl ?_⟩, by simp [intOf]; omega⟩
      · exact ho.trans (((HC.out).set 0 _ (by simp) (by omega) (by omega)).set 1 _ (by simp) (by omega) (by omega)).only
      · rw [HL.out, HH.out]
        rw [show fPut.n = 2 from rfl]
        refine Chg.cast (((HC.out).set 0 _ (by simp) (by omega) (by omega)).set 1 _ (by simp) (by omega) (by omega)) ?_
        simp [List.set, mkd_Put]
        all_goals (try (repeat' apply And.intro))
        all_goals (first | omega | (rw [Bool.eq_iff_iff]; simp; done) | (rw [Bool.eq_iff_iff]; simp; omega))
      · rw [HL.out, HH.out]
        exact CLO.out _ (mkd_Put d (k0 + x)) 
    · obtain rfl : k = l.length := by omega
      have HD := Lib.hid (hmix.done (mkl_len _ _))
      have HR := Lib.hid hr
      have HA := Lib.hid (adk_all (ad := ad_Put) l)
      clear hr hmix
      go_wp2
      go_ret
      refine ⟨ret_intG (by rw [HA.out]), ho, ?_⟩
      have hr := HR.out
      rw [HD.out] at hr
      exact ⟨by rw [mkl_len]; unfold maxLen; omega, fun _ => ⟨b, off, rfl, _, _, _, hr⟩⟩
set_option maxHeartbeats 1600000 in
set_option maxRecDepth 100000 in
theorem held_PutS (A : Option Addr) (c B : Nat) (l : List DPut) (k0 : Int) (w : World) (h0 : 0 ≤ k0) (h1 : k0 + adl ad_Put l ≤ 1099511627776) (h : RAt fPut w B A (mkl mkd_Put ad_Put l k0)) :
    Calls Try.prog 70 #[.slice A l.length c, .int .i64 k0] w fun e w' => e = .returned (.int .i64 (k0 + adl ad_Put l)) ∧ w = w' := by
  obtain ⟨hmx, hc0⟩ := h
  rw [mkl_len] at hmx hc0
  unfold maxLen at hmx
  have HC := Lib.hid hc0
  clear hc0
  go_enter Try.func70, Try.ntmps70
  go_wp2
  go_loop [1, 5] (fun s i => ∃ k : Nat, k ≤ l.length ∧ i = .int .i64 k ∧ s = .int .i64 (k0 + adk ad_Put l k)) (fun _ i => l.length - (intOf i).toNat)
  case atStart => exact ⟨0, Nat.zero_le _, rfl, int_eq (by rw [adk_zero]; omega)⟩
  case round =>
    obtain ⟨k, hk, rfl, rfl⟩ := hrel
    by_cases hkn : k < l.length
    · obtain ⟨b, off, rfl, hbB, hc⟩ := HC.out (by omega)
      have hkz : (k : Int) < l.length := by omega
      have hget : l[k]? = some l[k] := List.getElem?_eq_getElem hkn
      obtain ⟨v, hv, hat⟩ := hc k _ (mkl_get (mk := mkd_Put) (ad := ad_Put) l k0 k _ hget)
      rw [show fPut.n = 2 from rfl] at hv
      have hs := adk_succ (ad := ad_Put) hget
      have hle := adk_le (ad := ad_Put) pos_Put l (k + 1)
      have hp := adk_pos (ad := ad_Put) pos_Put l k
      clear hc
      generalize l[k] = d at hget hs hat
      have had : ad_Put d = 2 := rfl
      rw [had] at hs
      clear had
      generalize hx : adk ad_Put l k = x at hs hle hp hat ⊢
      generalize hy : adk ad_Put l (k + 1) = y at hs hle
      have HY := Lib.hid hy
      clear hy hx
      have ev := at_Put hat
      subst ev
      simp only [mkd_Put] at hv
      obtain ⟨a0, a1⟩ := hv.c2
      clear hv hget hat
      go_wp2
      exact ⟨⟨k + 1, by omega, by go_num, int_eq (by rw [HY.out]; omega)⟩, by simp [intOf]; omega⟩
    · obtain rfl : k = l.length := by omega
      have HA := Lib.hid (adk_all (ad := ad_Put) l)
      go_wp2
      go_ret
      exact ⟨ret_intG (by rw [HA.out]), rfl⟩
end Go.Proofs.Ytkpkjcmoldkmmaa
