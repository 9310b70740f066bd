/- The laws' marking and looking again: slices of holds, wants, reads. -/
import Derived.Test.YtkpkjcmoldkmmaaMkA
namespace Go.Proofs.Ytkpkjcmoldkmmaa
open Go.RowKit

theorem upd_Word {w : World} {lo B : Nat} {d : DWord} {vs : List Value} (h : fWord.Own w lo B d vs) : vs = [.int .i64 d.1, .int .i64 d.2.1, .bool d.2.2] ∧ ∀ (w' : World) (d' : DWord), fWord.Own w' lo B d' [.int .i64 d'.1, .int .i64 d'.2.1, .bool d'.2.2] := by
  obtain ⟨x0, y0, P0, Q0, M0, N0, rfl, hd0, h0, x1, y1, P1, Q1, M1, N1, rfl, hd1, h1, h2⟩ := h
  cases h0
  cases h1
  cases h2
  exact ⟨rfl, fun w' d' => ⟨[.int .i64 d'.1], _, P0, Q0, M0, N0, rfl, hd0, rfl, ⟨[.int .i64 d'.2.1], _, P1, Q1, M1, N1, rfl, hd1, rfl, rfl⟩⟩⟩
def ad_Hold (_d : DHold) : Int := 2
def mkd_Hold (_d : DHold) (k : Int) : DHold := (k, decide ((k + 1) % 3 = 0))
theorem pos_Hold (d : DHold) : 0 ≤ ad_Hold d := by
  unfold ad_Hold
  omega
theorem ub_Hold (d : DHold) : ad_Hold d ≤ 16 * (fHold.cnt d : Int) + 16 := by
  unfold ad_Hold
  omega
theorem upd_Hold {w : World} {lo B : Nat} {d : DHold} {vs : List Value} (h : fHold.Own w lo B d vs) : vs = [.int .i64 d.1, .bool d.2] ∧ ∀ (w' : World) (d' : DHold), fHold.Own w' lo B d' [.int .i64 d'.1, .bool d'.2] := by
  obtain ⟨x0, y0, P0, Q0, M0, N0, rfl, hd0, h0, h1⟩ := h
  cases h0
  cases h1
  exact ⟨rfl, fun w' d' => ⟨[.int .i64 d'.1], _, P0, Q0, M0, N0, rfl, hd0, rfl, rfl⟩⟩
def ad_Want (_d : DWant) : Int := 2
def mkd_Want (_d : DWant) (k : Int) : DWant := (k, decide ((k + 1) % 3 = 0))
theorem pos_Want (d : DWant) : 0 ≤ ad_Want d := by
  unfold ad_Want
  omega
theorem ub_Want (d : DWant) : ad_Want d ≤ 16 * (fWant.cnt d : Int) + 16 := by
  unfold ad_Want
  omega
theorem upd_Want {w : World} {lo B : Nat} {d : DWant} {vs : List Value} (h : fWant.Own w lo B d vs) : vs = [.int .i64 d.1, .bool d.2] ∧ ∀ (w' : World) (d' : DWant), fWant.Own w' lo B d' [.int .i64 d'.1, .bool d'.2] := by
  obtain ⟨x0, y0, P0, Q0, M0, N0, rfl, hd0, h0, h1⟩ := h
  cases h0
  cases h1
  exact ⟨rfl, fun w' d' => ⟨[.int .i64 d'.1], _, P0, Q0, M0, N0, rfl, hd0, rfl, rfl⟩⟩
def ad_Seen (_d : DSeen) : Int := 5
def mkd_Seen (_d : DSeen) (k : Int) : DSeen := (k, (k + 1, k + 2, decide ((k + 3) % 3 = 0)), k + 4)
theorem pos_Seen (d : DSeen) : 0 ≤ ad_Seen d := by
  unfold ad_Seen
  omega
theorem ub_Seen (d : DSeen) : ad_Seen d ≤ 16 * (fSeen.cnt d : Int) + 16 := by
  unfold ad_Seen
  omega
theorem upd_Seen {w : World} {lo B : Nat} {d : DSeen} {vs : List Value} (h : fSeen.Own w lo B d vs) : vs = [.int .i64 d.1, .int .i64 d.2.1.1, .int .i64 d.2.1.2.1, .bool d.2.1.2.2, .int .i64 d.2.2] ∧ ∀ (w' : World) (d' : DSeen), fSeen.Own w' lo B d' [.int .i64 d'.1, .int .i64 d'.2.1.1, .int .i64 d'.2.1.2.1, .bool d'.2.1.2.2, .int .i64 d'.2.2] := by
  obtain ⟨x0, y0, P0, Q0, M0, N0, rfl, hd0, h0, x1, y1, P1, Q1, M1, N1, rfl, hd1, h1, h2⟩ := h
  cases h0
  obtain ⟨rfl, clo1⟩ := upd_Word h1
  cases h2
  exact ⟨rfl, fun w' d' => ⟨[.int .i64 d'.1], _, P0, Q0, M0, N0, rfl, hd0, rfl, ⟨[.int .i64 d'.2.1.1, .int .i64 d'.2.1.2.1, .bool d'.2.1.2.2], _, P1, Q1, M1, N1, rfl, hd1, (clo1 w' d'.2.1), rfl⟩⟩⟩
set_option maxHeartbeats 1600000 in
set_option maxRecDepth 100000 in
theorem mark_HoldS (A : Option Addr) (c lo B : Nat) (l : List DHold) (k0 : Int) (w : World) (h0 : 0 ≤ k0) (h1 : k0 + adl ad_Hold l ≤ 1099511627776) (h : ROwn fHold w lo B A l) :
    Calls Try.prog 128 #[.slice A l.length c, .int .i64 k0] w fun e w' => e = .returned (.int .i64 (k0 + adl ad_Hold l)) ∧ Onlys lo B w w' ∧ ROwn fHold w' lo B A (mkl mkd_Hold ad_Hold l k0) := by
  have hmx := h.1
  unfold maxLen at hmx
  rcases Nat.eq_zero_or_pos l.length with hz | hpos
  · obtain rfl := List.eq_nil_of_length_eq_zero hz
    clear hz hmx
    go_enter Try.func128, Try.ntmps128
    go_wp2
    refine wp_loop_rounds 1 ?_; rw [rounds_succ]
    go_wp2
    go_ret
    exact ⟨ret_intG (by simp [adl]), Onlys.refl _ _ _, ROwn.nil⟩
  obtain ⟨b, off, rfl, vs0, L, H, hr0⟩ := h.2 hpos
  clear h
  have blo := hr0.rlo
  have bhi := hr0.rhi
  go_enter Try.func128, Try.ntmps128
  go_wp2
  go_loopw [1, 5] (fun s i wr => ∃ k : Nat, k ≤ l.length ∧ i = .int .i64 k ∧ s = .int .i64 (k0 + adk ad_Hold l k) ∧ Onlys lo B w wr ∧ ∃ l' vs, Mix l (mkl mkd_Hold ad_Hold l k0) l' k ∧ RRow fHold wr lo B b off l' vs L H) (fun _ i _ => l.length - (intOf i).toNat)
  case atStart => exact ⟨0, Nat.zero_le _, rfl, int_eq (by rw [adk_zero]; omega), Onlys.refl _ _ _, _, _, Mix.start, hr0⟩
  case round =>
    clear hr0
    obtain ⟨k, hk, rfl, rfl, ho, l', vs, hmix, hr⟩ := hrel
    by_cases hkn : k < l.length
    · have hkz : (k : Int) < l.length := by omega
      have hget : l[k]? = some l[k] := List.getElem?_eq_getElem hkn
      have hk' : k < l'.length := by rw [hmix.len]; exact hkn
      have hmk := mkl_get (mk := mkd_Hold) (ad := ad_Hold) l k0 k _ hget
      have hs := adk_succ (ad := ad_Hold) hget
      have hle := adk_le (ad := ad_Hold) pos_Hold l (k + 1)
      have hp := adk_pos (ad := ad_Hold) pos_Hold l k
      have hown := hr.own k _ (by rw [hmix.old k (Nat.le_refl _)]; exact hget)
      have C := hr.chg hk'
      have spn := hr.span k hk'
      rw [show fHold.n = 2 from rfl] at C
      have HR := Lib.hid hr
      have HM := Lib.hid hmix
      have HK := Lib.hid hmk
      clear hr hmix hk' hmk
      generalize l[k] = d at hget hs hown HK
      generalize hL : L k = Lk at C spn hown
      generalize hH : H k = Hk at C spn hown
      generalize hv : vs k = v at C hown
      have HL := Lib.hid hL
      have HH := Lib.hid hH
      clear hL hH hv
      obtain ⟨rfl, clo⟩ := upd_Hold hown
      have CLO := Lib.hid clo
      clear clo
      have had : ad_Hold d = 2 := rfl
      rw [had] at hs
      generalize hx : adk ad_Hold l k = x at hs hle hp HK ⊢
      generalize hy : adk ad_Hold l (k + 1) = y at hs hle
      have HY := Lib.hid hy
      clear hy hx
      obtain ⟨a0, a1⟩ := C.cell.c2
      have f0 := C.free
      have HC := Lib.hid C
      clear C
      go_wp2
      refine ⟨⟨k + 1, by omega, by go_num, int_eq (by rw [HY.out]; omega), ?_, _, _, HM.out.step hkn HK.out, RRow.put HR.out (v := [.int .i64 (mkd_Hold d (k0 + x)).1, .bool (mkd_Hold d (k0 + x)).2]) (by rw [HM.out.len]; exact hkn) ?_ rfl ?_⟩, by simp [intOf]; omega⟩
      · exact ho.trans (((HC.out).set 0 _ (by simp) (by omega) (by omega)).set 1 _ (by simp) (by omega) (by omega)).only
      · rw [HL.out, HH.out]
        rw [show fHold.n = 2 from rfl]
        refine Chg.cast (((HC.out).set 0 _ (by simp) (by omega) (by omega)).set 1 _ (by simp) (by omega) (by omega)) ?_
        simp [List.set, mkd_Hold]
        all_goals (try (repeat' apply And.intro))
        all_goals (first | omega | (rw [Bool.eq_iff_iff]; simp; done) | (rw [Bool.eq_iff_iff]; simp; omega))
      · rw [HL.out, HH.out]
        exact CLO.out _ (mkd_Hold d (k0 + x)) 
    · obtain rfl : k = l.length := by omega
      have HD := Lib.hid (hmix.done (mkl_len _ _))
      have HR := Lib.hid hr
      have HA := Lib.hid (adk_all (ad := ad_Hold) l)
      clear hr hmix
      go_wp2
      go_ret
      refine ⟨ret_intG (by rw [HA.out]), ho, ?_⟩
      have hr := HR.out
      rw [HD.out] at hr
      exact ⟨by rw [mkl_len]; unfold maxLen; omega, fun _ => ⟨b, off, rfl, _, _, _, hr⟩⟩
set_option maxHeartbeats 1600000 in
set_option maxRecDepth 100000 in
theorem held_HoldS (A : Option Addr) (c B : Nat) (l : List DHold) (k0 : Int) (w : World) (h0 : 0 ≤ k0) (h1 : k0 + adl ad_Hold l ≤ 1099511627776) (h : RAt fHold w B A (mkl mkd_Hold ad_Hold l k0)) :
    Calls Try.prog 129 #[.slice A l.length c, .int .i64 k0] w fun e w' => e = .returned (.int .i64 (k0 + adl ad_Hold l)) ∧ w = w' := by
  obtain ⟨hmx, hc0⟩ := h
  rw [mkl_len] at hmx hc0
  unfold maxLen at hmx
  have HC := Lib.hid hc0
  clear hc0
  go_enter Try.func129, Try.ntmps129
  go_wp2
  go_loop [1, 5] (fun s i => ∃ k : Nat, k ≤ l.length ∧ i = .int .i64 k ∧ s = .int .i64 (k0 + adk ad_Hold l k)) (fun _ i => l.length - (intOf i).toNat)
  case atStart => exact ⟨0, Nat.zero_le _, rfl, int_eq (by rw [adk_zero]; omega)⟩
  case round =>
    obtain ⟨k, hk, rfl, rfl⟩ := hrel
    by_cases hkn : k < l.length
    · obtain ⟨b, off, rfl, hbB, hc⟩ := HC.out (by omega)
      have hkz : (k : Int) < l.length := by omega
      have hget : l[k]? = some l[k] := List.getElem?_eq_getElem hkn
      obtain ⟨v, hv, hat⟩ := hc k _ (mkl_get (mk := mkd_Hold) (ad := ad_Hold) l k0 k _ hget)
      rw [show fHold.n = 2 from rfl] at hv
      have hs := adk_succ (ad := ad_Hold) hget
      have hle := adk_le (ad := ad_Hold) pos_Hold l (k + 1)
      have hp := adk_pos (ad := ad_Hold) pos_Hold l k
      clear hc
      generalize l[k] = d at hget hs hat
      have had : ad_Hold d = 2 := rfl
      rw [had] at hs
      clear had
      generalize hx : adk ad_Hold l k = x at hs hle hp hat ⊢
      generalize hy : adk ad_Hold l (k + 1) = y at hs hle
      have HY := Lib.hid hy
      clear hy hx
      have ev := at_Hold hat
      subst ev
      simp only [mkd_Hold] at hv
      obtain ⟨a0, a1⟩ := hv.c2
      clear hv hget hat
      by_cases b1 : (k0 + x + 1) % 3 = 0
      · rw [decide_eq_true b1] at a1
        go_wp2
        exact ⟨⟨k + 1, by omega, by go_num, int_eq (by rw [HY.out]; omega)⟩, by simp [intOf]; omega⟩
      · rw [decide_eq_false b1] at a1
        go_wp2
        exact ⟨⟨k + 1, by omega, by go_num, int_eq (by rw [HY.out]; omega)⟩, by simp [intOf]; omega⟩
    · obtain rfl : k = l.length := by omega
      have HA := Lib.hid (adk_all (ad := ad_Hold) l)
      go_wp2
      go_ret
      exact ⟨ret_intG (by rw [HA.out]), rfl⟩
set_option maxHeartbeats 1600000 in
set_option maxRecDepth 100000 in
theorem mark_WantS (A : Option Addr) (c lo B : Nat) (l : List DWant) (k0 : Int) (w : World) (h0 : 0 ≤ k0) (h1 : k0 + adl ad_Want l ≤ 1099511627776) (h : ROwn fWant w lo B A l) :
    Calls Try.prog 97 #[.slice A l.length c, .int .i64 k0] w fun e w' => e = .returned (.int .i64 (k0 + adl ad_Want l)) ∧ Onlys lo B w w' ∧ ROwn fWant w' lo B A (mkl mkd_Want ad_Want l k0) := by
  have hmx := h.1
  unfold maxLen at hmx
  rcases Nat.eq_zero_or_pos l.length with hz | hpos
  · obtain rfl := List.eq_nil_of_length_eq_zero hz
    clear hz hmx
    go_enter Try.func97, Try.ntmps97
    go_wp2
    refine wp_loop_rounds 1 ?_; rw [rounds_succ]
    go_wp2
    go_ret
    exact ⟨ret_intG (by simp [adl]), Onlys.refl _ _ _, ROwn.nil⟩
  obtain ⟨b, off, rfl, vs0, L, H, hr0⟩ := h.2 hpos
  clear h
  have blo := hr0.rlo
  have bhi := hr0.rhi
  go_enter Try.func97, Try.ntmps97
  go_wp2
  go_loopw [1, 5] (fun s i wr => ∃ k : Nat, k ≤ l.length ∧ i = .int .i64 k ∧ s = .int .i64 (k0 + adk ad_Want l k) ∧ Onlys lo B w wr ∧ ∃ l' vs, Mix l (mkl mkd_Want ad_Want l k0) l' k ∧ RRow fWant wr lo B b off l' vs L H) (fun _ i _ => l.length - (intOf i).toNat)
  case atStart => exact ⟨0, Nat.zero_le _, rfl, int_eq (by rw [adk_zero]; omega), Onlys.refl _ _ _, _, _, Mix.start, hr0⟩
  case round =>
    clear hr0
    obtain ⟨k, hk, rfl, rfl, ho, l', vs, hmix, hr⟩ := hrel
    by_cases hkn : k < l.length
    · have hkz : (k : Int) < l.length := by omega
      have hget : l[k]? = some l[k] := List.getElem?_eq_getElem hkn
      have hk' : k < l'.length := by rw [hmix.len]; exact hkn
      have hmk := mkl_get (mk := mkd_Want) (ad := ad_Want) l k0 k _ hget
      have hs := adk_succ (ad := ad_Want) hget
      have hle := adk_le (ad := ad_Want) pos_Want l (k + 1)
      have hp := adk_pos (ad := ad_Want) pos_Want l k
      have hown := hr.own k _ (by rw [hmix.old k (Nat.le_refl _)]; exact hget)
      have C := hr.chg hk'
      have spn := hr.span k hk'
      rw [show fWant.n = 2 from rfl] at C
      have HR := Lib.hid hr
      have HM := Lib.hid hmix
      have HK := Lib.hid hmk
      clear hr hmix hk' hmk
      generalize l[k] = d at hget hs hown HK
      generalize hL : L k = Lk at C spn hown
      generalize hH : H k = Hk at C spn hown
      generalize hv : vs k = v at C hown
      have HL := Lib.hid hL
      have HH := Lib.hid hH
      clear hL hH hv
      obtain ⟨rfl, clo⟩ := upd_Want hown
      have CLO := Lib.hid clo
      clear clo
      have had : ad_Want d = 2 := rfl
      rw [had] at hs
      generalize hx : adk ad_Want l k = x at hs hle hp HK ⊢
      generalize hy : adk ad_Want l (k + 1) = y at hs hle
      have HY := Lib.hid hy
      clear hy hx
      obtain ⟨a0, a1⟩ := C.cell.c2
      have f0 := C.free
      have HC := Lib.hid C
      clear C
      go_wp2
      refine ⟨⟨k + 1, by omega, by go_num, int_eq (by rw [HY.out]; omega), ?_, _, _, HM.out.step hkn HK.out, RRow.put HR.out (v := [.int .i64 (mkd_Want d (k0 + x)).1, .bool (mkd_Want d (k0 + x)).2]) (by rw [HM.out.len]; exact hkn) ?_ rfl ?_⟩, by simp [intOf]; omega⟩
      · exact ho.trans (((HC.out).set 0 _ (by simp) (by omega) (by omega)).set 1 _ (by simp) (by omega) (by omega)).only
      · rw [HL.out, HH.out]
        rw [show fWant.n = 2 from rfl]
        refine Chg.cast (((HC.out).set 0 _ (by simp) (by omega) (by omega)).set 1 _ (by simp) (by omega) (by omega)) ?_
        simp [List.set, mkd_Want]
        all_goals (try (repeat' apply And.intro))
        all_goals (first | omega | (rw [Bool.eq_iff_iff]; simp; done) | (rw [Bool.eq_iff_iff]; simp; omega))
      · rw [HL.out, HH.out]
        exact CLO.out _ (mkd_Want d (k0 + x)) 
    · obtain rfl : k = l.length := by omega
      have HD := Lib.hid (hmix.done (mkl_len _ _))
      have HR := Lib.hid hr
      have HA := Lib.hid (adk_all (ad := ad_Want) l)
      clear hr hmix
      go_wp2
      go_ret
      refine ⟨ret_intG (by rw [HA.out]), ho, ?_⟩
      have hr := HR.out
      rw [HD.out] at hr
      exact ⟨by rw [mkl_len]; unfold maxLen; omega, fun _ => ⟨b, off, rfl, _, _, _, hr⟩⟩
set_option maxHeartbeats 1600000 in
set_option maxRecDepth 100000 in
theorem held_WantS (A : Option Addr) (c B : Nat) (l : List DWant) (k0 : Int) (w : World) (h0 : 0 ≤ k0) (h1 : k0 + adl ad_Want l ≤ 1099511627776) (h : RAt fWant w B A (mkl mkd_Want ad_Want l k0)) :
    Calls Try.prog 101 #[.slice A l.length c, .int .i64 k0] w fun e w' => e = .returned (.int .i64 (k0 + adl ad_Want l)) ∧ w = w' := by
  obtain ⟨hmx, hc0⟩ := h
  rw [mkl_len] at hmx hc0
  unfold maxLen at hmx
  have HC := Lib.hid hc0
  clear hc0
  go_enter Try.func101, Try.ntmps101
  go_wp2
  go_loop [1, 5] (fun s i => ∃ k : Nat, k ≤ l.length ∧ i = .int .i64 k ∧ s = .int .i64 (k0 + adk ad_Want l k)) (fun _ i => l.length - (intOf i).toNat)
  case atStart => exact ⟨0, Nat.zero_le _, rfl, int_eq (by rw [adk_zero]; omega)⟩
  case round =>
    obtain ⟨k, hk, rfl, rfl⟩ := hrel
    by_cases hkn : k < l.length
    · obtain ⟨b, off, rfl, hbB, hc⟩ := HC.out (by omega)
      have hkz : (k : Int) < l.length := by omega
      have hget : l[k]? = some l[k] := List.getElem?_eq_getElem hkn
      obtain ⟨v, hv, hat⟩ := hc k _ (mkl_get (mk := mkd_Want) (ad := ad_Want) l k0 k _ hget)
      rw [show fWant.n = 2 from rfl] at hv
      have hs := adk_succ (ad := ad_Want) hget
      have hle := adk_le (ad := ad_Want) pos_Want l (k + 1)
      have hp := adk_pos (ad := ad_Want) pos_Want l k
      clear hc
      generalize l[k] = d at hget hs hat
      have had : ad_Want d = 2 := rfl
      rw [had] at hs
      clear had
      generalize hx : adk ad_Want l k = x at hs hle hp hat ⊢
      generalize hy : adk ad_Want l (k + 1) = y at hs hle
      have HY := Lib.hid hy
      clear hy hx
      have ev := at_Want hat
      subst ev
      simp only [mkd_Want] at hv
      obtain ⟨a0, a1⟩ := hv.c2
      clear hv hget hat
      by_cases b1 : (k0 + x + 1) % 3 = 0
      · rw [decide_eq_true b1] at a1
        go_wp2
        exact ⟨⟨k + 1, by omega, by go_num, int_eq (by rw [HY.out]; omega)⟩, by simp [intOf]; omega⟩
      · rw [decide_eq_false b1] at a1
        go_wp2
        exact ⟨⟨k + 1, by omega, by go_num, int_eq (by rw [HY.out]; omega)⟩, by simp [intOf]; omega⟩
    · obtain rfl : k = l.length := by omega
      have HA := Lib.hid (adk_all (ad := ad_Want) l)
      go_wp2
      go_ret
      exact ⟨ret_intG (by rw [HA.out]), rfl⟩
set_option maxHeartbeats 1600000 in
set_option maxRecDepth 100000 in
theorem mark_SeenS (A : Option Addr) (c lo B : Nat) (l : List DSeen) (k0 : Int) (w : World) (h0 : 0 ≤ k0) (h1 : k0 + adl ad_Seen l ≤ 1099511627776) (h : ROwn fSeen w lo B A l) :
    Calls Try.prog 98 #[.slice A l.length c, .int .i64 k0] w fun e w' => e = .returned (.int .i64 (k0 + adl ad_Seen l)) ∧ Onlys lo B w w' ∧ ROwn fSeen w' lo B A (mkl mkd_Seen ad_Seen l k0) := by
  have hmx := h.1
  unfold maxLen at hmx
  rcases Nat.eq_zero_or_pos l.length with hz | hpos
  · obtain rfl := List.eq_nil_of_length_eq_zero hz
    clear hz hmx
    go_enter Try.func98, Try.ntmps98
    go_wp2
    refine wp_loop_rounds 1 ?_; rw [rounds_succ]
    go_wp2
    go_ret
    exact ⟨ret_intG (by simp [adl]), Onlys.refl _ _ _, ROwn.nil⟩
  obtain ⟨b, off, rfl, vs0, L, H, hr0⟩ := h.2 hpos
  clear h
  have blo := hr0.rlo
  have bhi := hr0.rhi
  go_enter Try.func98, Try.ntmps98
  go_wp2
  go_loopw [1, 5] (fun s i wr => ∃ k : Nat, k ≤ l.length ∧ i = .int .i64 k ∧ s = .int .i64 (k0 + adk ad_Seen l k) ∧ Onlys lo B w wr ∧ ∃ l' vs, Mix l (mkl mkd_Seen ad_Seen l k0) l' k ∧ RRow fSeen wr lo B b off l' vs L H) (fun _ i _ => l.length - (intOf i).toNat)
  case atStart => exact ⟨0, Nat.zero_le _, rfl, int_eq (by rw [adk_zero]; omega), Onlys.refl _ _ _, _, _, Mix.start, hr0⟩
  case round =>
    clear hr0
    obtain ⟨k, hk, rfl, rfl, ho, l', vs, hmix, hr⟩ := hrel
    by_cases hkn : k < l.length
    · have hkz : (k : Int) < l.length := by omega
      have hget : l[k]? = some l[k] := List.getElem?_eq_getElem hkn
      have hk' : k < l'.length := by rw [hmix.len]; exact hkn
      have hmk := mkl_get (mk := mkd_Seen) (ad := ad_Seen) l k0 k _ hget
      have hs := adk_succ (ad := ad_Seen) hget
      have hle := adk_le (ad := ad_Seen) pos_Seen l (k + 1)
      have hp := adk_pos (ad := ad_Seen) pos_Seen l k
      have hown := hr.own k _ (by rw [hmix.old k (Nat.le_refl _)]; exact hget)
      have C := hr.chg hk'
      have spn := hr.span k hk'
      rw [show fSeen.n = 5 from rfl] at C
      have HR := Lib.hid hr
      have HM := Lib.hid hmix
      have HK := Lib.hid hmk
      clear hr hmix hk' hmk
      generalize l[k] = d at hget hs hown HK
      generalize hL : L k = Lk at C spn hown
      generalize hH : H k = Hk at C spn hown
      generalize hv : vs k = v at C hown
      have HL := Lib.hid hL
      have HH := Lib.hid hH
      clear hL hH hv
      obtain ⟨rfl, clo⟩ := upd_Seen hown
      have CLO := Lib.hid clo
      clear clo
      have had : ad_Seen d = 5 := rfl
      rw [had] at hs
      generalize hx : adk ad_Seen l k = x at hs hle hp HK ⊢
      generalize hy : adk ad_Seen l (k + 1) = y at hs hle
      have HY := Lib.hid hy
      clear hy hx
      obtain ⟨a0, a1, a2, a3, a4⟩ := C.cell.c5
      have f0 := C.free
      have HC := Lib.hid C
      clear C
      go_wp2
      refine ⟨⟨k + 1, by omega, by go_num, int_eq (by rw [HY.out]; omega), ?_, _, _, HM.out.step hkn HK.out, RRow.put HR.out (v := [.int .i64 (mkd_Seen d (k0 + x)).1, .int .i64 (mkd_Seen d (k0 + x)).2.1.1, .int .i64 (mkd_Seen d (k0 + x)).2.1.2.1, .bool (mkd_Seen d (k0 + x)).2.1.2.2, .int .i64 (mkd_Seen d (k0 + x)).2.2]) (by rw [HM.out.len]; exact hkn) ?_ rfl ?_⟩, by simp [intOf]; omega⟩
      · exact ho.trans ((((((HC.out).set 0 _ (by simp) (by omega) (by omega)).set 1 _ (by simp) (by omega) (by omega)).set 2 _ (by simp) (by omega) (by omega)).set 3 _ (by simp) (by omega) (by omega)).set 4 _ (by simp) (by omega) (by omega)).only
      · rw [HL.out, HH.out]
        rw [show fSeen.n = 5 from rfl]
        refine Chg.cast ((((((HC.out).set 0 _ (by simp) (by omega) (by omega)).set 1 _ (by simp) (by omega) (by omega)).set 2 _ (by simp) (by omega) (by omega)).set 3 _ (by simp) (by omega) (by omega)).set 4 _ (by simp) (by omega) (by omega)) ?_
        simp [List.set, mkd_Seen]
        all_goals (try (repeat' apply And.intro))
        all_goals (first | omega | (rw [Bool.eq_iff_iff]; simp; done) | (rw [Bool.eq_iff_iff]; simp; omega))
      · rw [HL.out, HH.out]
        exact CLO.out _ (mkd_Seen d (k0 + x)) 
    · obtain rfl : k = l.length := by omega
      have HD := Lib.hid (hmix.done (mkl_len _ _))
      have HR := Lib.hid hr
      have HA := Lib.hid (adk_all (ad := ad_Seen) l)
      clear hr hmix
      go_wp2
      go_ret
      refine ⟨ret_intG (by rw [HA.out]), ho, ?_⟩
      have hr := HR.out
      rw [HD.out] at hr
      exact ⟨by rw [mkl_len]; unfold maxLen; omega, fun _ => ⟨b, off, rfl, _, _, _, hr⟩⟩
set_option maxHeartbeats 1600000 in
set_option maxRecDepth 100000 in
theorem held_SeenS (A : Option Addr) (c B : Nat) (l : List DSeen) (k0 : Int) (w : World) (h0 : 0 ≤ k0) (h1 : k0 + adl ad_Seen l ≤ 1099511627776) (h : RAt fSeen w B A (mkl mkd_Seen ad_Seen l k0)) :
    Calls Try.prog 102 #[.slice A l.length c, .int .i64 k0] w fun e w' => e = .returned (.int .i64 (k0 + adl ad_Seen l)) ∧ w = w' := by
  obtain ⟨hmx, hc0⟩ := h
  rw [mkl_len] at hmx hc0
  unfold maxLen at hmx
  have HC := Lib.hid hc0
  clear hc0
  go_enter Try.func102, Try.ntmps102
  go_wp2
  go_loop [1, 5] (fun s i => ∃ k : Nat, k ≤ l.length ∧ i = .int .i64 k ∧ s = .int .i64 (k0 + adk ad_Seen l k)) (fun _ i => l.length - (intOf i).toNat)
  case atStart => exact ⟨0, Nat.zero_le _, rfl, int_eq (by rw [adk_zero]; omega)⟩
  case round =>
    obtain ⟨k, hk, rfl, rfl⟩ := hrel
    by_cases hkn : k < l.length
    · obtain ⟨b, off, rfl, hbB, hc⟩ := HC.out (by omega)
      have hkz : (k : Int) < l.length := by omega
      have hget : l[k]? = some l[k] := List.getElem?_eq_getElem hkn
      obtain ⟨v, hv, hat⟩ := hc k _ (mkl_get (mk := mkd_Seen) (ad := ad_Seen) l k0 k _ hget)
      rw [show fSeen.n = 5 from rfl] at hv
      have hs := adk_succ (ad := ad_Seen) hget
      have hle := adk_le (ad := ad_Seen) pos_Seen l (k + 1)
      have hp := adk_pos (ad := ad_Seen) pos_Seen l k
      clear hc
      generalize l[k] = d at hget hs hat
      have had : ad_Seen d = 5 := rfl
      rw [had] at hs
      clear had
      generalize hx : adk ad_Seen l k = x at hs hle hp hat ⊢
      generalize hy : adk ad_Seen l (k + 1) = y at hs hle
      have HY := Lib.hid hy
      clear hy hx
      have ev := at_Seen hat
      subst ev
      simp only [mkd_Seen] at hv
      obtain ⟨a0, a1, a2, a3, a4⟩ := hv.c5
      clear hv hget hat
      by_cases b3 : (k0 + x + 3) % 3 = 0
      · rw [decide_eq_true b3] at a3
        have bz3 : (k0 + x) % 3 = 0 := by omega
        have bw3 : (k0 + x + 1 + 1 + 1) % 3 = 0 := by omega
        go_wp2
        exact ⟨⟨k + 1, by omega, by go_num, int_eq (by rw [HY.out]; omega)⟩, by simp [intOf]; omega⟩
      · rw [decide_eq_false b3] at a3
        have bz3 : ¬ (k0 + x) % 3 = 0 := by omega
        have bw3 : ¬ (k0 + x + 1 + 1 + 1) % 3 = 0 := by omega
        go_wp2
        exact ⟨⟨k + 1, by omega, by go_num, int_eq (by rw [HY.out]; omega)⟩, by simp [intOf]; omega⟩
    · obtain rfl : k = l.length := by omega
      have HA := Lib.hid (adk_all (ad := ad_Seen) l)
      go_wp2
      go_ret
      exact ⟨ret_intG (by rw [HA.out]), rfl⟩
end Go.Proofs.Ytkpkjcmoldkmmaa
