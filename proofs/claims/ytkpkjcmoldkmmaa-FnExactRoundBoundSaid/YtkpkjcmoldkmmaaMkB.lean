/- The laws' marking and looking again: commits. -/
import Derived.Test.YtkpkjcmoldkmmaaMkA
import Derived.Test.YtkpkjcmoldkmmaaGe
namespace Go.Proofs.Ytkpkjcmoldkmmaa
open Go.RowKit

def ad_Commit (d : DCommit) : Int := 4 + adl ad_Int d.2.2.2.2.1 + adl ad_Put d.2.2.2.2.2
def mkd_Commit (d : DCommit) (k : Int) : DCommit := (k, k + 1, k + 2, k + 3, mkl mkd_Int ad_Int d.2.2.2.2.1 (k + 4), mkl mkd_Put ad_Put d.2.2.2.2.2 (k + adl ad_Int d.2.2.2.2.1 + 4))
theorem pos_Commit (d : DCommit) : 0 ≤ ad_Commit d := by
  have := adl_pos pos_Int d.2.2.2.2.1
  have := adl_pos pos_Put d.2.2.2.2.2
  unfold ad_Commit
  omega
theorem ub_Commit (d : DCommit) : ad_Commit d ≤ 16 * (fCommit.cnt d : Int) + 16 := by
  have := adl_ub (F := intF) ub_Int d.2.2.2.2.1
  have := adl_ub (F := fPut) ub_Put d.2.2.2.2.2
  have e0 := cnt_Commit d
  unfold ad_Commit
  omega
theorem upd_Commit {w : World} {lo B : Nat} {d : DCommit} {vs : List Value} (h : fCommit.Own w lo B d vs) : ∃ (A4 : Option Addr) (c4 L4 H4 : Nat) (A5 : Option Addr) (c5 L5 H5 : Nat), vs = [.int .i64 d.1, .int .i64 d.2.1, .int .i64 d.2.2.1, .int .i64 d.2.2.2.1, .slice A4 (d.2.2.2.2.1).length c4, .slice A5 (d.2.2.2.2.2).length c5] ∧ (lo ≤ L4 ∧ H4 ≤ B) ∧ (lo ≤ L5 ∧ H5 ≤ B) ∧ (H4 ≤ L5 ∨ H5 ≤ L4) ∧ ROwn intF w L4 H4 A4 d.2.2.2.2.1 ∧ ROwn fPut w L5 H5 A5 d.2.2.2.2.2 ∧ ∀ (w' : World) (d' : DCommit), ROwn intF w' L4 H4 A4 d'.2.2.2.2.1 → ROwn fPut w' L5 H5 A5 d'.2.2.2.2.2 → fCommit.Own w' lo B d' [.int .i64 d'.1, .int .i64 d'.2.1, .int .i64 d'.2.2.1, .int .i64 d'.2.2.2.1, .slice A4 (d'.2.2.2.2.1).length c4, .slice A5 (d'.2.2.2.2.2).length c5] := by
  obtain ⟨x0, y0, P0, Q0, M0, N0, rfl, hd0, h0, x1, y1, P1, Q1, M1, N1, rfl, hd1, h1, x2, y2, P2, Q2, M2, N2, rfl, hd2, h2, x3, y3, P3, Q3, M3, N3, rfl, hd3, h3, x4, y4, P4, Q4, M4, N4, rfl, hd4, h4, h5⟩ := h
  cases h0
  cases h1
  cases h2
  cases h3
  obtain ⟨A4, c4, rfl, r4⟩ := h4
  obtain ⟨A5, c5, rfl, r5⟩ := h5
  exact ⟨A4, c4, P4, Q4, A5, c5, M4, N4, rfl, by omega, by omega, by omega, r4, r5, fun w' d' q4 q5 => ⟨[.int .i64 d'.1], _, P0, Q0, M0, N0, rfl, hd0, rfl, ⟨[.int .i64 d'.2.1], _, P1, Q1, M1, N1, rfl, hd1, rfl, ⟨[.int .i64 d'.2.2.1], _, P2, Q2, M2, N2, rfl, hd2, rfl, ⟨[.int .i64 d'.2.2.2.1], _, P3, Q3, M3, N3, rfl, hd3, rfl, ⟨[.slice A4 (d'.2.2.2.2.1).length c4], _, P4, Q4, M4, N4, rfl, hd4, ⟨A4, c4, rfl, q4⟩, ⟨A5, c5, rfl, q5⟩⟩⟩⟩⟩⟩⟩
set_option maxHeartbeats 1600000 in
set_option maxRecDepth 100000 in
theorem mark_CommitS (A : Option Addr) (c lo B : Nat) (l : List DCommit) (k0 : Int) (w : World) (h0 : 0 ≤ k0) (h1 : k0 + adl ad_Commit l ≤ 1099511627776) (h : ROwn fCommit w lo B A l) :
    Calls Try.prog 25 #[.slice A l.length c, .int .i64 k0] w fun e w' => e = .returned (.int .i64 (k0 + adl ad_Commit l)) ∧ Onlys lo B w w' ∧ ROwn fCommit w' lo B A (mkl mkd_Commit ad_Commit l k0) := by
  have hmx := h.1
  unfold maxLen at hmx
  rcases Nat.eq_zero_or_pos l.length with hz | hpos
  · obtain rfl := List.eq_nil_of_length_eq_zero hz
    clear hz hmx
    go_enter Try.func25, Try.ntmps25
    go_wp2
    refine wp_loop_rounds 1 ?_; rw [rounds_succ]
    go_wp2
    go_ret
    exact ⟨ret_intG (by simp [adl]), Onlys.refl _ _ _, ROwn.nil⟩
  obtain ⟨b, off, rfl, vs0, L, H, hr0⟩ := h.2 hpos
  clear h
  have blo := hr0.rlo
  have bhi := hr0.rhi
  go_enter Try.func25, Try.ntmps25
  go_wp2
  go_loopw [1, 5] (fun s i wr => ∃ k : Nat, k ≤ l.length ∧ i = .int .i64 k ∧ s = .int .i64 (k0 + adk ad_Commit l k) ∧ Onlys lo B w wr ∧ ∃ l' vs, Mix l (mkl mkd_Commit ad_Commit l k0) l' k ∧ RRow fCommit wr lo B b off l' vs L H) (fun _ i _ => l.length - (intOf i).toNat)
  case atStart => exact ⟨0, Nat.zero_le _, rfl, int_eq (by rw [adk_zero]; omega), Onlys.refl _ _ _, _, _, Mix.start, hr0⟩
  case round =>
    clear hr0
    obtain ⟨k, hk, rfl, rfl, ho, l', vs, hmix, hr⟩ := hrel
    by_cases hkn : k < l.length
    · have hkz : (k : Int) < l.length := by omega
      have hget : l[k]? = some l[k] := List.getElem?_eq_getElem hkn
      have hk' : k < l'.length := by rw [hmix.len]; exact hkn
      have hmk := mkl_get (mk := mkd_Commit) (ad := ad_Commit) l k0 k _ hget
      have hs := adk_succ (ad := ad_Commit) hget
      have hle := adk_le (ad := ad_Commit) pos_Commit l (k + 1)
      have hp := adk_pos (ad := ad_Commit) pos_Commit l k
      have hown := hr.own k _ (by rw [hmix.old k (Nat.le_refl _)]; exact hget)
      have C := hr.chg hk'
      have spn := hr.span k hk'
      rw [show fCommit.n = 6 from rfl] at C
      have HR := Lib.hid hr
      have HM := Lib.hid hmix
      have HK := Lib.hid hmk
      clear hr hmix hk' hmk
      generalize l[k] = d at hget hs hown HK
      generalize hL : L k = Lk at C spn hown
      generalize hH : H k = Hk at C spn hown
      generalize hv : vs k = v at C hown
      have HL := Lib.hid hL
      have HH := Lib.hid hH
      clear hL hH hv
      obtain ⟨A4, c4, L4, H4, A5, c5, L5, H5, rfl, bd4, bd5, dj0, r4, r5, clo⟩ := upd_Commit hown
      have CLO := Lib.hid clo
      clear clo
      have hps0 := adl_pos pos_Int d.2.2.2.2.1
      have hps1 := adl_pos pos_Put d.2.2.2.2.2
      have had : ad_Commit d = 4 + adl ad_Int d.2.2.2.2.1 + adl ad_Put d.2.2.2.2.2 := rfl
      rw [had] at hs
      generalize hx : adk ad_Commit l k = x at hs hle hp HK ⊢
      generalize hy : adk ad_Commit l (k + 1) = y at hs hle
      have HY := Lib.hid hy
      clear hy hx
      obtain ⟨a0, a1, a2, a3, a4, a5⟩ := C.cell.c6
      have f0 := C.free
      go_wp2_with fail
      clear a0 a1 a2 a3 a4 a5 f0
      refine (mark_IntS A4 c4 L4 H4 d.2.2.2.2.1 (k0 + x + 1 + 1 + 1 + 1) _ (by omega) (by omega) (ROwn.far (ROwn.far (ROwn.far (ROwn.far r4 _ (by show b < _ ∨ _ ≤ b; omega)) _ (by show b < _ ∨ _ ≤ b; omega)) _ (by show b < _ ∨ _ ≤ b; omega)) _ (by show b < _ ∨ _ ≤ b; omega))).mono ?_; rintro o w4 ⟨rfl, ho4, q4⟩
      have C := Chg.call (((((C).set 0 _ (by simp) (by omega) (by omega)).set 1 _ (by simp) (by omega) (by omega)).set 2 _ (by simp) (by omega) (by omega)).set 3 _ (by simp) (by omega) (by omega)) ho4 (by omega) (by omega) (by omega) (by omega) (by omega)
      have r5 := ROwn.only (ROwn.far (ROwn.far (ROwn.far (ROwn.far r5 _ (by show b < _ ∨ _ ≤ b; omega)) _ (by show b < _ ∨ _ ≤ b; omega)) _ (by show b < _ ∨ _ ≤ b; omega)) _ (by show b < _ ∨ _ ≤ b; omega)) ho4 (by omega)
      clear ho4 r4
      have cc4 := C.cell
      simp only [List.set] at cc4
      obtain ⟨a0, a1, a2, a3, a4, a5⟩ := RCells.c6 cc4
      clear cc4
      have f0 := C.free
      go_wp2_with fail
      clear a0 a1 a2 a3 a4 a5 f0
      refine (mark_PutS A5 c5 L5 H5 d.2.2.2.2.2 (k0 + x + 1 + 1 + 1 + 1 + adl ad_Int d.2.2.2.2.1) _ (by omega) (by omega) r5).mono ?_; rintro o w5 ⟨rfl, ho5, q5⟩
      have C := Chg.call (C) ho5 (by omega) (by omega) (by omega) (by omega) (by omega)
      have q4 := ROwn.only q4 ho5 (by omega)
      clear ho5 r5
      have cc5 := C.cell
      simp only [List.set] at cc5
      obtain ⟨a0, a1, a2, a3, a4, a5⟩ := RCells.c6 cc5
      clear cc5
      have f0 := C.free
      have HC := Lib.hid C
      clear C
      rw [show k0 + x + 1 + 1 + 1 + 1 = k0 + x + 4 by omega] at q4
      have Q4 := Lib.hid q4
      rw [show k0 + x + 1 + 1 + 1 + 1 + adl ad_Int d.2.2.2.2.1 = k0 + x + adl ad_Int d.2.2.2.2.1 + 4 by omega] at q5
      have Q5 := Lib.hid q5
      clear q4 q5
      go_wp2
      refine ⟨⟨k + 1, by omega, by go_num, int_eq (by rw [HY.out]; omega), ?_, _, _, HM.out.step hkn HK.out, RRow.put HR.out (v := [.int .i64 (mkd_Commit d (k0 + x)).1, .int .i64 (mkd_Commit d (k0 + x)).2.1, .int .i64 (mkd_Commit d (k0 + x)).2.2.1, .int .i64 (mkd_Commit d (k0 + x)).2.2.2.1, .slice A4 ((mkd_Commit d (k0 + x)).2.2.2.2.1).length c4, .slice A5 ((mkd_Commit d (k0 + x)).2.2.2.2.2).length c5]) (by rw [HM.out.len]; exact hkn) ?_ rfl ?_⟩, by simp [intOf]; omega⟩
      · exact ho.trans (HC.out).only
      · rw [HL.out, HH.out]
        rw [show fCommit.n = 6 from rfl]
        refine Chg.cast (HC.out) ?_
        simp [mkl_len, List.set, mkd_Commit]
        all_goals (try (repeat' apply And.intro))
        all_goals (first | omega | (rw [Bool.eq_iff_iff]; simp; done) | (rw [Bool.eq_iff_iff]; simp; omega))
      · rw [HL.out, HH.out]
        exact CLO.out _ (mkd_Commit d (k0 + x)) Q4.out Q5.out
    · obtain rfl : k = l.length := by omega
      have HD := Lib.hid (hmix.done (mkl_len _ _))
      have HR := Lib.hid hr
      have HA := Lib.hid (adk_all (ad := ad_Commit) l)
      clear hr hmix
      go_wp2
      go_ret
      refine ⟨ret_intG (by rw [HA.out]), ho, ?_⟩
      have hr := HR.out
      rw [HD.out] at hr
      exact ⟨by rw [mkl_len]; unfold maxLen; omega, fun _ => ⟨b, off, rfl, _, _, _, hr⟩⟩
set_option maxHeartbeats 1600000 in
set_option maxRecDepth 100000 in
theorem held_CommitS (A : Option Addr) (c B : Nat) (l : List DCommit) (k0 : Int) (w : World) (h0 : 0 ≤ k0) (h1 : k0 + adl ad_Commit l ≤ 1099511627776) (h : RAt fCommit w B A (mkl mkd_Commit ad_Commit l k0)) :
    Calls Try.prog 26 #[.slice A l.length c, .int .i64 k0] w fun e w' => e = .returned (.int .i64 (k0 + adl ad_Commit l)) ∧ w = w' := by
  obtain ⟨hmx, hc0⟩ := h
  rw [mkl_len] at hmx hc0
  unfold maxLen at hmx
  have HC := Lib.hid hc0
  clear hc0
  go_enter Try.func26, Try.ntmps26
  go_wp2
  go_loop [1, 5] (fun s i => ∃ k : Nat, k ≤ l.length ∧ i = .int .i64 k ∧ s = .int .i64 (k0 + adk ad_Commit l k)) (fun _ i => l.length - (intOf i).toNat)
  case atStart => exact ⟨0, Nat.zero_le _, rfl, int_eq (by rw [adk_zero]; omega)⟩
  case round =>
    obtain ⟨k, hk, rfl, rfl⟩ := hrel
    by_cases hkn : k < l.length
    · obtain ⟨b, off, rfl, hbB, hc⟩ := HC.out (by omega)
      have hkz : (k : Int) < l.length := by omega
      have hget : l[k]? = some l[k] := List.getElem?_eq_getElem hkn
      obtain ⟨v, hv, hat⟩ := hc k _ (mkl_get (mk := mkd_Commit) (ad := ad_Commit) l k0 k _ hget)
      rw [show fCommit.n = 6 from rfl] at hv
      have hs := adk_succ (ad := ad_Commit) hget
      have hle := adk_le (ad := ad_Commit) pos_Commit l (k + 1)
      have hp := adk_pos (ad := ad_Commit) pos_Commit l k
      clear hc
      generalize l[k] = d at hget hs hat
      have hps0 := adl_pos pos_Int d.2.2.2.2.1
      have hps1 := adl_pos pos_Put d.2.2.2.2.2
      have had : ad_Commit d = 4 + adl ad_Int d.2.2.2.2.1 + adl ad_Put d.2.2.2.2.2 := rfl
      rw [had] at hs
      clear had
      generalize hx : adk ad_Commit l k = x at hs hle hp hat ⊢
      generalize hy : adk ad_Commit l (k + 1) = y at hs hle
      have HY := Lib.hid hy
      clear hy hx
      obtain ⟨A4, c4, A5, c5, rfl, q4, q5⟩ := at_Commit hat
      simp only [mkd_Commit, mkl_len] at hv
      obtain ⟨a0, a1, a2, a3, a4, a5⟩ := hv.c6
      clear hv hget
      have q4 : RAt intF w B A4 (mkl mkd_Int ad_Int d.2.2.2.2.1 (k0 + x + 4)) := q4
      rw [show k0 + x + 4 = k0 + x + 1 + 1 + 1 + 1 by omega] at q4
      have q5 : RAt fPut w B A5 (mkl mkd_Put ad_Put d.2.2.2.2.2 (k0 + x + adl ad_Int d.2.2.2.2.1 + 4)) := q5
      rw [show k0 + x + adl ad_Int d.2.2.2.2.1 + 4 = k0 + x + 1 + 1 + 1 + 1 + adl ad_Int d.2.2.2.2.1 by omega] at q5
      go_wp2_with fail
      refine (held_IntS A4 c4 B d.2.2.2.2.1 (k0 + x + 1 + 1 + 1 + 1) _ (by omega) (by omega) q4).mono ?_; rintro o w4 ⟨rfl, rfl⟩
      go_wp2_with fail
      refine (held_PutS A5 c5 B d.2.2.2.2.2 (k0 + x + 1 + 1 + 1 + 1 + adl ad_Int d.2.2.2.2.1) _ (by omega) (by omega) q5).mono ?_; rintro o w5 ⟨rfl, rfl⟩
      go_wp2
      exact ⟨⟨k + 1, by omega, by go_num, int_eq (by rw [HY.out]; omega)⟩, by simp [intOf]; omega⟩
    · obtain rfl : k = l.length := by omega
      have HA := Lib.hid (adk_all (ad := ad_Commit) l)
      go_wp2
      go_ret
      exact ⟨ret_intG (by rw [HA.out]), rfl⟩
end Go.Proofs.Ytkpkjcmoldkmmaa
