/- The laws' marking and looking again: workers. -/
import Derived.Test.YtkpkjcmoldkmmaaGreatWfA
import Derived.Test.YtkpkjcmoldkmmaaGreatGe
namespace Go.Proofs.YtkpkjcmoldkmmaaGreat
open Go.RowKit

def ad_Worker (d : DWorker) : Int := 4 + adl ad_ActS d.1 + adl ad_Want d.2.2.2.2.2.1 + adl ad_Seen d.2.2.2.2.2.2.1 + adl ad_Put d.2.2.2.2.2.2.2.1 + adl ad_Int d.2.2.2.2.2.2.2.2
def mkd_Worker (d : DWorker) (k : Int) : DWorker := (mkl mkd_ActS ad_ActS d.1 (k), k + adl ad_ActS d.1, k + adl ad_ActS d.1 + 1, k + adl ad_ActS d.1 + 2, k + adl ad_ActS d.1 + 3, mkl mkd_Want ad_Want d.2.2.2.2.2.1 (k + adl ad_ActS d.1 + 4), mkl mkd_Seen ad_Seen d.2.2.2.2.2.2.1 (k + adl ad_ActS d.1 + adl ad_Want d.2.2.2.2.2.1 + 4), mkl mkd_Put ad_Put d.2.2.2.2.2.2.2.1 (k + adl ad_ActS d.1 + adl ad_Want d.2.2.2.2.2.1 + adl ad_Seen d.2.2.2.2.2.2.1 + 4), mkl mkd_Int ad_Int d.2.2.2.2.2.2.2.2 (k + adl ad_ActS d.1 + adl ad_Want d.2.2.2.2.2.1 + adl ad_Seen d.2.2.2.2.2.2.1 + adl ad_Put d.2.2.2.2.2.2.2.1 + 4))
theorem pos_Worker (d : DWorker) : 0 ≤ ad_Worker d := by
  have := adl_pos pos_ActS d.1
  have := adl_pos pos_Want d.2.2.2.2.2.1
  have := adl_pos pos_Seen d.2.2.2.2.2.2.1
  have := adl_pos pos_Put d.2.2.2.2.2.2.2.1
  have := adl_pos pos_Int d.2.2.2.2.2.2.2.2
  unfold ad_Worker
  omega
theorem ub_Worker (d : DWorker) : ad_Worker d ≤ 16 * (fWorker.cnt d : Int) + 16 := by
  have := adl_ub (F := (rowF fAct)) ub_ActS d.1
  have := adl_ub (F := fWant) ub_Want d.2.2.2.2.2.1
  have := adl_ub (F := fSeen) ub_Seen d.2.2.2.2.2.2.1
  have := adl_ub (F := fPut) ub_Put d.2.2.2.2.2.2.2.1
  have := adl_ub (F := intF) ub_Int d.2.2.2.2.2.2.2.2
  have e0 := cnt_Worker d
  unfold ad_Worker
  omega
set_option maxHeartbeats 3200000 in
theorem upd_Worker {w : World} {lo B : Nat} {d : DWorker} {vs : List Value} (h : fWorker.Own w lo B d vs) : ∃ (A0 : Option Addr) (c0 L0 H0 : Nat) (A5 : Option Addr) (c5 L5 H5 : Nat) (A6 : Option Addr) (c6 L6 H6 : Nat) (A7 : Option Addr) (c7 L7 H7 : Nat) (A8 : Option Addr) (c8 L8 H8 : Nat), vs = [.slice A0 (d.1).length c0, .int .i64 d.2.1, .int .i64 d.2.2.1, .int .i64 d.2.2.2.1, .int .i64 d.2.2.2.2.1, .slice A5 (d.2.2.2.2.2.1).length c5, .slice A6 (d.2.2.2.2.2.2.1).length c6, .slice A7 (d.2.2.2.2.2.2.2.1).length c7, .slice A8 (d.2.2.2.2.2.2.2.2).length c8] ∧ (lo ≤ L0 ∧ H0 ≤ B) ∧ (lo ≤ L5 ∧ H5 ≤ B) ∧ (lo ≤ L6 ∧ H6 ≤ B) ∧ (lo ≤ L7 ∧ H7 ≤ B) ∧ (lo ≤ L8 ∧ H8 ≤ B) ∧ (H0 ≤ L5 ∨ H5 ≤ L0) ∧ (H0 ≤ L6 ∨ H6 ≤ L0) ∧ (H0 ≤ L7 ∨ H7 ≤ L0) ∧ (H0 ≤ L8 ∨ H8 ≤ L0) ∧ (H5 ≤ L6 ∨ H6 ≤ L5) ∧ (H5 ≤ L7 ∨ H7 ≤ L5) ∧ (H5 ≤ L8 ∨ H8 ≤ L5) ∧ (H6 ≤ L7 ∨ H7 ≤ L6) ∧ (H6 ≤ L8 ∨ H8 ≤ L6) ∧ (H7 ≤ L8 ∨ H8 ≤ L7) ∧ ROwn (rowF fAct) w L0 H0 A0 d.1 ∧ ROwn fWant w L5 H5 A5 d.2.2.2.2.2.1 ∧ ROwn fSeen w L6 H6 A6 d.2.2.2.2.2.2.1 ∧ ROwn fPut w L7 H7 A7 d.2.2.2.2.2.2.2.1 ∧ ROwn intF w L8 H8 A8 d.2.2.2.2.2.2.2.2 ∧ ∀ (w' : World) (d' : DWorker), ROwn (rowF fAct) w' L0 H0 A0 d'.1 → ROwn fWant w' L5 H5 A5 d'.2.2.2.2.2.1 → ROwn fSeen w' L6 H6 A6 d'.2.2.2.2.2.2.1 → ROwn fPut w' L7 H7 A7 d'.2.2.2.2.2.2.2.1 → ROwn intF w' L8 H8 A8 d'.2.2.2.2.2.2.2.2 → fWorker.Own w' lo B d' [.slice A0 (d'.1).length c0, .int .i64 d'.2.1, .int .i64 d'.2.2.1, .int .i64 d'.2.2.2.1, .int .i64 d'.2.2.2.2.1, .slice A5 (d'.2.2.2.2.2.1).length c5, .slice A6 (d'.2.2.2.2.2.2.1).length c6, .slice A7 (d'.2.2.2.2.2.2.2.1).length c7, .slice A8 (d'.2.2.2.2.2.2.2.2).length c8] := by
  obtain ⟨x0, y0, P0, Q0, M0, N0, rfl, hd0, h0, x1, y1, P1, Q1, M1, N1, rfl, hd1, h1, x2, y2, P2, Q2, M2, N2, rfl, hd2, h2, x3, y3, P3, Q3, M3, N3, rfl, hd3, h3, x4, y4, P4, Q4, M4, N4, rfl, hd4, h4, x5, y5, P5, Q5, M5, N5, rfl, hd5, h5, x6, y6, P6, Q6, M6, N6, rfl, hd6, h6, x7, y7, P7, Q7, M7, N7, rfl, hd7, h7, h8⟩ := h
  obtain ⟨A0, c0, rfl, r0⟩ := h0
  cases h1
  cases h2
  cases h3
  cases h4
  obtain ⟨A5, c5, rfl, r5⟩ := h5
  obtain ⟨A6, c6, rfl, r6⟩ := h6
  obtain ⟨A7, c7, rfl, r7⟩ := h7
  obtain ⟨A8, c8, rfl, r8⟩ := h8
  exact ⟨A0, c0, P0, Q0, A5, c5, P5, Q5, A6, c6, P6, Q6, A7, c7, P7, Q7, A8, c8, M7, N7, rfl, by omega, by omega, by omega, by omega, by omega, by omega, by omega, by omega, by omega, by omega, by omega, by omega, by omega, by omega, by omega, r0, r5, r6, r7, r8, fun w' d' q0 q5 q6 q7 q8 => ⟨[.slice A0 (d'.1).length c0], _, P0, Q0, M0, N0, rfl, hd0, ⟨A0, c0, rfl, q0⟩, ⟨[.int .i64 d'.2.1], _, P1, Q1, M1, N1, rfl, hd1, rfl, ⟨[.int .i64 d'.2.2.1], _, P2, Q2, M2, N2, rfl, hd2, rfl, ⟨[.int .i64 d'.2.2.2.1], _, P3, Q3, M3, N3, rfl, hd3, rfl, ⟨[.int .i64 d'.2.2.2.2.1], _, P4, Q4, M4, N4, rfl, hd4, rfl, ⟨[.slice A5 (d'.2.2.2.2.2.1).length c5], _, P5, Q5, M5, N5, rfl, hd5, ⟨A5, c5, rfl, q5⟩, ⟨[.slice A6 (d'.2.2.2.2.2.2.1).length c6], _, P6, Q6, M6, N6, rfl, hd6, ⟨A6, c6, rfl, q6⟩, ⟨[.slice A7 (d'.2.2.2.2.2.2.2.1).length c7], _, P7, Q7, M7, N7, rfl, hd7, ⟨A7, c7, rfl, q7⟩, ⟨A8, c8, rfl, q8⟩⟩⟩⟩⟩⟩⟩⟩⟩⟩
set_option maxHeartbeats 12800000 in
set_option maxRecDepth 100000 in
theorem mark_WorkerS (A : Option Addr) (c lo B : Nat) (l : List DWorker) (k0 : Int) (w : World) (h0 : 0 ≤ k0) (h1 : k0 + adl ad_Worker l ≤ 1099511627776) (h : ROwn fWorker w lo B A l) :
    Calls Tryz.prog 53 #[.slice A l.length c, .int .i64 k0] w fun e w' => e = .returned (.int .i64 (k0 + adl ad_Worker l)) ∧ Onlys lo B w w' ∧ ROwn fWorker w' lo B A (mkl mkd_Worker ad_Worker l k0) := by
  have hmx := h.1
  unfold maxLen at hmx
  rcases Nat.eq_zero_or_pos l.length with hz | hpos
  · obtain rfl := List.eq_nil_of_length_eq_zero hz
    clear hz hmx
    go_enter Tryz.func53, Tryz.ntmps53
    go_wp2
    refine wp_loop_rounds 1 ?_; rw [rounds_succ]
    go_wp2
    go_ret
    exact ⟨ret_intG (by simp [adl]), Onlys.refl _ _ _, ROwn.nil⟩
  obtain ⟨b, off, rfl, vs0, L, H, hr0⟩ := h.2 hpos
  clear h
  have blo := hr0.rlo
  have bhi := hr0.rhi
  go_enter Tryz.func53, Tryz.ntmps53
  go_wp2
  go_loopw [1, 5] (fun s i wr => ∃ k : Nat, k ≤ l.length ∧ i = .int .i64 k ∧ s = .int .i64 (k0 + adk ad_Worker l k) ∧ Onlys lo B w wr ∧ ∃ l' vs, Mix l (mkl mkd_Worker ad_Worker l k0) l' k ∧ RRow fWorker wr lo B b off l' vs L H) (fun _ i _ => l.length - (intOf i).toNat)
  case atStart => exact ⟨0, Nat.zero_le _, rfl, int_eq (by rw [adk_zero]; omega), Onlys.refl _ _ _, _, _, Mix.start, hr0⟩
  case round =>
    clear hr0
    obtain ⟨k, hk, rfl, rfl, ho, l', vs, hmix, hr⟩ := hrel
    by_cases hkn : k < l.length
    · have hkz : (k : Int) < l.length := by omega
      have hget : l[k]? = some l[k] := List.getElem?_eq_getElem hkn
      have hk' : k < l'.length := by rw [hmix.len]; exact hkn
      have hmk := mkl_get (mk := mkd_Worker) (ad := ad_Worker) l k0 k _ hget
      have hs := adk_succ (ad := ad_Worker) hget
      have hle := adk_le (ad := ad_Worker) pos_Worker l (k + 1)
      have hp := adk_pos (ad := ad_Worker) pos_Worker l k
      have hown := hr.own k _ (by rw [hmix.old k (Nat.le_refl _)]; exact hget)
      have C := hr.chg hk'
      have spn := hr.span k hk'
      rw [show fWorker.n = 9 from rfl] at C
      have HR := Lib.hid hr
      have HM := Lib.hid hmix
      have HK := Lib.hid hmk
      clear hr hmix hk' hmk
      generalize l[k] = d at hget hs hown HK
      generalize hL : L k = Lk at C spn hown
      generalize hH : H k = Hk at C spn hown
      generalize hv : vs k = v at C hown
      have HL := Lib.hid hL
      have HH := Lib.hid hH
      clear hL hH hv
      obtain ⟨A0, c0, L0, H0, A5, c5, L5, H5, A6, c6, L6, H6, A7, c7, L7, H7, A8, c8, L8, H8, rfl, bd0, bd5, bd6, bd7, bd8, dj0, dj1, dj2, dj3, dj4, dj5, dj6, dj7, dj8, dj9, r0, r5, r6, r7, r8, clo⟩ := upd_Worker hown
      have CLO := Lib.hid clo
      clear clo
      have hps0 := adl_pos pos_ActS d.1
      have hps1 := adl_pos pos_Want d.2.2.2.2.2.1
      have hps2 := adl_pos pos_Seen d.2.2.2.2.2.2.1
      have hps3 := adl_pos pos_Put d.2.2.2.2.2.2.2.1
      have hps4 := adl_pos pos_Int d.2.2.2.2.2.2.2.2
      have had : ad_Worker d = 4 + adl ad_ActS d.1 + adl ad_Want d.2.2.2.2.2.1 + adl ad_Seen d.2.2.2.2.2.2.1 + adl ad_Put d.2.2.2.2.2.2.2.1 + adl ad_Int d.2.2.2.2.2.2.2.2 := rfl
      rw [had] at hs
      generalize hx : adk ad_Worker l k = x at hs hle hp HK ⊢
      generalize hy : adk ad_Worker l (k + 1) = y at hs hle
      have HY := Lib.hid hy
      clear hy hx
      obtain ⟨a0, a1, a2, a3, a4, a5, a6, a7, a8⟩ := C.cell.c9
      have f0 := C.free
      go_wp2_with fail
      clear a0 a1 a2 a3 a4 a5 a6 a7 a8 f0
      refine (mark_ActSS A0 c0 L0 H0 d.1 (k0 + x) _ (by omega) (by omega) r0).mono ?_; rintro o w0 ⟨rfl, ho0, q0⟩
      have C := Chg.call (C) ho0 (by omega) (by omega) (by omega) (by omega) (by omega)
      have r5 := ROwn.only r5 ho0 (by omega)
      have r6 := ROwn.only r6 ho0 (by omega)
      have r7 := ROwn.only r7 ho0 (by omega)
      have r8 := ROwn.only r8 ho0 (by omega)
      clear ho0 r0
      have cc0 := C.cell
      obtain ⟨a0, a1, a2, a3, a4, a5, a6, a7, a8⟩ := RCells.c9 cc0
      clear cc0
      have f0 := C.free
      go_wp2_with fail
      clear a0 a1 a2 a3 a4 a5 a6 a7 a8 f0
      refine (mark_WantS A5 c5 L5 H5 d.2.2.2.2.2.1 (k0 + x + adl ad_ActS d.1 + 1 + 1 + 1 + 1) _ (by omega) (by omega) (ROwn.far (ROwn.far (ROwn.far (ROwn.far r5 _ (by show b < _ ∨ _ ≤ b; omega)) _ (by show b < _ ∨ _ ≤ b; omega)) _ (by show b < _ ∨ _ ≤ b; omega)) _ (by show b < _ ∨ _ ≤ b; omega))).mono ?_; rintro o w5 ⟨rfl, ho5, q5⟩
      have C := Chg.call (((((C).set 1 _ (by simp) (by omega) (by omega)).set 2 _ (by simp) (by omega) (by omega)).set 3 _ (by simp) (by omega) (by omega)).set 4 _ (by simp) (by omega) (by omega)) ho5 (by omega) (by omega) (by omega) (by omega) (by omega)
      have q0 := ROwn.only (ROwn.far (ROwn.far (ROwn.far (ROwn.far q0 _ (by show b < _ ∨ _ ≤ b; omega)) _ (by show b < _ ∨ _ ≤ b; omega)) _ (by show b < _ ∨ _ ≤ b; omega)) _ (by show b < _ ∨ _ ≤ b; omega)) ho5 (by omega)
      have r6 := ROwn.only (ROwn.far (ROwn.far (ROwn.far (ROwn.far r6 _ (by show b < _ ∨ _ ≤ b; omega)) _ (by show b < _ ∨ _ ≤ b; omega)) _ (by show b < _ ∨ _ ≤ b; omega)) _ (by show b < _ ∨ _ ≤ b; omega)) ho5 (by omega)
      have r7 := ROwn.only (ROwn.far (ROwn.far (ROwn.far (ROwn.far r7 _ (by show b < _ ∨ _ ≤ b; omega)) _ (by show b < _ ∨ _ ≤ b; omega)) _ (by show b < _ ∨ _ ≤ b; omega)) _ (by show b < _ ∨ _ ≤ b; omega)) ho5 (by omega)
      have r8 := ROwn.only (ROwn.far (ROwn.far (ROwn.far (ROwn.far r8 _ (by show b < _ ∨ _ ≤ b; omega)) _ (by show b < _ ∨ _ ≤ b; omega)) _ (by show b < _ ∨ _ ≤ b; omega)) _ (by show b < _ ∨ _ ≤ b; omega)) ho5 (by omega)
      clear ho5 r5
      have cc5 := C.cell
      simp only [List.set] at cc5
      obtain ⟨a0, a1, a2, a3, a4, a5, a6, a7, a8⟩ := RCells.c9 cc5
      clear cc5
      have f0 := C.free
      go_wp2_with fail
      clear a0 a1 a2 a3 a4 a5 a6 a7 a8 f0
      refine (mark_SeenS A6 c6 L6 H6 d.2.2.2.2.2.2.1 (k0 + x + adl ad_ActS d.1 + 1 + 1 + 1 + 1 + adl ad_Want d.2.2.2.2.2.1) _ (by omega) (by omega) r6).mono ?_; rintro o w6 ⟨rfl, ho6, q6⟩
      have C := Chg.call (C) ho6 (by omega) (by omega) (by omega) (by omega) (by omega)
      have q0 := ROwn.only q0 ho6 (by omega)
      have q5 := ROwn.only q5 ho6 (by omega)
      have r7 := ROwn.only r7 ho6 (by omega)
      have r8 := ROwn.only r8 ho6 (by omega)
      clear ho6 r6
      have cc6 := C.cell
      simp only [List.set] at cc6
      obtain ⟨a0, a1, a2, a3, a4, a5, a6, a7, a8⟩ := RCells.c9 cc6
      clear cc6
      have f0 := C.free
      go_wp2_with fail
      clear a0 a1 a2 a3 a4 a5 a6 a7 a8 f0
      refine (mark_PutS A7 c7 L7 H7 d.2.2.2.2.2.2.2.1 (k0 + x + adl ad_ActS d.1 + 1 + 1 + 1 + 1 + adl ad_Want d.2.2.2.2.2.1 + adl ad_Seen d.2.2.2.2.2.2.1) _ (by omega) (by omega) r7).mono ?_; rintro o w7 ⟨rfl, ho7, q7⟩
      have C := Chg.call (C) ho7 (by omega) (by omega) (by omega) (by omega) (by omega)
      have q0 := ROwn.only q0 ho7 (by omega)
      have q5 := ROwn.only q5 ho7 (by omega)
      have q6 := ROwn.only q6 ho7 (by omega)
      have r8 := ROwn.only r8 ho7 (by omega)
      clear ho7 r7
      have cc7 := C.cell
      simp only [List.set] at cc7
      obtain ⟨a0, a1, a2, a3, a4, a5, a6, a7, a8⟩ := RCells.c9 cc7
      clear cc7
      have f0 := C.free
      go_wp2_with fail
      clear a0 a1 a2 a3 a4 a5 a6 a7 a8 f0
      refine (mark_IntS A8 c8 L8 H8 d.2.2.2.2.2.2.2.2 (k0 + x + adl ad_ActS d.1 + 1 + 1 + 1 + 1 + adl ad_Want d.2.2.2.2.2.1 + adl ad_Seen d.2.2.2.2.2.2.1 + adl ad_Put d.2.2.2.2.2.2.2.1) _ (by omega) (by omega) r8).mono ?_; rintro o w8 ⟨rfl, ho8, q8⟩
      have C := Chg.call (C) ho8 (by omega) (by omega) (by omega) (by omega) (by omega)
      have q0 := ROwn.only q0 ho8 (by omega)
      have q5 := ROwn.only q5 ho8 (by omega)
      have q6 := ROwn.only q6 ho8 (by omega)
      have q7 := ROwn.only q7 ho8 (by omega)
      clear ho8 r8
      have cc8 := C.cell
      simp only [List.set] at cc8
      obtain ⟨a0, a1, a2, a3, a4, a5, a6, a7, a8⟩ := RCells.c9 cc8
      clear cc8
      have f0 := C.free
      have HC := Lib.hid C
      clear C
      have Q0 := Lib.hid q0
      rw [show k0 + x + adl ad_ActS d.1 + 1 + 1 + 1 + 1 = k0 + x + adl ad_ActS d.1 + 4 by omega] at q5
      have Q5 := Lib.hid q5
      rw [show k0 + x + adl ad_ActS d.1 + 1 + 1 + 1 + 1 + adl ad_Want d.2.2.2.2.2.1 = k0 + x + adl ad_ActS d.1 + adl ad_Want d.2.2.2.2.2.1 + 4 by omega] at q6
      have Q6 := Lib.hid q6
      rw [show k0 + x + adl ad_ActS d.1 + 1 + 1 + 1 + 1 + adl ad_Want d.2.2.2.2.2.1 + adl ad_Seen d.2.2.2.2.2.2.1 = k0 + x + adl ad_ActS d.1 + adl ad_Want d.2.2.2.2.2.1 + adl ad_Seen d.2.2.2.2.2.2.1 + 4 by omega] at q7
      have Q7 := Lib.hid q7
      rw [show k0 + x + adl ad_ActS d.1 + 1 + 1 + 1 + 1 + adl ad_Want d.2.2.2.2.2.1 + adl ad_Seen d.2.2.2.2.2.2.1 + adl ad_Put d.2.2.2.2.2.2.2.1 = k0 + x + adl ad_ActS d.1 + adl ad_Want d.2.2.2.2.2.1 + adl ad_Seen d.2.2.2.2.2.2.1 + adl ad_Put d.2.2.2.2.2.2.2.1 + 4 by omega] at q8
      have Q8 := Lib.hid q8
      clear q0 q5 q6 q7 q8
      go_wp2
      refine ⟨⟨k + 1, by omega, by go_num, int_eq (by rw [HY.out]; omega), ?_, _, _, HM.out.step hkn HK.out, RRow.put HR.out (v := [.slice A0 ((mkd_Worker d (k0 + x)).1).length c0, .int .i64 (mkd_Worker d (k0 + x)).2.1, .int .i64 (mkd_Worker d (k0 + x)).2.2.1, .int .i64 (mkd_Worker d (k0 + x)).2.2.2.1, .int .i64 (mkd_Worker d (k0 + x)).2.2.2.2.1, .slice A5 ((mkd_Worker d (k0 + x)).2.2.2.2.2.1).length c5, .slice A6 ((mkd_Worker d (k0 + x)).2.2.2.2.2.2.1).length c6, .slice A7 ((mkd_Worker d (k0 + x)).2.2.2.2.2.2.2.1).length c7, .slice A8 ((mkd_Worker d (k0 + x)).2.2.2.2.2.2.2.2).length c8]) (by rw [HM.out.len]; exact hkn) ?_ rfl ?_⟩, by simp [intOf]; omega⟩
      · exact ho.trans (HC.out).only
      · rw [HL.out, HH.out]
        rw [show fWorker.n = 9 from rfl]
        refine Chg.cast (HC.out) ?_
        simp [mkl_len, List.set, mkd_Worker]
        all_goals (try (repeat' apply And.intro))
        all_goals (first | omega | (rw [Bool.eq_iff_iff]; simp; done) | (rw [Bool.eq_iff_iff]; simp; omega))
      · rw [HL.out, HH.out]
        exact CLO.out _ (mkd_Worker d (k0 + x)) Q0.out Q5.out Q6.out Q7.out Q8.out
    · obtain rfl : k = l.length := by omega
      have HD := Lib.hid (hmix.done (mkl_len _ _))
      have HR := Lib.hid hr
      have HA := Lib.hid (adk_all (ad := ad_Worker) l)
      clear hr hmix
      go_wp2
      go_ret
      refine ⟨ret_intG (by rw [HA.out]), ho, ?_⟩
      have hr := HR.out
      rw [HD.out] at hr
      exact ⟨by rw [mkl_len]; unfold maxLen; omega, fun _ => ⟨b, off, rfl, _, _, _, hr⟩⟩
end Go.Proofs.YtkpkjcmoldkmmaaGreat
