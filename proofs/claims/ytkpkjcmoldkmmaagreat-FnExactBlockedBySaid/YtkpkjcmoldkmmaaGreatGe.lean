/- The laws' helpers over workers and commits. -/
import Derived.Test.YtkpkjcmoldkmmaaGreatGd
namespace Go.Proofs.YtkpkjcmoldkmmaaGreat
open Go.RowKit

abbrev DWorker := (List (List DAct)) × Int × Int × Int × Int × (List DWant) × (List DSeen) × (List DPut) × (List Int)
def fWorker : Fm DWorker := pairF (rowF (rowF fAct)) (pairF intF (pairF intF (pairF intF (pairF intF (pairF (rowF fWant) (pairF (rowF fSeen) (pairF (rowF fPut) ((rowF intF)))))))))
theorem at_Worker {w : World} {B : Nat} {d : DWorker} {vs : List Value} (h : fWorker.At w B d vs) : ∃ (A0 : Option Addr) (c0 : Nat) (A5 : Option Addr) (c5 : Nat) (A6 : Option Addr) (c6 : Nat) (A7 : Option Addr) (c7 : Nat) (A8 : Option Addr) (c8 : Nat), vs = [.slice A0 (d.1).length c0, .int .i64 d.2.1, .int .i64 d.2.2.1, .int .i64 d.2.2.2.1, .int .i64 d.2.2.2.2.1, .slice A5 (d.2.2.2.2.2.1).length c5, .slice A6 (d.2.2.2.2.2.2.1).length c6, .slice A7 (d.2.2.2.2.2.2.2.1).length c7, .slice A8 (d.2.2.2.2.2.2.2.2).length c8] ∧ RAt (rowF fAct) w B A0 d.1 ∧ RAt fWant w B A5 d.2.2.2.2.2.1 ∧ RAt fSeen w B A6 d.2.2.2.2.2.2.1 ∧ RAt fPut w B A7 d.2.2.2.2.2.2.2.1 ∧ RAt intF w B A8 d.2.2.2.2.2.2.2.2 := by
  obtain ⟨x0, y0, rfl, h0, x1, y1, rfl, h1, x2, y2, rfl, h2, x3, y3, rfl, h3, x4, y4, rfl, h4, x5, y5, rfl, h5, x6, y6, rfl, h6, x7, y7, rfl, h7, h8⟩ := h
  obtain ⟨A0, c0, rfl, r0⟩ := h0
  cases h1
  cases h2
  cases h3
  cases h4
  obtain ⟨A5, c5, rfl, r5⟩ := h5
  obtain ⟨A6, c6, rfl, r6⟩ := h6
  obtain ⟨A7, c7, rfl, r7⟩ := h7
  obtain ⟨A8, c8, rfl, r8⟩ := h8
  exact ⟨A0, c0, A5, c5, A6, c6, A7, c7, A8, c8, rfl, r0, r5, r6, r7, r8⟩
theorem cnt_Worker (d : DWorker) : fWorker.cnt d = (rowF (rowF fAct)).cnt d.1 + (rowF fWant).cnt d.2.2.2.2.2.1 + (rowF fSeen).cnt d.2.2.2.2.2.2.1 + (rowF fPut).cnt d.2.2.2.2.2.2.2.1 + (rowF intF).cnt d.2.2.2.2.2.2.2.2 := by
  show (rowF (rowF fAct)).cnt d.1 + (intF.cnt d.2.1 + (intF.cnt d.2.2.1 + (intF.cnt d.2.2.2.1 + (intF.cnt d.2.2.2.2.1 + ((rowF fWant).cnt d.2.2.2.2.2.1 + ((rowF fSeen).cnt d.2.2.2.2.2.2.1 + ((rowF fPut).cnt d.2.2.2.2.2.2.2.1 + ((rowF intF).cnt d.2.2.2.2.2.2.2.2)))))))) = _
  have z1 : intF.cnt d.2.1 = 0 := rfl
  have z2 : intF.cnt d.2.2.1 = 0 := rfl
  have z3 : intF.cnt d.2.2.2.1 = 0 := rfl
  have z4 : intF.cnt d.2.2.2.2.1 = 0 := rfl
  omega
theorem n_Worker : fWorker.n = 9 := rfl
theorem own_Worker {w : World} {lo B L0 H0 L5 H5 L6 H6 L7 H7 L8 H8 : Nat} {d : DWorker} {v0 v5 v6 v7 v8 : List Value} (q0 : lo ≤ L0) (_g0 : L0 ≤ H0) (h0 : (rowF (rowF fAct)).Own w L0 H0 d.1 v0) (q5 : H0 ≤ L5) (_g5 : L5 ≤ H5) (h5 : (rowF fWant).Own w L5 H5 d.2.2.2.2.2.1 v5) (q6 : H5 ≤ L6) (_g6 : L6 ≤ H6) (h6 : (rowF fSeen).Own w L6 H6 d.2.2.2.2.2.2.1 v6) (q7 : H6 ≤ L7) (_g7 : L7 ≤ H7) (h7 : (rowF fPut).Own w L7 H7 d.2.2.2.2.2.2.2.1 v7) (q8 : H7 ≤ L8) (_g8 : L8 ≤ H8) (h8 : (rowF intF).Own w L8 H8 d.2.2.2.2.2.2.2.2 v8) (qB : H8 ≤ B) : fWorker.Own w lo B d (v0 ++ ([.int .i64 d.2.1] ++ ([.int .i64 d.2.2.1] ++ ([.int .i64 d.2.2.2.1] ++ ([.int .i64 d.2.2.2.2.1] ++ (v5 ++ (v6 ++ (v7 ++ (v8))))))))) := ⟨v0, _, L0, H0, H0, B, rfl, by omega, h0, ⟨[.int .i64 d.2.1], _, H0, H0, H0, B, rfl, by omega, rfl, ⟨[.int .i64 d.2.2.1], _, H0, H0, H0, B, rfl, by omega, rfl, ⟨[.int .i64 d.2.2.2.1], _, H0, H0, H0, B, rfl, by omega, rfl, ⟨[.int .i64 d.2.2.2.2.1], _, H0, H0, H0, B, rfl, by omega, rfl, ⟨v5, _, L5, H5, H5, B, rfl, by omega, h5, ⟨v6, _, L6, H6, H6, B, rfl, by omega, h6, ⟨v7, _, L7, H7, H7, B, rfl, by omega, h7, ((rowF intF).own_more h8 (by omega) (by omega))⟩⟩⟩⟩⟩⟩⟩⟩
theorem mk_Worker {w : World} {B : Nat} {d : DWorker} {A0 A5 A6 A7 A8 : Option Addr} {c0 c5 c6 c7 c8 : Nat} (r0 : RAt (rowF fAct) w B A0 d.1) (r5 : RAt fWant w B A5 d.2.2.2.2.2.1) (r6 : RAt fSeen w B A6 d.2.2.2.2.2.2.1) (r7 : RAt fPut w B A7 d.2.2.2.2.2.2.2.1) (r8 : RAt intF w B A8 d.2.2.2.2.2.2.2.2) : fWorker.At w B d [.slice A0 (d.1).length c0, .int .i64 d.2.1, .int .i64 d.2.2.1, .int .i64 d.2.2.2.1, .int .i64 d.2.2.2.2.1, .slice A5 (d.2.2.2.2.2.1).length c5, .slice A6 (d.2.2.2.2.2.2.1).length c6, .slice A7 (d.2.2.2.2.2.2.2.1).length c7, .slice A8 (d.2.2.2.2.2.2.2.2).length c8] := ⟨[.slice A0 (d.1).length c0], _, rfl, ⟨A0, c0, rfl, r0⟩, ⟨[.int .i64 d.2.1], _, rfl, rfl, ⟨[.int .i64 d.2.2.1], _, rfl, rfl, ⟨[.int .i64 d.2.2.2.1], _, rfl, rfl, ⟨[.int .i64 d.2.2.2.2.1], _, rfl, rfl, ⟨[.slice A5 (d.2.2.2.2.2.1).length c5], _, rfl, ⟨A5, c5, rfl, r5⟩, ⟨[.slice A6 (d.2.2.2.2.2.2.1).length c6], _, rfl, ⟨A6, c6, rfl, r6⟩, ⟨[.slice A7 (d.2.2.2.2.2.2.2.1).length c7], _, rfl, ⟨A7, c7, rfl, r7⟩, ⟨A8, c8, rfl, r8⟩⟩⟩⟩⟩⟩⟩⟩⟩
abbrev DCommit := Int × Int × Int × Int × (List Int) × (List DPut)
def fCommit : Fm DCommit := pairF intF (pairF intF (pairF intF (pairF intF (pairF (rowF intF) ((rowF fPut))))))
theorem at_Commit {w : World} {B : Nat} {d : DCommit} {vs : List Value} (h : fCommit.At w B d vs) : ∃ (A4 : Option Addr) (c4 : Nat) (A5 : Option Addr) (c5 : Nat), vs = [.int .i64 d.1, .int .i64 d.2.1, .int .i64 d.2.2.1, .int .i64 d.2.2.2.1, .slice A4 (d.2.2.2.2.1).length c4, .slice A5 (d.2.2.2.2.2).length c5] ∧ RAt intF w B A4 d.2.2.2.2.1 ∧ RAt fPut w B A5 d.2.2.2.2.2 := by
  obtain ⟨x0, y0, rfl, h0, x1, y1, rfl, h1, x2, y2, rfl, h2, x3, y3, rfl, h3, x4, y4, rfl, h4, h5⟩ := h
  cases h0
  cases h1
  cases h2
  cases h3
  obtain ⟨A4, c4, rfl, r4⟩ := h4
  obtain ⟨A5, c5, rfl, r5⟩ := h5
  exact ⟨A4, c4, A5, c5, rfl, r4, r5⟩
theorem cnt_Commit (d : DCommit) : fCommit.cnt d = (rowF intF).cnt d.2.2.2.2.1 + (rowF fPut).cnt d.2.2.2.2.2 := by
  show intF.cnt d.1 + (intF.cnt d.2.1 + (intF.cnt d.2.2.1 + (intF.cnt d.2.2.2.1 + ((rowF intF).cnt d.2.2.2.2.1 + ((rowF fPut).cnt d.2.2.2.2.2))))) = _
  have z0 : intF.cnt d.1 = 0 := rfl
  have z1 : intF.cnt d.2.1 = 0 := rfl
  have z2 : intF.cnt d.2.2.1 = 0 := rfl
  have z3 : intF.cnt d.2.2.2.1 = 0 := rfl
  omega
theorem n_Commit : fCommit.n = 6 := rfl
theorem own_Commit {w : World} {lo B L4 H4 L5 H5 : Nat} {d : DCommit} {v4 v5 : List Value} (q4 : lo ≤ L4) (_g4 : L4 ≤ H4) (h4 : (rowF intF).Own w L4 H4 d.2.2.2.2.1 v4) (q5 : H4 ≤ L5) (_g5 : L5 ≤ H5) (h5 : (rowF fPut).Own w L5 H5 d.2.2.2.2.2 v5) (qB : H5 ≤ B) : fCommit.Own w lo B d ([.int .i64 d.1] ++ ([.int .i64 d.2.1] ++ ([.int .i64 d.2.2.1] ++ ([.int .i64 d.2.2.2.1] ++ (v4 ++ (v5)))))) := ⟨[.int .i64 d.1], _, lo, lo, lo, B, rfl, by omega, rfl, ⟨[.int .i64 d.2.1], _, lo, lo, lo, B, rfl, by omega, rfl, ⟨[.int .i64 d.2.2.1], _, lo, lo, lo, B, rfl, by omega, rfl, ⟨[.int .i64 d.2.2.2.1], _, lo, lo, lo, B, rfl, by omega, rfl, ⟨v4, _, L4, H4, H4, B, rfl, by omega, h4, ((rowF fPut).own_more h5 (by omega) (by omega))⟩⟩⟩⟩⟩
theorem mk_Commit {w : World} {B : Nat} {d : DCommit} {A4 A5 : Option Addr} {c4 c5 : Nat} (r4 : RAt intF w B A4 d.2.2.2.2.1) (r5 : RAt fPut w B A5 d.2.2.2.2.2) : fCommit.At w B d [.int .i64 d.1, .int .i64 d.2.1, .int .i64 d.2.2.1, .int .i64 d.2.2.2.1, .slice A4 (d.2.2.2.2.1).length c4, .slice A5 (d.2.2.2.2.2).length c5] := ⟨[.int .i64 d.1], _, rfl, rfl, ⟨[.int .i64 d.2.1], _, rfl, rfl, ⟨[.int .i64 d.2.2.1], _, rfl, rfl, ⟨[.int .i64 d.2.2.2.1], _, rfl, rfl, ⟨[.slice A4 (d.2.2.2.2.1).length c4], _, rfl, ⟨A4, c4, rfl, r4⟩, ⟨A5, c5, rfl, r5⟩⟩⟩⟩⟩⟩
set_option maxHeartbeats 1600000 in
set_option maxRecDepth 100000 in
theorem sz_Worker (d : DWorker) (B : Nat) (vs : List Value) (left : Int) (w : World) (h0 : 0 ≤ left) (h1 : left ≤ 1048576) (hB : B ≤ w.heap.size) (h : fWorker.At w B d vs) :
    Calls Tryz.prog 56 #[.agg vs.toArray, .int .i64 left] w fun e w' => e = .returned (.int .i64 (szOf left (fWorker.cnt d))) ∧ Below w.heap.size w w' := by
  obtain ⟨A0, c0, A5, c5, A6, c6, A7, c7, A8, c8, rfl, r0, r5, r6, r7, r8⟩ := at_Worker h
  rw [cnt_Worker]
  clear h
  have K0 : ∃ m, m = (rowF (rowF fAct)).cnt d.1 := ⟨_, rfl⟩
  obtain ⟨m0, J0⟩ := K0
  have K0 := Lib.hid J0
  clear J0
  have K1 : ∃ m, m = (rowF fWant).cnt d.2.2.2.2.2.1 := ⟨_, rfl⟩
  obtain ⟨m1, J1⟩ := K1
  have K1 := Lib.hid J1
  clear J1
  have K2 : ∃ m, m = (rowF fSeen).cnt d.2.2.2.2.2.2.1 := ⟨_, rfl⟩
  obtain ⟨m2, J2⟩ := K2
  have K2 := Lib.hid J2
  clear J2
  have K3 : ∃ m, m = (rowF fPut).cnt d.2.2.2.2.2.2.2.1 := ⟨_, rfl⟩
  obtain ⟨m3, J3⟩ := K3
  have K3 := Lib.hid J3
  clear J3
  have K4 : ∃ m, m = (rowF intF).cnt d.2.2.2.2.2.2.2.2 := ⟨_, rfl⟩
  obtain ⟨m4, J4⟩ := K4
  have K4 := Lib.hid J4
  clear J4
  rw [← K0.out, ← K1.out, ← K2.out, ← K3.out, ← K4.out]
  by_cases g0 : left < (m0 : Int)
  · have E0 := Lib.hid (szOf_lt g0)
    go_enter Tryz.func56, Tryz.ntmps56
    go_wp2_with fail
    have b := (Below.refl w.heap.size w).alloc (Nat.le_refl _) (.cells #[.slice A0 (d.1).length c0, .int .i64 d.2.1, .int .i64 d.2.2.1, .int .i64 d.2.2.2.1, .int .i64 d.2.2.2.2.1, .slice A5 (d.2.2.2.2.2.1).length c5, .slice A6 (d.2.2.2.2.2.2.1).length c6, .slice A7 (d.2.2.2.2.2.2.2.1).length c7, .slice A8 (d.2.2.2.2.2.2.2.2).length c8] 106)
    have X := Bx.new (w := w) (c := #[.slice A0 (d.1).length c0, .int .i64 d.2.1, .int .i64 d.2.2.1, .int .i64 d.2.2.2.1, .int .i64 d.2.2.2.2.1, .slice A5 (d.2.2.2.2.2.1).length c5, .slice A6 (d.2.2.2.2.2.2.1).length c6, .slice A7 (d.2.2.2.2.2.2.2.1).length c7, .slice A8 (d.2.2.2.2.2.2.2.2).length c8]) (t := 106) rfl
    generalize w.alloc (.cells #[.slice A0 (d.1).length c0, .int .i64 d.2.1, .int .i64 d.2.2.1, .int .i64 d.2.2.2.1, .int .i64 d.2.2.2.2.1, .slice A5 (d.2.2.2.2.2.1).length c5, .slice A6 (d.2.2.2.2.2.2.1).length c6, .slice A7 (d.2.2.2.2.2.2.2.1).length c7, .slice A8 (d.2.2.2.2.2.2.2.2).length c8] 106) = w0 at b X ⊢
    have hsz := b.size
    refine (sz_ActSS A0 c0 B d.1 (left) _ (by omega) (by omega) (by omega) (r0.keep b hB)).mono ?_; rintro o w1 ⟨rfl, hb⟩
    have b := b.trans (hb.mono hsz)
    have X := X.next hb
    clear hb
    rw [← K0.out, E0.out]
    obtain ⟨⟨x0, x1, x2, x3, x4, x5, x6, x7, x8⟩, _⟩ := X.c9
    go_wp2
    go_ret
    exact ⟨by rw [szOf_lt (by omega)]; rfl, b⟩
  have E0 := Lib.hid (szOf_le (left := left) (n := m0) (by omega))
  have g0n : ¬ (left - (m0 : Int) < 0) := by omega
  by_cases g1 : left - (m0 : Int) < (m1 : Int)
  · have E1 := Lib.hid (szOf_lt g1)
    go_enter Tryz.func56, Tryz.ntmps56
    go_wp2_with fail
    have b := (Below.refl w.heap.size w).alloc (Nat.le_refl _) (.cells #[.slice A0 (d.1).length c0, .int .i64 d.2.1, .int .i64 d.2.2.1, .int .i64 d.2.2.2.1, .int .i64 d.2.2.2.2.1, .slice A5 (d.2.2.2.2.2.1).length c5, .slice A6 (d.2.2.2.2.2.2.1).length c6, .slice A7 (d.2.2.2.2.2.2.2.1).length c7, .slice A8 (d.2.2.2.2.2.2.2.2).length c8] 106)
    have X := Bx.new (w := w) (c := #[.slice A0 (d.1).length c0, .int .i64 d.2.1, .int .i64 d.2.2.1, .int .i64 d.2.2.2.1, .int .i64 d.2.2.2.2.1, .slice A5 (d.2.2.2.2.2.1).length c5, .slice A6 (d.2.2.2.2.2.2.1).length c6, .slice A7 (d.2.2.2.2.2.2.2.1).length c7, .slice A8 (d.2.2.2.2.2.2.2.2).length c8]) (t := 106) rfl
    generalize w.alloc (.cells #[.slice A0 (d.1).length c0, .int .i64 d.2.1, .int .i64 d.2.2.1, .int .i64 d.2.2.2.1, .int .i64 d.2.2.2.2.1, .slice A5 (d.2.2.2.2.2.1).length c5, .slice A6 (d.2.2.2.2.2.2.1).length c6, .slice A7 (d.2.2.2.2.2.2.2.1).length c7, .slice A8 (d.2.2.2.2.2.2.2.2).length c8] 106) = w0 at b X ⊢
    have hsz := b.size
    refine (sz_ActSS A0 c0 B d.1 (left) _ (by omega) (by omega) (by omega) (r0.keep b hB)).mono ?_; rintro o w1 ⟨rfl, hb⟩
    have b := b.trans (hb.mono hsz)
    have X := X.next hb
    clear hb
    rw [← K0.out, E0.out]
    obtain ⟨⟨x0, x1, x2, x3, x4, x5, x6, x7, x8⟩, _⟩ := X.c9
    go_wp2_with fail
    clear x0 x1 x2 x3 x4 x5 x6 x7 x8
    have hsz := b.size
    refine (sz_WantS A5 c5 d.2.2.2.2.2.1 (left - (m0 : Int)) _ r5.1 (by omega) (by omega)).mono ?_; rintro o w2 ⟨rfl, rfl⟩
    rw [← K1.out, E1.out]
    obtain ⟨⟨x0, x1, x2, x3, x4, x5, x6, x7, x8⟩, _⟩ := X.c9
    go_wp2
    go_ret
    exact ⟨by rw [szOf_lt (by omega)]; rfl, b⟩
  have E1 := Lib.hid (szOf_le (left := left - (m0 : Int)) (n := m1) (by omega))
  have g1n : ¬ (left - (m0 : Int) - (m1 : Int) < 0) := by omega
  by_cases g2 : left - (m0 : Int) - (m1 : Int) < (m2 : Int)
  · have E2 := Lib.hid (szOf_lt g2)
    go_enter Tryz.func56, Tryz.ntmps56
    go_wp2_with fail
    have b := (Below.refl w.heap.size w).alloc (Nat.le_refl _) (.cells #[.slice A0 (d.1).length c0, .int .i64 d.2.1, .int .i64 d.2.2.1, .int .i64 d.2.2.2.1, .int .i64 d.2.2.2.2.1, .slice A5 (d.2.2.2.2.2.1).length c5, .slice A6 (d.2.2.2.2.2.2.1).length c6, .slice A7 (d.2.2.2.2.2.2.2.1).length c7, .slice A8 (d.2.2.2.2.2.2.2.2).length c8] 106)
    have X := Bx.new (w := w) (c := #[.slice A0 (d.1).length c0, .int .i64 d.2.1, .int .i64 d.2.2.1, .int .i64 d.2.2.2.1, .int .i64 d.2.2.2.2.1, .slice A5 (d.2.2.2.2.2.1).length c5, .slice A6 (d.2.2.2.2.2.2.1).length c6, .slice A7 (d.2.2.2.2.2.2.2.1).length c7, .slice A8 (d.2.2.2.2.2.2.2.2).length c8]) (t := 106) rfl
    generalize w.alloc (.cells #[.slice A0 (d.1).length c0, .int .i64 d.2.1, .int .i64 d.2.2.1, .int .i64 d.2.2.2.1, .int .i64 d.2.2.2.2.1, .slice A5 (d.2.2.2.2.2.1).length c5, .slice A6 (d.2.2.2.2.2.2.1).length c6, .slice A7 (d.2.2.2.2.2.2.2.1).length c7, .slice A8 (d.2.2.2.2.2.2.2.2).length c8] 106) = w0 at b X ⊢
    have hsz := b.size
    refine (sz_ActSS A0 c0 B d.1 (left) _ (by omega) (by omega) (by omega) (r0.keep b hB)).mono ?_; rintro o w1 ⟨rfl, hb⟩
    have b := b.trans (hb.mono hsz)
    have X := X.next hb
    clear hb
    rw [← K0.out, E0.out]
    obtain ⟨⟨x0, x1, x2, x3, x4, x5, x6, x7, x8⟩, _⟩ := X.c9
    go_wp2_with fail
    clear x0 x1 x2 x3 x4 x5 x6 x7 x8
    have hsz := b.size
    refine (sz_WantS A5 c5 d.2.2.2.2.2.1 (left - (m0 : Int)) _ r5.1 (by omega) (by omega)).mono ?_; rintro o w2 ⟨rfl, rfl⟩
    rw [← K1.out, E1.out]
    obtain ⟨⟨x0, x1, x2, x3, x4, x5, x6, x7, x8⟩, _⟩ := X.c9
    go_wp2_with fail
    clear x0 x1 x2 x3 x4 x5 x6 x7 x8
    have hsz := b.size
    refine (sz_SeenS A6 c6 d.2.2.2.2.2.2.1 (left - (m0 : Int) - (m1 : Int)) _ r6.1 (by omega) (by omega)).mono ?_; rintro o w3 ⟨rfl, rfl⟩
    rw [← K2.out, E2.out]
    obtain ⟨⟨x0, x1, x2, x3, x4, x5, x6, x7, x8⟩, _⟩ := X.c9
    go_wp2
    go_ret
    exact ⟨by rw [szOf_lt (by omega)]; rfl, b⟩
  have E2 := Lib.hid (szOf_le (left := left - (m0 : Int) - (m1 : Int)) (n := m2) (by omega))
  have g2n : ¬ (left - (m0 : Int) - (m1 : Int) - (m2 : Int) < 0) := by omega
  by_cases g3 : left - (m0 : Int) - (m1 : Int) - (m2 : Int) < (m3 : Int)
  · have E3 := Lib.hid (szOf_lt g3)
    go_enter Tryz.func56, Tryz.ntmps56
    go_wp2_with fail
    have b := (Below.refl w.heap.size w).alloc (Nat.le_refl _) (.cells #[.slice A0 (d.1).length c0, .int .i64 d.2.1, .int .i64 d.2.2.1, .int .i64 d.2.2.2.1, .int .i64 d.2.2.2.2.1, .slice A5 (d.2.2.2.2.2.1).length c5, .slice A6 (d.2.2.2.2.2.2.1).length c6, .slice A7 (d.2.2.2.2.2.2.2.1).length c7, .slice A8 (d.2.2.2.2.2.2.2.2).length c8] 106)
    have X := Bx.new (w := w) (c := #[.slice A0 (d.1).length c0, .int .i64 d.2.1, .int .i64 d.2.2.1, .int .i64 d.2.2.2.1, .int .i64 d.2.2.2.2.1, .slice A5 (d.2.2.2.2.2.1).length c5, .slice A6 (d.2.2.2.2.2.2.1).length c6, .slice A7 (d.2.2.2.2.2.2.2.1).length c7, .slice A8 (d.2.2.2.2.2.2.2.2).length c8]) (t := 106) rfl
    generalize w.alloc (.cells #[.slice A0 (d.1).length c0, .int .i64 d.2.1, .int .i64 d.2.2.1, .int .i64 d.2.2.2.1, .int .i64 d.2.2.2.2.1, .slice A5 (d.2.2.2.2.2.1).length c5, .slice A6 (d.2.2.2.2.2.2.1).length c6, .slice A7 (d.2.2.2.2.2.2.2.1).length c7, .slice A8 (d.2.2.2.2.2.2.2.2).length c8] 106) = w0 at b X ⊢
    have hsz := b.size
    refine (sz_ActSS A0 c0 B d.1 (left) _ (by omega) (by omega) (by omega) (r0.keep b hB)).mono ?_; rintro o w1 ⟨rfl, hb⟩
    have b := b.trans (hb.mono hsz)
    have X := X.next hb
    clear hb
    rw [← K0.out, E0.out]
    obtain ⟨⟨x0, x1, x2, x3, x4, x5, x6, x7, x8⟩, _⟩ := X.c9
    go_wp2_with fail
    clear x0 x1 x2 x3 x4 x5 x6 x7 x8
    have hsz := b.size
    refine (sz_WantS A5 c5 d.2.2.2.2.2.1 (left - (m0 : Int)) _ r5.1 (by omega) (by omega)).mono ?_; rintro o w2 ⟨rfl, rfl⟩
    rw [← K1.out, E1.out]
    obtain ⟨⟨x0, x1, x2, x3, x4, x5, x6, x7, x8⟩, _⟩ := X.c9
    go_wp2_with fail
    clear x0 x1 x2 x3 x4 x5 x6 x7 x8
    have hsz := b.size
    refine (sz_SeenS A6 c6 d.2.2.2.2.2.2.1 (left - (m0 : Int) - (m1 : Int)) _ r6.1 (by omega) (by omega)).mono ?_; rintro o w3 ⟨rfl, rfl⟩
    rw [← K2.out, E2.out]
    obtain ⟨⟨x0, x1, x2, x3, x4, x5, x6, x7, x8⟩, _⟩ := X.c9
    go_wp2_with fail
    clear x0 x1 x2 x3 x4 x5 x6 x7 x8
    have hsz := b.size
    refine (sz_PutS A7 c7 d.2.2.2.2.2.2.2.1 (left - (m0 : Int) - (m1 : Int) - (m2 : Int)) _ r7.1 (by omega) (by omega)).mono ?_; rintro o w4 ⟨rfl, rfl⟩
    rw [← K3.out, E3.out]
    obtain ⟨⟨x0, x1, x2, x3, x4, x5, x6, x7, x8⟩, _⟩ := X.c9
    go_wp2
    go_ret
    exact ⟨by rw [szOf_lt (by omega)]; rfl, b⟩
  have E3 := Lib.hid (szOf_le (left := left - (m0 : Int) - (m1 : Int) - (m2 : Int)) (n := m3) (by omega))
  have g3n : ¬ (left - (m0 : Int) - (m1 : Int) - (m2 : Int) - (m3 : Int) < 0) := by omega
  by_cases g4 : left - (m0 : Int) - (m1 : Int) - (m2 : Int) - (m3 : Int) < (m4 : Int)
  · have E4 := Lib.hid (szOf_lt g4)
    go_enter Tryz.func56, Tryz.ntmps56
    go_wp2_with fail
    have b := (Below.refl w.heap.size w).alloc (Nat.le_refl _) (.cells #[.slice A0 (d.1).length c0, .int .i64 d.2.1, .int .i64 d.2.2.1, .int .i64 d.2.2.2.1, .int .i64 d.2.2.2.2.1, .slice A5 (d.2.2.2.2.2.1).length c5, .slice A6 (d.2.2.2.2.2.2.1).length c6, .slice A7 (d.2.2.2.2.2.2.2.1).length c7, .slice A8 (d.2.2.2.2.2.2.2.2).length c8] 106)
    have X := Bx.new (w := w) (c := #[.slice A0 (d.1).length c0, .int .i64 d.2.1, .int .i64 d.2.2.1, .int .i64 d.2.2.2.1, .int .i64 d.2.2.2.2.1, .slice A5 (d.2.2.2.2.2.1).length c5, .slice A6 (d.2.2.2.2.2.2.1).length c6, .slice A7 (d.2.2.2.2.2.2.2.1).length c7, .slice A8 (d.2.2.2.2.2.2.2.2).length c8]) (t := 106) rfl
    generalize w.alloc (.cells #[.slice A0 (d.1).length c0, .int .i64 d.2.1, .int .i64 d.2.2.1, .int .i64 d.2.2.2.1, .int .i64 d.2.2.2.2.1, .slice A5 (d.2.2.2.2.2.1).length c5, .slice A6 (d.2.2.2.2.2.2.1).length c6, .slice A7 (d.2.2.2.2.2.2.2.1).length c7, .slice A8 (d.2.2.2.2.2.2.2.2).length c8] 106) = w0 at b X ⊢
    have hsz := b.size
    refine (sz_ActSS A0 c0 B d.1 (left) _ (by omega) (by omega) (by omega) (r0.keep b hB)).mono ?_; rintro o w1 ⟨rfl, hb⟩
    have b := b.trans (hb.mono hsz)
    have X := X.next hb
    clear hb
    rw [← K0.out, E0.out]
    obtain ⟨⟨x0, x1, x2, x3, x4, x5, x6, x7, x8⟩, _⟩ := X.c9
    go_wp2_with fail
    clear x0 x1 x2 x3 x4 x5 x6 x7 x8
    have hsz := b.size
    refine (sz_WantS A5 c5 d.2.2.2.2.2.1 (left - (m0 : Int)) _ r5.1 (by omega) (by omega)).mono ?_; rintro o w2 ⟨rfl, rfl⟩
    rw [← K1.out, E1.out]
    obtain ⟨⟨x0, x1, x2, x3, x4, x5, x6, x7, x8⟩, _⟩ := X.c9
    go_wp2_with fail
    clear x0 x1 x2 x3 x4 x5 x6 x7 x8
    have hsz := b.size
    refine (sz_SeenS A6 c6 d.2.2.2.2.2.2.1 (left - (m0 : Int) - (m1 : Int)) _ r6.1 (by omega) (by omega)).mono ?_; rintro o w3 ⟨rfl, rfl⟩
    rw [← K2.out, E2.out]
    obtain ⟨⟨x0, x1, x2, x3, x4, x5, x6, x7, x8⟩, _⟩ := X.c9
    go_wp2_with fail
    clear x0 x1 x2 x3 x4 x5 x6 x7 x8
    have hsz := b.size
    refine (sz_PutS A7 c7 d.2.2.2.2.2.2.2.1 (left - (m0 : Int) - (m1 : Int) - (m2 : Int)) _ r7.1 (by omega) (by omega)).mono ?_; rintro o w4 ⟨rfl, rfl⟩
    rw [← K3.out, E3.out]
    obtain ⟨⟨x0, x1, x2, x3, x4, x5, x6, x7, x8⟩, _⟩ := X.c9
    go_wp2_with fail
    clear x0 x1 x2 x3 x4 x5 x6 x7 x8
    have hsz := b.size
    refine (sz_IntS A8 c8 d.2.2.2.2.2.2.2.2 (left - (m0 : Int) - (m1 : Int) - (m2 : Int) - (m3 : Int)) _ r8.1 (by omega) (by omega)).mono ?_; rintro o w5 ⟨rfl, rfl⟩
    rw [← K4.out, E4.out]
    obtain ⟨⟨x0, x1, x2, x3, x4, x5, x6, x7, x8⟩, _⟩ := X.c9
    go_wp2
    go_ret
    exact ⟨by rw [szOf_lt (by omega)]; rfl, b⟩
  have E4 := Lib.hid (szOf_le (left := left - (m0 : Int) - (m1 : Int) - (m2 : Int) - (m3 : Int)) (n := m4) (by omega))
  have g4n : ¬ (left - (m0 : Int) - (m1 : Int) - (m2 : Int) - (m3 : Int) - (m4 : Int) < 0) := by omega
  go_enter Tryz.func56, Tryz.ntmps56
  go_wp2_with fail
  have b := (Below.refl w.heap.size w).alloc (Nat.le_refl _) (.cells #[.slice A0 (d.1).length c0, .int .i64 d.2.1, .int .i64 d.2.2.1, .int .i64 d.2.2.2.1, .int .i64 d.2.2.2.2.1, .slice A5 (d.2.2.2.2.2.1).length c5, .slice A6 (d.2.2.2.2.2.2.1).length c6, .slice A7 (d.2.2.2.2.2.2.2.1).length c7, .slice A8 (d.2.2.2.2.2.2.2.2).length c8] 106)
  have X := Bx.new (w := w) (c := #[.slice A0 (d.1).length c0, .int .i64 d.2.1, .int .i64 d.2.2.1, .int .i64 d.2.2.2.1, .int .i64 d.2.2.2.2.1, .slice A5 (d.2.2.2.2.2.1).length c5, .slice A6 (d.2.2.2.2.2.2.1).length c6, .slice A7 (d.2.2.2.2.2.2.2.1).length c7, .slice A8 (d.2.2.2.2.2.2.2.2).length c8]) (t := 106) rfl
  generalize w.alloc (.cells #[.slice A0 (d.1).length c0, .int .i64 d.2.1, .int .i64 d.2.2.1, .int .i64 d.2.2.2.1, .int .i64 d.2.2.2.2.1, .slice A5 (d.2.2.2.2.2.1).length c5, .slice A6 (d.2.2.2.2.2.2.1).length c6, .slice A7 (d.2.2.2.2.2.2.2.1).length c7, .slice A8 (d.2.2.2.2.2.2.2.2).length c8] 106) = w0 at b X ⊢
  have hsz := b.size
  refine (sz_ActSS A0 c0 B d.1 (left) _ (by omega) (by omega) (by omega) (r0.keep b hB)).mono ?_; rintro o w1 ⟨rfl, hb⟩
  have b := b.trans (hb.mono hsz)
  have X := X.next hb
  clear hb
  rw [← K0.out, E0.out]
  obtain ⟨⟨x0, x1, x2, x3, x4, x5, x6, x7, x8⟩, _⟩ := X.c9
  go_wp2_with fail
  clear x0 x1 x2 x3 x4 x5 x6 x7 x8
  have hsz := b.size
  refine (sz_WantS A5 c5 d.2.2.2.2.2.1 (left - (m0 : Int)) _ r5.1 (by omega) (by omega)).mono ?_; rintro o w2 ⟨rfl, rfl⟩
  rw [← K1.out, E1.out]
  obtain ⟨⟨x0, x1, x2, x3, x4, x5, x6, x7, x8⟩, _⟩ := X.c9
  go_wp2_with fail
  clear x0 x1 x2 x3 x4 x5 x6 x7 x8
  have hsz := b.size
  refine (sz_SeenS A6 c6 d.2.2.2.2.2.2.1 (left - (m0 : Int) - (m1 : Int)) _ r6.1 (by omega) (by omega)).mono ?_; rintro o w3 ⟨rfl, rfl⟩
  rw [← K2.out, E2.out]
  obtain ⟨⟨x0, x1, x2, x3, x4, x5, x6, x7, x8⟩, _⟩ := X.c9
  go_wp2_with fail
  clear x0 x1 x2 x3 x4 x5 x6 x7 x8
  have hsz := b.size
  refine (sz_PutS A7 c7 d.2.2.2.2.2.2.2.1 (left - (m0 : Int) - (m1 : Int) - (m2 : Int)) _ r7.1 (by omega) (by omega)).mono ?_; rintro o w4 ⟨rfl, rfl⟩
  rw [← K3.out, E3.out]
  obtain ⟨⟨x0, x1, x2, x3, x4, x5, x6, x7, x8⟩, _⟩ := X.c9
  go_wp2_with fail
  clear x0 x1 x2 x3 x4 x5 x6 x7 x8
  have hsz := b.size
  refine (sz_IntS A8 c8 d.2.2.2.2.2.2.2.2 (left - (m0 : Int) - (m1 : Int) - (m2 : Int) - (m3 : Int)) _ r8.1 (by omega) (by omega)).mono ?_; rintro o w5 ⟨rfl, rfl⟩
  rw [← K4.out, E4.out]
  obtain ⟨⟨x0, x1, x2, x3, x4, x5, x6, x7, x8⟩, _⟩ := X.c9
  go_wp2
  go_ret
  exact ⟨ret_intG (by rw [szOf_le (by omega)] <;> omega), b⟩
set_option maxHeartbeats 1600000 in
set_option maxRecDepth 100000 in
theorem eq_Worker (d : DWorker) (B B' : Nat) (vs us : List Value) (w : World) (hB : B ≤ w.heap.size) (hB' : B' ≤ w.heap.size) (h : fWorker.At w B d vs) (h' : fWorker.At w B' d us) :
    Calls Tryz.prog 74 #[.agg vs.toArray, .agg us.toArray] w fun e w' => e = .returned (.bool true) ∧ Below w.heap.size w w' := by
  obtain ⟨A0, c0, A5, c5, A6, c6, A7, c7, A8, c8, rfl, r0, r5, r6, r7, r8⟩ := at_Worker h
  obtain ⟨A0x, c0x, A5x, c5x, A6x, c6x, A7x, c7x, A8x, c8x, rfl, q0, q5, q6, q7, q8⟩ := at_Worker h'
  clear h h'
  go_enter Tryz.func74, Tryz.ntmps74
  go_wp2_with fail
  have b := ((Below.refl w.heap.size w).alloc (Nat.le_refl _) (.cells #[.slice A0 (d.1).length c0, .int .i64 d.2.1, .int .i64 d.2.2.1, .int .i64 d.2.2.2.1, .int .i64 d.2.2.2.2.1, .slice A5 (d.2.2.2.2.2.1).length c5, .slice A6 (d.2.2.2.2.2.2.1).length c6, .slice A7 (d.2.2.2.2.2.2.2.1).length c7, .slice A8 (d.2.2.2.2.2.2.2.2).length c8] 73)).alloc (by simp) (.cells #[.slice A0x (d.1).length c0x, .int .i64 d.2.1, .int .i64 d.2.2.1, .int .i64 d.2.2.2.1, .int .i64 d.2.2.2.2.1, .slice A5x (d.2.2.2.2.2.1).length c5x, .slice A6x (d.2.2.2.2.2.2.1).length c6x, .slice A7x (d.2.2.2.2.2.2.2.1).length c7x, .slice A8x (d.2.2.2.2.2.2.2.2).length c8x] 73)
  have X := (Bx.new (w := w) (c := #[.slice A0 (d.1).length c0, .int .i64 d.2.1, .int .i64 d.2.2.1, .int .i64 d.2.2.2.1, .int .i64 d.2.2.2.2.1, .slice A5 (d.2.2.2.2.2.1).length c5, .slice A6 (d.2.2.2.2.2.2.1).length c6, .slice A7 (d.2.2.2.2.2.2.2.1).length c7, .slice A8 (d.2.2.2.2.2.2.2.2).length c8]) (t := 73) rfl).alloc (.cells #[.slice A0x (d.1).length c0x, .int .i64 d.2.1, .int .i64 d.2.2.1, .int .i64 d.2.2.2.1, .int .i64 d.2.2.2.2.1, .slice A5x (d.2.2.2.2.2.1).length c5x, .slice A6x (d.2.2.2.2.2.2.1).length c6x, .slice A7x (d.2.2.2.2.2.2.2.1).length c7x, .slice A8x (d.2.2.2.2.2.2.2.2).length c8x] 73)
  have Y := Bx.new (w := w.alloc (.cells #[.slice A0 (d.1).length c0, .int .i64 d.2.1, .int .i64 d.2.2.1, .int .i64 d.2.2.2.1, .int .i64 d.2.2.2.2.1, .slice A5 (d.2.2.2.2.2.1).length c5, .slice A6 (d.2.2.2.2.2.2.1).length c6, .slice A7 (d.2.2.2.2.2.2.2.1).length c7, .slice A8 (d.2.2.2.2.2.2.2.2).length c8] 73)) (b := w.heap.size + 1) (c := #[.slice A0x (d.1).length c0x, .int .i64 d.2.1, .int .i64 d.2.2.1, .int .i64 d.2.2.2.1, .int .i64 d.2.2.2.2.1, .slice A5x (d.2.2.2.2.2.1).length c5x, .slice A6x (d.2.2.2.2.2.2.1).length c6x, .slice A7x (d.2.2.2.2.2.2.2.1).length c7x, .slice A8x (d.2.2.2.2.2.2.2.2).length c8x]) (t := 73) (by simp)
  generalize (w.alloc (.cells #[.slice A0 (d.1).length c0, .int .i64 d.2.1, .int .i64 d.2.2.1, .int .i64 d.2.2.2.1, .int .i64 d.2.2.2.2.1, .slice A5 (d.2.2.2.2.2.1).length c5, .slice A6 (d.2.2.2.2.2.2.1).length c6, .slice A7 (d.2.2.2.2.2.2.2.1).length c7, .slice A8 (d.2.2.2.2.2.2.2.2).length c8] 73)).alloc (.cells #[.slice A0x (d.1).length c0x, .int .i64 d.2.1, .int .i64 d.2.2.1, .int .i64 d.2.2.2.1, .int .i64 d.2.2.2.2.1, .slice A5x (d.2.2.2.2.2.1).length c5x, .slice A6x (d.2.2.2.2.2.2.1).length c6x, .slice A7x (d.2.2.2.2.2.2.2.1).length c7x, .slice A8x (d.2.2.2.2.2.2.2.2).length c8x] 73) = w0 at b X Y ⊢
  have hsz := b.size
  refine (eq_ActSS A0 A0x c0 c0x B B' d.1 _ (by omega) (by omega) (r0.keep b hB) (q0.keep b hB')).mono ?_; rintro o w1 ⟨rfl, hb⟩
  have X := X.next hb
  have Y := Y.next hb
  have b := b.trans (hb.mono hsz)
  obtain ⟨⟨x0, x1, x2, x3, x4, x5, x6, x7, x8⟩, _⟩ := X.c9
  obtain ⟨⟨y0, y1, y2, y3, y4, y5, y6, y7, y8⟩, _⟩ := Y.c9
  clear hb
  go_wp2_with fail
  clear x0 x1 x2 x3 x4 x5 x6 x7 x8 y0 y1 y2 y3 y4 y5 y6 y7 y8
  have hsz := b.size
  refine (eq_WantS A5 A5x c5 c5x B B' d.2.2.2.2.2.1 _ (by omega) (by omega) (r5.keep b hB) (q5.keep b hB')).mono ?_; rintro o w2 ⟨rfl, hb⟩
  have X := X.next hb
  have Y := Y.next hb
  have b := b.trans (hb.mono hsz)
  obtain ⟨⟨x0, x1, x2, x3, x4, x5, x6, x7, x8⟩, _⟩ := X.c9
  obtain ⟨⟨y0, y1, y2, y3, y4, y5, y6, y7, y8⟩, _⟩ := Y.c9
  clear hb
  go_wp2_with fail
  clear x0 x1 x2 x3 x4 x5 x6 x7 x8 y0 y1 y2 y3 y4 y5 y6 y7 y8
  have hsz := b.size
  refine (eq_SeenS A6 A6x c6 c6x B B' d.2.2.2.2.2.2.1 _ (by omega) (by omega) (r6.keep b hB) (q6.keep b hB')).mono ?_; rintro o w3 ⟨rfl, hb⟩
  have X := X.next hb
  have Y := Y.next hb
  have b := b.trans (hb.mono hsz)
  obtain ⟨⟨x0, x1, x2, x3, x4, x5, x6, x7, x8⟩, _⟩ := X.c9
  obtain ⟨⟨y0, y1, y2, y3, y4, y5, y6, y7, y8⟩, _⟩ := Y.c9
  clear hb
  go_wp2_with fail
  clear x0 x1 x2 x3 x4 x5 x6 x7 x8 y0 y1 y2 y3 y4 y5 y6 y7 y8
  have hsz := b.size
  refine (eq_PutS A7 A7x c7 c7x B B' d.2.2.2.2.2.2.2.1 _ (by omega) (by omega) (r7.keep b hB) (q7.keep b hB')).mono ?_; rintro o w4 ⟨rfl, hb⟩
  have X := X.next hb
  have Y := Y.next hb
  have b := b.trans (hb.mono hsz)
  obtain ⟨⟨x0, x1, x2, x3, x4, x5, x6, x7, x8⟩, _⟩ := X.c9
  obtain ⟨⟨y0, y1, y2, y3, y4, y5, y6, y7, y8⟩, _⟩ := Y.c9
  clear hb
  go_wp2_with fail
  clear x0 x1 x2 x3 x4 x5 x6 x7 x8 y0 y1 y2 y3 y4 y5 y6 y7 y8
  have hsz := b.size
  refine (eq_IntS A8 A8x c8 c8x B B' d.2.2.2.2.2.2.2.2 _ (by omega) (by omega) (r8.keep b hB) (q8.keep b hB')).mono ?_; rintro o w5 ⟨rfl, hb⟩
  have X := X.next hb
  have Y := Y.next hb
  have b := b.trans (hb.mono hsz)
  obtain ⟨⟨x0, x1, x2, x3, x4, x5, x6, x7, x8⟩, _⟩ := X.c9
  obtain ⟨⟨y0, y1, y2, y3, y4, y5, y6, y7, y8⟩, _⟩ := Y.c9
  clear hb
  go_wp2
  go_ret
  exact ⟨rfl, b⟩
set_option maxHeartbeats 1600000 in
set_option maxRecDepth 100000 in
theorem to_Worker (d : DWorker) (B : Nat) (vs : List Value) (w : World) (hs : fWorker.cnt d ≤ 1048576) (hB : B ≤ w.heap.size) (h : fWorker.At w B d vs) :
    Calls Tryz.prog 64 #[.agg vs.toArray] w fun e w' => ∃ us, e = .returned (.agg us.toArray) ∧ Below w.heap.size w w' ∧ fWorker.Own w' w.heap.size w'.heap.size d us := by
  obtain ⟨A0, c0, A5, c5, A6, c6, A7, c7, A8, c8, rfl, r0, r5, r6, r7, r8⟩ := at_Worker h
  rw [cnt_Worker] at hs
  clear h
  go_enter Tryz.func64, Tryz.ntmps64
  go_wp2_with fail
  have b := (((Below.refl w.heap.size w).alloc (Nat.le_refl _) (.cells #[.slice A0 (d.1).length c0, .int .i64 d.2.1, .int .i64 d.2.2.1, .int .i64 d.2.2.2.1, .int .i64 d.2.2.2.2.1, .slice A5 (d.2.2.2.2.2.1).length c5, .slice A6 (d.2.2.2.2.2.2.1).length c6, .slice A7 (d.2.2.2.2.2.2.2.1).length c7, .slice A8 (d.2.2.2.2.2.2.2.2).length c8] 106)).alloc (by simp) (.cells #[.slice none 0 0, .int .i64 0, .int .i64 0, .int .i64 0, .int .i64 0, .slice none 0 0, .slice none 0 0, .slice none 0 0, .slice none 0 0] 73)).alloc (by simp; omega) (.cells #[.slice none 0 0, .int .i64 0, .int .i64 0, .int .i64 0, .int .i64 0, .slice none 0 0, .slice none 0 0, .slice none 0 0, .slice none 0 0] 73)
  have X := ((Bx.new (w := w) (c := #[.slice A0 (d.1).length c0, .int .i64 d.2.1, .int .i64 d.2.2.1, .int .i64 d.2.2.2.1, .int .i64 d.2.2.2.2.1, .slice A5 (d.2.2.2.2.2.1).length c5, .slice A6 (d.2.2.2.2.2.2.1).length c6, .slice A7 (d.2.2.2.2.2.2.2.1).length c7, .slice A8 (d.2.2.2.2.2.2.2.2).length c8]) (t := 106) rfl).alloc (.cells #[.slice none 0 0, .int .i64 0, .int .i64 0, .int .i64 0, .int .i64 0, .slice none 0 0, .slice none 0 0, .slice none 0 0, .slice none 0 0] 73)).alloc (.cells #[.slice none 0 0, .int .i64 0, .int .i64 0, .int .i64 0, .int .i64 0, .slice none 0 0, .slice none 0 0, .slice none 0 0, .slice none 0 0] 73)
  have Y := (Bx.new (w := w.alloc (.cells #[.slice A0 (d.1).length c0, .int .i64 d.2.1, .int .i64 d.2.2.1, .int .i64 d.2.2.2.1, .int .i64 d.2.2.2.2.1, .slice A5 (d.2.2.2.2.2.1).length c5, .slice A6 (d.2.2.2.2.2.2.1).length c6, .slice A7 (d.2.2.2.2.2.2.2.1).length c7, .slice A8 (d.2.2.2.2.2.2.2.2).length c8] 106)) (b := w.heap.size + 1) (c := #[.slice none 0 0, .int .i64 0, .int .i64 0, .int .i64 0, .int .i64 0, .slice none 0 0, .slice none 0 0, .slice none 0 0, .slice none 0 0]) (t := 73) (by simp)).alloc (.cells #[.slice none 0 0, .int .i64 0, .int .i64 0, .int .i64 0, .int .i64 0, .slice none 0 0, .slice none 0 0, .slice none 0 0, .slice none 0 0] 73)
  have Z := Bx.new (w := (w.alloc (.cells #[.slice A0 (d.1).length c0, .int .i64 d.2.1, .int .i64 d.2.2.1, .int .i64 d.2.2.2.1, .int .i64 d.2.2.2.2.1, .slice A5 (d.2.2.2.2.2.1).length c5, .slice A6 (d.2.2.2.2.2.2.1).length c6, .slice A7 (d.2.2.2.2.2.2.2.1).length c7, .slice A8 (d.2.2.2.2.2.2.2.2).length c8] 106)).alloc (.cells #[.slice none 0 0, .int .i64 0, .int .i64 0, .int .i64 0, .int .i64 0, .slice none 0 0, .slice none 0 0, .slice none 0 0, .slice none 0 0] 73)) (b := w.heap.size + 1 + 1) (c := #[.slice none 0 0, .int .i64 0, .int .i64 0, .int .i64 0, .int .i64 0, .slice none 0 0, .slice none 0 0, .slice none 0 0, .slice none 0 0]) (t := 73) (by simp)
  have hz : w.heap.size + 1 + 1 < (((w.alloc (.cells #[.slice A0 (d.1).length c0, .int .i64 d.2.1, .int .i64 d.2.2.1, .int .i64 d.2.2.2.1, .int .i64 d.2.2.2.2.1, .slice A5 (d.2.2.2.2.2.1).length c5, .slice A6 (d.2.2.2.2.2.2.1).length c6, .slice A7 (d.2.2.2.2.2.2.2.1).length c7, .slice A8 (d.2.2.2.2.2.2.2.2).length c8] 106)).alloc (.cells #[.slice none 0 0, .int .i64 0, .int .i64 0, .int .i64 0, .int .i64 0, .slice none 0 0, .slice none 0 0, .slice none 0 0, .slice none 0 0] 73)).alloc (.cells #[.slice none 0 0, .int .i64 0, .int .i64 0, .int .i64 0, .int .i64 0, .slice none 0 0, .slice none 0 0, .slice none 0 0, .slice none 0 0] 73)).heap.size := by simp
  generalize ((w.alloc (.cells #[.slice A0 (d.1).length c0, .int .i64 d.2.1, .int .i64 d.2.2.1, .int .i64 d.2.2.2.1, .int .i64 d.2.2.2.2.1, .slice A5 (d.2.2.2.2.2.1).length c5, .slice A6 (d.2.2.2.2.2.2.1).length c6, .slice A7 (d.2.2.2.2.2.2.2.1).length c7, .slice A8 (d.2.2.2.2.2.2.2.2).length c8] 106)).alloc (.cells #[.slice none 0 0, .int .i64 0, .int .i64 0, .int .i64 0, .int .i64 0, .slice none 0 0, .slice none 0 0, .slice none 0 0, .slice none 0 0] 73)).alloc (.cells #[.slice none 0 0, .int .i64 0, .int .i64 0, .int .i64 0, .int .i64 0, .slice none 0 0, .slice none 0 0, .slice none 0 0, .slice none 0 0] 73) = w0 at b X Y Z hz ⊢
  have hsz := b.size
  refine (to_ActSS A0 c0 B d.1 _ (by omega) (by omega) (r0.keep b hB)).mono ?_; rintro o w1 ⟨A0x, c0x, rfl, hb, o0⟩
  have o0 : (rowF (rowF fAct)).Own _ _ _ d.1 [.slice A0x (d.1).length c0x] := ⟨_, _, rfl, o0⟩
  have X := X.next hb
  have Y := Y.next hb
  have Z := Z.next hb
  have b := b.trans (hb.mono hsz)
  have hs0 := hb.size
  have hz : w.heap.size + 1 + 1 < w1.heap.size := Nat.lt_of_lt_of_le hz hb.size
  obtain ⟨⟨x0, x1, x2, x3, x4, x5, x6, x7, x8⟩, _⟩ := X.c9
  obtain ⟨⟨z0, z1, z2, z3, z4, z5, z6, z7, z8⟩, zf⟩ := Z.c9
  clear hb
  go_wp2_with fail
  clear x0 x1 x2 x3 x4 x5 x6 x7 x8 z0 z1 z2 z3 z4 z5 z6 z7 z8 zf
  have b := (((((b).setCell (p := ⟨w.heap.size + 1 + 1, 0, none⟩) (by simp; omega) (.slice A0x (d.1).length c0x)).setCell (p := ⟨w.heap.size + 1 + 1, 1, none⟩) (by simp; omega) (.int .i64 d.2.1)).setCell (p := ⟨w.heap.size + 1 + 1, 2, none⟩) (by simp; omega) (.int .i64 d.2.2.1)).setCell (p := ⟨w.heap.size + 1 + 1, 3, none⟩) (by simp; omega) (.int .i64 d.2.2.2.1)).setCell (p := ⟨w.heap.size + 1 + 1, 4, none⟩) (by simp; omega) (.int .i64 d.2.2.2.2.1)
  have X := (((((X).far (a := ⟨w.heap.size + 1 + 1, 0, none⟩) (.slice A0x (d.1).length c0x) (by simp; omega)).far (a := ⟨w.heap.size + 1 + 1, 1, none⟩) (.int .i64 d.2.1) (by simp; omega)).far (a := ⟨w.heap.size + 1 + 1, 2, none⟩) (.int .i64 d.2.2.1) (by simp; omega)).far (a := ⟨w.heap.size + 1 + 1, 3, none⟩) (.int .i64 d.2.2.2.1) (by simp; omega)).far (a := ⟨w.heap.size + 1 + 1, 4, none⟩) (.int .i64 d.2.2.2.2.1) (by simp; omega)
  have Y := (((((Y).far (a := ⟨w.heap.size + 1 + 1, 0, none⟩) (.slice A0x (d.1).length c0x) (by simp)).far (a := ⟨w.heap.size + 1 + 1, 1, none⟩) (.int .i64 d.2.1) (by simp)).far (a := ⟨w.heap.size + 1 + 1, 2, none⟩) (.int .i64 d.2.2.1) (by simp)).far (a := ⟨w.heap.size + 1 + 1, 3, none⟩) (.int .i64 d.2.2.2.1) (by simp)).far (a := ⟨w.heap.size + 1 + 1, 4, none⟩) (.int .i64 d.2.2.2.2.1) (by simp)
  have Z := (((((Z).set (j := 0) (.slice A0x (d.1).length c0x) (by simp)).set (j := 1) (.int .i64 d.2.1) (by simp)).set (j := 2) (.int .i64 d.2.2.1) (by simp)).set (j := 3) (.int .i64 d.2.2.2.1) (by simp)).set (j := 4) (.int .i64 d.2.2.2.2.1) (by simp)
  have o0 := (rowF (rowF fAct)).own_same ((rowF (rowF fAct)).own_same ((rowF (rowF fAct)).own_same ((rowF (rowF fAct)).own_same ((rowF (rowF fAct)).own_same (o0) (.far _ (a := ⟨w.heap.size + 1 + 1, 0, none⟩) (.slice A0x (d.1).length c0x) (.inl (by show w.heap.size + 1 + 1 < _; omega)))) (.far _ (a := ⟨w.heap.size + 1 + 1, 1, none⟩) (.int .i64 d.2.1) (.inl (by show w.heap.size + 1 + 1 < _; omega)))) (.far _ (a := ⟨w.heap.size + 1 + 1, 2, none⟩) (.int .i64 d.2.2.1) (.inl (by show w.heap.size + 1 + 1 < _; omega)))) (.far _ (a := ⟨w.heap.size + 1 + 1, 3, none⟩) (.int .i64 d.2.2.2.1) (.inl (by show w.heap.size + 1 + 1 < _; omega)))) (.far _ (a := ⟨w.heap.size + 1 + 1, 4, none⟩) (.int .i64 d.2.2.2.2.1) (.inl (by show w.heap.size + 1 + 1 < _; omega)))
  have hz : w.heap.size + 1 + 1 < ((((((w1).setCell ⟨w.heap.size + 1 + 1, 0, none⟩ (.slice A0x (d.1).length c0x)).setCell ⟨w.heap.size + 1 + 1, 1, none⟩ (.int .i64 d.2.1)).setCell ⟨w.heap.size + 1 + 1, 2, none⟩ (.int .i64 d.2.2.1)).setCell ⟨w.heap.size + 1 + 1, 3, none⟩ (.int .i64 d.2.2.2.1)).setCell ⟨w.heap.size + 1 + 1, 4, none⟩ (.int .i64 d.2.2.2.2.1)).heap.size := by simpa [World.setCell] using hz
  have he : ((((((w1).setCell ⟨w.heap.size + 1 + 1, 0, none⟩ (.slice A0x (d.1).length c0x)).setCell ⟨w.heap.size + 1 + 1, 1, none⟩ (.int .i64 d.2.1)).setCell ⟨w.heap.size + 1 + 1, 2, none⟩ (.int .i64 d.2.2.1)).setCell ⟨w.heap.size + 1 + 1, 3, none⟩ (.int .i64 d.2.2.2.1)).setCell ⟨w.heap.size + 1 + 1, 4, none⟩ (.int .i64 d.2.2.2.2.1)).heap.size = w1.heap.size := by simp [World.setCell]
  generalize (((((w1).setCell ⟨w.heap.size + 1 + 1, 0, none⟩ (.slice A0x (d.1).length c0x)).setCell ⟨w.heap.size + 1 + 1, 1, none⟩ (.int .i64 d.2.1)).setCell ⟨w.heap.size + 1 + 1, 2, none⟩ (.int .i64 d.2.2.1)).setCell ⟨w.heap.size + 1 + 1, 3, none⟩ (.int .i64 d.2.2.2.1)).setCell ⟨w.heap.size + 1 + 1, 4, none⟩ (.int .i64 d.2.2.2.2.1) = w2 at b X Y Z hz he o0 ⊢
  have hsz := b.size
  refine (to_WantS A5 c5 B d.2.2.2.2.2.1 _ (by omega) (by omega) (r5.keep b hB)).mono ?_; rintro o w3 ⟨A5x, c5x, rfl, hb, o5⟩
  have o5 : (rowF fWant).Own _ _ _ d.2.2.2.2.2.1 [.slice A5x (d.2.2.2.2.2.1).length c5x] := ⟨_, _, rfl, o5⟩
  have X := X.next hb
  have Y := Y.next hb
  have Z := Z.next hb
  have b := b.trans (hb.mono hsz)
  have hs1 := hb.size
  have o0 := (rowF (rowF fAct)).own_same o0 (.of hb (by omega))
  have hz : w.heap.size + 1 + 1 < w3.heap.size := Nat.lt_of_lt_of_le hz hb.size
  obtain ⟨⟨x0, x1, x2, x3, x4, x5, x6, x7, x8⟩, _⟩ := X.c9
  obtain ⟨⟨z0, z1, z2, z3, z4, z5, z6, z7, z8⟩, zf⟩ := Z.c9
  clear hb
  go_wp2_with fail
  clear x0 x1 x2 x3 x4 x5 x6 x7 x8 z0 z1 z2 z3 z4 z5 z6 z7 z8 zf
  have b := (b).setCell (p := ⟨w.heap.size + 1 + 1, 5, none⟩) (by simp; omega) (.slice A5x (d.2.2.2.2.2.1).length c5x)
  have X := (X).far (a := ⟨w.heap.size + 1 + 1, 5, none⟩) (.slice A5x (d.2.2.2.2.2.1).length c5x) (by simp; omega)
  have Y := (Y).far (a := ⟨w.heap.size + 1 + 1, 5, none⟩) (.slice A5x (d.2.2.2.2.2.1).length c5x) (by simp)
  have Z := (Z).set (j := 5) (.slice A5x (d.2.2.2.2.2.1).length c5x) (by simp)
  have o0 := (rowF (rowF fAct)).own_same (o0) (.far _ (a := ⟨w.heap.size + 1 + 1, 5, none⟩) (.slice A5x (d.2.2.2.2.2.1).length c5x) (.inl (by show w.heap.size + 1 + 1 < _; omega)))
  have o5 := (rowF fWant).own_same (o5) (.far _ (a := ⟨w.heap.size + 1 + 1, 5, none⟩) (.slice A5x (d.2.2.2.2.2.1).length c5x) (.inl (by show w.heap.size + 1 + 1 < _; omega)))
  have hz : w.heap.size + 1 + 1 < ((w3).setCell ⟨w.heap.size + 1 + 1, 5, none⟩ (.slice A5x (d.2.2.2.2.2.1).length c5x)).heap.size := by simpa [World.setCell] using hz
  have he : ((w3).setCell ⟨w.heap.size + 1 + 1, 5, none⟩ (.slice A5x (d.2.2.2.2.2.1).length c5x)).heap.size = w3.heap.size := by simp [World.setCell]
  generalize (w3).setCell ⟨w.heap.size + 1 + 1, 5, none⟩ (.slice A5x (d.2.2.2.2.2.1).length c5x) = w4 at b X Y Z hz he o0 o5 ⊢
  have hsz := b.size
  refine (to_SeenS A6 c6 B d.2.2.2.2.2.2.1 _ (by omega) (by omega) (r6.keep b hB)).mono ?_; rintro o w5 ⟨A6x, c6x, rfl, hb, o6⟩
  have o6 : (rowF fSeen).Own _ _ _ d.2.2.2.2.2.2.1 [.slice A6x (d.2.2.2.2.2.2.1).length c6x] := ⟨_, _, rfl, o6⟩
  have X := X.next hb
  have Y := Y.next hb
  have Z := Z.next hb
  have b := b.trans (hb.mono hsz)
  have hs2 := hb.size
  have o0 := (rowF (rowF fAct)).own_same o0 (.of hb (by omega))
  have o5 := (rowF fWant).own_same o5 (.of hb (by omega))
  have hz : w.heap.size + 1 + 1 < w5.heap.size := Nat.lt_of_lt_of_le hz hb.size
  obtain ⟨⟨x0, x1, x2, x3, x4, x5, x6, x7, x8⟩, _⟩ := X.c9
  obtain ⟨⟨z0, z1, z2, z3, z4, z5, z6, z7, z8⟩, zf⟩ := Z.c9
  clear hb
  go_wp2_with fail
  clear x0 x1 x2 x3 x4 x5 x6 x7 x8 z0 z1 z2 z3 z4 z5 z6 z7 z8 zf
  have b := (b).setCell (p := ⟨w.heap.size + 1 + 1, 6, none⟩) (by simp; omega) (.slice A6x (d.2.2.2.2.2.2.1).length c6x)
  have X := (X).far (a := ⟨w.heap.size + 1 + 1, 6, none⟩) (.slice A6x (d.2.2.2.2.2.2.1).length c6x) (by simp; omega)
  have Y := (Y).far (a := ⟨w.heap.size + 1 + 1, 6, none⟩) (.slice A6x (d.2.2.2.2.2.2.1).length c6x) (by simp)
  have Z := (Z).set (j := 6) (.slice A6x (d.2.2.2.2.2.2.1).length c6x) (by simp)
  have o0 := (rowF (rowF fAct)).own_same (o0) (.far _ (a := ⟨w.heap.size + 1 + 1, 6, none⟩) (.slice A6x (d.2.2.2.2.2.2.1).length c6x) (.inl (by show w.heap.size + 1 + 1 < _; omega)))
  have o5 := (rowF fWant).own_same (o5) (.far _ (a := ⟨w.heap.size + 1 + 1, 6, none⟩) (.slice A6x (d.2.2.2.2.2.2.1).length c6x) (.inl (by show w.heap.size + 1 + 1 < _; omega)))
  have o6 := (rowF fSeen).own_same (o6) (.far _ (a := ⟨w.heap.size + 1 + 1, 6, none⟩) (.slice A6x (d.2.2.2.2.2.2.1).length c6x) (.inl (by show w.heap.size + 1 + 1 < _; omega)))
  have hz : w.heap.size + 1 + 1 < ((w5).setCell ⟨w.heap.size + 1 + 1, 6, none⟩ (.slice A6x (d.2.2.2.2.2.2.1).length c6x)).heap.size := by simpa [World.setCell] using hz
  have he : ((w5).setCell ⟨w.heap.size + 1 + 1, 6, none⟩ (.slice A6x (d.2.2.2.2.2.2.1).length c6x)).heap.size = w5.heap.size := by simp [World.setCell]
  generalize (w5).setCell ⟨w.heap.size + 1 + 1, 6, none⟩ (.slice A6x (d.2.2.2.2.2.2.1).length c6x) = w6 at b X Y Z hz he o0 o5 o6 ⊢
  have hsz := b.size
  refine (to_PutS A7 c7 B d.2.2.2.2.2.2.2.1 _ (by omega) (by omega) (r7.keep b hB)).mono ?_; rintro o w7 ⟨A7x, c7x, rfl, hb, o7⟩
  have o7 : (rowF fPut).Own _ _ _ d.2.2.2.2.2.2.2.1 [.slice A7x (d.2.2.2.2.2.2.2.1).length c7x] := ⟨_, _, rfl, o7⟩
  have X := X.next hb
  have Y := Y.next hb
  have Z := Z.next hb
  have b := b.trans (hb.mono hsz)
  have hs3 := hb.size
  have o0 := (rowF (rowF fAct)).own_same o0 (.of hb (by omega))
  have o5 := (rowF fWant).own_same o5 (.of hb (by omega))
  have o6 := (rowF fSeen).own_same o6 (.of hb (by omega))
  have hz : w.heap.size + 1 + 1 < w7.heap.size := Nat.lt_of_lt_of_le hz hb.size
  obtain ⟨⟨x0, x1, x2, x3, x4, x5, x6, x7, x8⟩, _⟩ := X.c9
  obtain ⟨⟨z0, z1, z2, z3, z4, z5, z6, z7, z8⟩, zf⟩ := Z.c9
  clear hb
  go_wp2_with fail
  clear x0 x1 x2 x3 x4 x5 x6 x7 x8 z0 z1 z2 z3 z4 z5 z6 z7 z8 zf
  have b := (b).setCell (p := ⟨w.heap.size + 1 + 1, 7, none⟩) (by simp; omega) (.slice A7x (d.2.2.2.2.2.2.2.1).length c7x)
  have X := (X).far (a := ⟨w.heap.size + 1 + 1, 7, none⟩) (.slice A7x (d.2.2.2.2.2.2.2.1).length c7x) (by simp; omega)
  have Y := (Y).far (a := ⟨w.heap.size + 1 + 1, 7, none⟩) (.slice A7x (d.2.2.2.2.2.2.2.1).length c7x) (by simp)
  have Z := (Z).set (j := 7) (.slice A7x (d.2.2.2.2.2.2.2.1).length c7x) (by simp)
  have o0 := (rowF (rowF fAct)).own_same (o0) (.far _ (a := ⟨w.heap.size + 1 + 1, 7, none⟩) (.slice A7x (d.2.2.2.2.2.2.2.1).length c7x) (.inl (by show w.heap.size + 1 + 1 < _; omega)))
  have o5 := (rowF fWant).own_same (o5) (.far _ (a := ⟨w.heap.size + 1 + 1, 7, none⟩) (.slice A7x (d.2.2.2.2.2.2.2.1).length c7x) (.inl (by show w.heap.size + 1 + 1 < _; omega)))
  have o6 := (rowF fSeen).own_same (o6) (.far _ (a := ⟨w.heap.size + 1 + 1, 7, none⟩) (.slice A7x (d.2.2.2.2.2.2.2.1).length c7x) (.inl (by show w.heap.size + 1 + 1 < _; omega)))
  have o7 := (rowF fPut).own_same (o7) (.far _ (a := ⟨w.heap.size + 1 + 1, 7, none⟩) (.slice A7x (d.2.2.2.2.2.2.2.1).length c7x) (.inl (by show w.heap.size + 1 + 1 < _; omega)))
  have hz : w.heap.size + 1 + 1 < ((w7).setCell ⟨w.heap.size + 1 + 1, 7, none⟩ (.slice A7x (d.2.2.2.2.2.2.2.1).length c7x)).heap.size := by simpa [World.setCell] using hz
  have he : ((w7).setCell ⟨w.heap.size + 1 + 1, 7, none⟩ (.slice A7x (d.2.2.2.2.2.2.2.1).length c7x)).heap.size = w7.heap.size := by simp [World.setCell]
  generalize (w7).setCell ⟨w.heap.size + 1 + 1, 7, none⟩ (.slice A7x (d.2.2.2.2.2.2.2.1).length c7x) = w8 at b X Y Z hz he o0 o5 o6 o7 ⊢
  have hsz := b.size
  refine (to_IntS A8 c8 B d.2.2.2.2.2.2.2.2 _ (by omega) (by omega) (r8.keep b hB)).mono ?_; rintro o w9 ⟨A8x, c8x, rfl, hb, o8⟩
  have o8 : (rowF intF).Own _ _ _ d.2.2.2.2.2.2.2.2 [.slice A8x (d.2.2.2.2.2.2.2.2).length c8x] := ⟨_, _, rfl, o8⟩
  have X := X.next hb
  have Y := Y.next hb
  have Z := Z.next hb
  have b := b.trans (hb.mono hsz)
  have hs4 := hb.size
  have o0 := (rowF (rowF fAct)).own_same o0 (.of hb (by omega))
  have o5 := (rowF fWant).own_same o5 (.of hb (by omega))
  have o6 := (rowF fSeen).own_same o6 (.of hb (by omega))
  have o7 := (rowF fPut).own_same o7 (.of hb (by omega))
  have hz : w.heap.size + 1 + 1 < w9.heap.size := Nat.lt_of_lt_of_le hz hb.size
  obtain ⟨⟨x0, x1, x2, x3, x4, x5, x6, x7, x8⟩, _⟩ := X.c9
  obtain ⟨⟨z0, z1, z2, z3, z4, z5, z6, z7, z8⟩, zf⟩ := Z.c9
  obtain ⟨⟨y0, y1, y2, y3, y4, y5, y6, y7, y8⟩, yf⟩ := Y.c9
  clear hb X Y Z
  have HO := Lib.hid (own_Worker (lo := w.heap.size + 1 + 1 + 1) (B := w9.heap.size) (by omega) (by omega) o0 (by omega) (by omega) o5 (by omega) (by omega) o6 (by omega) (by omega) o7 (by omega) (by omega) o8 (Nat.le_refl _))
  clear o0 o5 o6 o7 o8
  go_wp2
  exact bodyPost_ret (v := .agg #[.slice A0x (d.1).length c0x, .int .i64 d.2.1, .int .i64 d.2.2.1, .int .i64 d.2.2.2.1, .int .i64 d.2.2.2.2.1, .slice A5x (d.2.2.2.2.2.1).length c5x, .slice A6x (d.2.2.2.2.2.2.1).length c6x, .slice A7x (d.2.2.2.2.2.2.2.1).length c7x, .slice A8x (d.2.2.2.2.2.2.2.2).length c8x]) (by simp [results, Tryz.results64, go_sem, y0, y1, y2, y3, y4, y5, y6, y7, y8]) rfl ⟨[.slice A0x (d.1).length c0x, .int .i64 d.2.1, .int .i64 d.2.2.1, .int .i64 d.2.2.2.1, .int .i64 d.2.2.2.2.1, .slice A5x (d.2.2.2.2.2.1).length c5x, .slice A6x (d.2.2.2.2.2.2.1).length c6x, .slice A7x (d.2.2.2.2.2.2.2.1).length c7x, .slice A8x (d.2.2.2.2.2.2.2.2).length c8x], rfl, (by repeat' (first | (with_reducible refine Below.setCell ?_ (by simp <;> omega) _) | (with_reducible refine Below.alloc ?_ (by simp <;> omega) _) | (with_reducible assumption) | (with_reducible exact Below.refl _ _))), fWorker.own_more (fWorker.own_same HO.out (.only (lo' := w.heap.size + 1) (B' := w.heap.size + 1 + 1 + 1) (by repeat' (first | (with_reducible refine Onlys.setCell ?_ (by simp) (by simp) _) | (with_reducible exact Onlys.refl _ _ _))) (.inr (Nat.le_refl _)))) (by omega) (by simp [World.setCell])⟩
set_option maxHeartbeats 1600000 in
set_option maxRecDepth 100000 in
theorem sz_WorkerS (A : Option Addr) (c B : Nat) (l : List DWorker) (left : Int) (w : World) (h0 : 0 ≤ left) (h1 : left ≤ 1048576) (hB : B ≤ w.heap.size) (h : RAt fWorker w B A l) :
    Calls Tryz.prog 23 #[.slice A l.length c, .int .i64 left] w fun e w' => e = .returned (.int .i64 (szOf left ((rowF fWorker).cnt l))) ∧ Below w.heap.size w w' := by
  have hmx := h.1
  unfold maxLen at hmx
  rw [row_cnt]
  by_cases hl : left < l.length
  · have f1 : left - (l.length : Int) < 0 := by omega
    go_enter Tryz.func23, Tryz.ntmps23
    go_wp2
    go_ret
    exact ⟨by rw [szOf_lt (by omega)]; rfl, Below.refl _ _⟩
  · have f1 : ¬ (left - (l.length : Int) < 0) := by omega
    go_enter Tryz.func23, Tryz.ntmps23
    go_wp2
    go_loopw [1, 5] (fun s i wr => ∃ k : Nat, k ≤ l.length ∧ i = .int .i64 k ∧ ((l.length + psum fWorker l k : Nat) : Int) ≤ left ∧ s = .int .i64 (left - (l.length : Int) - (psum fWorker l k : Int)) ∧ Below w.heap.size w wr) (fun _ i _ => l.length - (intOf i).toNat)
    case atStart => exact ⟨0, Nat.zero_le _, rfl, by rw [psum_zero]; omega, by simp [psum_zero], Below.refl _ _⟩
    case round =>
      obtain ⟨k, hk, rfl, hle, rfl, hb⟩ := hrel
      by_cases hkn : k < l.length
      · obtain ⟨b, off, rfl, hbB, hc⟩ := h.2 (by omega)
        have hkz : (k : Int) < l.length := by omega
        have hget : l[k]? = some l[k] := List.getElem?_eq_getElem hkn
        obtain ⟨v, hv0, hat0⟩ := hc k _ hget
        have hsz := hb.size
        have hat := fWorker.at_same hat0 (.of hb hB)
        have hv := hv0.below hb (show b < w.heap.size by omega)
        rw [show fWorker.n = 9 from rfl] at hv
        have hps := psum_succ (F := fWorker) hget
        have hpm := psum_mono fWorker l (show k + 1 ≤ l.length by omega)
        clear hv0 hat0
        generalize l[k] = d at hget hat hps
        have HAT := Lib.hid hat
        obtain ⟨A0, c0, A5, c5, A6, c6, A7, c7, A8, c8, rfl, _, _, _, _, _⟩ := at_Worker hat
        obtain ⟨a0, a1, a2, a3, a4, a5, a6, a7, a8⟩ := hv.c9
        clear hc h hv hget
        have HC := Lib.hid (show fWorker.cnt d = psum fWorker l (k + 1) - psum fWorker l k by first | omega | (rw [hps]; omega))
        generalize hx : psum fWorker l k = x at hle hps HC ⊢
        generalize hy : psum fWorker l (k + 1) = y at hps hpm HC
        generalize hn : psum fWorker l l.length = z at hpm ⊢
        generalize hL : l.length = n at *
        by_cases hok : ((n + y : Nat) : Int) ≤ left
        · have HE := Lib.hid (show szOf (left - (n : Int) - (x : Int)) (fWorker.cnt d) = left - (n : Int) - (y : Int) by rw [HC.out, szOf_le (by omega)]; omega)
          have hge : ¬ (left - (n : Int) - (y : Int) < 0) := by omega
          clear hps hpm
          go_wp2_with fail
          refine (sz_Worker d B _ _ _ (by omega) (by omega) (by omega) HAT.out).mono ?_; rintro o w1 ⟨rfl, hb1⟩
          rw [HE.out]
          have hb2 := hb.trans (hb1.mono hsz)
          clear a0 a1 a2 a3 a4 a5 a6 a7 a8 hb hb1
          go_wp2
          exact ⟨⟨k + 1, by omega, by go_num, by rw [hy]; exact hok, by rw [hy], hb2⟩, by simp [intOf]; omega⟩
        · have HE := Lib.hid (show szOf (left - (n : Int) - (x : Int)) (fWorker.cnt d) = -1 by rw [HC.out, szOf_lt (by omega)])
          clear hps
          go_wp2_with fail
          refine (sz_Worker d B _ _ _ (by omega) (by omega) (by omega) HAT.out).mono ?_; rintro o w1 ⟨rfl, hb1⟩
          rw [HE.out]
          have hb2 := hb.trans (hb1.mono hsz)
          clear a0 a1 a2 a3 a4 a5 a6 a7 a8 hb hb1
          go_wp2
          go_ret
          exact ⟨by rw [szOf_lt (by rw [hL, hn]; omega)]; rfl, hb2⟩
      · obtain rfl : k = l.length := by omega
        go_wp2
        go_ret
        exact ⟨ret_intG (by rw [szOf_le (by omega)] <;> omega), hb⟩
theorem info_Worker : (Tryz.prog.info? 73).map (fun i => (i.zero, i.size, i.bytes)) = some (some (.agg #[.slice none 0 0, .int .i64 0, .int .i64 0, .int .i64 0, .int .i64 0, .slice none 0 0, .slice none 0 0, .slice none 0 0, .slice none 0 0]), 9, 152) := by kernel_rfl
theorem make_Worker (n : Nat) (h : n ≤ 1048576) (w : World) :
    (Instr.makeSlice 38 (.int .i64 (n : Int)) (.int .i64 (n : Int))).run Tryz.prog w = .ok (.slice (some ⟨w.heap.size, 0, none⟩) n n) (w.alloc (.cells (madeCells #[.slice none 0 0, .int .i64 0, .int .i64 0, .int .i64 0, .int .i64 0, .slice none 0 0, .slice none 0 0, .slice none 0 0, .slice none 0 0] (n * 9)) 73)) := by
  obtain ⟨i, hi, hzz⟩ := Option.map_eq_some_iff.1 info_Worker
  simp only [Prod.mk.injEq] at hzz
  obtain ⟨hz, hs, hb⟩ := hzz
  have := run_make (P := Tryz.prog) w 38 73 i _ Tryz.underlying38 hi hz .i64 .i64 n n (by omega) (Int.le_refl _) (by rw [hb]; omega) (by omega)
  simpa [hs, Value.cells] using this
set_option maxHeartbeats 1600000 in
set_option maxRecDepth 100000 in
theorem to_WorkerS (A : Option Addr) (c B : Nat) (l : List DWorker) (w : World) (hs : (rowF fWorker).cnt l ≤ 1048576) (hB : B ≤ w.heap.size) (h : RAt fWorker w B A l) :
    Calls Tryz.prog 32 #[.slice A l.length c] w fun e w' => ∃ G c', e = .returned (.slice G l.length c') ∧ Below w.heap.size w w' ∧ ROwn fWorker w' w.heap.size w'.heap.size G l := by
  have hlen : l.length ≤ 1048576 := by rw [row_cnt] at hs; omega
  have hmx : l.length ≤ maxLen := h.1
  have hmk := make_Worker l.length hlen
  go_enter Tryz.func32, Tryz.ntmps32
  go_wp2
  clear hmk
  go_loopw [4] (fun i wr => ∃ k : Nat, k ≤ l.length ∧ i = .int .i64 k ∧ Below w.heap.size w wr ∧ ∃ vs L H, Laid fWorker w.heap.size [.slice none 0 0, .int .i64 0, .int .i64 0, .int .i64 0, .int .i64 0, .slice none 0 0, .slice none 0 0, .slice none 0 0, .slice none 0 0] l wr k vs L H) (fun i _ => l.length - (intOf i).toNat)
  case atStart => exact ⟨0, Nat.zero_le _, rfl, (Below.refl _ _).alloc (Nat.le_refl _) _, _, _, _, made_laid (F := fWorker) w (z := [.slice none 0 0, .int .i64 0, .int .i64 0, .int .i64 0, .int .i64 0, .slice none 0 0, .slice none 0 0, .slice none 0 0, .slice none 0 0]) rfl (by decide) (rfl)⟩
  case round =>
    obtain ⟨k, hk, rfl, hb, vs, L, H, hld⟩ := hrel
    by_cases hkn : k < l.length
    · obtain ⟨b, off, rfl, hbB, hc⟩ := h.2 (by omega)
      have hkz : (k : Int) < l.length := by omega
      have hget : l[k]? = some l[k] := List.getElem?_eq_getElem hkn
      obtain ⟨v, hv0, hat0⟩ := hc k _ hget
      have hcn := cnt_at (F := fWorker) hget
      have hsz := hb.size
      have hat := fWorker.at_same hat0 (.of hb hB)
      have hv := hv0.below hb (show b < w.heap.size by omega)
      rw [show fWorker.n = 9 from rfl] at hv
      clear hv0 hat0
      generalize l[k] = d at hget hat hcn
      have HAT := Lib.hid hat
      obtain ⟨A0, c0, A5, c5, A6, c6, A7, c7, A8, c8, rfl, _, _, _, _, _⟩ := at_Worker hat
      obtain ⟨a0, a1, a2, a3, a4, a5, a6, a7, a8⟩ := hv.c9
      clear hc h hv
      go_wp2_with fail
      refine (to_Worker d B _ _ (by omega) (by omega) HAT.out).mono ?_; rintro o w1 ⟨us, rfl, hb1, ho⟩
      have HO := Lib.hid ho
      obtain ⟨A0x, c0x, A5x, c5x, A6x, c6x, A7x, c7x, A8x, c8x, rfl, _, _, _, _, _⟩ := at_Worker (fWorker.own_at ho)
      have hs1 := hb1.size
      have hld1 := hld.next hb1
      have hzr := hld1.zero hkn
      rw [show fWorker.n = 9 from rfl] at hzr
      obtain ⟨z0, z1, z2, z3, z4, z5, z6, z7, z8⟩ := hzr.c9
      have r0 := hld1.free
      have HB := Lib.hid ((((((((((hb.trans (hb1.mono hsz)).setCell (p := ⟨w.heap.size, k * 9, none⟩) (Nat.le_refl _) (.slice A0x (d.1).length c0x)).setCell (p := ⟨w.heap.size, k * 9 + 1, none⟩) (Nat.le_refl _) (.int .i64 d.2.1)).setCell (p := ⟨w.heap.size, k * 9 + 2, none⟩) (Nat.le_refl _) (.int .i64 d.2.2.1)).setCell (p := ⟨w.heap.size, k * 9 + 3, none⟩) (Nat.le_refl _) (.int .i64 d.2.2.2.1)).setCell (p := ⟨w.heap.size, k * 9 + 4, none⟩) (Nat.le_refl _) (.int .i64 d.2.2.2.2.1)).setCell (p := ⟨w.heap.size, k * 9 + 5, none⟩) (Nat.le_refl _) (.slice A5x (d.2.2.2.2.2.1).length c5x)).setCell (p := ⟨w.heap.size, k * 9 + 6, none⟩) (Nat.le_refl _) (.slice A6x (d.2.2.2.2.2.2.1).length c6x)).setCell (p := ⟨w.heap.size, k * 9 + 7, none⟩) (Nat.le_refl _) (.slice A7x (d.2.2.2.2.2.2.2.1).length c7x)).setCell (p := ⟨w.heap.size, k * 9 + 8, none⟩) (Nat.le_refl _) (.slice A8x (d.2.2.2.2.2.2.2.2).length c8x))
      have hl1 := hld1.step hkn hget (v := [.slice A0x (d.1).length c0x, .int .i64 d.2.1, .int .i64 d.2.2.1, .int .i64 d.2.2.2.1, .int .i64 d.2.2.2.2.1, .slice A5x (d.2.2.2.2.2.1).length c5x, .slice A6x (d.2.2.2.2.2.2.1).length c6x, .slice A7x (d.2.2.2.2.2.2.2.1).length c7x, .slice A8x (d.2.2.2.2.2.2.2.2).length c8x]) (s := wr.heap.size) rfl rfl hld.lt (fun j hj => (hld.own j _ hj (List.getElem?_eq_getElem (by omega))).2.1) HO.out
      have HL := Lib.hid hl1
      clear hld hld1 hzr hb hb1 hl1 ho a0 a1 a2 a3 a4 a5 a6 a7 a8
      go_wp2
      exact ⟨⟨k + 1, by omega, by go_num, HB.out, _, _, _, HL.out⟩, by simp [intOf]; omega⟩
    · obtain rfl : k = l.length := by omega
      have HO := Lib.hid (hld.done hmx (Nat.le_refl _) (Nat.le_refl _))
      clear hld
      go_wp2
      go_ret
      exact ⟨_, _, rfl, hb, HO.out⟩
set_option maxHeartbeats 1600000 in
set_option maxRecDepth 100000 in
theorem eq_WorkerS (A A' : Option Addr) (c c' B B' : Nat) (l : List DWorker) (w : World) (hB : B ≤ w.heap.size) (hB' : B' ≤ w.heap.size) (h : RAt fWorker w B A l) (h' : RAt fWorker w B' A' l) :
    Calls Tryz.prog 40 #[.slice A l.length c, .slice A' l.length c'] w fun e w' => e = .returned (.bool true) ∧ Below w.heap.size w w' := by
  have hmx := h.1
  unfold maxLen at hmx
  go_enter Tryz.func40, Tryz.ntmps40
  go_wp2
  go_loopw [5] (fun i wr => ∃ k : Nat, k ≤ l.length ∧ i = .int .i64 k ∧ Below w.heap.size w wr) (fun i _ => l.length - (intOf i).toNat)
  case atStart => exact ⟨0, Nat.zero_le _, rfl, Below.refl _ _⟩
  case round =>
    obtain ⟨k, hk, rfl, hb⟩ := hrel
    by_cases hkn : k < l.length
    · obtain ⟨b, off, rfl, hbB, hc⟩ := h.2 (by omega)
      obtain ⟨b', off', rfl, hbB', hc'⟩ := h'.2 (by omega)
      have hkz : (k : Int) < l.length := by omega
      have hget : l[k]? = some l[k] := List.getElem?_eq_getElem hkn
      obtain ⟨v, hv0, hat0⟩ := hc k _ hget
      obtain ⟨v', hv0', hat0'⟩ := hc' k _ hget
      have hsz := hb.size
      have hat := fWorker.at_same hat0 (.of hb hB)
      have hat' := fWorker.at_same hat0' (.of hb hB')
      have hv := hv0.below hb (show b < w.heap.size by omega)
      have hv' := hv0'.below hb (show b' < w.heap.size by omega)
      rw [show fWorker.n = 9 from rfl] at hv hv'
      clear hv0 hat0 hv0' hat0'
      have hsz' : B ≤ wr.heap.size := by omega
      have hsz'' : B' ≤ wr.heap.size := by omega
      generalize l[k] = d at hget hat hat'
      have HAT := Lib.hid (fWorker.at_same hat (.of (Below.refl _ _).drew hsz'))
      have HATX := Lib.hid (fWorker.at_same hat' (.of (Below.refl _ _).drew hsz''))
      obtain ⟨A0, c0, A5, c5, A6, c6, A7, c7, A8, c8, rfl, _, _, _, _, _⟩ := at_Worker hat
      obtain ⟨A0x, c0x, A5x, c5x, A6x, c6x, A7x, c7x, A8x, c8x, rfl, _, _, _, _, _⟩ := at_Worker hat'
      obtain ⟨a0, a1, a2, a3, a4, a5, a6, a7, a8⟩ := hv.c9
      obtain ⟨b0, b1, b2, b3, b4, b5, b6, b7, b8⟩ := hv'.c9
      clear hc hc' h h' hv hv' hget
      go_wp2_with fail
      go_still_tail 8, (by kernel_rfl)
      change wpList _ _ _ _ _ wr.drew
      have hb2 := hb.drew
      clear a0 b0 a1 b1 a2 b2 a3 b3 a4 b4 a5 b5 a6 b6 a7 b7 a8 b8
      generalize wr.drew = w2 at hb2 HAT HATX ⊢
      have hs2 := hb2.size
      go_wp2_with fail
      refine (eq_Worker d B B' _ _ _ (by omega) (by omega) HAT.out HATX.out).mono ?_; rintro o w3 ⟨rfl, hb3⟩
      go_wp2
      exact ⟨⟨k + 1, by omega, by go_num, hb2.trans (hb3.mono hs2)⟩, by simp [intOf]; omega⟩
    · obtain rfl : k = l.length := by omega
      go_wp2
      go_ret
      exact ⟨rfl, hb⟩
set_option maxHeartbeats 1600000 in
set_option maxRecDepth 100000 in
theorem sz_Commit (d : DCommit) (B : Nat) (vs : List Value) (left : Int) (w : World) (h0 : 0 ≤ left) (h1 : left ≤ 1048576) (_hB : B ≤ w.heap.size) (h : fCommit.At w B d vs) :
    Calls Tryz.prog 57 #[.agg vs.toArray, .int .i64 left] w fun e w' => e = .returned (.int .i64 (szOf left (fCommit.cnt d))) ∧ Below w.heap.size w w' := by
  obtain ⟨A4, c4, A5, c5, rfl, r4, r5⟩ := at_Commit h
  rw [cnt_Commit]
  clear h
  have K0 : ∃ m, m = (rowF intF).cnt d.2.2.2.2.1 := ⟨_, rfl⟩
  obtain ⟨m0, J0⟩ := K0
  have K0 := Lib.hid J0
  clear J0
  have K1 : ∃ m, m = (rowF fPut).cnt d.2.2.2.2.2 := ⟨_, rfl⟩
  obtain ⟨m1, J1⟩ := K1
  have K1 := Lib.hid J1
  clear J1
  rw [← K0.out, ← K1.out]
  by_cases g0 : left < (m0 : Int)
  · have E0 := Lib.hid (szOf_lt g0)
    go_enter Tryz.func57, Tryz.ntmps57
    go_wp2_with fail
    have b := (Below.refl w.heap.size w).alloc (Nat.le_refl _) (.cells #[.int .i64 d.1, .int .i64 d.2.1, .int .i64 d.2.2.1, .int .i64 d.2.2.2.1, .slice A4 (d.2.2.2.2.1).length c4, .slice A5 (d.2.2.2.2.2).length c5] 109)
    have X := Bx.new (w := w) (c := #[.int .i64 d.1, .int .i64 d.2.1, .int .i64 d.2.2.1, .int .i64 d.2.2.2.1, .slice A4 (d.2.2.2.2.1).length c4, .slice A5 (d.2.2.2.2.2).length c5]) (t := 109) rfl
    generalize w.alloc (.cells #[.int .i64 d.1, .int .i64 d.2.1, .int .i64 d.2.2.1, .int .i64 d.2.2.2.1, .slice A4 (d.2.2.2.2.1).length c4, .slice A5 (d.2.2.2.2.2).length c5] 109) = w0 at b X ⊢
    have hsz := b.size
    refine (sz_IntS A4 c4 d.2.2.2.2.1 (left) _ r4.1 (by omega) (by omega)).mono ?_; rintro o w1 ⟨rfl, rfl⟩
    rw [← K0.out, E0.out]
    obtain ⟨⟨x0, x1, x2, x3, x4, x5⟩, _⟩ := X.c6
    go_wp2
    go_ret
    exact ⟨by rw [szOf_lt (by omega)]; rfl, b⟩
  have E0 := Lib.hid (szOf_le (left := left) (n := m0) (by omega))
  have g0n : ¬ (left - (m0 : Int) < 0) := by omega
  by_cases g1 : left - (m0 : Int) < (m1 : Int)
  · have E1 := Lib.hid (szOf_lt g1)
    go_enter Tryz.func57, Tryz.ntmps57
    go_wp2_with fail
    have b := (Below.refl w.heap.size w).alloc (Nat.le_refl _) (.cells #[.int .i64 d.1, .int .i64 d.2.1, .int .i64 d.2.2.1, .int .i64 d.2.2.2.1, .slice A4 (d.2.2.2.2.1).length c4, .slice A5 (d.2.2.2.2.2).length c5] 109)
    have X := Bx.new (w := w) (c := #[.int .i64 d.1, .int .i64 d.2.1, .int .i64 d.2.2.1, .int .i64 d.2.2.2.1, .slice A4 (d.2.2.2.2.1).length c4, .slice A5 (d.2.2.2.2.2).length c5]) (t := 109) rfl
    generalize w.alloc (.cells #[.int .i64 d.1, .int .i64 d.2.1, .int .i64 d.2.2.1, .int .i64 d.2.2.2.1, .slice A4 (d.2.2.2.2.1).length c4, .slice A5 (d.2.2.2.2.2).length c5] 109) = w0 at b X ⊢
    have hsz := b.size
    refine (sz_IntS A4 c4 d.2.2.2.2.1 (left) _ r4.1 (by omega) (by omega)).mono ?_; rintro o w1 ⟨rfl, rfl⟩
    rw [← K0.out, E0.out]
    obtain ⟨⟨x0, x1, x2, x3, x4, x5⟩, _⟩ := X.c6
    go_wp2_with fail
    clear x0 x1 x2 x3 x4 x5
    have hsz := b.size
    refine (sz_PutS A5 c5 d.2.2.2.2.2 (left - (m0 : Int)) _ r5.1 (by omega) (by omega)).mono ?_; rintro o w2 ⟨rfl, rfl⟩
    rw [← K1.out, E1.out]
    obtain ⟨⟨x0, x1, x2, x3, x4, x5⟩, _⟩ := X.c6
    go_wp2
    go_ret
    exact ⟨by rw [szOf_lt (by omega)]; rfl, b⟩
  have E1 := Lib.hid (szOf_le (left := left - (m0 : Int)) (n := m1) (by omega))
  have g1n : ¬ (left - (m0 : Int) - (m1 : Int) < 0) := by omega
  go_enter Tryz.func57, Tryz.ntmps57
  go_wp2_with fail
  have b := (Below.refl w.heap.size w).alloc (Nat.le_refl _) (.cells #[.int .i64 d.1, .int .i64 d.2.1, .int .i64 d.2.2.1, .int .i64 d.2.2.2.1, .slice A4 (d.2.2.2.2.1).length c4, .slice A5 (d.2.2.2.2.2).length c5] 109)
  have X := Bx.new (w := w) (c := #[.int .i64 d.1, .int .i64 d.2.1, .int .i64 d.2.2.1, .int .i64 d.2.2.2.1, .slice A4 (d.2.2.2.2.1).length c4, .slice A5 (d.2.2.2.2.2).length c5]) (t := 109) rfl
  generalize w.alloc (.cells #[.int .i64 d.1, .int .i64 d.2.1, .int .i64 d.2.2.1, .int .i64 d.2.2.2.1, .slice A4 (d.2.2.2.2.1).length c4, .slice A5 (d.2.2.2.2.2).length c5] 109) = w0 at b X ⊢
  have hsz := b.size
  refine (sz_IntS A4 c4 d.2.2.2.2.1 (left) _ r4.1 (by omega) (by omega)).mono ?_; rintro o w1 ⟨rfl, rfl⟩
  rw [← K0.out, E0.out]
  obtain ⟨⟨x0, x1, x2, x3, x4, x5⟩, _⟩ := X.c6
  go_wp2_with fail
  clear x0 x1 x2 x3 x4 x5
  have hsz := b.size
  refine (sz_PutS A5 c5 d.2.2.2.2.2 (left - (m0 : Int)) _ r5.1 (by omega) (by omega)).mono ?_; rintro o w2 ⟨rfl, rfl⟩
  rw [← K1.out, E1.out]
  obtain ⟨⟨x0, x1, x2, x3, x4, x5⟩, _⟩ := X.c6
  go_wp2
  go_ret
  exact ⟨ret_intG (by rw [szOf_le (by omega)] <;> omega), b⟩
set_option maxHeartbeats 1600000 in
set_option maxRecDepth 100000 in
theorem eq_Commit (d : DCommit) (B B' : Nat) (vs us : List Value) (w : World) (hB : B ≤ w.heap.size) (hB' : B' ≤ w.heap.size) (h : fCommit.At w B d vs) (h' : fCommit.At w B' d us) :
    Calls Tryz.prog 75 #[.agg vs.toArray, .agg us.toArray] w fun e w' => e = .returned (.bool true) ∧ Below w.heap.size w w' := by
  obtain ⟨A4, c4, A5, c5, rfl, r4, r5⟩ := at_Commit h
  obtain ⟨A4x, c4x, A5x, c5x, rfl, q4, q5⟩ := at_Commit h'
  clear h h'
  go_enter Tryz.func75, Tryz.ntmps75
  go_wp2_with fail
  have b := ((Below.refl w.heap.size w).alloc (Nat.le_refl _) (.cells #[.int .i64 d.1, .int .i64 d.2.1, .int .i64 d.2.2.1, .int .i64 d.2.2.2.1, .slice A4 (d.2.2.2.2.1).length c4, .slice A5 (d.2.2.2.2.2).length c5] 115)).alloc (by simp) (.cells #[.int .i64 d.1, .int .i64 d.2.1, .int .i64 d.2.2.1, .int .i64 d.2.2.2.1, .slice A4x (d.2.2.2.2.1).length c4x, .slice A5x (d.2.2.2.2.2).length c5x] 115)
  have X := (Bx.new (w := w) (c := #[.int .i64 d.1, .int .i64 d.2.1, .int .i64 d.2.2.1, .int .i64 d.2.2.2.1, .slice A4 (d.2.2.2.2.1).length c4, .slice A5 (d.2.2.2.2.2).length c5]) (t := 115) rfl).alloc (.cells #[.int .i64 d.1, .int .i64 d.2.1, .int .i64 d.2.2.1, .int .i64 d.2.2.2.1, .slice A4x (d.2.2.2.2.1).length c4x, .slice A5x (d.2.2.2.2.2).length c5x] 115)
  have Y := Bx.new (w := w.alloc (.cells #[.int .i64 d.1, .int .i64 d.2.1, .int .i64 d.2.2.1, .int .i64 d.2.2.2.1, .slice A4 (d.2.2.2.2.1).length c4, .slice A5 (d.2.2.2.2.2).length c5] 115)) (b := w.heap.size + 1) (c := #[.int .i64 d.1, .int .i64 d.2.1, .int .i64 d.2.2.1, .int .i64 d.2.2.2.1, .slice A4x (d.2.2.2.2.1).length c4x, .slice A5x (d.2.2.2.2.2).length c5x]) (t := 115) (by simp)
  generalize (w.alloc (.cells #[.int .i64 d.1, .int .i64 d.2.1, .int .i64 d.2.2.1, .int .i64 d.2.2.2.1, .slice A4 (d.2.2.2.2.1).length c4, .slice A5 (d.2.2.2.2.2).length c5] 115)).alloc (.cells #[.int .i64 d.1, .int .i64 d.2.1, .int .i64 d.2.2.1, .int .i64 d.2.2.2.1, .slice A4x (d.2.2.2.2.1).length c4x, .slice A5x (d.2.2.2.2.2).length c5x] 115) = w0 at b X Y ⊢
  have hsz := b.size
  refine (eq_IntS A4 A4x c4 c4x B B' d.2.2.2.2.1 _ (by omega) (by omega) (r4.keep b hB) (q4.keep b hB')).mono ?_; rintro o w1 ⟨rfl, hb⟩
  have X := X.next hb
  have Y := Y.next hb
  have b := b.trans (hb.mono hsz)
  obtain ⟨⟨x0, x1, x2, x3, x4, x5⟩, _⟩ := X.c6
  obtain ⟨⟨y0, y1, y2, y3, y4, y5⟩, _⟩ := Y.c6
  clear hb
  go_wp2_with fail
  clear x0 x1 x2 x3 x4 x5 y0 y1 y2 y3 y4 y5
  have hsz := b.size
  refine (eq_PutS A5 A5x c5 c5x B B' d.2.2.2.2.2 _ (by omega) (by omega) (r5.keep b hB) (q5.keep b hB')).mono ?_; rintro o w2 ⟨rfl, hb⟩
  have X := X.next hb
  have Y := Y.next hb
  have b := b.trans (hb.mono hsz)
  obtain ⟨⟨x0, x1, x2, x3, x4, x5⟩, _⟩ := X.c6
  obtain ⟨⟨y0, y1, y2, y3, y4, y5⟩, _⟩ := Y.c6
  clear hb
  go_wp2
  go_ret
  exact ⟨rfl, b⟩
set_option maxHeartbeats 1600000 in
set_option maxRecDepth 100000 in
theorem to_Commit (d : DCommit) (B : Nat) (vs : List Value) (w : World) (hs : fCommit.cnt d ≤ 1048576) (hB : B ≤ w.heap.size) (h : fCommit.At w B d vs) :
    Calls Tryz.prog 65 #[.agg vs.toArray] w fun e w' => ∃ us, e = .returned (.agg us.toArray) ∧ Below w.heap.size w w' ∧ fCommit.Own w' w.heap.size w'.heap.size d us := by
  obtain ⟨A4, c4, A5, c5, rfl, r4, r5⟩ := at_Commit h
  rw [cnt_Commit] at hs
  clear h
  go_enter Tryz.func65, Tryz.ntmps65
  go_wp2_with fail
  have b := (((Below.refl w.heap.size w).alloc (Nat.le_refl _) (.cells #[.int .i64 d.1, .int .i64 d.2.1, .int .i64 d.2.2.1, .int .i64 d.2.2.2.1, .slice A4 (d.2.2.2.2.1).length c4, .slice A5 (d.2.2.2.2.2).length c5] 109)).alloc (by simp) (.cells #[.int .i64 0, .int .i64 0, .int .i64 0, .int .i64 0, .slice none 0 0, .slice none 0 0] 115)).alloc (by simp; omega) (.cells #[.int .i64 d.1, .int .i64 d.2.1, .int .i64 d.2.2.1, .int .i64 d.2.2.2.1, .slice none 0 0, .slice none 0 0] 115)
  have X := ((Bx.new (w := w) (c := #[.int .i64 d.1, .int .i64 d.2.1, .int .i64 d.2.2.1, .int .i64 d.2.2.2.1, .slice A4 (d.2.2.2.2.1).length c4, .slice A5 (d.2.2.2.2.2).length c5]) (t := 109) rfl).alloc (.cells #[.int .i64 0, .int .i64 0, .int .i64 0, .int .i64 0, .slice none 0 0, .slice none 0 0] 115)).alloc (.cells #[.int .i64 d.1, .int .i64 d.2.1, .int .i64 d.2.2.1, .int .i64 d.2.2.2.1, .slice none 0 0, .slice none 0 0] 115)
  have Y := (Bx.new (w := w.alloc (.cells #[.int .i64 d.1, .int .i64 d.2.1, .int .i64 d.2.2.1, .int .i64 d.2.2.2.1, .slice A4 (d.2.2.2.2.1).length c4, .slice A5 (d.2.2.2.2.2).length c5] 109)) (b := w.heap.size + 1) (c := #[.int .i64 0, .int .i64 0, .int .i64 0, .int .i64 0, .slice none 0 0, .slice none 0 0]) (t := 115) (by simp)).alloc (.cells #[.int .i64 d.1, .int .i64 d.2.1, .int .i64 d.2.2.1, .int .i64 d.2.2.2.1, .slice none 0 0, .slice none 0 0] 115)
  have Z := Bx.new (w := (w.alloc (.cells #[.int .i64 d.1, .int .i64 d.2.1, .int .i64 d.2.2.1, .int .i64 d.2.2.2.1, .slice A4 (d.2.2.2.2.1).length c4, .slice A5 (d.2.2.2.2.2).length c5] 109)).alloc (.cells #[.int .i64 0, .int .i64 0, .int .i64 0, .int .i64 0, .slice none 0 0, .slice none 0 0] 115)) (b := w.heap.size + 1 + 1) (c := #[.int .i64 d.1, .int .i64 d.2.1, .int .i64 d.2.2.1, .int .i64 d.2.2.2.1, .slice none 0 0, .slice none 0 0]) (t := 115) (by simp)
  have hz : w.heap.size + 1 + 1 < (((w.alloc (.cells #[.int .i64 d.1, .int .i64 d.2.1, .int .i64 d.2.2.1, .int .i64 d.2.2.2.1, .slice A4 (d.2.2.2.2.1).length c4, .slice A5 (d.2.2.2.2.2).length c5] 109)).alloc (.cells #[.int .i64 0, .int .i64 0, .int .i64 0, .int .i64 0, .slice none 0 0, .slice none 0 0] 115)).alloc (.cells #[.int .i64 d.1, .int .i64 d.2.1, .int .i64 d.2.2.1, .int .i64 d.2.2.2.1, .slice none 0 0, .slice none 0 0] 115)).heap.size := by simp
  generalize ((w.alloc (.cells #[.int .i64 d.1, .int .i64 d.2.1, .int .i64 d.2.2.1, .int .i64 d.2.2.2.1, .slice A4 (d.2.2.2.2.1).length c4, .slice A5 (d.2.2.2.2.2).length c5] 109)).alloc (.cells #[.int .i64 0, .int .i64 0, .int .i64 0, .int .i64 0, .slice none 0 0, .slice none 0 0] 115)).alloc (.cells #[.int .i64 d.1, .int .i64 d.2.1, .int .i64 d.2.2.1, .int .i64 d.2.2.2.1, .slice none 0 0, .slice none 0 0] 115) = w0 at b X Y Z hz ⊢
  have hsz := b.size
  refine (to_IntS A4 c4 B d.2.2.2.2.1 _ (by omega) (by omega) (r4.keep b hB)).mono ?_; rintro o w1 ⟨A4x, c4x, rfl, hb, o4⟩
  have o4 : (rowF intF).Own _ _ _ d.2.2.2.2.1 [.slice A4x (d.2.2.2.2.1).length c4x] := ⟨_, _, rfl, o4⟩
  have X := X.next hb
  have Y := Y.next hb
  have Z := Z.next hb
  have b := b.trans (hb.mono hsz)
  have hs0 := hb.size
  have hz : w.heap.size + 1 + 1 < w1.heap.size := Nat.lt_of_lt_of_le hz hb.size
  obtain ⟨⟨x0, x1, x2, x3, x4, x5⟩, _⟩ := X.c6
  obtain ⟨⟨z0, z1, z2, z3, z4, z5⟩, zf⟩ := Z.c6
  clear hb
  go_wp2_with fail
  clear x0 x1 x2 x3 x4 x5 z0 z1 z2 z3 z4 z5 zf
  have b := (b).setCell (p := ⟨w.heap.size + 1 + 1, 4, none⟩) (by simp; omega) (.slice A4x (d.2.2.2.2.1).length c4x)
  have X := (X).far (a := ⟨w.heap.size + 1 + 1, 4, none⟩) (.slice A4x (d.2.2.2.2.1).length c4x) (by simp; omega)
  have Y := (Y).far (a := ⟨w.heap.size + 1 + 1, 4, none⟩) (.slice A4x (d.2.2.2.2.1).length c4x) (by simp)
  have Z := (Z).set (j := 4) (.slice A4x (d.2.2.2.2.1).length c4x) (by simp)
  have o4 := (rowF intF).own_same (o4) (.far _ (a := ⟨w.heap.size + 1 + 1, 4, none⟩) (.slice A4x (d.2.2.2.2.1).length c4x) (.inl (by show w.heap.size + 1 + 1 < _; omega)))
  have hz : w.heap.size + 1 + 1 < ((w1).setCell ⟨w.heap.size + 1 + 1, 4, none⟩ (.slice A4x (d.2.2.2.2.1).length c4x)).heap.size := by simpa [World.setCell] using hz
  have he : ((w1).setCell ⟨w.heap.size + 1 + 1, 4, none⟩ (.slice A4x (d.2.2.2.2.1).length c4x)).heap.size = w1.heap.size := by simp [World.setCell]
  generalize (w1).setCell ⟨w.heap.size + 1 + 1, 4, none⟩ (.slice A4x (d.2.2.2.2.1).length c4x) = w2 at b X Y Z hz he o4 ⊢
  have hsz := b.size
  refine (to_PutS A5 c5 B d.2.2.2.2.2 _ (by omega) (by omega) (r5.keep b hB)).mono ?_; rintro o w3 ⟨A5x, c5x, rfl, hb, o5⟩
  have o5 : (rowF fPut).Own _ _ _ d.2.2.2.2.2 [.slice A5x (d.2.2.2.2.2).length c5x] := ⟨_, _, rfl, o5⟩
  have X := X.next hb
  have Y := Y.next hb
  have Z := Z.next hb
  have b := b.trans (hb.mono hsz)
  have hs1 := hb.size
  have o4 := (rowF intF).own_same o4 (.of hb (by omega))
  have hz : w.heap.size + 1 + 1 < w3.heap.size := Nat.lt_of_lt_of_le hz hb.size
  obtain ⟨⟨x0, x1, x2, x3, x4, x5⟩, _⟩ := X.c6
  obtain ⟨⟨z0, z1, z2, z3, z4, z5⟩, zf⟩ := Z.c6
  obtain ⟨⟨y0, y1, y2, y3, y4, y5⟩, yf⟩ := Y.c6
  clear hb X Y Z
  have HO := Lib.hid (own_Commit (lo := w.heap.size + 1 + 1 + 1) (B := w3.heap.size) (by omega) (by omega) o4 (by omega) (by omega) o5 (Nat.le_refl _))
  clear o4 o5
  go_wp2
  exact bodyPost_ret (v := .agg #[.int .i64 d.1, .int .i64 d.2.1, .int .i64 d.2.2.1, .int .i64 d.2.2.2.1, .slice A4x (d.2.2.2.2.1).length c4x, .slice A5x (d.2.2.2.2.2).length c5x]) (by simp [results, Tryz.results65, go_sem, y0, y1, y2, y3, y4, y5]) rfl ⟨[.int .i64 d.1, .int .i64 d.2.1, .int .i64 d.2.2.1, .int .i64 d.2.2.2.1, .slice A4x (d.2.2.2.2.1).length c4x, .slice A5x (d.2.2.2.2.2).length c5x], rfl, (by repeat' (first | (with_reducible refine Below.setCell ?_ (by simp <;> omega) _) | (with_reducible refine Below.alloc ?_ (by simp <;> omega) _) | (with_reducible assumption) | (with_reducible exact Below.refl _ _))), fCommit.own_more (fCommit.own_same HO.out (.only (lo' := w.heap.size + 1) (B' := w.heap.size + 1 + 1 + 1) (by repeat' (first | (with_reducible refine Onlys.setCell ?_ (by simp) (by simp) _) | (with_reducible exact Onlys.refl _ _ _))) (.inr (Nat.le_refl _)))) (by omega) (by simp [World.setCell])⟩
set_option maxHeartbeats 1600000 in
set_option maxRecDepth 100000 in
theorem sz_CommitS (A : Option Addr) (c B : Nat) (l : List DCommit) (left : Int) (w : World) (h0 : 0 ≤ left) (h1 : left ≤ 1048576) (hB : B ≤ w.heap.size) (h : RAt fCommit w B A l) :
    Calls Tryz.prog 25 #[.slice A l.length c, .int .i64 left] w fun e w' => e = .returned (.int .i64 (szOf left ((rowF fCommit).cnt l))) ∧ Below w.heap.size w w' := by
  have hmx := h.1
  unfold maxLen at hmx
  rw [row_cnt]
  by_cases hl : left < l.length
  · have f1 : left - (l.length : Int) < 0 := by omega
    go_enter Tryz.func25, Tryz.ntmps25
    go_wp2
    go_ret
    exact ⟨by rw [szOf_lt (by omega)]; rfl, Below.refl _ _⟩
  · have f1 : ¬ (left - (l.length : Int) < 0) := by omega
    go_enter Tryz.func25, Tryz.ntmps25
    go_wp2
    go_loopw [1, 5] (fun s i wr => ∃ k : Nat, k ≤ l.length ∧ i = .int .i64 k ∧ ((l.length + psum fCommit l k : Nat) : Int) ≤ left ∧ s = .int .i64 (left - (l.length : Int) - (psum fCommit l k : Int)) ∧ Below w.heap.size w wr) (fun _ i _ => l.length - (intOf i).toNat)
    case atStart => exact ⟨0, Nat.zero_le _, rfl, by rw [psum_zero]; omega, by simp [psum_zero], Below.refl _ _⟩
    case round =>
      obtain ⟨k, hk, rfl, hle, rfl, hb⟩ := hrel
      by_cases hkn : k < l.length
      · obtain ⟨b, off, rfl, hbB, hc⟩ := h.2 (by omega)
        have hkz : (k : Int) < l.length := by omega
        have hget : l[k]? = some l[k] := List.getElem?_eq_getElem hkn
        obtain ⟨v, hv0, hat0⟩ := hc k _ hget
        have hsz := hb.size
        have hat := fCommit.at_same hat0 (.of hb hB)
        have hv := hv0.below hb (show b < w.heap.size by omega)
        rw [show fCommit.n = 6 from rfl] at hv
        have hps := psum_succ (F := fCommit) hget
        have hpm := psum_mono fCommit l (show k + 1 ≤ l.length by omega)
        clear hv0 hat0
        generalize l[k] = d at hget hat hps
        have HAT := Lib.hid hat
        obtain ⟨A4, c4, A5, c5, rfl, _, _⟩ := at_Commit hat
        obtain ⟨a0, a1, a2, a3, a4, a5⟩ := hv.c6
        clear hc h hv hget
        have HC := Lib.hid (show fCommit.cnt d = psum fCommit l (k + 1) - psum fCommit l k by first | omega | (rw [hps]; omega))
        generalize hx : psum fCommit l k = x at hle hps HC ⊢
        generalize hy : psum fCommit l (k + 1) = y at hps hpm HC
        generalize hn : psum fCommit l l.length = z at hpm ⊢
        generalize hL : l.length = n at *
        by_cases hok : ((n + y : Nat) : Int) ≤ left
        · have HE := Lib.hid (show szOf (left - (n : Int) - (x : Int)) (fCommit.cnt d) = left - (n : Int) - (y : Int) by rw [HC.out, szOf_le (by omega)]; omega)
          have hge : ¬ (left - (n : Int) - (y : Int) < 0) := by omega
          clear hps hpm
          go_wp2_with fail
          refine (sz_Commit d B _ _ _ (by omega) (by omega) (by omega) HAT.out).mono ?_; rintro o w1 ⟨rfl, hb1⟩
          rw [HE.out]
          have hb2 := hb.trans (hb1.mono hsz)
          clear a0 a1 a2 a3 a4 a5 hb hb1
          go_wp2
          exact ⟨⟨k + 1, by omega, by go_num, by rw [hy]; exact hok, by rw [hy], hb2⟩, by simp [intOf]; omega⟩
        · have HE := Lib.hid (show szOf (left - (n : Int) - (x : Int)) (fCommit.cnt d) = -1 by rw [HC.out, szOf_lt (by omega)])
          clear hps
          go_wp2_with fail
          refine (sz_Commit d B _ _ _ (by omega) (by omega) (by omega) HAT.out).mono ?_; rintro o w1 ⟨rfl, hb1⟩
          rw [HE.out]
          have hb2 := hb.trans (hb1.mono hsz)
          clear a0 a1 a2 a3 a4 a5 hb hb1
          go_wp2
          go_ret
          exact ⟨by rw [szOf_lt (by rw [hL, hn]; omega)]; rfl, hb2⟩
      · obtain rfl : k = l.length := by omega
        go_wp2
        go_ret
        exact ⟨ret_intG (by rw [szOf_le (by omega)] <;> omega), hb⟩
theorem info_Commit : (Tryz.prog.info? 115).map (fun i => (i.zero, i.size, i.bytes)) = some (some (.agg #[.int .i64 0, .int .i64 0, .int .i64 0, .int .i64 0, .slice none 0 0, .slice none 0 0]), 6, 80) := by kernel_rfl
theorem make_Commit (n : Nat) (h : n ≤ 1048576) (w : World) :
    (Instr.makeSlice 39 (.int .i64 (n : Int)) (.int .i64 (n : Int))).run Tryz.prog w = .ok (.slice (some ⟨w.heap.size, 0, none⟩) n n) (w.alloc (.cells (madeCells #[.int .i64 0, .int .i64 0, .int .i64 0, .int .i64 0, .slice none 0 0, .slice none 0 0] (n * 6)) 115)) := by
  obtain ⟨i, hi, hzz⟩ := Option.map_eq_some_iff.1 info_Commit
  simp only [Prod.mk.injEq] at hzz
  obtain ⟨hz, hs, hb⟩ := hzz
  have := run_make (P := Tryz.prog) w 39 115 i _ Tryz.underlying39 hi hz .i64 .i64 n n (by omega) (Int.le_refl _) (by rw [hb]; omega) (by omega)
  simpa [hs, Value.cells] using this
set_option maxHeartbeats 1600000 in
set_option maxRecDepth 100000 in
theorem to_CommitS (A : Option Addr) (c B : Nat) (l : List DCommit) (w : World) (hs : (rowF fCommit).cnt l ≤ 1048576) (hB : B ≤ w.heap.size) (h : RAt fCommit w B A l) :
    Calls Tryz.prog 34 #[.slice A l.length c] w fun e w' => ∃ G c', e = .returned (.slice G l.length c') ∧ Below w.heap.size w w' ∧ ROwn fCommit w' w.heap.size w'.heap.size G l := by
  have hlen : l.length ≤ 1048576 := by rw [row_cnt] at hs; omega
  have hmx : l.length ≤ maxLen := h.1
  have hmk := make_Commit l.length hlen
  go_enter Tryz.func34, Tryz.ntmps34
  go_wp2
  clear hmk
  go_loopw [4] (fun i wr => ∃ k : Nat, k ≤ l.length ∧ i = .int .i64 k ∧ Below w.heap.size w wr ∧ ∃ vs L H, Laid fCommit w.heap.size [.int .i64 0, .int .i64 0, .int .i64 0, .int .i64 0, .slice none 0 0, .slice none 0 0] l wr k vs L H) (fun i _ => l.length - (intOf i).toNat)
  case atStart => exact ⟨0, Nat.zero_le _, rfl, (Below.refl _ _).alloc (Nat.le_refl _) _, _, _, _, made_laid (F := fCommit) w (z := [.int .i64 0, .int .i64 0, .int .i64 0, .int .i64 0, .slice none 0 0, .slice none 0 0]) rfl (by decide) (rfl)⟩
  case round =>
    obtain ⟨k, hk, rfl, hb, vs, L, H, hld⟩ := hrel
    by_cases hkn : k < l.length
    · obtain ⟨b, off, rfl, hbB, hc⟩ := h.2 (by omega)
      have hkz : (k : Int) < l.length := by omega
      have hget : l[k]? = some l[k] := List.getElem?_eq_getElem hkn
      obtain ⟨v, hv0, hat0⟩ := hc k _ hget
      have hcn := cnt_at (F := fCommit) hget
      have hsz := hb.size
      have hat := fCommit.at_same hat0 (.of hb hB)
      have hv := hv0.below hb (show b < w.heap.size by omega)
      rw [show fCommit.n = 6 from rfl] at hv
      clear hv0 hat0
      generalize l[k] = d at hget hat hcn
      have HAT := Lib.hid hat
      obtain ⟨A4, c4, A5, c5, rfl, _, _⟩ := at_Commit hat
      obtain ⟨a0, a1, a2, a3, a4, a5⟩ := hv.c6
      clear hc h hv
      go_wp2_with fail
      refine (to_Commit d B _ _ (by omega) (by omega) HAT.out).mono ?_; rintro o w1 ⟨us, rfl, hb1, ho⟩
      have HO := Lib.hid ho
      obtain ⟨A4x, c4x, A5x, c5x, rfl, _, _⟩ := at_Commit (fCommit.own_at ho)
      have hs1 := hb1.size
      have hld1 := hld.next hb1
      have hzr := hld1.zero hkn
      rw [show fCommit.n = 6 from rfl] at hzr
      obtain ⟨z0, z1, z2, z3, z4, z5⟩ := hzr.c6
      have r0 := hld1.free
      have HB := Lib.hid (((((((hb.trans (hb1.mono hsz)).setCell (p := ⟨w.heap.size, k * 6, none⟩) (Nat.le_refl _) (.int .i64 d.1)).setCell (p := ⟨w.heap.size, k * 6 + 1, none⟩) (Nat.le_refl _) (.int .i64 d.2.1)).setCell (p := ⟨w.heap.size, k * 6 + 2, none⟩) (Nat.le_refl _) (.int .i64 d.2.2.1)).setCell (p := ⟨w.heap.size, k * 6 + 3, none⟩) (Nat.le_refl _) (.int .i64 d.2.2.2.1)).setCell (p := ⟨w.heap.size, k * 6 + 4, none⟩) (Nat.le_refl _) (.slice A4x (d.2.2.2.2.1).length c4x)).setCell (p := ⟨w.heap.size, k * 6 + 5, none⟩) (Nat.le_refl _) (.slice A5x (d.2.2.2.2.2).length c5x))
      have hl1 := hld1.step hkn hget (v := [.int .i64 d.1, .int .i64 d.2.1, .int .i64 d.2.2.1, .int .i64 d.2.2.2.1, .slice A4x (d.2.2.2.2.1).length c4x, .slice A5x (d.2.2.2.2.2).length c5x]) (s := wr.heap.size) rfl rfl hld.lt (fun j hj => (hld.own j _ hj (List.getElem?_eq_getElem (by omega))).2.1) HO.out
      have HL := Lib.hid hl1
      clear hld hld1 hzr hb hb1 hl1 ho a0 a1 a2 a3 a4 a5
      go_wp2
      exact ⟨⟨k + 1, by omega, by go_num, HB.out, _, _, _, HL.out⟩, by simp [intOf]; omega⟩
    · obtain rfl : k = l.length := by omega
      have HO := Lib.hid (hld.done hmx (Nat.le_refl _) (Nat.le_refl _))
      clear hld
      go_wp2
      go_ret
      exact ⟨_, _, rfl, hb, HO.out⟩
set_option maxHeartbeats 1600000 in
set_option maxRecDepth 100000 in
theorem eq_CommitS (A A' : Option Addr) (c c' B B' : Nat) (l : List DCommit) (w : World) (hB : B ≤ w.heap.size) (hB' : B' ≤ w.heap.size) (h : RAt fCommit w B A l) (h' : RAt fCommit w B' A' l) :
    Calls Tryz.prog 41 #[.slice A l.length c, .slice A' l.length c'] w fun e w' => e = .returned (.bool true) ∧ Below w.heap.size w w' := by
  have hmx := h.1
  unfold maxLen at hmx
  go_enter Tryz.func41, Tryz.ntmps41
  go_wp2
  go_loopw [5] (fun i wr => ∃ k : Nat, k ≤ l.length ∧ i = .int .i64 k ∧ Below w.heap.size w wr) (fun i _ => l.length - (intOf i).toNat)
  case atStart => exact ⟨0, Nat.zero_le _, rfl, Below.refl _ _⟩
  case round =>
    obtain ⟨k, hk, rfl, hb⟩ := hrel
    by_cases hkn : k < l.length
    · obtain ⟨b, off, rfl, hbB, hc⟩ := h.2 (by omega)
      obtain ⟨b', off', rfl, hbB', hc'⟩ := h'.2 (by omega)
      have hkz : (k : Int) < l.length := by omega
      have hget : l[k]? = some l[k] := List.getElem?_eq_getElem hkn
      obtain ⟨v, hv0, hat0⟩ := hc k _ hget
      obtain ⟨v', hv0', hat0'⟩ := hc' k _ hget
      have hsz := hb.size
      have hat := fCommit.at_same hat0 (.of hb hB)
      have hat' := fCommit.at_same hat0' (.of hb hB')
      have hv := hv0.below hb (show b < w.heap.size by omega)
      have hv' := hv0'.below hb (show b' < w.heap.size by omega)
      rw [show fCommit.n = 6 from rfl] at hv hv'
      clear hv0 hat0 hv0' hat0'
      have hsz' : B ≤ wr.heap.size := by omega
      have hsz'' : B' ≤ wr.heap.size := by omega
      generalize l[k] = d at hget hat hat'
      have HAT := Lib.hid (fCommit.at_same hat (.of (Below.refl _ _).drew hsz'))
      have HATX := Lib.hid (fCommit.at_same hat' (.of (Below.refl _ _).drew hsz''))
      obtain ⟨A4, c4, A5, c5, rfl, _, _⟩ := at_Commit hat
      obtain ⟨A4x, c4x, A5x, c5x, rfl, _, _⟩ := at_Commit hat'
      obtain ⟨a0, a1, a2, a3, a4, a5⟩ := hv.c6
      obtain ⟨b0, b1, b2, b3, b4, b5⟩ := hv'.c6
      clear hc hc' h h' hv hv' hget
      go_wp2_with fail
      go_still_tail 8, (by kernel_rfl)
      change wpList _ _ _ _ _ wr.drew
      have hb2 := hb.drew
      clear a0 b0 a1 b1 a2 b2 a3 b3 a4 b4 a5 b5
      generalize wr.drew = w2 at hb2 HAT HATX ⊢
      have hs2 := hb2.size
      go_wp2_with fail
      refine (eq_Commit d B B' _ _ _ (by omega) (by omega) HAT.out HATX.out).mono ?_; rintro o w3 ⟨rfl, hb3⟩
      go_wp2
      exact ⟨⟨k + 1, by omega, by go_num, hb2.trans (hb3.mono hs2)⟩, by simp [intOf]; omega⟩
    · obtain rfl : k = l.length := by omega
      go_wp2
      go_ret
      exact ⟨rfl, hb⟩
end Go.Proofs.YtkpkjcmoldkmmaaGreat
