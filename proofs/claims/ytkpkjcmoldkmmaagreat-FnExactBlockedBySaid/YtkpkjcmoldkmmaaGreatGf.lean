/- The laws' helpers over engines. -/
import Derived.Test.YtkpkjcmoldkmmaaGreatGe
namespace Go.Proofs.YtkpkjcmoldkmmaaGreat
open Go.RowKit

abbrev DEngine := DSetup × DTable × (List DWorker) × (List Int) × Int × Int × (List DCommit) × Int × Int
def fEngine : Fm DEngine := pairF fSetup (pairF fTable (pairF (rowF fWorker) (pairF (rowF intF) (pairF intF (pairF intF (pairF (rowF fCommit) (pairF intF (intF))))))))
theorem at_Engine {w : World} {B : Nat} {d : DEngine} {vs : List Value} (h : fEngine.At w B d vs) : ∃ (A5 : Option Addr) (c5 : Nat) (A6 : Option Addr) (c6 : Nat) (A7 : Option Addr) (c7 : Nat) (A10 : Option Addr) (c10 : Nat), vs = [.int .i64 d.1.1, .int .i64 d.1.2.1, .int .i64 d.1.2.2.1, .bool d.1.2.2.2.1, .int .i64 d.1.2.2.2.2, .slice A5 (d.2.1).length c5, .slice A6 (d.2.2.1).length c6, .slice A7 (d.2.2.2.1).length c7, .int .i64 d.2.2.2.2.1, .int .i64 d.2.2.2.2.2.1, .slice A10 (d.2.2.2.2.2.2.1).length c10, .int .i64 d.2.2.2.2.2.2.2.1, .int .i64 d.2.2.2.2.2.2.2.2] ∧ RAt fCell w B A5 d.2.1 ∧ RAt fWorker w B A6 d.2.2.1 ∧ RAt intF w B A7 d.2.2.2.1 ∧ RAt fCommit w B A10 d.2.2.2.2.2.2.1 := by
  obtain ⟨x0, y0, rfl, h0, x1, y1, rfl, h1, x2, y2, rfl, h2, x3, y3, rfl, h3, x4, y4, rfl, h4, x5, y5, rfl, h5, x6, y6, rfl, h6, x7, y7, rfl, h7, h8⟩ := h
  have e0 := at_Setup h0
  subst e0
  obtain ⟨A5, c5, rfl, r5⟩ := at_Table h1
  obtain ⟨A6, c6, rfl, r6⟩ := h2
  obtain ⟨A7, c7, rfl, r7⟩ := h3
  cases h4
  cases h5
  obtain ⟨A10, c10, rfl, r10⟩ := h6
  cases h7
  cases h8
  exact ⟨A5, c5, A6, c6, A7, c7, A10, c10, rfl, r5, r6, r7, r10⟩
theorem cnt_Engine (d : DEngine) : fEngine.cnt d = fTable.cnt d.2.1 + (rowF fWorker).cnt d.2.2.1 + (rowF intF).cnt d.2.2.2.1 + (rowF fCommit).cnt d.2.2.2.2.2.2.1 := by
  show fSetup.cnt d.1 + (fTable.cnt d.2.1 + ((rowF fWorker).cnt d.2.2.1 + ((rowF intF).cnt d.2.2.2.1 + (intF.cnt d.2.2.2.2.1 + (intF.cnt d.2.2.2.2.2.1 + ((rowF fCommit).cnt d.2.2.2.2.2.2.1 + (intF.cnt d.2.2.2.2.2.2.2.1 + (intF.cnt d.2.2.2.2.2.2.2.2)))))))) = _
  have z0 : fSetup.cnt d.1 = 0 := cnt_Setup _
  have z4 : intF.cnt d.2.2.2.2.1 = 0 := rfl
  have z5 : intF.cnt d.2.2.2.2.2.1 = 0 := rfl
  have z7 : intF.cnt d.2.2.2.2.2.2.2.1 = 0 := rfl
  have z8 : intF.cnt d.2.2.2.2.2.2.2.2 = 0 := rfl
  omega
theorem n_Engine : fEngine.n = 13 := rfl
theorem own_Engine {w : World} {lo B L1 H1 L2 H2 L3 H3 L6 H6 : Nat} {d : DEngine} {v1 v2 v3 v6 : List Value} (q1 : lo ≤ L1) (_g1 : L1 ≤ H1) (h1 : fTable.Own w L1 H1 d.2.1 v1) (q2 : H1 ≤ L2) (_g2 : L2 ≤ H2) (h2 : (rowF fWorker).Own w L2 H2 d.2.2.1 v2) (q3 : H2 ≤ L3) (_g3 : L3 ≤ H3) (h3 : (rowF intF).Own w L3 H3 d.2.2.2.1 v3) (q6 : H3 ≤ L6) (_g6 : L6 ≤ H6) (h6 : (rowF fCommit).Own w L6 H6 d.2.2.2.2.2.2.1 v6) (qB : H6 ≤ B) : fEngine.Own w lo B d ([.int .i64 d.1.1, .int .i64 d.1.2.1, .int .i64 d.1.2.2.1, .bool d.1.2.2.2.1, .int .i64 d.1.2.2.2.2] ++ (v1 ++ (v2 ++ (v3 ++ ([.int .i64 d.2.2.2.2.1] ++ ([.int .i64 d.2.2.2.2.2.1] ++ (v6 ++ ([.int .i64 d.2.2.2.2.2.2.2.1] ++ ([.int .i64 d.2.2.2.2.2.2.2.2]))))))))) := ⟨[.int .i64 d.1.1, .int .i64 d.1.2.1, .int .i64 d.1.2.2.1, .bool d.1.2.2.2.1, .int .i64 d.1.2.2.2.2], _, lo, lo, lo, B, rfl, by omega, (own_Setup (Nat.le_refl _) d.1), ⟨v1, _, L1, H1, H1, B, rfl, by omega, h1, ⟨v2, _, L2, H2, H2, B, rfl, by omega, h2, ⟨v3, _, L3, H3, H3, B, rfl, by omega, h3, ⟨[.int .i64 d.2.2.2.2.1], _, H3, H3, H3, B, rfl, by omega, rfl, ⟨[.int .i64 d.2.2.2.2.2.1], _, H3, H3, H3, B, rfl, by omega, rfl, ⟨v6, _, L6, H6, H6, B, rfl, by omega, h6, ⟨[.int .i64 d.2.2.2.2.2.2.2.1], _, H6, H6, H6, B, rfl, by omega, rfl, rfl⟩⟩⟩⟩⟩⟩⟩⟩
theorem mk_Engine {w : World} {B : Nat} {d : DEngine} {A5 A6 A7 A10 : Option Addr} {c5 c6 c7 c10 : Nat} (r5 : RAt fCell w B A5 d.2.1) (r6 : RAt fWorker w B A6 d.2.2.1) (r7 : RAt intF w B A7 d.2.2.2.1) (r10 : RAt fCommit w B A10 d.2.2.2.2.2.2.1) : fEngine.At w B d [.int .i64 d.1.1, .int .i64 d.1.2.1, .int .i64 d.1.2.2.1, .bool d.1.2.2.2.1, .int .i64 d.1.2.2.2.2, .slice A5 (d.2.1).length c5, .slice A6 (d.2.2.1).length c6, .slice A7 (d.2.2.2.1).length c7, .int .i64 d.2.2.2.2.1, .int .i64 d.2.2.2.2.2.1, .slice A10 (d.2.2.2.2.2.2.1).length c10, .int .i64 d.2.2.2.2.2.2.2.1, .int .i64 d.2.2.2.2.2.2.2.2] := ⟨[.int .i64 d.1.1, .int .i64 d.1.2.1, .int .i64 d.1.2.2.1, .bool d.1.2.2.2.1, .int .i64 d.1.2.2.2.2], _, rfl, (mk_Setup), ⟨[.slice A5 (d.2.1).length c5], _, rfl, (mk_Table r5), ⟨[.slice A6 (d.2.2.1).length c6], _, rfl, ⟨A6, c6, rfl, r6⟩, ⟨[.slice A7 (d.2.2.2.1).length c7], _, rfl, ⟨A7, c7, rfl, r7⟩, ⟨[.int .i64 d.2.2.2.2.1], _, rfl, rfl, ⟨[.int .i64 d.2.2.2.2.2.1], _, rfl, rfl, ⟨[.slice A10 (d.2.2.2.2.2.2.1).length c10], _, rfl, ⟨A10, c10, rfl, r10⟩, ⟨[.int .i64 d.2.2.2.2.2.2.2.1], _, rfl, rfl, rfl⟩⟩⟩⟩⟩⟩⟩⟩
set_option maxHeartbeats 1600000 in
set_option maxRecDepth 100000 in
theorem sz_Engine (d : DEngine) (B : Nat) (vs : List Value) (left : Int) (w : World) (h0 : 0 ≤ left) (h1 : left ≤ 1048576) (hB : B ≤ w.heap.size) (h : fEngine.At w B d vs) :
    Calls Tryz.prog 6 #[.agg vs.toArray, .int .i64 left] w fun e w' => e = .returned (.int .i64 (szOf left (fEngine.cnt d))) ∧ Below w.heap.size w w' := by
  obtain ⟨A5, c5, A6, c6, A7, c7, A10, c10, rfl, r5, r6, r7, r10⟩ := at_Engine h
  rw [cnt_Engine]
  clear h
  have K0 : ∃ m, m = fTable.cnt d.2.1 := ⟨_, rfl⟩
  obtain ⟨m0, J0⟩ := K0
  have K0 := Lib.hid J0
  clear J0
  have K1 : ∃ m, m = (rowF fWorker).cnt d.2.2.1 := ⟨_, rfl⟩
  obtain ⟨m1, J1⟩ := K1
  have K1 := Lib.hid J1
  clear J1
  have K2 : ∃ m, m = (rowF intF).cnt d.2.2.2.1 := ⟨_, rfl⟩
  obtain ⟨m2, J2⟩ := K2
  have K2 := Lib.hid J2
  clear J2
  have K3 : ∃ m, m = (rowF fCommit).cnt d.2.2.2.2.2.2.1 := ⟨_, rfl⟩
  obtain ⟨m3, J3⟩ := K3
  have K3 := Lib.hid J3
  clear J3
  rw [← K0.out, ← K1.out, ← K2.out, ← K3.out]
  by_cases g0 : left < (m0 : Int)
  · have E0 := Lib.hid (szOf_lt g0)
    go_enter Tryz.func6, Tryz.ntmps6
    go_wp2_with fail
    have b := (Below.refl w.heap.size w).alloc (Nat.le_refl _) (.cells #[.int .i64 d.1.1, .int .i64 d.1.2.1, .int .i64 d.1.2.2.1, .bool d.1.2.2.2.1, .int .i64 d.1.2.2.2.2, .slice A5 (d.2.1).length c5, .slice A6 (d.2.2.1).length c6, .slice A7 (d.2.2.2.1).length c7, .int .i64 d.2.2.2.2.1, .int .i64 d.2.2.2.2.2.1, .slice A10 (d.2.2.2.2.2.2.1).length c10, .int .i64 d.2.2.2.2.2.2.2.1, .int .i64 d.2.2.2.2.2.2.2.2] 31)
    have X := Bx.new (w := w) (c := #[.int .i64 d.1.1, .int .i64 d.1.2.1, .int .i64 d.1.2.2.1, .bool d.1.2.2.2.1, .int .i64 d.1.2.2.2.2, .slice A5 (d.2.1).length c5, .slice A6 (d.2.2.1).length c6, .slice A7 (d.2.2.2.1).length c7, .int .i64 d.2.2.2.2.1, .int .i64 d.2.2.2.2.2.1, .slice A10 (d.2.2.2.2.2.2.1).length c10, .int .i64 d.2.2.2.2.2.2.2.1, .int .i64 d.2.2.2.2.2.2.2.2]) (t := 31) rfl
    generalize w.alloc (.cells #[.int .i64 d.1.1, .int .i64 d.1.2.1, .int .i64 d.1.2.2.1, .bool d.1.2.2.2.1, .int .i64 d.1.2.2.2.2, .slice A5 (d.2.1).length c5, .slice A6 (d.2.2.1).length c6, .slice A7 (d.2.2.2.1).length c7, .int .i64 d.2.2.2.2.1, .int .i64 d.2.2.2.2.2.1, .slice A10 (d.2.2.2.2.2.2.1).length c10, .int .i64 d.2.2.2.2.2.2.2.1, .int .i64 d.2.2.2.2.2.2.2.2] 31) = w0 at b X ⊢
    have hsz := b.size
    refine (sz_Table d.2.1 B _ (left) _ (by omega) (by omega) (by omega) (mk_Table (r5.keep b hB))).mono ?_; rintro o w1 ⟨rfl, hb⟩
    have b := b.trans (hb.mono hsz)
    have X := X.next hb
    clear hb
    rw [← K0.out, E0.out]
    obtain ⟨⟨x0, x1, x2, x3, x4, x5, x6, x7, x8, x9, x10, x11, x12⟩, _⟩ := X.c13
    go_wp2
    go_ret
    exact ⟨by rw [szOf_lt (by omega)]; rfl, b⟩
  have E0 := Lib.hid (szOf_le (left := left) (n := m0) (by omega))
  have g0n : ¬ (left - (m0 : Int) < 0) := by omega
  by_cases g1 : left - (m0 : Int) < (m1 : Int)
  · have E1 := Lib.hid (szOf_lt g1)
    go_enter Tryz.func6, Tryz.ntmps6
    go_wp2_with fail
    have b := (Below.refl w.heap.size w).alloc (Nat.le_refl _) (.cells #[.int .i64 d.1.1, .int .i64 d.1.2.1, .int .i64 d.1.2.2.1, .bool d.1.2.2.2.1, .int .i64 d.1.2.2.2.2, .slice A5 (d.2.1).length c5, .slice A6 (d.2.2.1).length c6, .slice A7 (d.2.2.2.1).length c7, .int .i64 d.2.2.2.2.1, .int .i64 d.2.2.2.2.2.1, .slice A10 (d.2.2.2.2.2.2.1).length c10, .int .i64 d.2.2.2.2.2.2.2.1, .int .i64 d.2.2.2.2.2.2.2.2] 31)
    have X := Bx.new (w := w) (c := #[.int .i64 d.1.1, .int .i64 d.1.2.1, .int .i64 d.1.2.2.1, .bool d.1.2.2.2.1, .int .i64 d.1.2.2.2.2, .slice A5 (d.2.1).length c5, .slice A6 (d.2.2.1).length c6, .slice A7 (d.2.2.2.1).length c7, .int .i64 d.2.2.2.2.1, .int .i64 d.2.2.2.2.2.1, .slice A10 (d.2.2.2.2.2.2.1).length c10, .int .i64 d.2.2.2.2.2.2.2.1, .int .i64 d.2.2.2.2.2.2.2.2]) (t := 31) rfl
    generalize w.alloc (.cells #[.int .i64 d.1.1, .int .i64 d.1.2.1, .int .i64 d.1.2.2.1, .bool d.1.2.2.2.1, .int .i64 d.1.2.2.2.2, .slice A5 (d.2.1).length c5, .slice A6 (d.2.2.1).length c6, .slice A7 (d.2.2.2.1).length c7, .int .i64 d.2.2.2.2.1, .int .i64 d.2.2.2.2.2.1, .slice A10 (d.2.2.2.2.2.2.1).length c10, .int .i64 d.2.2.2.2.2.2.2.1, .int .i64 d.2.2.2.2.2.2.2.2] 31) = w0 at b X ⊢
    have hsz := b.size
    refine (sz_Table d.2.1 B _ (left) _ (by omega) (by omega) (by omega) (mk_Table (r5.keep b hB))).mono ?_; rintro o w1 ⟨rfl, hb⟩
    have b := b.trans (hb.mono hsz)
    have X := X.next hb
    clear hb
    rw [← K0.out, E0.out]
    obtain ⟨⟨x0, x1, x2, x3, x4, x5, x6, x7, x8, x9, x10, x11, x12⟩, _⟩ := X.c13
    go_wp2_with fail
    clear x0 x1 x2 x3 x4 x5 x6 x7 x8 x9 x10 x11 x12
    have hsz := b.size
    refine (sz_WorkerS A6 c6 B d.2.2.1 (left - (m0 : Int)) _ (by omega) (by omega) (by omega) (r6.keep b hB)).mono ?_; rintro o w2 ⟨rfl, hb⟩
    have b := b.trans (hb.mono hsz)
    have X := X.next hb
    clear hb
    rw [← K1.out, E1.out]
    obtain ⟨⟨x0, x1, x2, x3, x4, x5, x6, x7, x8, x9, x10, x11, x12⟩, _⟩ := X.c13
    go_wp2
    go_ret
    exact ⟨by rw [szOf_lt (by omega)]; rfl, b⟩
  have E1 := Lib.hid (szOf_le (left := left - (m0 : Int)) (n := m1) (by omega))
  have g1n : ¬ (left - (m0 : Int) - (m1 : Int) < 0) := by omega
  by_cases g2 : left - (m0 : Int) - (m1 : Int) < (m2 : Int)
  · have E2 := Lib.hid (szOf_lt g2)
    go_enter Tryz.func6, Tryz.ntmps6
    go_wp2_with fail
    have b := (Below.refl w.heap.size w).alloc (Nat.le_refl _) (.cells #[.int .i64 d.1.1, .int .i64 d.1.2.1, .int .i64 d.1.2.2.1, .bool d.1.2.2.2.1, .int .i64 d.1.2.2.2.2, .slice A5 (d.2.1).length c5, .slice A6 (d.2.2.1).length c6, .slice A7 (d.2.2.2.1).length c7, .int .i64 d.2.2.2.2.1, .int .i64 d.2.2.2.2.2.1, .slice A10 (d.2.2.2.2.2.2.1).length c10, .int .i64 d.2.2.2.2.2.2.2.1, .int .i64 d.2.2.2.2.2.2.2.2] 31)
    have X := Bx.new (w := w) (c := #[.int .i64 d.1.1, .int .i64 d.1.2.1, .int .i64 d.1.2.2.1, .bool d.1.2.2.2.1, .int .i64 d.1.2.2.2.2, .slice A5 (d.2.1).length c5, .slice A6 (d.2.2.1).length c6, .slice A7 (d.2.2.2.1).length c7, .int .i64 d.2.2.2.2.1, .int .i64 d.2.2.2.2.2.1, .slice A10 (d.2.2.2.2.2.2.1).length c10, .int .i64 d.2.2.2.2.2.2.2.1, .int .i64 d.2.2.2.2.2.2.2.2]) (t := 31) rfl
    generalize w.alloc (.cells #[.int .i64 d.1.1, .int .i64 d.1.2.1, .int .i64 d.1.2.2.1, .bool d.1.2.2.2.1, .int .i64 d.1.2.2.2.2, .slice A5 (d.2.1).length c5, .slice A6 (d.2.2.1).length c6, .slice A7 (d.2.2.2.1).length c7, .int .i64 d.2.2.2.2.1, .int .i64 d.2.2.2.2.2.1, .slice A10 (d.2.2.2.2.2.2.1).length c10, .int .i64 d.2.2.2.2.2.2.2.1, .int .i64 d.2.2.2.2.2.2.2.2] 31) = w0 at b X ⊢
    have hsz := b.size
    refine (sz_Table d.2.1 B _ (left) _ (by omega) (by omega) (by omega) (mk_Table (r5.keep b hB))).mono ?_; rintro o w1 ⟨rfl, hb⟩
    have b := b.trans (hb.mono hsz)
    have X := X.next hb
    clear hb
    rw [← K0.out, E0.out]
    obtain ⟨⟨x0, x1, x2, x3, x4, x5, x6, x7, x8, x9, x10, x11, x12⟩, _⟩ := X.c13
    go_wp2_with fail
    clear x0 x1 x2 x3 x4 x5 x6 x7 x8 x9 x10 x11 x12
    have hsz := b.size
    refine (sz_WorkerS A6 c6 B d.2.2.1 (left - (m0 : Int)) _ (by omega) (by omega) (by omega) (r6.keep b hB)).mono ?_; rintro o w2 ⟨rfl, hb⟩
    have b := b.trans (hb.mono hsz)
    have X := X.next hb
    clear hb
    rw [← K1.out, E1.out]
    obtain ⟨⟨x0, x1, x2, x3, x4, x5, x6, x7, x8, x9, x10, x11, x12⟩, _⟩ := X.c13
    go_wp2_with fail
    clear x0 x1 x2 x3 x4 x5 x6 x7 x8 x9 x10 x11 x12
    have hsz := b.size
    refine (sz_IntS A7 c7 d.2.2.2.1 (left - (m0 : Int) - (m1 : Int)) _ r7.1 (by omega) (by omega)).mono ?_; rintro o w3 ⟨rfl, rfl⟩
    rw [← K2.out, E2.out]
    obtain ⟨⟨x0, x1, x2, x3, x4, x5, x6, x7, x8, x9, x10, x11, x12⟩, _⟩ := X.c13
    go_wp2
    go_ret
    exact ⟨by rw [szOf_lt (by omega)]; rfl, b⟩
  have E2 := Lib.hid (szOf_le (left := left - (m0 : Int) - (m1 : Int)) (n := m2) (by omega))
  have g2n : ¬ (left - (m0 : Int) - (m1 : Int) - (m2 : Int) < 0) := by omega
  by_cases g3 : left - (m0 : Int) - (m1 : Int) - (m2 : Int) < (m3 : Int)
  · have E3 := Lib.hid (szOf_lt g3)
    go_enter Tryz.func6, Tryz.ntmps6
    go_wp2_with fail
    have b := (Below.refl w.heap.size w).alloc (Nat.le_refl _) (.cells #[.int .i64 d.1.1, .int .i64 d.1.2.1, .int .i64 d.1.2.2.1, .bool d.1.2.2.2.1, .int .i64 d.1.2.2.2.2, .slice A5 (d.2.1).length c5, .slice A6 (d.2.2.1).length c6, .slice A7 (d.2.2.2.1).length c7, .int .i64 d.2.2.2.2.1, .int .i64 d.2.2.2.2.2.1, .slice A10 (d.2.2.2.2.2.2.1).length c10, .int .i64 d.2.2.2.2.2.2.2.1, .int .i64 d.2.2.2.2.2.2.2.2] 31)
    have X := Bx.new (w := w) (c := #[.int .i64 d.1.1, .int .i64 d.1.2.1, .int .i64 d.1.2.2.1, .bool d.1.2.2.2.1, .int .i64 d.1.2.2.2.2, .slice A5 (d.2.1).length c5, .slice A6 (d.2.2.1).length c6, .slice A7 (d.2.2.2.1).length c7, .int .i64 d.2.2.2.2.1, .int .i64 d.2.2.2.2.2.1, .slice A10 (d.2.2.2.2.2.2.1).length c10, .int .i64 d.2.2.2.2.2.2.2.1, .int .i64 d.2.2.2.2.2.2.2.2]) (t := 31) rfl
    generalize w.alloc (.cells #[.int .i64 d.1.1, .int .i64 d.1.2.1, .int .i64 d.1.2.2.1, .bool d.1.2.2.2.1, .int .i64 d.1.2.2.2.2, .slice A5 (d.2.1).length c5, .slice A6 (d.2.2.1).length c6, .slice A7 (d.2.2.2.1).length c7, .int .i64 d.2.2.2.2.1, .int .i64 d.2.2.2.2.2.1, .slice A10 (d.2.2.2.2.2.2.1).length c10, .int .i64 d.2.2.2.2.2.2.2.1, .int .i64 d.2.2.2.2.2.2.2.2] 31) = w0 at b X ⊢
    have hsz := b.size
    refine (sz_Table d.2.1 B _ (left) _ (by omega) (by omega) (by omega) (mk_Table (r5.keep b hB))).mono ?_; rintro o w1 ⟨rfl, hb⟩
    have b := b.trans (hb.mono hsz)
    have X := X.next hb
    clear hb
    rw [← K0.out, E0.out]
    obtain ⟨⟨x0, x1, x2, x3, x4, x5, x6, x7, x8, x9, x10, x11, x12⟩, _⟩ := X.c13
    go_wp2_with fail
    clear x0 x1 x2 x3 x4 x5 x6 x7 x8 x9 x10 x11 x12
    have hsz := b.size
    refine (sz_WorkerS A6 c6 B d.2.2.1 (left - (m0 : Int)) _ (by omega) (by omega) (by omega) (r6.keep b hB)).mono ?_; rintro o w2 ⟨rfl, hb⟩
    have b := b.trans (hb.mono hsz)
    have X := X.next hb
    clear hb
    rw [← K1.out, E1.out]
    obtain ⟨⟨x0, x1, x2, x3, x4, x5, x6, x7, x8, x9, x10, x11, x12⟩, _⟩ := X.c13
    go_wp2_with fail
    clear x0 x1 x2 x3 x4 x5 x6 x7 x8 x9 x10 x11 x12
    have hsz := b.size
    refine (sz_IntS A7 c7 d.2.2.2.1 (left - (m0 : Int) - (m1 : Int)) _ r7.1 (by omega) (by omega)).mono ?_; rintro o w3 ⟨rfl, rfl⟩
    rw [← K2.out, E2.out]
    obtain ⟨⟨x0, x1, x2, x3, x4, x5, x6, x7, x8, x9, x10, x11, x12⟩, _⟩ := X.c13
    go_wp2_with fail
    clear x0 x1 x2 x3 x4 x5 x6 x7 x8 x9 x10 x11 x12
    have hsz := b.size
    refine (sz_CommitS A10 c10 B d.2.2.2.2.2.2.1 (left - (m0 : Int) - (m1 : Int) - (m2 : Int)) _ (by omega) (by omega) (by omega) (r10.keep b hB)).mono ?_; rintro o w4 ⟨rfl, hb⟩
    have b := b.trans (hb.mono hsz)
    have X := X.next hb
    clear hb
    rw [← K3.out, E3.out]
    obtain ⟨⟨x0, x1, x2, x3, x4, x5, x6, x7, x8, x9, x10, x11, x12⟩, _⟩ := X.c13
    go_wp2
    go_ret
    exact ⟨by rw [szOf_lt (by omega)]; rfl, b⟩
  have E3 := Lib.hid (szOf_le (left := left - (m0 : Int) - (m1 : Int) - (m2 : Int)) (n := m3) (by omega))
  have g3n : ¬ (left - (m0 : Int) - (m1 : Int) - (m2 : Int) - (m3 : Int) < 0) := by omega
  go_enter Tryz.func6, Tryz.ntmps6
  go_wp2_with fail
  have b := (Below.refl w.heap.size w).alloc (Nat.le_refl _) (.cells #[.int .i64 d.1.1, .int .i64 d.1.2.1, .int .i64 d.1.2.2.1, .bool d.1.2.2.2.1, .int .i64 d.1.2.2.2.2, .slice A5 (d.2.1).length c5, .slice A6 (d.2.2.1).length c6, .slice A7 (d.2.2.2.1).length c7, .int .i64 d.2.2.2.2.1, .int .i64 d.2.2.2.2.2.1, .slice A10 (d.2.2.2.2.2.2.1).length c10, .int .i64 d.2.2.2.2.2.2.2.1, .int .i64 d.2.2.2.2.2.2.2.2] 31)
  have X := Bx.new (w := w) (c := #[.int .i64 d.1.1, .int .i64 d.1.2.1, .int .i64 d.1.2.2.1, .bool d.1.2.2.2.1, .int .i64 d.1.2.2.2.2, .slice A5 (d.2.1).length c5, .slice A6 (d.2.2.1).length c6, .slice A7 (d.2.2.2.1).length c7, .int .i64 d.2.2.2.2.1, .int .i64 d.2.2.2.2.2.1, .slice A10 (d.2.2.2.2.2.2.1).length c10, .int .i64 d.2.2.2.2.2.2.2.1, .int .i64 d.2.2.2.2.2.2.2.2]) (t := 31) rfl
  generalize w.alloc (.cells #[.int .i64 d.1.1, .int .i64 d.1.2.1, .int .i64 d.1.2.2.1, .bool d.1.2.2.2.1, .int .i64 d.1.2.2.2.2, .slice A5 (d.2.1).length c5, .slice A6 (d.2.2.1).length c6, .slice A7 (d.2.2.2.1).length c7, .int .i64 d.2.2.2.2.1, .int .i64 d.2.2.2.2.2.1, .slice A10 (d.2.2.2.2.2.2.1).length c10, .int .i64 d.2.2.2.2.2.2.2.1, .int .i64 d.2.2.2.2.2.2.2.2] 31) = w0 at b X ⊢
  have hsz := b.size
  refine (sz_Table d.2.1 B _ (left) _ (by omega) (by omega) (by omega) (mk_Table (r5.keep b hB))).mono ?_; rintro o w1 ⟨rfl, hb⟩
  have b := b.trans (hb.mono hsz)
  have X := X.next hb
  clear hb
  rw [← K0.out, E0.out]
  obtain ⟨⟨x0, x1, x2, x3, x4, x5, x6, x7, x8, x9, x10, x11, x12⟩, _⟩ := X.c13
  go_wp2_with fail
  clear x0 x1 x2 x3 x4 x5 x6 x7 x8 x9 x10 x11 x12
  have hsz := b.size
  refine (sz_WorkerS A6 c6 B d.2.2.1 (left - (m0 : Int)) _ (by omega) (by omega) (by omega) (r6.keep b hB)).mono ?_; rintro o w2 ⟨rfl, hb⟩
  have b := b.trans (hb.mono hsz)
  have X := X.next hb
  clear hb
  rw [← K1.out, E1.out]
  obtain ⟨⟨x0, x1, x2, x3, x4, x5, x6, x7, x8, x9, x10, x11, x12⟩, _⟩ := X.c13
  go_wp2_with fail
  clear x0 x1 x2 x3 x4 x5 x6 x7 x8 x9 x10 x11 x12
  have hsz := b.size
  refine (sz_IntS A7 c7 d.2.2.2.1 (left - (m0 : Int) - (m1 : Int)) _ r7.1 (by omega) (by omega)).mono ?_; rintro o w3 ⟨rfl, rfl⟩
  rw [← K2.out, E2.out]
  obtain ⟨⟨x0, x1, x2, x3, x4, x5, x6, x7, x8, x9, x10, x11, x12⟩, _⟩ := X.c13
  go_wp2_with fail
  clear x0 x1 x2 x3 x4 x5 x6 x7 x8 x9 x10 x11 x12
  have hsz := b.size
  refine (sz_CommitS A10 c10 B d.2.2.2.2.2.2.1 (left - (m0 : Int) - (m1 : Int) - (m2 : Int)) _ (by omega) (by omega) (by omega) (r10.keep b hB)).mono ?_; rintro o w4 ⟨rfl, hb⟩
  have b := b.trans (hb.mono hsz)
  have X := X.next hb
  clear hb
  rw [← K3.out, E3.out]
  obtain ⟨⟨x0, x1, x2, x3, x4, x5, x6, x7, x8, x9, x10, x11, x12⟩, _⟩ := X.c13
  go_wp2
  go_ret
  exact ⟨ret_intG (by rw [szOf_le (by omega)] <;> omega), b⟩
set_option maxHeartbeats 1600000 in
set_option maxRecDepth 100000 in
theorem eq_Engine (d : DEngine) (B B' : Nat) (vs us : List Value) (w : World) (hB : B ≤ w.heap.size) (hB' : B' ≤ w.heap.size) (h : fEngine.At w B d vs) (h' : fEngine.At w B' d us) :
    Calls Tryz.prog 10 #[.agg vs.toArray, .agg us.toArray] w fun e w' => e = .returned (.bool true) ∧ Below w.heap.size w w' := by
  obtain ⟨A5, c5, A6, c6, A7, c7, A10, c10, rfl, r5, r6, r7, r10⟩ := at_Engine h
  obtain ⟨A5x, c5x, A6x, c6x, A7x, c7x, A10x, c10x, rfl, q5, q6, q7, q10⟩ := at_Engine h'
  clear h h'
  go_enter Tryz.func10, Tryz.ntmps10
  go_wp2_with fail
  have b := ((Below.refl w.heap.size w).alloc (Nat.le_refl _) (.cells #[.int .i64 d.1.1, .int .i64 d.1.2.1, .int .i64 d.1.2.2.1, .bool d.1.2.2.2.1, .int .i64 d.1.2.2.2.2, .slice A5 (d.2.1).length c5, .slice A6 (d.2.2.1).length c6, .slice A7 (d.2.2.2.1).length c7, .int .i64 d.2.2.2.2.1, .int .i64 d.2.2.2.2.2.1, .slice A10 (d.2.2.2.2.2.2.1).length c10, .int .i64 d.2.2.2.2.2.2.2.1, .int .i64 d.2.2.2.2.2.2.2.2] 41)).alloc (by simp) (.cells #[.int .i64 d.1.1, .int .i64 d.1.2.1, .int .i64 d.1.2.2.1, .bool d.1.2.2.2.1, .int .i64 d.1.2.2.2.2, .slice A5x (d.2.1).length c5x, .slice A6x (d.2.2.1).length c6x, .slice A7x (d.2.2.2.1).length c7x, .int .i64 d.2.2.2.2.1, .int .i64 d.2.2.2.2.2.1, .slice A10x (d.2.2.2.2.2.2.1).length c10x, .int .i64 d.2.2.2.2.2.2.2.1, .int .i64 d.2.2.2.2.2.2.2.2] 41)
  have X := (Bx.new (w := w) (c := #[.int .i64 d.1.1, .int .i64 d.1.2.1, .int .i64 d.1.2.2.1, .bool d.1.2.2.2.1, .int .i64 d.1.2.2.2.2, .slice A5 (d.2.1).length c5, .slice A6 (d.2.2.1).length c6, .slice A7 (d.2.2.2.1).length c7, .int .i64 d.2.2.2.2.1, .int .i64 d.2.2.2.2.2.1, .slice A10 (d.2.2.2.2.2.2.1).length c10, .int .i64 d.2.2.2.2.2.2.2.1, .int .i64 d.2.2.2.2.2.2.2.2]) (t := 41) rfl).alloc (.cells #[.int .i64 d.1.1, .int .i64 d.1.2.1, .int .i64 d.1.2.2.1, .bool d.1.2.2.2.1, .int .i64 d.1.2.2.2.2, .slice A5x (d.2.1).length c5x, .slice A6x (d.2.2.1).length c6x, .slice A7x (d.2.2.2.1).length c7x, .int .i64 d.2.2.2.2.1, .int .i64 d.2.2.2.2.2.1, .slice A10x (d.2.2.2.2.2.2.1).length c10x, .int .i64 d.2.2.2.2.2.2.2.1, .int .i64 d.2.2.2.2.2.2.2.2] 41)
  have Y := Bx.new (w := w.alloc (.cells #[.int .i64 d.1.1, .int .i64 d.1.2.1, .int .i64 d.1.2.2.1, .bool d.1.2.2.2.1, .int .i64 d.1.2.2.2.2, .slice A5 (d.2.1).length c5, .slice A6 (d.2.2.1).length c6, .slice A7 (d.2.2.2.1).length c7, .int .i64 d.2.2.2.2.1, .int .i64 d.2.2.2.2.2.1, .slice A10 (d.2.2.2.2.2.2.1).length c10, .int .i64 d.2.2.2.2.2.2.2.1, .int .i64 d.2.2.2.2.2.2.2.2] 41)) (b := w.heap.size + 1) (c := #[.int .i64 d.1.1, .int .i64 d.1.2.1, .int .i64 d.1.2.2.1, .bool d.1.2.2.2.1, .int .i64 d.1.2.2.2.2, .slice A5x (d.2.1).length c5x, .slice A6x (d.2.2.1).length c6x, .slice A7x (d.2.2.2.1).length c7x, .int .i64 d.2.2.2.2.1, .int .i64 d.2.2.2.2.2.1, .slice A10x (d.2.2.2.2.2.2.1).length c10x, .int .i64 d.2.2.2.2.2.2.2.1, .int .i64 d.2.2.2.2.2.2.2.2]) (t := 41) (by simp)
  generalize (w.alloc (.cells #[.int .i64 d.1.1, .int .i64 d.1.2.1, .int .i64 d.1.2.2.1, .bool d.1.2.2.2.1, .int .i64 d.1.2.2.2.2, .slice A5 (d.2.1).length c5, .slice A6 (d.2.2.1).length c6, .slice A7 (d.2.2.2.1).length c7, .int .i64 d.2.2.2.2.1, .int .i64 d.2.2.2.2.2.1, .slice A10 (d.2.2.2.2.2.2.1).length c10, .int .i64 d.2.2.2.2.2.2.2.1, .int .i64 d.2.2.2.2.2.2.2.2] 41)).alloc (.cells #[.int .i64 d.1.1, .int .i64 d.1.2.1, .int .i64 d.1.2.2.1, .bool d.1.2.2.2.1, .int .i64 d.1.2.2.2.2, .slice A5x (d.2.1).length c5x, .slice A6x (d.2.2.1).length c6x, .slice A7x (d.2.2.2.1).length c7x, .int .i64 d.2.2.2.2.1, .int .i64 d.2.2.2.2.2.1, .slice A10x (d.2.2.2.2.2.2.1).length c10x, .int .i64 d.2.2.2.2.2.2.2.1, .int .i64 d.2.2.2.2.2.2.2.2] 41) = w0 at b X Y ⊢
  have hsz := b.size
  refine (eq_Setup d.1 _).mono ?_; rintro o w1 ⟨rfl, hb⟩
  have X := X.next hb
  have Y := Y.next hb
  have b := b.trans (hb.mono hsz)
  obtain ⟨⟨x0, x1, x2, x3, x4, x5, x6, x7, x8, x9, x10, x11, x12⟩, _⟩ := X.c13
  obtain ⟨⟨y0, y1, y2, y3, y4, y5, y6, y7, y8, y9, y10, y11, y12⟩, _⟩ := Y.c13
  clear hb
  go_wp2_with fail
  clear x0 x1 x2 x3 x4 x5 x6 x7 x8 x9 x10 x11 x12 y0 y1 y2 y3 y4 y5 y6 y7 y8 y9 y10 y11 y12
  have hsz := b.size
  refine (eq_Table d.2.1 B B' _ _ _ (by omega) (by omega) (mk_Table (r5.keep b hB)) (mk_Table (q5.keep b hB'))).mono ?_; rintro o w2 ⟨rfl, hb⟩
  have X := X.next hb
  have Y := Y.next hb
  have b := b.trans (hb.mono hsz)
  obtain ⟨⟨x0, x1, x2, x3, x4, x5, x6, x7, x8, x9, x10, x11, x12⟩, _⟩ := X.c13
  obtain ⟨⟨y0, y1, y2, y3, y4, y5, y6, y7, y8, y9, y10, y11, y12⟩, _⟩ := Y.c13
  clear hb
  go_wp2_with fail
  clear x0 x1 x2 x3 x4 x5 x6 x7 x8 x9 x10 x11 x12 y0 y1 y2 y3 y4 y5 y6 y7 y8 y9 y10 y11 y12
  have hsz := b.size
  refine (eq_WorkerS A6 A6x c6 c6x B B' d.2.2.1 _ (by omega) (by omega) (r6.keep b hB) (q6.keep b hB')).mono ?_; rintro o w3 ⟨rfl, hb⟩
  have X := X.next hb
  have Y := Y.next hb
  have b := b.trans (hb.mono hsz)
  obtain ⟨⟨x0, x1, x2, x3, x4, x5, x6, x7, x8, x9, x10, x11, x12⟩, _⟩ := X.c13
  obtain ⟨⟨y0, y1, y2, y3, y4, y5, y6, y7, y8, y9, y10, y11, y12⟩, _⟩ := Y.c13
  clear hb
  go_wp2_with fail
  clear x0 x1 x2 x3 x4 x5 x6 x7 x8 x9 x10 x11 x12 y0 y1 y2 y3 y4 y5 y6 y7 y8 y9 y10 y11 y12
  have hsz := b.size
  refine (eq_IntS A7 A7x c7 c7x B B' d.2.2.2.1 _ (by omega) (by omega) (r7.keep b hB) (q7.keep b hB')).mono ?_; rintro o w4 ⟨rfl, hb⟩
  have X := X.next hb
  have Y := Y.next hb
  have b := b.trans (hb.mono hsz)
  obtain ⟨⟨x0, x1, x2, x3, x4, x5, x6, x7, x8, x9, x10, x11, x12⟩, _⟩ := X.c13
  obtain ⟨⟨y0, y1, y2, y3, y4, y5, y6, y7, y8, y9, y10, y11, y12⟩, _⟩ := Y.c13
  clear hb
  go_wp2_with fail
  clear x0 x1 x2 x3 x4 x5 x6 x7 x8 x9 x10 x11 x12 y0 y1 y2 y3 y4 y5 y6 y7 y8 y9 y10 y11 y12
  have hsz := b.size
  refine (eq_CommitS A10 A10x c10 c10x B B' d.2.2.2.2.2.2.1 _ (by omega) (by omega) (r10.keep b hB) (q10.keep b hB')).mono ?_; rintro o w5 ⟨rfl, hb⟩
  have X := X.next hb
  have Y := Y.next hb
  have b := b.trans (hb.mono hsz)
  obtain ⟨⟨x0, x1, x2, x3, x4, x5, x6, x7, x8, x9, x10, x11, x12⟩, _⟩ := X.c13
  obtain ⟨⟨y0, y1, y2, y3, y4, y5, y6, y7, y8, y9, y10, y11, y12⟩, _⟩ := Y.c13
  clear hb
  go_wp2
  go_ret
  exact ⟨rfl, b⟩
set_option maxHeartbeats 1600000 in
set_option maxRecDepth 100000 in
theorem to_Engine (d : DEngine) (B : Nat) (vs : List Value) (w : World) (hs : fEngine.cnt d ≤ 1048576) (hB : B ≤ w.heap.size) (h : fEngine.At w B d vs) :
    Calls Tryz.prog 8 #[.agg vs.toArray] w fun e w' => ∃ us, e = .returned (.agg us.toArray) ∧ Below w.heap.size w w' ∧ fEngine.Own w' w.heap.size w'.heap.size d us := by
  obtain ⟨A5, c5, A6, c6, A7, c7, A10, c10, rfl, r5, r6, r7, r10⟩ := at_Engine h
  rw [cnt_Engine] at hs
  have p1 : fTable.At w B d.2.1 [.slice A5 (d.2.1).length c5] := mk_Table r5
  clear h
  go_enter Tryz.func8, Tryz.ntmps8
  go_wp2_with fail
  have b := (((Below.refl w.heap.size w).alloc (Nat.le_refl _) (.cells #[.int .i64 d.1.1, .int .i64 d.1.2.1, .int .i64 d.1.2.2.1, .bool d.1.2.2.2.1, .int .i64 d.1.2.2.2.2, .slice A5 (d.2.1).length c5, .slice A6 (d.2.2.1).length c6, .slice A7 (d.2.2.2.1).length c7, .int .i64 d.2.2.2.2.1, .int .i64 d.2.2.2.2.2.1, .slice A10 (d.2.2.2.2.2.2.1).length c10, .int .i64 d.2.2.2.2.2.2.2.1, .int .i64 d.2.2.2.2.2.2.2.2] 31)).alloc (by simp) (.cells #[.int .i64 0, .int .i64 0, .int .i64 0, .bool false, .int .i64 0, .slice none 0 0, .slice none 0 0, .slice none 0 0, .int .i64 0, .int .i64 0, .slice none 0 0, .int .i64 0, .int .i64 0] 41)).alloc (by simp; omega) (.cells #[.int .i64 0, .int .i64 0, .int .i64 0, .bool false, .int .i64 0, .slice none 0 0, .slice none 0 0, .slice none 0 0, .int .i64 0, .int .i64 0, .slice none 0 0, .int .i64 0, .int .i64 0] 41)
  have X := ((Bx.new (w := w) (c := #[.int .i64 d.1.1, .int .i64 d.1.2.1, .int .i64 d.1.2.2.1, .bool d.1.2.2.2.1, .int .i64 d.1.2.2.2.2, .slice A5 (d.2.1).length c5, .slice A6 (d.2.2.1).length c6, .slice A7 (d.2.2.2.1).length c7, .int .i64 d.2.2.2.2.1, .int .i64 d.2.2.2.2.2.1, .slice A10 (d.2.2.2.2.2.2.1).length c10, .int .i64 d.2.2.2.2.2.2.2.1, .int .i64 d.2.2.2.2.2.2.2.2]) (t := 31) rfl).alloc (.cells #[.int .i64 0, .int .i64 0, .int .i64 0, .bool false, .int .i64 0, .slice none 0 0, .slice none 0 0, .slice none 0 0, .int .i64 0, .int .i64 0, .slice none 0 0, .int .i64 0, .int .i64 0] 41)).alloc (.cells #[.int .i64 0, .int .i64 0, .int .i64 0, .bool false, .int .i64 0, .slice none 0 0, .slice none 0 0, .slice none 0 0, .int .i64 0, .int .i64 0, .slice none 0 0, .int .i64 0, .int .i64 0] 41)
  have Y := (Bx.new (w := w.alloc (.cells #[.int .i64 d.1.1, .int .i64 d.1.2.1, .int .i64 d.1.2.2.1, .bool d.1.2.2.2.1, .int .i64 d.1.2.2.2.2, .slice A5 (d.2.1).length c5, .slice A6 (d.2.2.1).length c6, .slice A7 (d.2.2.2.1).length c7, .int .i64 d.2.2.2.2.1, .int .i64 d.2.2.2.2.2.1, .slice A10 (d.2.2.2.2.2.2.1).length c10, .int .i64 d.2.2.2.2.2.2.2.1, .int .i64 d.2.2.2.2.2.2.2.2] 31)) (b := w.heap.size + 1) (c := #[.int .i64 0, .int .i64 0, .int .i64 0, .bool false, .int .i64 0, .slice none 0 0, .slice none 0 0, .slice none 0 0, .int .i64 0, .int .i64 0, .slice none 0 0, .int .i64 0, .int .i64 0]) (t := 41) (by simp)).alloc (.cells #[.int .i64 0, .int .i64 0, .int .i64 0, .bool false, .int .i64 0, .slice none 0 0, .slice none 0 0, .slice none 0 0, .int .i64 0, .int .i64 0, .slice none 0 0, .int .i64 0, .int .i64 0] 41)
  have Z := Bx.new (w := (w.alloc (.cells #[.int .i64 d.1.1, .int .i64 d.1.2.1, .int .i64 d.1.2.2.1, .bool d.1.2.2.2.1, .int .i64 d.1.2.2.2.2, .slice A5 (d.2.1).length c5, .slice A6 (d.2.2.1).length c6, .slice A7 (d.2.2.2.1).length c7, .int .i64 d.2.2.2.2.1, .int .i64 d.2.2.2.2.2.1, .slice A10 (d.2.2.2.2.2.2.1).length c10, .int .i64 d.2.2.2.2.2.2.2.1, .int .i64 d.2.2.2.2.2.2.2.2] 31)).alloc (.cells #[.int .i64 0, .int .i64 0, .int .i64 0, .bool false, .int .i64 0, .slice none 0 0, .slice none 0 0, .slice none 0 0, .int .i64 0, .int .i64 0, .slice none 0 0, .int .i64 0, .int .i64 0] 41)) (b := w.heap.size + 1 + 1) (c := #[.int .i64 0, .int .i64 0, .int .i64 0, .bool false, .int .i64 0, .slice none 0 0, .slice none 0 0, .slice none 0 0, .int .i64 0, .int .i64 0, .slice none 0 0, .int .i64 0, .int .i64 0]) (t := 41) (by simp)
  have hz : w.heap.size + 1 + 1 < (((w.alloc (.cells #[.int .i64 d.1.1, .int .i64 d.1.2.1, .int .i64 d.1.2.2.1, .bool d.1.2.2.2.1, .int .i64 d.1.2.2.2.2, .slice A5 (d.2.1).length c5, .slice A6 (d.2.2.1).length c6, .slice A7 (d.2.2.2.1).length c7, .int .i64 d.2.2.2.2.1, .int .i64 d.2.2.2.2.2.1, .slice A10 (d.2.2.2.2.2.2.1).length c10, .int .i64 d.2.2.2.2.2.2.2.1, .int .i64 d.2.2.2.2.2.2.2.2] 31)).alloc (.cells #[.int .i64 0, .int .i64 0, .int .i64 0, .bool false, .int .i64 0, .slice none 0 0, .slice none 0 0, .slice none 0 0, .int .i64 0, .int .i64 0, .slice none 0 0, .int .i64 0, .int .i64 0] 41)).alloc (.cells #[.int .i64 0, .int .i64 0, .int .i64 0, .bool false, .int .i64 0, .slice none 0 0, .slice none 0 0, .slice none 0 0, .int .i64 0, .int .i64 0, .slice none 0 0, .int .i64 0, .int .i64 0] 41)).heap.size := by simp
  generalize ((w.alloc (.cells #[.int .i64 d.1.1, .int .i64 d.1.2.1, .int .i64 d.1.2.2.1, .bool d.1.2.2.2.1, .int .i64 d.1.2.2.2.2, .slice A5 (d.2.1).length c5, .slice A6 (d.2.2.1).length c6, .slice A7 (d.2.2.2.1).length c7, .int .i64 d.2.2.2.2.1, .int .i64 d.2.2.2.2.2.1, .slice A10 (d.2.2.2.2.2.2.1).length c10, .int .i64 d.2.2.2.2.2.2.2.1, .int .i64 d.2.2.2.2.2.2.2.2] 31)).alloc (.cells #[.int .i64 0, .int .i64 0, .int .i64 0, .bool false, .int .i64 0, .slice none 0 0, .slice none 0 0, .slice none 0 0, .int .i64 0, .int .i64 0, .slice none 0 0, .int .i64 0, .int .i64 0] 41)).alloc (.cells #[.int .i64 0, .int .i64 0, .int .i64 0, .bool false, .int .i64 0, .slice none 0 0, .slice none 0 0, .slice none 0 0, .int .i64 0, .int .i64 0, .slice none 0 0, .int .i64 0, .int .i64 0] 41) = w0 at b X Y Z hz ⊢
  have hsz := b.size
  refine (to_Setup d.1 _).mono ?_; rintro o w1 ⟨rfl, hb⟩
  have X := X.next hb
  have Y := Y.next hb
  have Z := Z.next hb
  have b := b.trans (hb.mono hsz)
  have hs0 := hb.size
  have hz : w.heap.size + 1 + 1 < w1.heap.size := Nat.lt_of_lt_of_le hz hb.size
  obtain ⟨⟨x0, x1, x2, x3, x4, x5, x6, x7, x8, x9, x10, x11, x12⟩, _⟩ := X.c13
  obtain ⟨⟨z0, z1, z2, z3, z4, z5, z6, z7, z8, z9, z10, z11, z12⟩, zf⟩ := Z.c13
  clear hb
  go_wp2_with fail
  clear x0 x1 x2 x3 x4 x5 x6 x7 x8 x9 x10 x11 x12 z0 z1 z2 z3 z4 z5 z6 z7 z8 z9 z10 z11 z12 zf
  have b := (((((b).setCell (p := ⟨w.heap.size + 1 + 1, 0, none⟩) (by simp; omega) (.int .i64 d.1.1)).setCell (p := ⟨w.heap.size + 1 + 1, 1, none⟩) (by simp; omega) (.int .i64 d.1.2.1)).setCell (p := ⟨w.heap.size + 1 + 1, 2, none⟩) (by simp; omega) (.int .i64 d.1.2.2.1)).setCell (p := ⟨w.heap.size + 1 + 1, 3, none⟩) (by simp; omega) (.bool d.1.2.2.2.1)).setCell (p := ⟨w.heap.size + 1 + 1, 4, none⟩) (by simp; omega) (.int .i64 d.1.2.2.2.2)
  have X := (((((X).far (a := ⟨w.heap.size + 1 + 1, 0, none⟩) (.int .i64 d.1.1) (by simp; omega)).far (a := ⟨w.heap.size + 1 + 1, 1, none⟩) (.int .i64 d.1.2.1) (by simp; omega)).far (a := ⟨w.heap.size + 1 + 1, 2, none⟩) (.int .i64 d.1.2.2.1) (by simp; omega)).far (a := ⟨w.heap.size + 1 + 1, 3, none⟩) (.bool d.1.2.2.2.1) (by simp; omega)).far (a := ⟨w.heap.size + 1 + 1, 4, none⟩) (.int .i64 d.1.2.2.2.2) (by simp; omega)
  have Y := (((((Y).far (a := ⟨w.heap.size + 1 + 1, 0, none⟩) (.int .i64 d.1.1) (by simp)).far (a := ⟨w.heap.size + 1 + 1, 1, none⟩) (.int .i64 d.1.2.1) (by simp)).far (a := ⟨w.heap.size + 1 + 1, 2, none⟩) (.int .i64 d.1.2.2.1) (by simp)).far (a := ⟨w.heap.size + 1 + 1, 3, none⟩) (.bool d.1.2.2.2.1) (by simp)).far (a := ⟨w.heap.size + 1 + 1, 4, none⟩) (.int .i64 d.1.2.2.2.2) (by simp)
  have Z := (((((Z).set (j := 0) (.int .i64 d.1.1) (by simp)).set (j := 1) (.int .i64 d.1.2.1) (by simp)).set (j := 2) (.int .i64 d.1.2.2.1) (by simp)).set (j := 3) (.bool d.1.2.2.2.1) (by simp)).set (j := 4) (.int .i64 d.1.2.2.2.2) (by simp)
  have hz : w.heap.size + 1 + 1 < ((((((w1).setCell ⟨w.heap.size + 1 + 1, 0, none⟩ (.int .i64 d.1.1)).setCell ⟨w.heap.size + 1 + 1, 1, none⟩ (.int .i64 d.1.2.1)).setCell ⟨w.heap.size + 1 + 1, 2, none⟩ (.int .i64 d.1.2.2.1)).setCell ⟨w.heap.size + 1 + 1, 3, none⟩ (.bool d.1.2.2.2.1)).setCell ⟨w.heap.size + 1 + 1, 4, none⟩ (.int .i64 d.1.2.2.2.2)).heap.size := by simpa [World.setCell] using hz
  have he : ((((((w1).setCell ⟨w.heap.size + 1 + 1, 0, none⟩ (.int .i64 d.1.1)).setCell ⟨w.heap.size + 1 + 1, 1, none⟩ (.int .i64 d.1.2.1)).setCell ⟨w.heap.size + 1 + 1, 2, none⟩ (.int .i64 d.1.2.2.1)).setCell ⟨w.heap.size + 1 + 1, 3, none⟩ (.bool d.1.2.2.2.1)).setCell ⟨w.heap.size + 1 + 1, 4, none⟩ (.int .i64 d.1.2.2.2.2)).heap.size = w1.heap.size := by simp [World.setCell]
  generalize (((((w1).setCell ⟨w.heap.size + 1 + 1, 0, none⟩ (.int .i64 d.1.1)).setCell ⟨w.heap.size + 1 + 1, 1, none⟩ (.int .i64 d.1.2.1)).setCell ⟨w.heap.size + 1 + 1, 2, none⟩ (.int .i64 d.1.2.2.1)).setCell ⟨w.heap.size + 1 + 1, 3, none⟩ (.bool d.1.2.2.2.1)).setCell ⟨w.heap.size + 1 + 1, 4, none⟩ (.int .i64 d.1.2.2.2.2) = w2 at b X Y Z hz he ⊢
  have hsz := b.size
  refine (to_Table d.2.1 B _ _ (by omega) (by omega) (fTable.at_same p1 (.of b hB))).mono ?_; rintro o w3 ⟨us1, rfl, hb, o1⟩
  obtain ⟨A5x, c5x, rfl, _⟩ := at_Table (fTable.own_at o1)
  have X := X.next hb
  have Y := Y.next hb
  have Z := Z.next hb
  have b := b.trans (hb.mono hsz)
  have hs1 := hb.size
  have hz : w.heap.size + 1 + 1 < w3.heap.size := Nat.lt_of_lt_of_le hz hb.size
  obtain ⟨⟨x0, x1, x2, x3, x4, x5, x6, x7, x8, x9, x10, x11, x12⟩, _⟩ := X.c13
  obtain ⟨⟨z0, z1, z2, z3, z4, z5, z6, z7, z8, z9, z10, z11, z12⟩, zf⟩ := Z.c13
  clear hb
  go_wp2_with fail
  clear x0 x1 x2 x3 x4 x5 x6 x7 x8 x9 x10 x11 x12 z0 z1 z2 z3 z4 z5 z6 z7 z8 z9 z10 z11 z12 zf
  have b := (b).setCell (p := ⟨w.heap.size + 1 + 1, 5, none⟩) (by simp; omega) (.slice A5x (d.2.1).length c5x)
  have X := (X).far (a := ⟨w.heap.size + 1 + 1, 5, none⟩) (.slice A5x (d.2.1).length c5x) (by simp; omega)
  have Y := (Y).far (a := ⟨w.heap.size + 1 + 1, 5, none⟩) (.slice A5x (d.2.1).length c5x) (by simp)
  have Z := (Z).set (j := 5) (.slice A5x (d.2.1).length c5x) (by simp)
  have o1 := fTable.own_same (o1) (.far _ (a := ⟨w.heap.size + 1 + 1, 5, none⟩) (.slice A5x (d.2.1).length c5x) (.inl (by show w.heap.size + 1 + 1 < _; omega)))
  have hz : w.heap.size + 1 + 1 < ((w3).setCell ⟨w.heap.size + 1 + 1, 5, none⟩ (.slice A5x (d.2.1).length c5x)).heap.size := by simpa [World.setCell] using hz
  have he : ((w3).setCell ⟨w.heap.size + 1 + 1, 5, none⟩ (.slice A5x (d.2.1).length c5x)).heap.size = w3.heap.size := by simp [World.setCell]
  generalize (w3).setCell ⟨w.heap.size + 1 + 1, 5, none⟩ (.slice A5x (d.2.1).length c5x) = w4 at b X Y Z hz he o1 ⊢
  have hsz := b.size
  refine (to_WorkerS A6 c6 B d.2.2.1 _ (by omega) (by omega) (r6.keep b hB)).mono ?_; rintro o w5 ⟨A6x, c6x, rfl, hb, o2⟩
  have o2 : (rowF fWorker).Own _ _ _ d.2.2.1 [.slice A6x (d.2.2.1).length c6x] := ⟨_, _, rfl, o2⟩
  have X := X.next hb
  have Y := Y.next hb
  have Z := Z.next hb
  have b := b.trans (hb.mono hsz)
  have hs2 := hb.size
  have o1 := fTable.own_same o1 (.of hb (by omega))
  have hz : w.heap.size + 1 + 1 < w5.heap.size := Nat.lt_of_lt_of_le hz hb.size
  obtain ⟨⟨x0, x1, x2, x3, x4, x5, x6, x7, x8, x9, x10, x11, x12⟩, _⟩ := X.c13
  obtain ⟨⟨z0, z1, z2, z3, z4, z5, z6, z7, z8, z9, z10, z11, z12⟩, zf⟩ := Z.c13
  clear hb
  go_wp2_with fail
  clear x0 x1 x2 x3 x4 x5 x6 x7 x8 x9 x10 x11 x12 z0 z1 z2 z3 z4 z5 z6 z7 z8 z9 z10 z11 z12 zf
  have b := (b).setCell (p := ⟨w.heap.size + 1 + 1, 6, none⟩) (by simp; omega) (.slice A6x (d.2.2.1).length c6x)
  have X := (X).far (a := ⟨w.heap.size + 1 + 1, 6, none⟩) (.slice A6x (d.2.2.1).length c6x) (by simp; omega)
  have Y := (Y).far (a := ⟨w.heap.size + 1 + 1, 6, none⟩) (.slice A6x (d.2.2.1).length c6x) (by simp)
  have Z := (Z).set (j := 6) (.slice A6x (d.2.2.1).length c6x) (by simp)
  have o1 := fTable.own_same (o1) (.far _ (a := ⟨w.heap.size + 1 + 1, 6, none⟩) (.slice A6x (d.2.2.1).length c6x) (.inl (by show w.heap.size + 1 + 1 < _; omega)))
  have o2 := (rowF fWorker).own_same (o2) (.far _ (a := ⟨w.heap.size + 1 + 1, 6, none⟩) (.slice A6x (d.2.2.1).length c6x) (.inl (by show w.heap.size + 1 + 1 < _; omega)))
  have hz : w.heap.size + 1 + 1 < ((w5).setCell ⟨w.heap.size + 1 + 1, 6, none⟩ (.slice A6x (d.2.2.1).length c6x)).heap.size := by simpa [World.setCell] using hz
  have he : ((w5).setCell ⟨w.heap.size + 1 + 1, 6, none⟩ (.slice A6x (d.2.2.1).length c6x)).heap.size = w5.heap.size := by simp [World.setCell]
  generalize (w5).setCell ⟨w.heap.size + 1 + 1, 6, none⟩ (.slice A6x (d.2.2.1).length c6x) = w6 at b X Y Z hz he o1 o2 ⊢
  have hsz := b.size
  refine (to_IntS A7 c7 B d.2.2.2.1 _ (by omega) (by omega) (r7.keep b hB)).mono ?_; rintro o w7 ⟨A7x, c7x, rfl, hb, o3⟩
  have o3 : (rowF intF).Own _ _ _ d.2.2.2.1 [.slice A7x (d.2.2.2.1).length c7x] := ⟨_, _, rfl, o3⟩
  have X := X.next hb
  have Y := Y.next hb
  have Z := Z.next hb
  have b := b.trans (hb.mono hsz)
  have hs3 := hb.size
  have o1 := fTable.own_same o1 (.of hb (by omega))
  have o2 := (rowF fWorker).own_same o2 (.of hb (by omega))
  have hz : w.heap.size + 1 + 1 < w7.heap.size := Nat.lt_of_lt_of_le hz hb.size
  obtain ⟨⟨x0, x1, x2, x3, x4, x5, x6, x7, x8, x9, x10, x11, x12⟩, _⟩ := X.c13
  obtain ⟨⟨z0, z1, z2, z3, z4, z5, z6, z7, z8, z9, z10, z11, z12⟩, zf⟩ := Z.c13
  clear hb
  go_wp2_with fail
  clear x0 x1 x2 x3 x4 x5 x6 x7 x8 x9 x10 x11 x12 z0 z1 z2 z3 z4 z5 z6 z7 z8 z9 z10 z11 z12 zf
  have b := (((b).setCell (p := ⟨w.heap.size + 1 + 1, 7, none⟩) (by simp; omega) (.slice A7x (d.2.2.2.1).length c7x)).setCell (p := ⟨w.heap.size + 1 + 1, 8, none⟩) (by simp; omega) (.int .i64 d.2.2.2.2.1)).setCell (p := ⟨w.heap.size + 1 + 1, 9, none⟩) (by simp; omega) (.int .i64 d.2.2.2.2.2.1)
  have X := (((X).far (a := ⟨w.heap.size + 1 + 1, 7, none⟩) (.slice A7x (d.2.2.2.1).length c7x) (by simp; omega)).far (a := ⟨w.heap.size + 1 + 1, 8, none⟩) (.int .i64 d.2.2.2.2.1) (by simp; omega)).far (a := ⟨w.heap.size + 1 + 1, 9, none⟩) (.int .i64 d.2.2.2.2.2.1) (by simp; omega)
  have Y := (((Y).far (a := ⟨w.heap.size + 1 + 1, 7, none⟩) (.slice A7x (d.2.2.2.1).length c7x) (by simp)).far (a := ⟨w.heap.size + 1 + 1, 8, none⟩) (.int .i64 d.2.2.2.2.1) (by simp)).far (a := ⟨w.heap.size + 1 + 1, 9, none⟩) (.int .i64 d.2.2.2.2.2.1) (by simp)
  have Z := (((Z).set (j := 7) (.slice A7x (d.2.2.2.1).length c7x) (by simp)).set (j := 8) (.int .i64 d.2.2.2.2.1) (by simp)).set (j := 9) (.int .i64 d.2.2.2.2.2.1) (by simp)
  have o1 := fTable.own_same (fTable.own_same (fTable.own_same (o1) (.far _ (a := ⟨w.heap.size + 1 + 1, 7, none⟩) (.slice A7x (d.2.2.2.1).length c7x) (.inl (by show w.heap.size + 1 + 1 < _; omega)))) (.far _ (a := ⟨w.heap.size + 1 + 1, 8, none⟩) (.int .i64 d.2.2.2.2.1) (.inl (by show w.heap.size + 1 + 1 < _; omega)))) (.far _ (a := ⟨w.heap.size + 1 + 1, 9, none⟩) (.int .i64 d.2.2.2.2.2.1) (.inl (by show w.heap.size + 1 + 1 < _; omega)))
  have o2 := (rowF fWorker).own_same ((rowF fWorker).own_same ((rowF fWorker).own_same (o2) (.far _ (a := ⟨w.heap.size + 1 + 1, 7, none⟩) (.slice A7x (d.2.2.2.1).length c7x) (.inl (by show w.heap.size + 1 + 1 < _; omega)))) (.far _ (a := ⟨w.heap.size + 1 + 1, 8, none⟩) (.int .i64 d.2.2.2.2.1) (.inl (by show w.heap.size + 1 + 1 < _; omega)))) (.far _ (a := ⟨w.heap.size + 1 + 1, 9, none⟩) (.int .i64 d.2.2.2.2.2.1) (.inl (by show w.heap.size + 1 + 1 < _; omega)))
  have o3 := (rowF intF).own_same ((rowF intF).own_same ((rowF intF).own_same (o3) (.far _ (a := ⟨w.heap.size + 1 + 1, 7, none⟩) (.slice A7x (d.2.2.2.1).length c7x) (.inl (by show w.heap.size + 1 + 1 < _; omega)))) (.far _ (a := ⟨w.heap.size + 1 + 1, 8, none⟩) (.int .i64 d.2.2.2.2.1) (.inl (by show w.heap.size + 1 + 1 < _; omega)))) (.far _ (a := ⟨w.heap.size + 1 + 1, 9, none⟩) (.int .i64 d.2.2.2.2.2.1) (.inl (by show w.heap.size + 1 + 1 < _; omega)))
  have hz : w.heap.size + 1 + 1 < ((((w7).setCell ⟨w.heap.size + 1 + 1, 7, none⟩ (.slice A7x (d.2.2.2.1).length c7x)).setCell ⟨w.heap.size + 1 + 1, 8, none⟩ (.int .i64 d.2.2.2.2.1)).setCell ⟨w.heap.size + 1 + 1, 9, none⟩ (.int .i64 d.2.2.2.2.2.1)).heap.size := by simpa [World.setCell] using hz
  have he : ((((w7).setCell ⟨w.heap.size + 1 + 1, 7, none⟩ (.slice A7x (d.2.2.2.1).length c7x)).setCell ⟨w.heap.size + 1 + 1, 8, none⟩ (.int .i64 d.2.2.2.2.1)).setCell ⟨w.heap.size + 1 + 1, 9, none⟩ (.int .i64 d.2.2.2.2.2.1)).heap.size = w7.heap.size := by simp [World.setCell]
  generalize (((w7).setCell ⟨w.heap.size + 1 + 1, 7, none⟩ (.slice A7x (d.2.2.2.1).length c7x)).setCell ⟨w.heap.size + 1 + 1, 8, none⟩ (.int .i64 d.2.2.2.2.1)).setCell ⟨w.heap.size + 1 + 1, 9, none⟩ (.int .i64 d.2.2.2.2.2.1) = w8 at b X Y Z hz he o1 o2 o3 ⊢
  have hsz := b.size
  refine (to_CommitS A10 c10 B d.2.2.2.2.2.2.1 _ (by omega) (by omega) (r10.keep b hB)).mono ?_; rintro o w9 ⟨A10x, c10x, rfl, hb, o6⟩
  have o6 : (rowF fCommit).Own _ _ _ d.2.2.2.2.2.2.1 [.slice A10x (d.2.2.2.2.2.2.1).length c10x] := ⟨_, _, rfl, o6⟩
  have X := X.next hb
  have Y := Y.next hb
  have Z := Z.next hb
  have b := b.trans (hb.mono hsz)
  have hs4 := hb.size
  have o1 := fTable.own_same o1 (.of hb (by omega))
  have o2 := (rowF fWorker).own_same o2 (.of hb (by omega))
  have o3 := (rowF intF).own_same o3 (.of hb (by omega))
  have hz : w.heap.size + 1 + 1 < w9.heap.size := Nat.lt_of_lt_of_le hz hb.size
  obtain ⟨⟨x0, x1, x2, x3, x4, x5, x6, x7, x8, x9, x10, x11, x12⟩, _⟩ := X.c13
  obtain ⟨⟨z0, z1, z2, z3, z4, z5, z6, z7, z8, z9, z10, z11, z12⟩, zf⟩ := Z.c13
  obtain ⟨⟨y0, y1, y2, y3, y4, y5, y6, y7, y8, y9, y10, y11, y12⟩, yf⟩ := Y.c13
  clear hb X Y Z
  have HO := Lib.hid (own_Engine (lo := w.heap.size + 1 + 1 + 1) (B := w9.heap.size) (by omega) (by omega) o1 (by omega) (by omega) o2 (by omega) (by omega) o3 (by omega) (by omega) o6 (Nat.le_refl _))
  clear o1 o2 o3 o6
  go_wp2
  exact bodyPost_ret (v := .agg #[.int .i64 d.1.1, .int .i64 d.1.2.1, .int .i64 d.1.2.2.1, .bool d.1.2.2.2.1, .int .i64 d.1.2.2.2.2, .slice A5x (d.2.1).length c5x, .slice A6x (d.2.2.1).length c6x, .slice A7x (d.2.2.2.1).length c7x, .int .i64 d.2.2.2.2.1, .int .i64 d.2.2.2.2.2.1, .slice A10x (d.2.2.2.2.2.2.1).length c10x, .int .i64 d.2.2.2.2.2.2.2.1, .int .i64 d.2.2.2.2.2.2.2.2]) (by simp [results, Tryz.results8, go_sem, y0, y1, y2, y3, y4, y5, y6, y7, y8, y9, y10, y11, y12]) rfl ⟨[.int .i64 d.1.1, .int .i64 d.1.2.1, .int .i64 d.1.2.2.1, .bool d.1.2.2.2.1, .int .i64 d.1.2.2.2.2, .slice A5x (d.2.1).length c5x, .slice A6x (d.2.2.1).length c6x, .slice A7x (d.2.2.2.1).length c7x, .int .i64 d.2.2.2.2.1, .int .i64 d.2.2.2.2.2.1, .slice A10x (d.2.2.2.2.2.2.1).length c10x, .int .i64 d.2.2.2.2.2.2.2.1, .int .i64 d.2.2.2.2.2.2.2.2], rfl, (by repeat' (first | (with_reducible refine Below.setCell ?_ (by simp <;> omega) _) | (with_reducible refine Below.alloc ?_ (by simp <;> omega) _) | (with_reducible assumption) | (with_reducible exact Below.refl _ _))), fEngine.own_more (fEngine.own_same HO.out (.only (lo' := w.heap.size + 1) (B' := w.heap.size + 1 + 1 + 1) (by repeat' (first | (with_reducible refine Onlys.setCell ?_ (by simp) (by simp) _) | (with_reducible exact Onlys.refl _ _ _))) (.inr (Nat.le_refl _)))) (by omega) (by simp [World.setCell])⟩
end Go.Proofs.YtkpkjcmoldkmmaaGreat
