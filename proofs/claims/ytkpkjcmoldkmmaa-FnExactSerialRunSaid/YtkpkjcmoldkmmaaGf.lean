/- The laws' helpers over engines. -/
import Derived.Test.YtkpkjcmoldkmmaaGe
namespace Go.Proofs.Ytkpkjcmoldkmmaa
open Go.RowKit

abbrev DEngine := DSetup × DTable × (List DWorker) × (List Int) × Int × Int × (List DCommit) × Int × Int
def fEngine : Fm DEngine := pairF fSetup (pairF fTable (pairF (rowF fWorker) (pairF (rowF intF) (pairF intF (pairF intF (pairF (rowF fCommit) (pairF intF (intF))))))))
theorem at_Engine {w : World} {B : Nat} {d : DEngine} {vs : List Value} (h : fEngine.At w B d vs) : ∃ (A5 : Option Addr) (c5 : Nat) (A6 : Option Addr) (c6 : Nat) (A7 : Option Addr) (c7 : Nat) (A10 : Option Addr) (c10 : Nat), vs = [.int .i64 d.1.1, .int .i64 d.1.2.1, .int .i64 d.1.2.2.1, .bool d.1.2.2.2.1, .int .i64 d.1.2.2.2.2, .slice A5 (d.2.1).length c5, .slice A6 (d.2.2.1).length c6, .slice A7 (d.2.2.2.1).length c7, .int .i64 d.2.2.2.2.1, .int .i64 d.2.2.2.2.2.1, .slice A10 (d.2.2.2.2.2.2.1).length c10, .int .i64 d.2.2.2.2.2.2.2.1, .int .i64 d.2.2.2.2.2.2.2.2] ∧ RAt fCell w B A5 d.2.1 ∧ RAt fWorker w B A6 d.2.2.1 ∧ RAt intF w B A7 d.2.2.2.1 ∧ RAt fCommit w B A10 d.2.2.2.2.2.2.1 := by
  obtain ⟨x0, y0, rfl, h0, x1, y1, rfl, h1, x2, y2, rfl, h2, x3, y3, rfl, h3, x4, y4, rfl, h4, x5, y5, rfl, h5, x6, y6, rfl, h6, x7, y7, rfl, h7, h8⟩ := h
  have e0 := at_Setup h0
  subst e0
  obtain ⟨A5, c5, rfl, r5⟩ := at_Table h1
  obtain ⟨A6, c6, rfl, r6⟩ := h2
  obtain ⟨A7, c7, rfl, r7⟩ := h3
  cases h4
  cases h5
  obtain ⟨A10, c10, rfl, r10⟩ := h6
  cases h7
  cases h8
  exact ⟨A5, c5, A6, c6, A7, c7, A10, c10, rfl, r5, r6, r7, r10⟩
theorem cnt_Engine (d : DEngine) : fEngine.cnt d = fTable.cnt d.2.1 + (rowF fWorker).cnt d.2.2.1 + (rowF intF).cnt d.2.2.2.1 + (rowF fCommit).cnt d.2.2.2.2.2.2.1 := by
  show fSetup.cnt d.1 + (fTable.cnt d.2.1 + ((rowF fWorker).cnt d.2.2.1 + ((rowF intF).cnt d.2.2.2.1 + (intF.cnt d.2.2.2.2.1 + (intF.cnt d.2.2.2.2.2.1 + ((rowF fCommit).cnt d.2.2.2.2.2.2.1 + (intF.cnt d.2.2.2.2.2.2.2.1 + (intF.cnt d.2.2.2.2.2.2.2.2)))))))) = _
  have z0 : fSetup.cnt d.1 = 0 := cnt_Setup _
  have z4 : intF.cnt d.2.2.2.2.1 = 0 := rfl
  have z5 : intF.cnt d.2.2.2.2.2.1 = 0 := rfl
  have z7 : intF.cnt d.2.2.2.2.2.2.2.1 = 0 := rfl
  have z8 : intF.cnt d.2.2.2.2.2.2.2.2 = 0 := rfl
  omega
theorem n_Engine : fEngine.n = 13 := rfl
theorem own_Engine {w : World} {lo B L1 H1 L2 H2 L3 H3 L6 H6 : Nat} {d : DEngine} {v1 v2 v3 v6 : List Value} (q1 : lo ≤ L1) (_g1 : L1 ≤ H1) (h1 : fTable.Own w L1 H1 d.2.1 v1) (q2 : H1 ≤ L2) (_g2 : L2 ≤ H2) (h2 : (rowF fWorker).Own w L2 H2 d.2.2.1 v2) (q3 : H2 ≤ L3) (_g3 : L3 ≤ H3) (h3 : (rowF intF).Own w L3 H3 d.2.2.2.1 v3) (q6 : H3 ≤ L6) (_g6 : L6 ≤ H6) (h6 : (rowF fCommit).Own w L6 H6 d.2.2.2.2.2.2.1 v6) (qB : H6 ≤ B) : fEngine.Own w lo B d ([.int .i64 d.1.1, .int .i64 d.1.2.1, .int .i64 d.1.2.2.1, .bool d.1.2.2.2.1, .int .i64 d.1.2.2.2.2] ++ (v1 ++ (v2 ++ (v3 ++ ([.int .i64 d.2.2.2.2.1] ++ ([.int .i64 d.2.2.2.2.2.1] ++ (v6 ++ ([.int .i64 d.2.2.2.2.2.2.2.1] ++ ([.int .i64 d.2.2.2.2.2.2.2.2]))))))))) := ⟨[.int .i64 d.1.1, .int .i64 d.1.2.1, .int .i64 d.1.2.2.1, .bool d.1.2.2.2.1, .int .i64 d.1.2.2.2.2], _, lo, lo, lo, B, rfl, by omega, (own_Setup (Nat.le_refl _) d.1), ⟨v1, _, L1, H1, H1, B, rfl, by omega, h1, ⟨v2, _, L2, H2, H2, B, rfl, by omega, h2, ⟨v3, _, L3, H3, H3, B, rfl, by omega, h3, ⟨[.int .i64 d.2.2.2.2.1], _, H3, H3, H3, B, rfl, by omega, rfl, ⟨[.int .i64 d.2.2.2.2.2.1], _, H3, H3, H3, B, rfl, by omega, rfl, ⟨v6, _, L6, H6, H6, B, rfl, by omega, h6, ⟨[.int .i64 d.2.2.2.2.2.2.2.1], _, H6, H6, H6, B, rfl, by omega, rfl, rfl⟩⟩⟩⟩⟩⟩⟩⟩
theorem mk_Engine {w : World} {B : Nat} {d : DEngine} {A5 A6 A7 A10 : Option Addr} {c5 c6 c7 c10 : Nat} (r5 : RAt fCell w B A5 d.2.1) (r6 : RAt fWorker w B A6 d.2.2.1) (r7 : RAt intF w B A7 d.2.2.2.1) (r10 : RAt fCommit w B A10 d.2.2.2.2.2.2.1) : fEngine.At w B d [.int .i64 d.1.1, .int .i64 d.1.2.1, .int .i64 d.1.2.2.1, .bool d.1.2.2.2.1, .int .i64 d.1.2.2.2.2, .slice A5 (d.2.1).length c5, .slice A6 (d.2.2.1).length c6, .slice A7 (d.2.2.2.1).length c7, .int .i64 d.2.2.2.2.1, .int .i64 d.2.2.2.2.2.1, .slice A10 (d.2.2.2.2.2.2.1).length c10, .int .i64 d.2.2.2.2.2.2.2.1, .int .i64 d.2.2.2.2.2.2.2.2] := ⟨[.int .i64 d.1.1, .int .i64 d.1.2.1, .int .i64 d.1.2.2.1, .bool d.1.2.2.2.1, .int .i64 d.1.2.2.2.2], _, rfl, (mk_Setup), ⟨[.slice A5 (d.2.1).length c5], _, rfl, (mk_Table r5), ⟨[.slice A6 (d.2.2.1).length c6], _, rfl, ⟨A6, c6, rfl, r6⟩, ⟨[.slice A7 (d.2.2.2.1).length c7], _, rfl, ⟨A7, c7, rfl, r7⟩, ⟨[.int .i64 d.2.2.2.2.1], _, rfl, rfl, ⟨[.int .i64 d.2.2.2.2.2.1], _, rfl, rfl, ⟨[.slice A10 (d.2.2.2.2.2.2.1).length c10], _, rfl, ⟨A10, c10, rfl, r10⟩, ⟨[.int .i64 d.2.2.2.2.2.2.2.1], _, rfl, rfl, rfl⟩⟩⟩⟩⟩⟩⟩⟩
set_option maxHeartbeats 1600000 in
set_option maxRecDepth 100000 in
theorem eq_Engine (d : DEngine) (B B' : Nat) (vs us : List Value) (w : World) (hB : B ≤ w.heap.size) (hB' : B' ≤ w.heap.size) (h : fEngine.At w B d vs) (h' : fEngine.At w B' d us) :
    Calls Try.prog 15 #[.agg vs.toArray, .agg us.toArray] w fun e w' => e = .returned (.bool true) ∧ Below w.heap.size w w' := by
  obtain ⟨A5, c5, A6, c6, A7, c7, A10, c10, rfl, r5, r6, r7, r10⟩ := at_Engine h
  obtain ⟨A5x, c5x, A6x, c6x, A7x, c7x, A10x, c10x, rfl, q5, q6, q7, q10⟩ := at_Engine h'
  clear h h'
  go_enter Try.func15, Try.ntmps15
  go_wp2_with fail
  have b := ((Below.refl w.heap.size w).alloc (Nat.le_refl _) (.cells #[.int .i64 d.1.1, .int .i64 d.1.2.1, .int .i64 d.1.2.2.1, .bool d.1.2.2.2.1, .int .i64 d.1.2.2.2.2, .slice A5 (d.2.1).length c5, .slice A6 (d.2.2.1).length c6, .slice A7 (d.2.2.2.1).length c7, .int .i64 d.2.2.2.2.1, .int .i64 d.2.2.2.2.2.1, .slice A10 (d.2.2.2.2.2.2.1).length c10, .int .i64 d.2.2.2.2.2.2.2.1, .int .i64 d.2.2.2.2.2.2.2.2] 34)).alloc (by simp) (.cells #[.int .i64 d.1.1, .int .i64 d.1.2.1, .int .i64 d.1.2.2.1, .bool d.1.2.2.2.1, .int .i64 d.1.2.2.2.2, .slice A5x (d.2.1).length c5x, .slice A6x (d.2.2.1).length c6x, .slice A7x (d.2.2.2.1).length c7x, .int .i64 d.2.2.2.2.1, .int .i64 d.2.2.2.2.2.1, .slice A10x (d.2.2.2.2.2.2.1).length c10x, .int .i64 d.2.2.2.2.2.2.2.1, .int .i64 d.2.2.2.2.2.2.2.2] 34)
  have X := (Bx.new (w := w) (c := #[.int .i64 d.1.1, .int .i64 d.1.2.1, .int .i64 d.1.2.2.1, .bool d.1.2.2.2.1, .int .i64 d.1.2.2.2.2, .slice A5 (d.2.1).length c5, .slice A6 (d.2.2.1).length c6, .slice A7 (d.2.2.2.1).length c7, .int .i64 d.2.2.2.2.1, .int .i64 d.2.2.2.2.2.1, .slice A10 (d.2.2.2.2.2.2.1).length c10, .int .i64 d.2.2.2.2.2.2.2.1, .int .i64 d.2.2.2.2.2.2.2.2]) (t := 34) rfl).alloc (.cells #[.int .i64 d.1.1, .int .i64 d.1.2.1, .int .i64 d.1.2.2.1, .bool d.1.2.2.2.1, .int .i64 d.1.2.2.2.2, .slice A5x (d.2.1).length c5x, .slice A6x (d.2.2.1).length c6x, .slice A7x (d.2.2.2.1).length c7x, .int .i64 d.2.2.2.2.1, .int .i64 d.2.2.2.2.2.1, .slice A10x (d.2.2.2.2.2.2.1).length c10x, .int .i64 d.2.2.2.2.2.2.2.1, .int .i64 d.2.2.2.2.2.2.2.2] 34)
  have Y := Bx.new (w := w.alloc (.cells #[.int .i64 d.1.1, .int .i64 d.1.2.1, .int .i64 d.1.2.2.1, .bool d.1.2.2.2.1, .int .i64 d.1.2.2.2.2, .slice A5 (d.2.1).length c5, .slice A6 (d.2.2.1).length c6, .slice A7 (d.2.2.2.1).length c7, .int .i64 d.2.2.2.2.1, .int .i64 d.2.2.2.2.2.1, .slice A10 (d.2.2.2.2.2.2.1).length c10, .int .i64 d.2.2.2.2.2.2.2.1, .int .i64 d.2.2.2.2.2.2.2.2] 34)) (b := w.heap.size + 1) (c := #[.int .i64 d.1.1, .int .i64 d.1.2.1, .int .i64 d.1.2.2.1, .bool d.1.2.2.2.1, .int .i64 d.1.2.2.2.2, .slice A5x (d.2.1).length c5x, .slice A6x (d.2.2.1).length c6x, .slice A7x (d.2.2.2.1).length c7x, .int .i64 d.2.2.2.2.1, .int .i64 d.2.2.2.2.2.1, .slice A10x (d.2.2.2.2.2.2.1).length c10x, .int .i64 d.2.2.2.2.2.2.2.1, .int .i64 d.2.2.2.2.2.2.2.2]) (t := 34) (by simp)
  generalize (w.alloc (.cells #[.int .i64 d.1.1, .int .i64 d.1.2.1, .int .i64 d.1.2.2.1, .bool d.1.2.2.2.1, .int .i64 d.1.2.2.2.2, .slice A5 (d.2.1).length c5, .slice A6 (d.2.2.1).length c6, .slice A7 (d.2.2.2.1).length c7, .int .i64 d.2.2.2.2.1, .int .i64 d.2.2.2.2.2.1, .slice A10 (d.2.2.2.2.2.2.1).length c10, .int .i64 d.2.2.2.2.2.2.2.1, .int .i64 d.2.2.2.2.2.2.2.2] 34)).alloc (.cells #[.int .i64 d.1.1, .int .i64 d.1.2.1, .int .i64 d.1.2.2.1, .bool d.1.2.2.2.1, .int .i64 d.1.2.2.2.2, .slice A5x (d.2.1).length c5x, .slice A6x (d.2.2.1).length c6x, .slice A7x (d.2.2.2.1).length c7x, .int .i64 d.2.2.2.2.1, .int .i64 d.2.2.2.2.2.1, .slice A10x (d.2.2.2.2.2.2.1).length c10x, .int .i64 d.2.2.2.2.2.2.2.1, .int .i64 d.2.2.2.2.2.2.2.2] 34) = w0 at b X Y ⊢
  have hsz := b.size
  refine (eq_Setup d.1 _).mono ?_; rintro o w1 ⟨rfl, hb⟩
  have X := X.next hb
  have Y := Y.next hb
  have b := b.trans (hb.mono hsz)
  obtain ⟨⟨x0, x1, x2, x3, x4, x5, x6, x7, x8, x9, x10, x11, x12⟩, _⟩ := X.c13
  obtain ⟨⟨y0, y1, y2, y3, y4, y5, y6, y7, y8, y9, y10, y11, y12⟩, _⟩ := Y.c13
  clear hb
  go_wp2_with fail
  clear x0 x1 x2 x3 x4 x5 x6 x7 x8 x9 x10 x11 x12 y0 y1 y2 y3 y4 y5 y6 y7 y8 y9 y10 y11 y12
  have hsz := b.size
  refine (eq_Table d.2.1 B B' _ _ _ (by omega) (by omega) (mk_Table (r5.keep b hB)) (mk_Table (q5.keep b hB'))).mono ?_; rintro o w2 ⟨rfl, hb⟩
  have X := X.next hb
  have Y := Y.next hb
  have b := b.trans (hb.mono hsz)
  obtain ⟨⟨x0, x1, x2, x3, x4, x5, x6, x7, x8, x9, x10, x11, x12⟩, _⟩ := X.c13
  obtain ⟨⟨y0, y1, y2, y3, y4, y5, y6, y7, y8, y9, y10, y11, y12⟩, _⟩ := Y.c13
  clear hb
  go_wp2_with fail
  clear x0 x1 x2 x3 x4 x5 x6 x7 x8 x9 x10 x11 x12 y0 y1 y2 y3 y4 y5 y6 y7 y8 y9 y10 y11 y12
  have hsz := b.size
  refine (eq_WorkerS A6 A6x c6 c6x B B' d.2.2.1 _ (by omega) (by omega) (r6.keep b hB) (q6.keep b hB')).mono ?_; rintro o w3 ⟨rfl, hb⟩
  have X := X.next hb
  have Y := Y.next hb
  have b := b.trans (hb.mono hsz)
  obtain ⟨⟨x0, x1, x2, x3, x4, x5, x6, x7, x8, x9, x10, x11, x12⟩, _⟩ := X.c13
  obtain ⟨⟨y0, y1, y2, y3, y4, y5, y6, y7, y8, y9, y10, y11, y12⟩, _⟩ := Y.c13
  clear hb
  go_wp2_with fail
  clear x0 x1 x2 x3 x4 x5 x6 x7 x8 x9 x10 x11 x12 y0 y1 y2 y3 y4 y5 y6 y7 y8 y9 y10 y11 y12
  have hsz := b.size
  refine (eq_IntS A7 A7x c7 c7x B B' d.2.2.2.1 _ (by omega) (by omega) (r7.keep b hB) (q7.keep b hB')).mono ?_; rintro o w4 ⟨rfl, hb⟩
  have X := X.next hb
  have Y := Y.next hb
  have b := b.trans (hb.mono hsz)
  obtain ⟨⟨x0, x1, x2, x3, x4, x5, x6, x7, x8, x9, x10, x11, x12⟩, _⟩ := X.c13
  obtain ⟨⟨y0, y1, y2, y3, y4, y5, y6, y7, y8, y9, y10, y11, y12⟩, _⟩ := Y.c13
  clear hb
  go_wp2_with fail
  clear x0 x1 x2 x3 x4 x5 x6 x7 x8 x9 x10 x11 x12 y0 y1 y2 y3 y4 y5 y6 y7 y8 y9 y10 y11 y12
  have hsz := b.size
  refine (eq_CommitS A10 A10x c10 c10x B B' d.2.2.2.2.2.2.1 _ (by omega) (by omega) (r10.keep b hB) (q10.keep b hB')).mono ?_; rintro o w5 ⟨rfl, hb⟩
  have X := X.next hb
  have Y := Y.next hb
  have b := b.trans (hb.mono hsz)
  obtain ⟨⟨x0, x1, x2, x3, x4, x5, x6, x7, x8, x9, x10, x11, x12⟩, _⟩ := X.c13
  obtain ⟨⟨y0, y1, y2, y3, y4, y5, y6, y7, y8, y9, y10, y11, y12⟩, _⟩ := Y.c13
  clear hb
  go_wp2
  go_ret
  exact ⟨rfl, b⟩
end Go.Proofs.Ytkpkjcmoldkmmaa
