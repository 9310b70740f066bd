/- The laws' marking and looking again: Waits. -/
import Derived.Test.YtkpkjcmoldkmmaaGreatWfA
import Derived.Test.YtkpkjcmoldkmmaaGreatWfB
import Derived.Test.YtkpkjcmoldkmmaaGreatGf
import Derived.Test.YtkpkjcmoldkmmaaGreatGc
namespace Go.Proofs.YtkpkjcmoldkmmaaGreat
open Go.RowKit

/-- only the blocks from lo on and below B have turned; new ones may have come -/
structure Chs (lo B : Nat) (w w' : World) : Prop where
  os : w'.os = w.os
  tape : w'.tape = w.tape
  output : w'.output = w.output
  size : w.heap.size ≤ w'.heap.size
  block : ∀ k, k < w.heap.size → (k < lo ∨ B ≤ k) → w'.heap[k]? = w.heap[k]?
theorem Chs.of {lo B : Nat} {w w' : World} (h : Below w.heap.size w w') : Chs lo B w w' := ⟨h.os, h.tape, h.output, h.size, fun k hk _ => h.block k hk⟩
theorem Chs.onlys {lo B L H : Nat} {w w' : World} (h : Onlys L H w w') (h1 : lo ≤ L) (h2 : H ≤ B) : Chs lo B w w' := ⟨h.os, h.tape, h.output, by rw [h.size]; exact Nat.le_refl _, fun k _ hd => h.block k (by omega)⟩
theorem Chs.trans {lo B : Nat} {a b c : World} (h : Chs lo B a b) (k : Chs lo B b c) : Chs lo B a c :=
  ⟨k.os.trans h.os, k.tape.trans h.tape, k.output.trans h.output, Nat.le_trans h.size k.size, fun j hj hd => (k.block j (by have := h.size; omega) hd).trans (h.block j hj hd)⟩
theorem Chs.more {lo B lo' B' : Nat} {w w' : World} (h : Chs lo B w w') (h1 : lo' ≤ lo) (h2 : B ≤ B') : Chs lo' B' w w' := ⟨h.os, h.tape, h.output, h.size, fun k hk hd => h.block k hk (by omega)⟩
theorem Chs.sameI {lo B L H : Nat} {w w' : World} (h : Chs lo B w w') (hd : H ≤ lo ∨ B ≤ L) (hs : H ≤ w.heap.size) : SameI L H w w' := fun k h1 h2 => h.block k (by omega) (by omega)
theorem Chs.sameB {lo B H : Nat} {w w' : World} (h : Chs lo B w w') (hd : H ≤ lo) (hs : H ≤ w.heap.size) : SameB H w w' := fun k h2 => h.block k (by omega) (by omega)
theorem Chs.below {lo B H : Nat} {w w' : World} (h : Chs lo B w w') (hd : H ≤ lo) (hs : H ≤ w.heap.size) : Below H w w' := ⟨h.os, h.tape, h.output, h.size, h.sameB hd hs⟩
theorem ROwn.chs {α : Type} {F : Fm α} {w w' : World} {lo B L H : Nat} {A : Option Addr} {l : List α} (r : ROwn F w L H A l) (h : Chs lo B w w') (hd : H ≤ lo ∨ B ≤ L) (hs : H ≤ w.heap.size) : ROwn F w' L H A l := r.same (h.sameI hd hs)
theorem Bx.chs {w w' : World} {b lo B : Nat} {cs : List Value} (X : Bx w b cs) (h : Chs lo B w w') (hd : b < lo ∨ B ≤ b) : Bx w' b cs :=
  have hk := h.block b X.lt hd
  ⟨Nat.lt_of_lt_of_le X.lt h.size, fun j u hu => (World.cell?_of_block (a := ⟨b, j, none⟩) hk).trans (X.cell j u hu), fun o => (World.frozen?_of_block (a := ⟨b, o, none⟩) hk).trans (X.free o)⟩
set_option maxRecDepth 100000 in
theorem mark_Table (A : Option Addr) (c lo B : Nat) (l : List DCell) (k0 : Int) (w : World) (h0 : 0 ≤ k0) (h1 : k0 + adl ad_Cell l ≤ 1099511627776) (hs : B ≤ w.heap.size) (h : ROwn fCell w lo B A l) :
    Calls Tryz.prog 52 #[.agg #[.slice A l.length c], .int .i64 k0] w fun e w' => e = .returned (.int .i64 (k0 + adl ad_Cell l)) ∧ Chs lo B w w' ∧ ROwn fCell w' lo B A (mkl mkd_Cell ad_Cell l k0) := by
  go_enter Tryz.func52, Tryz.ntmps52
  go_wp2_with fail
  have hb := (Below.refl w.heap.size w).alloc (Nat.le_refl _) (.cells #[.slice A l.length c] 37)
  have hC := Chs.of (lo := lo) (B := B) hb
  have h := h.next hb hs
  generalize w.alloc (.cells #[.slice A l.length c] 37) = w1 at hC h ⊢
  (with_reducible refine (mark_CellS A c lo B l k0 _ h0 h1 h).mono ?_); rintro e w2 ⟨rfl, hm, hr⟩
  have hC := hC.trans (Chs.onlys hm (Nat.le_refl _) (Nat.le_refl _))
  clear hm h
  go_wp2
  go_ret
  exact ⟨rfl, hC, hr⟩
def mkd_Engine (d : DEngine) (k : Int) : DEngine := (d.1, mkl mkd_Cell ad_Cell d.2.1 k, mkl mkd_Worker ad_Worker d.2.2.1 (k + adl ad_Cell d.2.1), mkl mkd_Int ad_Int d.2.2.2.1 (k + adl ad_Cell d.2.1 + adl ad_Worker d.2.2.1), d.2.2.2.2.1, d.2.2.2.2.2.1, mkl mkd_Commit ad_Commit d.2.2.2.2.2.2.1 (k + adl ad_Cell d.2.1 + adl ad_Worker d.2.2.1 + adl ad_Int d.2.2.2.1), d.2.2.2.2.2.2.2.1, d.2.2.2.2.2.2.2.2)
def ad_Engine (d : DEngine) : Int := adl ad_Cell d.2.1 + adl ad_Worker d.2.2.1 + adl ad_Int d.2.2.2.1 + adl ad_Commit d.2.2.2.2.2.2.1
theorem pos_Engine (d : DEngine) : 0 ≤ ad_Engine d := by
  have := adl_pos pos_Cell d.2.1
  have := adl_pos pos_Worker d.2.2.1
  have := adl_pos pos_Int d.2.2.2.1
  have := adl_pos pos_Commit d.2.2.2.2.2.2.1
  unfold ad_Engine
  omega
theorem ub_Engine (d : DEngine) : ad_Engine d ≤ 16 * (fEngine.cnt d : Int) := by
  have h1 := adl_ub (F := fCell) ub_Cell d.2.1
  have h2 := adl_ub (F := fWorker) ub_Worker d.2.2.1
  have h3 := adl_ub (F := intF) ub_Int d.2.2.2.1
  have h4 := adl_ub (F := fCommit) ub_Commit d.2.2.2.2.2.2.1
  have hc := cnt_Engine d
  have ht := cnt_Table d.2.1
  unfold ad_Engine
  omega
/-- an engine of one's own, its four lists apart -/
structure EOwn (w : World) (lo B : Nat) (d : DEngine) (A5 A6 A7 A10 : Option Addr) (L1 H1 L2 H2 L3 H3 L4 H4 : Nat) : Prop where
  r5 : ROwn fCell w L1 H1 A5 d.2.1
  r6 : ROwn fWorker w L2 H2 A6 d.2.2.1
  r7 : ROwn intF w L3 H3 A7 d.2.2.2.1
  r10 : ROwn fCommit w L4 H4 A10 d.2.2.2.2.2.2.1
  b1 : lo ≤ L1 ∧ H1 ≤ B
  b2 : lo ≤ L2 ∧ H2 ≤ B
  b3 : lo ≤ L3 ∧ H3 ≤ B
  b4 : lo ≤ L4 ∧ H4 ≤ B
  s12 : H1 ≤ L2 ∨ H2 ≤ L1
  s13 : H1 ≤ L3 ∨ H3 ≤ L1
  s14 : H1 ≤ L4 ∨ H4 ≤ L1
  s23 : H2 ≤ L3 ∨ H3 ≤ L2
  s24 : H2 ≤ L4 ∨ H4 ≤ L2
  s34 : H3 ≤ L4 ∨ H4 ≤ L3
theorem EOwn.same {w w' : World} {lo B : Nat} {d : DEngine} {A5 A6 A7 A10 : Option Addr} {L1 H1 L2 H2 L3 H3 L4 H4 : Nat} (h : EOwn w lo B d A5 A6 A7 A10 L1 H1 L2 H2 L3 H3 L4 H4) (hs : SameI lo B w w') : EOwn w' lo B d A5 A6 A7 A10 L1 H1 L2 H2 L3 H3 L4 H4 :=
  ⟨h.r5.same (hs.mono h.b1.1 h.b1.2), h.r6.same (hs.mono h.b2.1 h.b2.2), h.r7.same (hs.mono h.b3.1 h.b3.2), h.r10.same (hs.mono h.b4.1 h.b4.2), h.b1, h.b2, h.b3, h.b4, h.s12, h.s13, h.s14, h.s23, h.s24, h.s34⟩
theorem EOwn.at_ {w : World} {lo B : Nat} {d : DEngine} {A5 A6 A7 A10 : Option Addr} {L1 H1 L2 H2 L3 H3 L4 H4 : Nat} (c5 c6 c7 c10 : Nat) (h : EOwn w lo B d A5 A6 A7 A10 L1 H1 L2 H2 L3 H3 L4 H4) : fEngine.At w B d [.int .i64 d.1.1, .int .i64 d.1.2.1, .int .i64 d.1.2.2.1, .bool d.1.2.2.2.1, .int .i64 d.1.2.2.2.2, .slice A5 (d.2.1).length c5, .slice A6 (d.2.2.1).length c6, .slice A7 (d.2.2.2.1).length c7, .int .i64 d.2.2.2.2.1, .int .i64 d.2.2.2.2.2.1, .slice A10 (d.2.2.2.2.2.2.1).length c10, .int .i64 d.2.2.2.2.2.2.2.1, .int .i64 d.2.2.2.2.2.2.2.2] :=
  mk_Engine (h.r5.at_.up h.b1.2) (h.r6.at_.up h.b2.2) (h.r7.at_.up h.b3.2) (h.r10.at_.up h.b4.2)
theorem open_EOwn {w : World} {lo B : Nat} {d : DEngine} {vs : List Value} (h : fEngine.Own w lo B d vs) : ∃ (A5 : Option Addr) (c5 : Nat) (A6 : Option Addr) (c6 : Nat) (A7 : Option Addr) (c7 : Nat) (A10 : Option Addr) (c10 : Nat) (L1 H1 L2 H2 L3 H3 L4 H4 : Nat), vs = [.int .i64 d.1.1, .int .i64 d.1.2.1, .int .i64 d.1.2.2.1, .bool d.1.2.2.2.1, .int .i64 d.1.2.2.2.2, .slice A5 (d.2.1).length c5, .slice A6 (d.2.2.1).length c6, .slice A7 (d.2.2.2.1).length c7, .int .i64 d.2.2.2.2.1, .int .i64 d.2.2.2.2.2.1, .slice A10 (d.2.2.2.2.2.2.1).length c10, .int .i64 d.2.2.2.2.2.2.2.1, .int .i64 d.2.2.2.2.2.2.2.2] ∧ EOwn w lo B d A5 A6 A7 A10 L1 H1 L2 H2 L3 H3 L4 H4 := by
  obtain ⟨x1, y1, P1, Q1, R1, S1, rfl, z1, hS, h⟩ := h
  obtain ⟨x2, y2, P2, Q2, R2, S2, rfl, z2, ⟨A5, c5, rfl, r5⟩, h⟩ := h
  obtain ⟨x3, y3, P3, Q3, R3, S3, rfl, z3, ⟨A6, c6, rfl, r6⟩, h⟩ := h
  obtain ⟨x4, y4, P4, Q4, R4, S4, rfl, z4, ⟨A7, c7, rfl, r7⟩, h⟩ := h
  obtain ⟨x5, y5, P5, Q5, R5, S5, rfl, z5, h5, h⟩ := h
  obtain ⟨x6, y6, P6, Q6, R6, S6, rfl, z6, h6, h⟩ := h
  obtain ⟨x7, y7, P7, Q7, R7, S7, rfl, z7, ⟨A10, c10, rfl, r10⟩, h⟩ := h
  obtain ⟨x8, y8, P8, Q8, R8, S8, rfl, z8, h8, h9⟩ := h
  have hS := at_Setup (fSetup.own_at hS)
  have h5 : x5 = [.int .i64 d.2.2.2.2.1] := h5
  have h6 : x6 = [.int .i64 d.2.2.2.2.2.1] := h6
  have h8 : x8 = [.int .i64 d.2.2.2.2.2.2.2.1] := h8
  have h9 : y8 = [.int .i64 d.2.2.2.2.2.2.2.2] := h9
  subst hS h5 h6 h8 h9
  refine ⟨A5, c5, A6, c6, A7, c7, A10, c10, P2, Q2, P3, Q3, P4, Q4, P7, Q7, rfl, r5, r6, r7, r10, ?_, ?_, ?_, ?_, ?_, ?_, ?_, ?_, ?_, ?_⟩ <;> omega
set_option maxHeartbeats 1600000 in
set_option maxRecDepth 100000 in
theorem mark_Engine (lo B : Nat) (d : DEngine) (A5 A6 A7 A10 : Option Addr) (c5 c6 c7 c10 L1 H1 L2 H2 L3 H3 L4 H4 : Nat) (k0 : Int) (w : World) (h0 : 0 ≤ k0) (h1 : k0 + ad_Engine d ≤ 1099511627776) (hs : B ≤ w.heap.size) (h : EOwn w lo B d A5 A6 A7 A10 L1 H1 L2 H2 L3 H3 L4 H4) :
    Calls Tryz.prog 14 #[.agg #[.int .i64 d.1.1, .int .i64 d.1.2.1, .int .i64 d.1.2.2.1, .bool d.1.2.2.2.1, .int .i64 d.1.2.2.2.2, .slice A5 (d.2.1).length c5, .slice A6 (d.2.2.1).length c6, .slice A7 (d.2.2.2.1).length c7, .int .i64 d.2.2.2.2.1, .int .i64 d.2.2.2.2.2.1, .slice A10 (d.2.2.2.2.2.2.1).length c10, .int .i64 d.2.2.2.2.2.2.2.1, .int .i64 d.2.2.2.2.2.2.2.2], .int .i64 k0] w fun e w' => e = .returned (.int .i64 (k0 + ad_Engine d)) ∧ Chs lo B w w' ∧ EOwn w' lo B (mkd_Engine d k0) A5 A6 A7 A10 L1 H1 L2 H2 L3 H3 L4 H4 := by
  have p1 := adl_pos pos_Cell d.2.1
  have p2 := adl_pos pos_Worker d.2.2.1
  have p3 := adl_pos pos_Int d.2.2.2.1
  have p4 := adl_pos pos_Commit d.2.2.2.2.2.2.1
  have HE := Lib.hid (show ad_Engine d = adl ad_Cell d.2.1 + adl ad_Worker d.2.2.1 + adl ad_Int d.2.2.2.1 + adl ad_Commit d.2.2.2.2.2.2.1 from rfl)
  have hq : k0 + adl ad_Cell d.2.1 + adl ad_Worker d.2.2.1 + adl ad_Int d.2.2.2.1 + adl ad_Commit d.2.2.2.2.2.2.1 ≤ 1099511627776 := by have := HE.out; omega
  obtain ⟨r5, r6, r7, r10, b1, b2, b3, b4, s12, s13, s14, s23, s24, s34⟩ := h
  clear h1
  go_enter Tryz.func14, Tryz.ntmps14
  go_wp2_with fail
  have hb := (Below.refl w.heap.size w).alloc (Nat.le_refl _) (.cells #[.int .i64 d.1.1, .int .i64 d.1.2.1, .int .i64 d.1.2.2.1, .bool d.1.2.2.2.1, .int .i64 d.1.2.2.2.2, .slice A5 (d.2.1).length c5, .slice A6 (d.2.2.1).length c6, .slice A7 (d.2.2.2.1).length c7, .int .i64 d.2.2.2.2.1, .int .i64 d.2.2.2.2.2.1, .slice A10 (d.2.2.2.2.2.2.1).length c10, .int .i64 d.2.2.2.2.2.2.2.1, .int .i64 d.2.2.2.2.2.2.2.2] 41)
  have hC := Chs.of (lo := lo) (B := B) hb
  have X := Bx.new (w := w) (c := #[.int .i64 d.1.1, .int .i64 d.1.2.1, .int .i64 d.1.2.2.1, .bool d.1.2.2.2.1, .int .i64 d.1.2.2.2.2, .slice A5 (d.2.1).length c5, .slice A6 (d.2.2.1).length c6, .slice A7 (d.2.2.2.1).length c7, .int .i64 d.2.2.2.2.1, .int .i64 d.2.2.2.2.2.1, .slice A10 (d.2.2.2.2.2.2.1).length c10, .int .i64 d.2.2.2.2.2.2.2.1, .int .i64 d.2.2.2.2.2.2.2.2]) (t := 41) rfl
  have r5 := r5.next hb (by omega)
  have r6 := r6.next hb (by omega)
  have r7 := r7.next hb (by omega)
  have r10 := r10.next hb (by omega)
  have hz := hb.size
  clear hb
  generalize w.alloc (.cells #[.int .i64 d.1.1, .int .i64 d.1.2.1, .int .i64 d.1.2.2.1, .bool d.1.2.2.2.1, .int .i64 d.1.2.2.2.2, .slice A5 (d.2.1).length c5, .slice A6 (d.2.2.1).length c6, .slice A7 (d.2.2.2.1).length c7, .int .i64 d.2.2.2.2.1, .int .i64 d.2.2.2.2.2.1, .slice A10 (d.2.2.2.2.2.2.1).length c10, .int .i64 d.2.2.2.2.2.2.2.1, .int .i64 d.2.2.2.2.2.2.2.2] 41) = w1 at hC X r5 r6 r7 r10 hz ⊢
  obtain ⟨⟨x0, x1, x2, x3, x4, x5, x6, x7, x8, x9, x10, x11, x12⟩, _⟩ := X.c13
  go_wp2_with fail
  clear x0 x1 x2 x3 x4 x5 x6 x7 x8 x9 x10 x11 x12
  (with_reducible refine (mark_Table A5 c5 L1 H1 d.2.1 k0 _ h0 (by omega) (by omega) r5).mono ?_); rintro e w2 ⟨rfl, hm, r5⟩
  have X := X.chs hm (.inr (by omega))
  have r6 := r6.chs hm (by omega) (by omega)
  have r7 := r7.chs hm (by omega) (by omega)
  have r10 := r10.chs hm (by omega) (by omega)
  have hC := hC.trans (hm.more (by omega) (by omega))
  have hz := Nat.le_trans hz hm.size
  clear hm
  obtain ⟨⟨x0, x1, x2, x3, x4, x5, x6, x7, x8, x9, x10, x11, x12⟩, _⟩ := X.c13
  go_wp2_with fail
  clear x0 x1 x2 x3 x4 x5 x6 x7 x8 x9 x10 x11 x12
  (with_reducible refine (mark_WorkerS A6 c6 L2 H2 d.2.2.1 (k0 + adl ad_Cell d.2.1) _ (by omega) (by omega) r6).mono ?_); rintro e w3 ⟨rfl, hm, r6⟩
  have hm := Chs.onlys hm (Nat.le_refl _) (Nat.le_refl _)
  have X := X.chs hm (.inr (by omega))
  have r5 := r5.chs hm (by omega) (by omega)
  have r7 := r7.chs hm (by omega) (by omega)
  have r10 := r10.chs hm (by omega) (by omega)
  have hC := hC.trans (hm.more (by omega) (by omega))
  have hz := Nat.le_trans hz hm.size
  clear hm
  obtain ⟨⟨x0, x1, x2, x3, x4, x5, x6, x7, x8, x9, x10, x11, x12⟩, _⟩ := X.c13
  go_wp2_with fail
  clear x0 x1 x2 x3 x4 x5 x6 x7 x8 x9 x10 x11 x12
  (with_reducible refine (mark_IntS A7 c7 L3 H3 d.2.2.2.1 (k0 + adl ad_Cell d.2.1 + adl ad_Worker d.2.2.1) _ (by omega) (by omega) r7).mono ?_); rintro e w4 ⟨rfl, hm, r7⟩
  have hm := Chs.onlys hm (Nat.le_refl _) (Nat.le_refl _)
  have X := X.chs hm (.inr (by omega))
  have r5 := r5.chs hm (by omega) (by omega)
  have r6 := r6.chs hm (by omega) (by omega)
  have r10 := r10.chs hm (by omega) (by omega)
  have hC := hC.trans (hm.more (by omega) (by omega))
  have hz := Nat.le_trans hz hm.size
  clear hm
  obtain ⟨⟨x0, x1, x2, x3, x4, x5, x6, x7, x8, x9, x10, x11, x12⟩, _⟩ := X.c13
  go_wp2_with fail
  clear x0 x1 x2 x3 x4 x5 x6 x7 x8 x9 x10 x11 x12
  (with_reducible refine (mark_CommitS A10 c10 L4 H4 d.2.2.2.2.2.2.1 (k0 + adl ad_Cell d.2.1 + adl ad_Worker d.2.2.1 + adl ad_Int d.2.2.2.1) _ (by omega) (by omega) r10).mono ?_); rintro e w5 ⟨rfl, hm, r10⟩
  have hm := Chs.onlys hm (Nat.le_refl _) (Nat.le_refl _)
  have r5 := r5.chs hm (by omega) (by omega)
  have r6 := r6.chs hm (by omega) (by omega)
  have r7 := r7.chs hm (by omega) (by omega)
  have hC := hC.trans (hm.more (by omega) (by omega))
  clear hm X
  go_wp2
  go_ret
  exact ⟨ret_intG (by rw [HE.out]; omega), hC, r5, r6, r7, r10, b1, b2, b3, b4, s12, s13, s14, s23, s24, s34⟩
end Go.Proofs.YtkpkjcmoldkmmaaGreat

namespace Go.Proofs.YtkpkjcmoldkmmaaGreat
open Go.RowKit

abbrev DWait := Int × Int
def fWait : Fm DWait := pairF intF (intF)
theorem at_Wait {w : World} {B : Nat} {d : DWait} {vs : List Value} (h : fWait.At w B d vs) : vs = [.int .i64 d.1, .int .i64 d.2] := by
  obtain ⟨x0, y0, rfl, h0, h1⟩ := h
  cases h0
  cases h1
  rfl
theorem cnt_Wait (d : DWait) : fWait.cnt d = 0 := by
  show intF.cnt d.1 + (intF.cnt d.2) = _
  have z0 : intF.cnt d.1 = 0 := rfl
  have z1 : intF.cnt d.2 = 0 := rfl
  omega
theorem n_Wait : fWait.n = 2 := rfl
theorem own_Wait {w : World} {lo B : Nat} (h : lo ≤ B) (d : DWait) : fWait.Own w lo B d [.int .i64 d.1, .int .i64 d.2] := ⟨[.int .i64 d.1], _, lo, lo, lo, B, rfl, by omega, rfl, rfl⟩
theorem mk_Wait {w : World} {B : Nat} {d : DWait} : fWait.At w B d [.int .i64 d.1, .int .i64 d.2] := ⟨[.int .i64 d.1], _, rfl, rfl, rfl⟩
set_option maxRecDepth 100000 in
theorem eq_Wait (d : DWait) (w : World) : Calls Tryz.prog 51 #[.agg #[.int .i64 d.1, .int .i64 d.2], .agg #[.int .i64 d.1, .int .i64 d.2]] w fun e w' => e = .returned (.bool true) ∧ Below w.heap.size w w' := by
  go_enter Tryz.func51, Tryz.ntmps51
  go_wp2
  go_ret
  exact ⟨rfl, (by repeat' (first | (with_reducible refine Below.setCell ?_ (by simp <;> omega) _) | (with_reducible refine Below.alloc ?_ (by simp <;> omega) _) | (with_reducible assumption) | (with_reducible exact Below.refl _ _)))⟩
theorem info_Wait : (Tryz.prog.info? 90).map (fun i => (i.zero, i.size, i.bytes)) = some (some (.agg #[.int .i64 0, .int .i64 0]), 2, 16) := by kernel_rfl
theorem make_Wait (n : Nat) (h : n ≤ 1048576) (w : World) :
    (Instr.makeSlice 45 (.int .i64 (n : Int)) (.int .i64 (n : Int))).run Tryz.prog w = .ok (.slice (some ⟨w.heap.size, 0, none⟩) n n) (w.alloc (.cells (madeCells #[.int .i64 0, .int .i64 0] (n * 2)) 90)) := by
  obtain ⟨i, hi, hzz⟩ := Option.map_eq_some_iff.1 info_Wait
  simp only [Prod.mk.injEq] at hzz
  obtain ⟨hz, hs, hb⟩ := hzz
  have := run_make (P := Tryz.prog) w 45 90 i _ Tryz.underlying45 hi hz .i64 .i64 n n (by omega) (Int.le_refl _) (by rw [hb]; omega) (by omega)
  simpa [hs, Value.cells] using this
set_option maxHeartbeats 1600000 in
set_option maxRecDepth 100000 in
theorem eq_WaitS (A A' : Option Addr) (c c' B B' : Nat) (l : List DWait) (w : World) (hB : B ≤ w.heap.size) (hB' : B' ≤ w.heap.size) (h : RAt fWait w B A l) (h' : RAt fWait w B' A' l) :
    Calls Tryz.prog 13 #[.slice A l.length c, .slice A' l.length c'] w fun e w' => e = .returned (.bool true) ∧ Below w.heap.size w w' := by
  have hmx := h.1
  unfold maxLen at hmx
  go_enter Tryz.func13, Tryz.ntmps13
  go_wp2
  go_loopw [5] (fun i wr => ∃ k : Nat, k ≤ l.length ∧ i = .int .i64 k ∧ Below w.heap.size w wr) (fun i _ => l.length - (intOf i).toNat)
  case atStart => exact ⟨0, Nat.zero_le _, rfl, Below.refl _ _⟩
  case round =>
    obtain ⟨k, hk, rfl, hb⟩ := hrel
    by_cases hkn : k < l.length
    · obtain ⟨b, off, rfl, hbB, hc⟩ := h.2 (by omega)
      obtain ⟨b', off', rfl, hbB', hc'⟩ := h'.2 (by omega)
      have hkz : (k : Int) < l.length := by omega
      have hget : l[k]? = some l[k] := List.getElem?_eq_getElem hkn
      obtain ⟨v, hv0, hat0⟩ := hc k _ hget
      obtain ⟨v', hv0', hat0'⟩ := hc' k _ hget
      have hsz := hb.size
      have hat := fWait.at_same hat0 (.of hb hB)
      have hat' := fWait.at_same hat0' (.of hb hB')
      have hv := hv0.below hb (show b < w.heap.size by omega)
      have hv' := hv0'.below hb (show b' < w.heap.size by omega)
      rw [show fWait.n = 2 from rfl] at hv hv'
      clear hv0 hat0 hv0' hat0'
      generalize l[k] = d at hget hat hat'
      have ev := at_Wait hat
      have ev' := at_Wait hat'
      subst ev ev'
      obtain ⟨a0, a1⟩ := hv.c2
      obtain ⟨b0, b1⟩ := hv'.c2
      clear hc hc' h h' hv hv' hget
      go_wp2_with fail
      go_still_tail 8, (by kernel_rfl)
      change wpList _ _ _ _ _ wr.drew
      have hb2 := hb.drew
      clear a0 b0 a1 b1
      generalize wr.drew = w2 at hb2 ⊢
      have hs2 := hb2.size
      go_wp2_with fail
      refine (eq_Wait d _).mono ?_; rintro o w3 ⟨rfl, hb3⟩
      go_wp2
      exact ⟨⟨k + 1, by omega, by go_num, hb2.trans (hb3.mono hs2)⟩, by simp [intOf]; omega⟩
    · obtain rfl : k = l.length := by omega
      go_wp2
      go_ret
      exact ⟨rfl, hb⟩
end Go.Proofs.YtkpkjcmoldkmmaaGreat

namespace Go.Proofs.YtkpkjcmoldkmmaaGreat
open Go.RowKit

def ad_Wait (_d : DWait) : Int := 2
def mkd_Wait (_d : DWait) (k : Int) : DWait := (k, k + 1)
theorem pos_Wait (d : DWait) : 0 ≤ ad_Wait d := by
  unfold ad_Wait
  omega
theorem ub_Wait (d : DWait) : ad_Wait d ≤ 16 * (fWait.cnt d : Int) + 16 := by
  unfold ad_Wait
  omega
theorem upd_Wait {w : World} {lo B : Nat} {d : DWait} {vs : List Value} (h : fWait.Own w lo B d vs) : vs = [.int .i64 d.1, .int .i64 d.2] ∧ ∀ (w' : World) (d' : DWait), fWait.Own w' lo B d' [.int .i64 d'.1, .int .i64 d'.2] := by
  obtain ⟨x0, y0, P0, Q0, M0, N0, rfl, hd0, h0, h1⟩ := h
  cases h0
  cases h1
  exact ⟨rfl, fun w' d' => ⟨[.int .i64 d'.1], _, P0, Q0, M0, N0, rfl, hd0, rfl, rfl⟩⟩
set_option maxHeartbeats 1600000 in
set_option maxRecDepth 100000 in
theorem mark_WaitS (A : Option Addr) (c lo B : Nat) (l : List DWait) (k0 : Int) (w : World) (h0 : 0 ≤ k0) (h1 : k0 + adl ad_Wait l ≤ 1099511627776) (h : ROwn fWait w lo B A l) :
    Calls Tryz.prog 15 #[.slice A l.length c, .int .i64 k0] w fun e w' => e = .returned (.int .i64 (k0 + adl ad_Wait l)) ∧ Onlys lo B w w' ∧ ROwn fWait w' lo B A (mkl mkd_Wait ad_Wait l k0) := by
  have hmx := h.1
  unfold maxLen at hmx
  rcases Nat.eq_zero_or_pos l.length with hz | hpos
  · obtain rfl := List.eq_nil_of_length_eq_zero hz
    clear hz hmx
    go_enter Tryz.func15, Tryz.ntmps15
    go_wp2
    refine wp_loop_rounds 1 ?_; rw [rounds_succ]
    go_wp2
    go_ret
    exact ⟨ret_intG (by simp [adl]), Onlys.refl _ _ _, ROwn.nil⟩
  obtain ⟨b, off, rfl, vs0, L, H, hr0⟩ := h.2 hpos
  clear h
  have blo := hr0.rlo
  have bhi := hr0.rhi
  go_enter Tryz.func15, Tryz.ntmps15
  go_wp2
  go_loopw [1, 5] (fun s i wr => ∃ k : Nat, k ≤ l.length ∧ i = .int .i64 k ∧ s = .int .i64 (k0 + adk ad_Wait l k) ∧ Onlys lo B w wr ∧ ∃ l' vs, Mix l (mkl mkd_Wait ad_Wait l k0) l' k ∧ RRow fWait wr lo B b off l' vs L H) (fun _ i _ => l.length - (intOf i).toNat)
  case atStart => exact ⟨0, Nat.zero_le _, rfl, int_eq (by rw [adk_zero]; omega), Onlys.refl _ _ _, _, _, Mix.start, hr0⟩
  case round =>
    clear hr0
    obtain ⟨k, hk, rfl, rfl, ho, l', vs, hmix, hr⟩ := hrel
    by_cases hkn : k < l.length
    · have hkz : (k : Int) < l.length := by omega
      have hget : l[k]? = some l[k] := List.getElem?_eq_getElem hkn
      have hk' : k < l'.length := by rw [hmix.len]; exact hkn
      have hmk := mkl_get (mk := mkd_Wait) (ad := ad_Wait) l k0 k _ hget
      have hs := adk_succ (ad := ad_Wait) hget
      have hle := adk_le (ad := ad_Wait) pos_Wait l (k + 1)
      have hp := adk_pos (ad := ad_Wait) pos_Wait l k
      have hown := hr.own k _ (by rw [hmix.old k (Nat.le_refl _)]; exact hget)
      have C := hr.chg hk'
      have spn := hr.span k hk'
      rw [show fWait.n = 2 from rfl] at C
      have HR := Lib.hid hr
      have HM := Lib.hid hmix
      have HK := Lib.hid hmk
      clear hr hmix hk' hmk
      generalize l[k] = d at hget hs hown HK
      generalize hL : L k = Lk at C spn hown
      generalize hH : H k = Hk at C spn hown
      generalize hv : vs k = v at C hown
      have HL := Lib.hid hL
      have HH := Lib.hid hH
      clear hL hH hv
      obtain ⟨rfl, clo⟩ := upd_Wait hown
      have CLO := Lib.hid clo
      clear clo
      have had : ad_Wait d = 2 := rfl
      rw [had] at hs
      generalize hx : adk ad_Wait l k = x at hs hle hp HK ⊢
      generalize hy : adk ad_Wait l (k + 1) = y at hs hle
      have HY := Lib.hid hy
      clear hy hx
      obtain ⟨a0, a1⟩ := C.cell.c2
      have f0 := C.free
      have HC := Lib.hid C
      clear C
      go_wp2
      refine ⟨⟨k + 1, by omega, by go_num, int_eq (by rw [HY.out]; omega), ?_, _, _, HM.out.step hkn HK.out, RRow.put HR.out (v := [.int .i64 (mkd_Wait d (k0 + x)).1, .int .i64 (mkd_Wait d (k0 + x)).2]) (by rw [HM.out.len]; exact hkn) ?_ rfl ?_⟩, by simp [intOf]; omega⟩
      · exact ho.trans (((HC.out).set 0 _ (by simp) (by omega) (by omega)).set 1 _ (by simp) (by omega) (by omega)).only
      · rw [HL.out, HH.out]
        rw [show fWait.n = 2 from rfl]
        refine Chg.cast (((HC.out).set 0 _ (by simp) (by omega) (by omega)).set 1 _ (by simp) (by omega) (by omega)) ?_
        simp [List.set, mkd_Wait]
        all_goals (try (repeat' apply And.intro))
        all_goals (first | omega | (rw [Bool.eq_iff_iff]; simp; done) | (rw [Bool.eq_iff_iff]; simp; omega))
      · rw [HL.out, HH.out]
        exact CLO.out _ (mkd_Wait d (k0 + x)) 
    · obtain rfl : k = l.length := by omega
      have HD := Lib.hid (hmix.done (mkl_len _ _))
      have HR := Lib.hid hr
      have HA := Lib.hid (adk_all (ad := ad_Wait) l)
      clear hr hmix
      go_wp2
      go_ret
      refine ⟨ret_intG (by rw [HA.out]), ho, ?_⟩
      have hr := HR.out
      rw [HD.out] at hr
      exact ⟨by rw [mkl_len]; unfold maxLen; omega, fun _ => ⟨b, off, rfl, _, _, _, hr⟩⟩
set_option maxHeartbeats 1600000 in
set_option maxRecDepth 100000 in
theorem held_WaitS (A : Option Addr) (c B : Nat) (l : List DWait) (k0 : Int) (w : World) (h0 : 0 ≤ k0) (h1 : k0 + adl ad_Wait l ≤ 1099511627776) (h : RAt fWait w B A (mkl mkd_Wait ad_Wait l k0)) :
    Calls Tryz.prog 16 #[.slice A l.length c, .int .i64 k0] w fun e w' => e = .returned (.int .i64 (k0 + adl ad_Wait l)) ∧ w = w' := by
  obtain ⟨hmx, hc0⟩ := h
  rw [mkl_len] at hmx hc0
  unfold maxLen at hmx
  have HC := Lib.hid hc0
  clear hc0
  go_enter Tryz.func16, Tryz.ntmps16
  go_wp2
  go_loop [1, 5] (fun s i => ∃ k : Nat, k ≤ l.length ∧ i = .int .i64 k ∧ s = .int .i64 (k0 + adk ad_Wait l k)) (fun _ i => l.length - (intOf i).toNat)
  case atStart => exact ⟨0, Nat.zero_le _, rfl, int_eq (by rw [adk_zero]; omega)⟩
  case round =>
    obtain ⟨k, hk, rfl, rfl⟩ := hrel
    by_cases hkn : k < l.length
    · obtain ⟨b, off, rfl, hbB, hc⟩ := HC.out (by omega)
      have hkz : (k : Int) < l.length := by omega
      have hget : l[k]? = some l[k] := List.getElem?_eq_getElem hkn
      obtain ⟨v, hv, hat⟩ := hc k _ (mkl_get (mk := mkd_Wait) (ad := ad_Wait) l k0 k _ hget)
      rw [show fWait.n = 2 from rfl] at hv
      have hs := adk_succ (ad := ad_Wait) hget
      have hle := adk_le (ad := ad_Wait) pos_Wait l (k + 1)
      have hp := adk_pos (ad := ad_Wait) pos_Wait l k
      clear hc
      generalize l[k] = d at hget hs hat
      have had : ad_Wait d = 2 := rfl
      rw [had] at hs
      clear had
      generalize hx : adk ad_Wait l k = x at hs hle hp hat ⊢
      generalize hy : adk ad_Wait l (k + 1) = y at hs hle
      have HY := Lib.hid hy
      clear hy hx
      have ev := at_Wait hat
      subst ev
      simp only [mkd_Wait] at hv
      obtain ⟨a0, a1⟩ := hv.c2
      clear hv hget hat
      go_wp2
      exact ⟨⟨k + 1, by omega, by go_num, int_eq (by rw [HY.out]; omega)⟩, by simp [intOf]; omega⟩
    · obtain rfl : k = l.length := by omega
      have HA := Lib.hid (adk_all (ad := ad_Wait) l)
      go_wp2
      go_ret
      exact ⟨ret_intG (by rw [HA.out]), rfl⟩
end Go.Proofs.YtkpkjcmoldkmmaaGreat
