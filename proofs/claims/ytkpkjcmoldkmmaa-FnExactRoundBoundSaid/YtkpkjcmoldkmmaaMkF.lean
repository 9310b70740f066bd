/- The laws' marks of tables and of engines. -/
import Derived.Test.YtkpkjcmoldkmmaaMkB
import Derived.Test.YtkpkjcmoldkmmaaMkD
import Derived.Test.YtkpkjcmoldkmmaaMkE
import Derived.Test.YtkpkjcmoldkmmaaGf
namespace Go.Proofs.Ytkpkjcmoldkmmaa
open Go.RowKit

/-- only the blocks from lo on and below B have turned; new ones may have come -/
structure Chs (lo B : Nat) (w w' : World) : Prop where
  os : w'.os = w.os
  tape : w'.tape = w.tape
  output : w'.output = w.output
  size : w.heap.size ≤ w'.heap.size
  block : ∀ k, k < w.heap.size → (k < lo ∨ B ≤ k) → w'.heap[k]? = w.heap[k]?
theorem Chs.of {lo B : Nat} {w w' : World} (h : Below w.heap.size w w') : Chs lo B w w' := ⟨h.os, h.tape, h.output, h.size, fun k hk _ => h.block k hk⟩
theorem Chs.onlys {lo B L H : Nat} {w w' : World} (h : Onlys L H w w') (h1 : lo ≤ L) (h2 : H ≤ B) : Chs lo B w w' := ⟨h.os, h.tape, h.output, by rw [h.size]; exact Nat.le_refl _, fun k _ hd => h.block k (by omega)⟩
theorem Chs.trans {lo B : Nat} {a b c : World} (h : Chs lo B a b) (k : Chs lo B b c) : Chs lo B a c :=
  ⟨k.os.trans h.os, k.tape.trans h.tape, k.output.trans h.output, Nat.le_trans h.size k.size, fun j hj hd => (k.block j (by have := h.size; omega) hd).trans (h.block j hj hd)⟩
theorem Chs.more {lo B lo' B' : Nat} {w w' : World} (h : Chs lo B w w') (h1 : lo' ≤ lo) (h2 : B ≤ B') : Chs lo' B' w w' := ⟨h.os, h.tape, h.output, h.size, fun k hk hd => h.block k hk (by omega)⟩
theorem Chs.sameI {lo B L H : Nat} {w w' : World} (h : Chs lo B w w') (hd : H ≤ lo ∨ B ≤ L) (hs : H ≤ w.heap.size) : SameI L H w w' := fun k h1 h2 => h.block k (by omega) (by omega)
theorem Chs.sameB {lo B H : Nat} {w w' : World} (h : Chs lo B w w') (hd : H ≤ lo) (hs : H ≤ w.heap.size) : SameB H w w' := fun k h2 => h.block k (by omega) (by omega)
theorem Chs.below {lo B H : Nat} {w w' : World} (h : Chs lo B w w') (hd : H ≤ lo) (hs : H ≤ w.heap.size) : Below H w w' := ⟨h.os, h.tape, h.output, h.size, h.sameB hd hs⟩
theorem ROwn.chs {α : Type} {F : Fm α} {w w' : World} {lo B L H : Nat} {A : Option Addr} {l : List α} (r : ROwn F w L H A l) (h : Chs lo B w w') (hd : H ≤ lo ∨ B ≤ L) (hs : H ≤ w.heap.size) : ROwn F w' L H A l := r.same (h.sameI hd hs)
theorem Bx.chs {w w' : World} {b lo B : Nat} {cs : List Value} (X : Bx w b cs) (h : Chs lo B w w') (hd : b < lo ∨ B ≤ b) : Bx w' b cs :=
  have hk := h.block b X.lt hd
  ⟨Nat.lt_of_lt_of_le X.lt h.size, fun j u hu => (World.cell?_of_block (a := ⟨b, j, none⟩) hk).trans (X.cell j u hu), fun o => (World.frozen?_of_block (a := ⟨b, o, none⟩) hk).trans (X.free o)⟩
set_option maxRecDepth 100000 in
theorem mark_Table (A : Option Addr) (c lo B : Nat) (l : List DCell) (k0 : Int) (w : World) (h0 : 0 ≤ k0) (h1 : k0 + adl ad_Cell l ≤ 1099511627776) (hs : B ≤ w.heap.size) (h : ROwn fCell w lo B A l) :
    Calls Try.prog 59 #[.agg #[.slice A l.length c], .int .i64 k0] w fun e w' => e = .returned (.int .i64 (k0 + adl ad_Cell l)) ∧ Chs lo B w w' ∧ ROwn fCell w' lo B A (mkl mkd_Cell ad_Cell l k0) := by
  go_enter Try.func59, Try.ntmps59
  go_wp2_with fail
  have hb := (Below.refl w.heap.size w).alloc (Nat.le_refl _) (.cells #[.slice A l.length c] 29)
  have hC := Chs.of (lo := lo) (B := B) hb
  have h := h.next hb hs
  generalize w.alloc (.cells #[.slice A l.length c] 29) = w1 at hC h ⊢
  (with_reducible refine (mark_CellS A c lo B l k0 _ h0 h1 h).mono ?_); rintro e w2 ⟨rfl, hm, hr⟩
  have hC := hC.trans (Chs.onlys hm (Nat.le_refl _) (Nat.le_refl _))
  clear hm h
  go_wp2
  go_ret
  exact ⟨rfl, hC, hr⟩
set_option maxRecDepth 100000 in
theorem held_Table (A : Option Addr) (c B : Nat) (l : List DCell) (k0 : Int) (w : World) (h0 : 0 ≤ k0) (h1 : k0 + adl ad_Cell l ≤ 1099511627776) (hB : B ≤ w.heap.size) (h : RAt fCell w B A (mkl mkd_Cell ad_Cell l k0)) :
    Calls Try.prog 61 #[.agg #[.slice A l.length c], .int .i64 k0] w fun e w' => e = .returned (.int .i64 (k0 + adl ad_Cell l)) ∧ Below w.heap.size w w' := by
  have hp := adl_pos pos_Cell l
  go_enter Try.func61, Try.ntmps61
  go_wp2_with fail
  have hb := (Below.refl w.heap.size w).alloc (Nat.le_refl _) (.cells #[.slice A l.length c] 29)
  have h := h.keep hb hB
  generalize w.alloc (.cells #[.slice A l.length c] 29) = w1 at hb h ⊢
  (with_reducible refine (held_CellS A c B l k0 _ h0 h1 h).mono ?_); rintro e w2 ⟨rfl, rfl⟩
  have hn : ¬ (k0 + adl ad_Cell l < 0) := by omega
  generalize hz : k0 + adl ad_Cell l = z at hn ⊢
  have HZ := Lib.hid hz
  clear hz
  go_wp2
  go_ret
  exact ⟨ret_intG HZ.out.symm, hb⟩
def mkd_Engine (d : DEngine) (k : Int) : DEngine := (d.1, mkl mkd_Cell ad_Cell d.2.1 k, mkl mkd_Worker ad_Worker d.2.2.1 (k + adl ad_Cell d.2.1), mkl mkd_Int ad_Int d.2.2.2.1 (k + adl ad_Cell d.2.1 + adl ad_Worker d.2.2.1), d.2.2.2.2.1, d.2.2.2.2.2.1, mkl mkd_Commit ad_Commit d.2.2.2.2.2.2.1 (k + adl ad_Cell d.2.1 + adl ad_Worker d.2.2.1 + adl ad_Int d.2.2.2.1), d.2.2.2.2.2.2.2.1, d.2.2.2.2.2.2.2.2)
def ad_Engine (d : DEngine) : Int := adl ad_Cell d.2.1 + adl ad_Worker d.2.2.1 + adl ad_Int d.2.2.2.1 + adl ad_Commit d.2.2.2.2.2.2.1
theorem pos_Engine (d : DEngine) : 0 ≤ ad_Engine d := by
  have := adl_pos pos_Cell d.2.1
  have := adl_pos pos_Worker d.2.2.1
  have := adl_pos pos_Int d.2.2.2.1
  have := adl_pos pos_Commit d.2.2.2.2.2.2.1
  unfold ad_Engine
  omega
theorem ub_Engine (d : DEngine) : ad_Engine d ≤ 16 * (fEngine.cnt d : Int) := by
  have h1 := adl_ub (F := fCell) ub_Cell d.2.1
  have h2 := adl_ub (F := fWorker) ub_Worker d.2.2.1
  have h3 := adl_ub (F := intF) ub_Int d.2.2.2.1
  have h4 := adl_ub (F := fCommit) ub_Commit d.2.2.2.2.2.2.1
  have hc := cnt_Engine d
  have ht := cnt_Table d.2.1
  unfold ad_Engine
  omega
/-- an engine of one's own, its four lists apart -/
structure EOwn (w : World) (lo B : Nat) (d : DEngine) (A5 A6 A7 A10 : Option Addr) (L1 H1 L2 H2 L3 H3 L4 H4 : Nat) : Prop where
  r5 : ROwn fCell w L1 H1 A5 d.2.1
  r6 : ROwn fWorker w L2 H2 A6 d.2.2.1
  r7 : ROwn intF w L3 H3 A7 d.2.2.2.1
  r10 : ROwn fCommit w L4 H4 A10 d.2.2.2.2.2.2.1
  b1 : lo ≤ L1 ∧ H1 ≤ B
  b2 : lo ≤ L2 ∧ H2 ≤ B
  b3 : lo ≤ L3 ∧ H3 ≤ B
  b4 : lo ≤ L4 ∧ H4 ≤ B
  s12 : H1 ≤ L2 ∨ H2 ≤ L1
  s13 : H1 ≤ L3 ∨ H3 ≤ L1
  s14 : H1 ≤ L4 ∨ H4 ≤ L1
  s23 : H2 ≤ L3 ∨ H3 ≤ L2
  s24 : H2 ≤ L4 ∨ H4 ≤ L2
  s34 : H3 ≤ L4 ∨ H4 ≤ L3
theorem EOwn.same {w w' : World} {lo B : Nat} {d : DEngine} {A5 A6 A7 A10 : Option Addr} {L1 H1 L2 H2 L3 H3 L4 H4 : Nat} (h : EOwn w lo B d A5 A6 A7 A10 L1 H1 L2 H2 L3 H3 L4 H4) (hs : SameI lo B w w') : EOwn w' lo B d A5 A6 A7 A10 L1 H1 L2 H2 L3 H3 L4 H4 :=
  ⟨h.r5.same (hs.mono h.b1.1 h.b1.2), h.r6.same (hs.mono h.b2.1 h.b2.2), h.r7.same (hs.mono h.b3.1 h.b3.2), h.r10.same (hs.mono h.b4.1 h.b4.2), h.b1, h.b2, h.b3, h.b4, h.s12, h.s13, h.s14, h.s23, h.s24, h.s34⟩
theorem EOwn.at_ {w : World} {lo B : Nat} {d : DEngine} {A5 A6 A7 A10 : Option Addr} {L1 H1 L2 H2 L3 H3 L4 H4 : Nat} (c5 c6 c7 c10 : Nat) (h : EOwn w lo B d A5 A6 A7 A10 L1 H1 L2 H2 L3 H3 L4 H4) : fEngine.At w B d [.int .i64 d.1.1, .int .i64 d.1.2.1, .int .i64 d.1.2.2.1, .bool d.1.2.2.2.1, .int .i64 d.1.2.2.2.2, .slice A5 (d.2.1).length c5, .slice A6 (d.2.2.1).length c6, .slice A7 (d.2.2.2.1).length c7, .int .i64 d.2.2.2.2.1, .int .i64 d.2.2.2.2.2.1, .slice A10 (d.2.2.2.2.2.2.1).length c10, .int .i64 d.2.2.2.2.2.2.2.1, .int .i64 d.2.2.2.2.2.2.2.2] :=
  mk_Engine (h.r5.at_.up h.b1.2) (h.r6.at_.up h.b2.2) (h.r7.at_.up h.b3.2) (h.r10.at_.up h.b4.2)
theorem open_EOwn {w : World} {lo B : Nat} {d : DEngine} {vs : List Value} (h : fEngine.Own w lo B d vs) : ∃ (A5 : Option Addr) (c5 : Nat) (A6 : Option Addr) (c6 : Nat) (A7 : Option Addr) (c7 : Nat) (A10 : Option Addr) (c10 : Nat) (L1 H1 L2 H2 L3 H3 L4 H4 : Nat), vs = [.int .i64 d.1.1, .int .i64 d.1.2.1, .int .i64 d.1.2.2.1, .bool d.1.2.2.2.1, .int .i64 d.1.2.2.2.2, .slice A5 (d.2.1).length c5, .slice A6 (d.2.2.1).length c6, .slice A7 (d.2.2.2.1).length c7, .int .i64 d.2.2.2.2.1, .int .i64 d.2.2.2.2.2.1, .slice A10 (d.2.2.2.2.2.2.1).length c10, .int .i64 d.2.2.2.2.2.2.2.1, .int .i64 d.2.2.2.2.2.2.2.2] ∧ EOwn w lo B d A5 A6 A7 A10 L1 H1 L2 H2 L3 H3 L4 H4 := by
  obtain ⟨x1, y1, P1, Q1, R1, S1, rfl, z1, hS, h⟩ := h
  obtain ⟨x2, y2, P2, Q2, R2, S2, rfl, z2, ⟨A5, c5, rfl, r5⟩, h⟩ := h
  obtain ⟨x3, y3, P3, Q3, R3, S3, rfl, z3, ⟨A6, c6, rfl, r6⟩, h⟩ := h
  obtain ⟨x4, y4, P4, Q4, R4, S4, rfl, z4, ⟨A7, c7, rfl, r7⟩, h⟩ := h
  obtain ⟨x5, y5, P5, Q5, R5, S5, rfl, z5, h5, h⟩ := h
  obtain ⟨x6, y6, P6, Q6, R6, S6, rfl, z6, h6, h⟩ := h
  obtain ⟨x7, y7, P7, Q7, R7, S7, rfl, z7, ⟨A10, c10, rfl, r10⟩, h⟩ := h
  obtain ⟨x8, y8, P8, Q8, R8, S8, rfl, z8, h8, h9⟩ := h
  have hS := at_Setup (fSetup.own_at hS)
  have h5 : x5 = [.int .i64 d.2.2.2.2.1] := h5
  have h6 : x6 = [.int .i64 d.2.2.2.2.2.1] := h6
  have h8 : x8 = [.int .i64 d.2.2.2.2.2.2.2.1] := h8
  have h9 : y8 = [.int .i64 d.2.2.2.2.2.2.2.2] := h9
  subst hS h5 h6 h8 h9
  refine ⟨A5, c5, A6, c6, A7, c7, A10, c10, P2, Q2, P3, Q3, P4, Q4, P7, Q7, rfl, r5, r6, r7, r10, ?_, ?_, ?_, ?_, ?_, ?_, ?_, ?_, ?_, ?_⟩ <;> omega
set_option maxHeartbeats 1600000 in
set_option maxRecDepth 100000 in
theorem mark_Engine (lo B : Nat) (d : DEngine) (A5 A6 A7 A10 : Option Addr) (c5 c6 c7 c10 L1 H1 L2 H2 L3 H3 L4 H4 : Nat) (k0 : Int) (w : World) (h0 : 0 ≤ k0) (h1 : k0 + ad_Engine d ≤ 1099511627776) (hs : B ≤ w.heap.size) (h : EOwn w lo B d A5 A6 A7 A10 L1 H1 L2 H2 L3 H3 L4 H4) :
    Calls Try.prog 18 #[.agg #[.int .i64 d.1.1, .int .i64 d.1.2.1, .int .i64 d.1.2.2.1, .bool d.1.2.2.2.1, .int .i64 d.1.2.2.2.2, .slice A5 (d.2.1).length c5, .slice A6 (d.2.2.1).length c6, .slice A7 (d.2.2.2.1).length c7, .int .i64 d.2.2.2.2.1, .int .i64 d.2.2.2.2.2.1, .slice A10 (d.2.2.2.2.2.2.1).length c10, .int .i64 d.2.2.2.2.2.2.2.1, .int .i64 d.2.2.2.2.2.2.2.2], .int .i64 k0] w fun e w' => e = .returned (.int .i64 (k0 + ad_Engine d)) ∧ Chs lo B w w' ∧ EOwn w' lo B (mkd_Engine d k0) A5 A6 A7 A10 L1 H1 L2 H2 L3 H3 L4 H4 := by
  have p1 := adl_pos pos_Cell d.2.1
  have p2 := adl_pos pos_Worker d.2.2.1
  have p3 := adl_pos pos_Int d.2.2.2.1
  have p4 := adl_pos pos_Commit d.2.2.2.2.2.2.1
  have HE := Lib.hid (show ad_Engine d = adl ad_Cell d.2.1 + adl ad_Worker d.2.2.1 + adl ad_Int d.2.2.2.1 + adl ad_Commit d.2.2.2.2.2.2.1 from rfl)
  have hq : k0 + adl ad_Cell d.2.1 + adl ad_Worker d.2.2.1 + adl ad_Int d.2.2.2.1 + adl ad_Commit d.2.2.2.2.2.2.1 ≤ 1099511627776 := by have := HE.out; omega
  obtain ⟨r5, r6, r7, r10, b1, b2, b3, b4, s12, s13, s14, s23, s24, s34⟩ := h
  clear h1
  go_enter Try.func18, Try.ntmps18
  go_wp2_with fail
  have hb := (Below.refl w.heap.size w).alloc (Nat.le_refl _) (.cells #[.int .i64 d.1.1, .int .i64 d.1.2.1, .int .i64 d.1.2.2.1, .bool d.1.2.2.2.1, .int .i64 d.1.2.2.2.2, .slice A5 (d.2.1).length c5, .slice A6 (d.2.2.1).length c6, .slice A7 (d.2.2.2.1).length c7, .int .i64 d.2.2.2.2.1, .int .i64 d.2.2.2.2.2.1, .slice A10 (d.2.2.2.2.2.2.1).length c10, .int .i64 d.2.2.2.2.2.2.2.1, .int .i64 d.2.2.2.2.2.2.2.2] 34)
  have hC := Chs.of (lo := lo) (B := B) hb
  have X := Bx.new (w := w) (c := #[.int .i64 d.1.1, .int .i64 d.1.2.1, .int .i64 d.1.2.2.1, .bool d.1.2.2.2.1, .int .i64 d.1.2.2.2.2, .slice A5 (d.2.1).length c5, .slice A6 (d.2.2.1).length c6, .slice A7 (d.2.2.2.1).length c7, .int .i64 d.2.2.2.2.1, .int .i64 d.2.2.2.2.2.1, .slice A10 (d.2.2.2.2.2.2.1).length c10, .int .i64 d.2.2.2.2.2.2.2.1, .int .i64 d.2.2.2.2.2.2.2.2]) (t := 34) rfl
  have r5 := r5.next hb (by omega)
  have r6 := r6.next hb (by omega)
  have r7 := r7.next hb (by omega)
  have r10 := r10.next hb (by omega)
  have hz := hb.size
  clear hb
  generalize w.alloc (.cells #[.int .i64 d.1.1, .int .i64 d.1.2.1, .int .i64 d.1.2.2.1, .bool d.1.2.2.2.1, .int .i64 d.1.2.2.2.2, .slice A5 (d.2.1).length c5, .slice A6 (d.2.2.1).length c6, .slice A7 (d.2.2.2.1).length c7, .int .i64 d.2.2.2.2.1, .int .i64 d.2.2.2.2.2.1, .slice A10 (d.2.2.2.2.2.2.1).length c10, .int .i64 d.2.2.2.2.2.2.2.1, .int .i64 d.2.2.2.2.2.2.2.2] 34) = w1 at hC X r5 r6 r7 r10 hz ⊢
  obtain ⟨⟨x0, x1, x2, x3, x4, x5, x6, x7, x8, x9, x10, x11, x12⟩, _⟩ := X.c13
  go_wp2_with fail
  clear x0 x1 x2 x3 x4 x5 x6 x7 x8 x9 x10 x11 x12
  (with_reducible refine (mark_Table A5 c5 L1 H1 d.2.1 k0 _ h0 (by omega) (by omega) r5).mono ?_); rintro e w2 ⟨rfl, hm, r5⟩
  have X := X.chs hm (.inr (by omega))
  have r6 := r6.chs hm (by omega) (by omega)
  have r7 := r7.chs hm (by omega) (by omega)
  have r10 := r10.chs hm (by omega) (by omega)
  have hC := hC.trans (hm.more (by omega) (by omega))
  have hz := Nat.le_trans hz hm.size
  clear hm
  obtain ⟨⟨x0, x1, x2, x3, x4, x5, x6, x7, x8, x9, x10, x11, x12⟩, _⟩ := X.c13
  go_wp2_with fail
  clear x0 x1 x2 x3 x4 x5 x6 x7 x8 x9 x10 x11 x12
  (with_reducible refine (mark_WorkerS A6 c6 L2 H2 d.2.2.1 (k0 + adl ad_Cell d.2.1) _ (by omega) (by omega) r6).mono ?_); rintro e w3 ⟨rfl, hm, r6⟩
  have hm := Chs.onlys hm (Nat.le_refl _) (Nat.le_refl _)
  have X := X.chs hm (.inr (by omega))
  have r5 := r5.chs hm (by omega) (by omega)
  have r7 := r7.chs hm (by omega) (by omega)
  have r10 := r10.chs hm (by omega) (by omega)
  have hC := hC.trans (hm.more (by omega) (by omega))
  have hz := Nat.le_trans hz hm.size
  clear hm
  obtain ⟨⟨x0, x1, x2, x3, x4, x5, x6, x7, x8, x9, x10, x11, x12⟩, _⟩ := X.c13
  go_wp2_with fail
  clear x0 x1 x2 x3 x4 x5 x6 x7 x8 x9 x10 x11 x12
  (with_reducible refine (mark_IntS A7 c7 L3 H3 d.2.2.2.1 (k0 + adl ad_Cell d.2.1 + adl ad_Worker d.2.2.1) _ (by omega) (by omega) r7).mono ?_); rintro e w4 ⟨rfl, hm, r7⟩
  have hm := Chs.onlys hm (Nat.le_refl _) (Nat.le_refl _)
  have X := X.chs hm (.inr (by omega))
  have r5 := r5.chs hm (by omega) (by omega)
  have r6 := r6.chs hm (by omega) (by omega)
  have r10 := r10.chs hm (by omega) (by omega)
  have hC := hC.trans (hm.more (by omega) (by omega))
  have hz := Nat.le_trans hz hm.size
  clear hm
  obtain ⟨⟨x0, x1, x2, x3, x4, x5, x6, x7, x8, x9, x10, x11, x12⟩, _⟩ := X.c13
  go_wp2_with fail
  clear x0 x1 x2 x3 x4 x5 x6 x7 x8 x9 x10 x11 x12
  (with_reducible refine (mark_CommitS A10 c10 L4 H4 d.2.2.2.2.2.2.1 (k0 + adl ad_Cell d.2.1 + adl ad_Worker d.2.2.1 + adl ad_Int d.2.2.2.1) _ (by omega) (by omega) r10).mono ?_); rintro e w5 ⟨rfl, hm, r10⟩
  have hm := Chs.onlys hm (Nat.le_refl _) (Nat.le_refl _)
  have r5 := r5.chs hm (by omega) (by omega)
  have r6 := r6.chs hm (by omega) (by omega)
  have r7 := r7.chs hm (by omega) (by omega)
  have hC := hC.trans (hm.more (by omega) (by omega))
  clear hm X
  go_wp2
  go_ret
  exact ⟨ret_intG (by rw [HE.out]; omega), hC, r5, r6, r7, r10, b1, b2, b3, b4, s12, s13, s14, s23, s24, s34⟩
set_option maxHeartbeats 1600000 in
set_option maxRecDepth 100000 in
theorem held_Engine (B : Nat) (d : DEngine) (A5 A6 A7 A10 : Option Addr) (c5 c6 c7 c10 : Nat) (k0 : Int) (w : World) (h0 : 0 ≤ k0) (h1 : k0 + ad_Engine d ≤ 1099511627776) (hB : B ≤ w.heap.size)
    (r5 : RAt fCell w B A5 (mkd_Engine d k0).2.1) (r6 : RAt fWorker w B A6 (mkd_Engine d k0).2.2.1) (r7 : RAt intF w B A7 (mkd_Engine d k0).2.2.2.1) (r10 : RAt fCommit w B A10 (mkd_Engine d k0).2.2.2.2.2.2.1) :
    Calls Try.prog 19 #[.agg #[.int .i64 d.1.1, .int .i64 d.1.2.1, .int .i64 d.1.2.2.1, .bool d.1.2.2.2.1, .int .i64 d.1.2.2.2.2, .slice A5 (d.2.1).length c5, .slice A6 (d.2.2.1).length c6, .slice A7 (d.2.2.2.1).length c7, .int .i64 d.2.2.2.2.1, .int .i64 d.2.2.2.2.2.1, .slice A10 (d.2.2.2.2.2.2.1).length c10, .int .i64 d.2.2.2.2.2.2.2.1, .int .i64 d.2.2.2.2.2.2.2.2], .int .i64 k0] w fun e w' => e = .returned (.int .i64 (k0 + ad_Engine d)) ∧ Below w.heap.size w w' := by
  have p1 := adl_pos pos_Cell d.2.1
  have p2 := adl_pos pos_Worker d.2.2.1
  have p3 := adl_pos pos_Int d.2.2.2.1
  have p4 := adl_pos pos_Commit d.2.2.2.2.2.2.1
  have HE := Lib.hid (show ad_Engine d = adl ad_Cell d.2.1 + adl ad_Worker d.2.2.1 + adl ad_Int d.2.2.2.1 + adl ad_Commit d.2.2.2.2.2.2.1 from rfl)
  have hq : k0 + adl ad_Cell d.2.1 + adl ad_Worker d.2.2.1 + adl ad_Int d.2.2.2.1 + adl ad_Commit d.2.2.2.2.2.2.1 ≤ 1099511627776 := by have := HE.out; omega
  have R5 := Lib.hid (show RAt fCell w B A5 (mkl mkd_Cell ad_Cell d.2.1 k0) from r5)
  have R6 := Lib.hid (show RAt fWorker w B A6 (mkl mkd_Worker ad_Worker d.2.2.1 (k0 + adl ad_Cell d.2.1)) from r6)
  have R7 := Lib.hid (show RAt intF w B A7 (mkl mkd_Int ad_Int d.2.2.2.1 (k0 + adl ad_Cell d.2.1 + adl ad_Worker d.2.2.1)) from r7)
  have R10 := Lib.hid (show RAt fCommit w B A10 (mkl mkd_Commit ad_Commit d.2.2.2.2.2.2.1 (k0 + adl ad_Cell d.2.1 + adl ad_Worker d.2.2.1 + adl ad_Int d.2.2.2.1)) from r10)
  have n1 : ¬ (k0 + adl ad_Cell d.2.1 < 0) := by omega
  have n2 : ¬ (k0 + adl ad_Cell d.2.1 + adl ad_Worker d.2.2.1 < 0) := by omega
  have n3 : ¬ (k0 + adl ad_Cell d.2.1 + adl ad_Worker d.2.2.1 + adl ad_Int d.2.2.2.1 < 0) := by omega
  have n4 : ¬ (k0 + adl ad_Cell d.2.1 + adl ad_Worker d.2.2.1 + adl ad_Int d.2.2.2.1 + adl ad_Commit d.2.2.2.2.2.2.1 < 0) := by omega
  clear h1 r5 r6 r7 r10
  go_enter Try.func19, Try.ntmps19
  go_wp2_with fail
  have b := (Below.refl w.heap.size w).alloc (Nat.le_refl _) (.cells #[.int .i64 d.1.1, .int .i64 d.1.2.1, .int .i64 d.1.2.2.1, .bool d.1.2.2.2.1, .int .i64 d.1.2.2.2.2, .slice A5 (d.2.1).length c5, .slice A6 (d.2.2.1).length c6, .slice A7 (d.2.2.2.1).length c7, .int .i64 d.2.2.2.2.1, .int .i64 d.2.2.2.2.2.1, .slice A10 (d.2.2.2.2.2.2.1).length c10, .int .i64 d.2.2.2.2.2.2.2.1, .int .i64 d.2.2.2.2.2.2.2.2] 34)
  have X := Bx.new (w := w) (c := #[.int .i64 d.1.1, .int .i64 d.1.2.1, .int .i64 d.1.2.2.1, .bool d.1.2.2.2.1, .int .i64 d.1.2.2.2.2, .slice A5 (d.2.1).length c5, .slice A6 (d.2.2.1).length c6, .slice A7 (d.2.2.2.1).length c7, .int .i64 d.2.2.2.2.1, .int .i64 d.2.2.2.2.2.1, .slice A10 (d.2.2.2.2.2.2.1).length c10, .int .i64 d.2.2.2.2.2.2.2.1, .int .i64 d.2.2.2.2.2.2.2.2]) (t := 34) rfl
  generalize w.alloc (.cells #[.int .i64 d.1.1, .int .i64 d.1.2.1, .int .i64 d.1.2.2.1, .bool d.1.2.2.2.1, .int .i64 d.1.2.2.2.2, .slice A5 (d.2.1).length c5, .slice A6 (d.2.2.1).length c6, .slice A7 (d.2.2.2.1).length c7, .int .i64 d.2.2.2.2.1, .int .i64 d.2.2.2.2.2.1, .slice A10 (d.2.2.2.2.2.2.1).length c10, .int .i64 d.2.2.2.2.2.2.2.1, .int .i64 d.2.2.2.2.2.2.2.2] 34) = w1 at b X ⊢
  obtain ⟨⟨x0, x1, x2, x3, x4, x5, x6, x7, x8, x9, x10, x11, x12⟩, _⟩ := X.c13
  go_wp2_with fail
  clear x0 x1 x2 x3 x4 x5 x6 x7 x8 x9 x10 x11 x12
  (with_reducible refine (held_Table A5 c5 B d.2.1 k0 _ h0 (by omega) (Nat.le_trans hB b.size) (R5.out.keep b hB)).mono ?_); rintro e w2 ⟨rfl, hb⟩
  have X := X.next hb
  have b := b.trans (hb.mono b.size)
  clear hb
  obtain ⟨⟨x0, x1, x2, x3, x4, x5, x6, x7, x8, x9, x10, x11, x12⟩, _⟩ := X.c13
  go_wp2_with fail
  clear x0 x1 x2 x3 x4 x5 x6 x7 x8 x9 x10 x11 x12
  (with_reducible refine (held_WorkerS A6 c6 B d.2.2.1 (k0 + adl ad_Cell d.2.1) _ (by omega) (by omega) (R6.out.keep b hB)).mono ?_); rintro e w3 ⟨rfl, rfl⟩
  obtain ⟨⟨x0, x1, x2, x3, x4, x5, x6, x7, x8, x9, x10, x11, x12⟩, _⟩ := X.c13
  go_wp2_with fail
  clear x0 x1 x2 x3 x4 x5 x6 x7 x8 x9 x10 x11 x12
  (with_reducible refine (held_IntS A7 c7 B d.2.2.2.1 (k0 + adl ad_Cell d.2.1 + adl ad_Worker d.2.2.1) _ (by omega) (by omega) (R7.out.keep b hB)).mono ?_); rintro e w4 ⟨rfl, rfl⟩
  obtain ⟨⟨x0, x1, x2, x3, x4, x5, x6, x7, x8, x9, x10, x11, x12⟩, _⟩ := X.c13
  go_wp2_with fail
  clear x0 x1 x2 x3 x4 x5 x6 x7 x8 x9 x10 x11 x12
  (with_reducible refine (held_CommitS A10 c10 B d.2.2.2.2.2.2.1 (k0 + adl ad_Cell d.2.1 + adl ad_Worker d.2.2.1 + adl ad_Int d.2.2.2.1) _ (by omega) (by omega) (R10.out.keep b hB)).mono ?_); rintro e w5 ⟨rfl, rfl⟩
  go_wp2
  go_ret
  exact ⟨ret_intG (by rw [HE.out]; omega), b⟩
end Go.Proofs.Ytkpkjcmoldkmmaa
