/- The laws' helpers over lists of programs and over tables. -/
import Derived.Test.YtkpkjcmoldkmmaaGreatGc
namespace Go.Proofs.YtkpkjcmoldkmmaaGreat
open Go.RowKit

abbrev DLock := (List DHold) × (List DHold)
def fLock : Fm DLock := pairF (rowF fHold) ((rowF fHold))
theorem at_Lock {w : World} {B : Nat} {d : DLock} {vs : List Value} (h : fLock.At w B d vs) : ∃ (A0 : Option Addr) (c0 : Nat) (A1 : Option Addr) (c1 : Nat), vs = [.slice A0 (d.1).length c0, .slice A1 (d.2).length c1] ∧ RAt fHold w B A0 d.1 ∧ RAt fHold w B A1 d.2 := by
  obtain ⟨x0, y0, rfl, h0, h1⟩ := h
  obtain ⟨A0, c0, rfl, r0⟩ := h0
  obtain ⟨A1, c1, rfl, r1⟩ := h1
  exact ⟨A0, c0, A1, c1, rfl, r0, r1⟩
theorem cnt_Lock (d : DLock) : fLock.cnt d = (rowF fHold).cnt d.1 + (rowF fHold).cnt d.2 := by
  show (rowF fHold).cnt d.1 + ((rowF fHold).cnt d.2) = _
  omega
theorem n_Lock : fLock.n = 2 := rfl
theorem own_Lock {w : World} {lo B L0 H0 L1 H1 : Nat} {d : DLock} {v0 v1 : List Value} (q0 : lo ≤ L0) (_g0 : L0 ≤ H0) (h0 : (rowF fHold).Own w L0 H0 d.1 v0) (q1 : H0 ≤ L1) (_g1 : L1 ≤ H1) (h1 : (rowF fHold).Own w L1 H1 d.2 v1) (qB : H1 ≤ B) : fLock.Own w lo B d (v0 ++ (v1)) := ⟨v0, _, L0, H0, H0, B, rfl, by omega, h0, ((rowF fHold).own_more h1 (by omega) (by omega))⟩
theorem mk_Lock {w : World} {B : Nat} {d : DLock} {A0 A1 : Option Addr} {c0 c1 : Nat} (r0 : RAt fHold w B A0 d.1) (r1 : RAt fHold w B A1 d.2) : fLock.At w B d [.slice A0 (d.1).length c0, .slice A1 (d.2).length c1] := ⟨[.slice A0 (d.1).length c0], _, rfl, ⟨A0, c0, rfl, r0⟩, ⟨A1, c1, rfl, r1⟩⟩
abbrev DCell := Int × DWord × DLock
def fCell : Fm DCell := pairF intF (pairF fWord (fLock))
theorem at_Cell {w : World} {B : Nat} {d : DCell} {vs : List Value} (h : fCell.At w B d vs) : ∃ (A4 : Option Addr) (c4 : Nat) (A5 : Option Addr) (c5 : Nat), vs = [.int .i64 d.1, .int .i64 d.2.1.1, .int .i64 d.2.1.2.1, .bool d.2.1.2.2, .slice A4 (d.2.2.1).length c4, .slice A5 (d.2.2.2).length c5] ∧ RAt fHold w B A4 d.2.2.1 ∧ RAt fHold w B A5 d.2.2.2 := by
  obtain ⟨x0, y0, rfl, h0, x1, y1, rfl, h1, h2⟩ := h
  cases h0
  have e1 := at_Word h1
  subst e1
  obtain ⟨A4, c4, A5, c5, rfl, r4, r5⟩ := at_Lock h2
  exact ⟨A4, c4, A5, c5, rfl, r4, r5⟩
theorem cnt_Cell (d : DCell) : fCell.cnt d = fLock.cnt d.2.2 := by
  show intF.cnt d.1 + (fWord.cnt d.2.1 + (fLock.cnt d.2.2)) = _
  have z0 : intF.cnt d.1 = 0 := rfl
  have z1 : fWord.cnt d.2.1 = 0 := cnt_Word _
  omega
theorem n_Cell : fCell.n = 6 := rfl
theorem own_Cell {w : World} {lo B L2 H2 : Nat} {d : DCell} {v2 : List Value} (q2 : lo ≤ L2) (_g2 : L2 ≤ H2) (h2 : fLock.Own w L2 H2 d.2.2 v2) (qB : H2 ≤ B) : fCell.Own w lo B d ([.int .i64 d.1] ++ ([.int .i64 d.2.1.1, .int .i64 d.2.1.2.1, .bool d.2.1.2.2] ++ (v2))) := ⟨[.int .i64 d.1], _, lo, lo, lo, B, rfl, by omega, rfl, ⟨[.int .i64 d.2.1.1, .int .i64 d.2.1.2.1, .bool d.2.1.2.2], _, lo, lo, lo, B, rfl, by omega, (own_Word (Nat.le_refl _) d.2.1), (fLock.own_more h2 (by omega) (by omega))⟩⟩
theorem mk_Cell {w : World} {B : Nat} {d : DCell} {A4 A5 : Option Addr} {c4 c5 : Nat} (r4 : RAt fHold w B A4 d.2.2.1) (r5 : RAt fHold w B A5 d.2.2.2) : fCell.At w B d [.int .i64 d.1, .int .i64 d.2.1.1, .int .i64 d.2.1.2.1, .bool d.2.1.2.2, .slice A4 (d.2.2.1).length c4, .slice A5 (d.2.2.2).length c5] := ⟨[.int .i64 d.1], _, rfl, rfl, ⟨[.int .i64 d.2.1.1, .int .i64 d.2.1.2.1, .bool d.2.1.2.2], _, rfl, (mk_Word), (mk_Lock r4 r5)⟩⟩
abbrev DTable := (List DCell)
def fTable : Fm DTable := (rowF fCell)
theorem at_Table {w : World} {B : Nat} {d : DTable} {vs : List Value} (h : fTable.At w B d vs) : ∃ (A0 : Option Addr) (c0 : Nat), vs = [.slice A0 (d).length c0] ∧ RAt fCell w B A0 d := by
  have h0 := h
  obtain ⟨A0, c0, rfl, r0⟩ := h0
  exact ⟨A0, c0, rfl, r0⟩
theorem cnt_Table (d : DTable) : fTable.cnt d = (rowF fCell).cnt d := by
  rfl
theorem n_Table : fTable.n = 1 := rfl
theorem own_Table {w : World} {lo B L0 H0 : Nat} {d : DTable} {v0 : List Value} (q0 : lo ≤ L0) (_g0 : L0 ≤ H0) (h0 : (rowF fCell).Own w L0 H0 d v0) (qB : H0 ≤ B) : fTable.Own w lo B d (v0) := ((rowF fCell).own_more h0 (by omega) (by omega))
theorem mk_Table {w : World} {B : Nat} {d : DTable} {A0 : Option Addr} {c0 : Nat} (r0 : RAt fCell w B A0 d) : fTable.At w B d [.slice A0 (d).length c0] := ⟨A0, c0, rfl, r0⟩
set_option maxHeartbeats 1600000 in
set_option maxRecDepth 100000 in
theorem sz_ActSS (A : Option Addr) (c B : Nat) (l : List (List DAct)) (left : Int) (w : World) (h0 : 0 ≤ left) (h1 : left ≤ 1048576) (hB : B ≤ w.heap.size) (h : RAt (rowF fAct) w B A l) :
    Calls Tryz.prog 106 #[.slice A l.length c, .int .i64 left] w fun e w' => e = .returned (.int .i64 (szOf left ((rowF (rowF fAct)).cnt l))) ∧ Below w.heap.size w w' := by
  have hmx := h.1
  unfold maxLen at hmx
  rw [row_cnt]
  by_cases hl : left < l.length
  · have f1 : left - (l.length : Int) < 0 := by omega
    go_enter Tryz.func106, Tryz.ntmps106
    go_wp2
    go_ret
    exact ⟨by rw [szOf_lt (by omega)]; rfl, Below.refl _ _⟩
  · have f1 : ¬ (left - (l.length : Int) < 0) := by omega
    go_enter Tryz.func106, Tryz.ntmps106
    go_wp2
    go_loopw [1, 5] (fun s i wr => ∃ k : Nat, k ≤ l.length ∧ i = .int .i64 k ∧ ((l.length + psum (rowF fAct) l k : Nat) : Int) ≤ left ∧ s = .int .i64 (left - (l.length : Int) - (psum (rowF fAct) l k : Int)) ∧ Below w.heap.size w wr) (fun _ i _ => l.length - (intOf i).toNat)
    case atStart => exact ⟨0, Nat.zero_le _, rfl, by rw [psum_zero]; omega, by simp [psum_zero], Below.refl _ _⟩
    case round =>
      obtain ⟨k, hk, rfl, hle, rfl, hb⟩ := hrel
      by_cases hkn : k < l.length
      · obtain ⟨b, off, rfl, hbB, hc⟩ := h.2 (by omega)
        have hkz : (k : Int) < l.length := by omega
        have hget : l[k]? = some l[k] := List.getElem?_eq_getElem hkn
        obtain ⟨v, hv0, hat0⟩ := hc k _ hget
        have hsz := hb.size
        have hat := (rowF fAct).at_same hat0 (.of hb hB)
        have hv := hv0.below hb (show b < w.heap.size by omega)
        rw [show (rowF fAct).n = 1 from rfl] at hv
        have hps := psum_succ (F := (rowF fAct)) hget
        have hpm := psum_mono (rowF fAct) l (show k + 1 ≤ l.length by omega)
        clear hv0 hat0
        generalize l[k] = d at hget hat hps
        obtain ⟨A0, c0, rfl, q0⟩ := hat
        have a0 := hv.c1
        rw [Nat.mul_one] at a0
        clear hc h hv hget
        have HC := Lib.hid (show (rowF fAct).cnt d = psum (rowF fAct) l (k + 1) - psum (rowF fAct) l k by first | omega | (rw [hps]; omega))
        generalize hx : psum (rowF fAct) l k = x at hle hps HC ⊢
        generalize hy : psum (rowF fAct) l (k + 1) = y at hps hpm HC
        generalize hn : psum (rowF fAct) l l.length = z at hpm ⊢
        generalize hL : l.length = n at *
        by_cases hok : ((n + y : Nat) : Int) ≤ left
        · have HE := Lib.hid (show szOf (left - (n : Int) - (x : Int)) ((rowF fAct).cnt d) = left - (n : Int) - (y : Int) by rw [HC.out, szOf_le (by omega)]; omega)
          have hge : ¬ (left - (n : Int) - (y : Int) < 0) := by omega
          clear hps hpm
          go_wp2_with fail
          refine (sz_ActS A0 c0 d _ _ q0.1 (by omega) (by omega)).mono ?_; rintro o w1 ⟨rfl, rfl⟩
          rw [HE.out]
          clear a0
          go_wp2
          exact ⟨⟨k + 1, by omega, by go_num, by rw [hy]; exact hok, by rw [hy], hb⟩, by simp [intOf]; omega⟩
        · have HE := Lib.hid (show szOf (left - (n : Int) - (x : Int)) ((rowF fAct).cnt d) = -1 by rw [HC.out, szOf_lt (by omega)])
          clear hps
          go_wp2_with fail
          refine (sz_ActS A0 c0 d _ _ q0.1 (by omega) (by omega)).mono ?_; rintro o w1 ⟨rfl, rfl⟩
          rw [HE.out]
          clear a0
          go_wp2
          go_ret
          exact ⟨by rw [szOf_lt (by rw [hL, hn]; omega)]; rfl, hb⟩
      · obtain rfl : k = l.length := by omega
        go_wp2
        go_ret
        exact ⟨ret_intG (by rw [szOf_le (by omega)] <;> omega), hb⟩
theorem info_ActS : (Tryz.prog.info? 111).map (fun i => (i.zero, i.size, i.bytes)) = some (some (.slice none 0 0), 1, 24) := by kernel_rfl
theorem make_ActS (n : Nat) (h : n ≤ 1048576) (w : World) :
    (Instr.makeSlice 68 (.int .i64 (n : Int)) (.int .i64 (n : Int))).run Tryz.prog w = .ok (.slice (some ⟨w.heap.size, 0, none⟩) n n) (w.alloc (.cells (madeCells #[.slice none 0 0] n) 111)) := by
  obtain ⟨i, hi, hzz⟩ := Option.map_eq_some_iff.1 info_ActS
  simp only [Prod.mk.injEq] at hzz
  obtain ⟨hz, hs, hb⟩ := hzz
  have := run_make (P := Tryz.prog) w 68 111 i _ Tryz.underlying68 hi hz .i64 .i64 n n (by omega) (Int.le_refl _) (by rw [hb]; omega) (by omega)
  simpa [hs, Value.cells] using this
set_option maxHeartbeats 1600000 in
set_option maxRecDepth 100000 in
theorem to_ActSS (A : Option Addr) (c B : Nat) (l : List (List DAct)) (w : World) (hs : (rowF (rowF fAct)).cnt l ≤ 1048576) (hB : B ≤ w.heap.size) (h : RAt (rowF fAct) w B A l) :
    Calls Tryz.prog 115 #[.slice A l.length c] w fun e w' => ∃ G c', e = .returned (.slice G l.length c') ∧ Below w.heap.size w w' ∧ ROwn (rowF fAct) w' w.heap.size w'.heap.size G l := by
  have hlen : l.length ≤ 1048576 := by rw [row_cnt] at hs; omega
  have hmx : l.length ≤ maxLen := h.1
  have hmk := make_ActS l.length hlen
  go_enter Tryz.func115, Tryz.ntmps115
  go_wp2
  clear hmk
  go_loopw [4] (fun i wr => ∃ k : Nat, k ≤ l.length ∧ i = .int .i64 k ∧ Below w.heap.size w wr ∧ ∃ vs L H, Laid (rowF fAct) w.heap.size [.slice none 0 0] l wr k vs L H) (fun i _ => l.length - (intOf i).toNat)
  case atStart => exact ⟨0, Nat.zero_le _, rfl, (Below.refl _ _).alloc (Nat.le_refl _) _, _, _, _, made_laid (F := (rowF fAct)) w (z := [.slice none 0 0]) rfl (by decide) ((Nat.mul_one _).symm)⟩
  case round =>
    obtain ⟨k, hk, rfl, hb, vs, L, H, hld⟩ := hrel
    by_cases hkn : k < l.length
    · obtain ⟨b, off, rfl, hbB, hc⟩ := h.2 (by omega)
      have hkz : (k : Int) < l.length := by omega
      have hget : l[k]? = some l[k] := List.getElem?_eq_getElem hkn
      obtain ⟨v, hv0, hat0⟩ := hc k _ hget
      have hcn := cnt_at (F := (rowF fAct)) hget
      have hsz := hb.size
      have hat := (rowF fAct).at_same hat0 (.of hb hB)
      have hv := hv0.below hb (show b < w.heap.size by omega)
      rw [show (rowF fAct).n = 1 from rfl] at hv
      clear hv0 hat0
      generalize l[k] = d at hget hat hcn
      obtain ⟨A0, c0, rfl, r0⟩ := hat
      have a0 := hv.c1
      rw [Nat.mul_one] at a0
      clear hc h hv
      go_wp2_with fail
      refine (to_ActS A0 c0 B d _ (by omega) (by omega) r0).mono ?_; rintro o w1 ⟨G, c2, rfl, hb1, ho⟩
      have hs1 := hb1.size
      have hld1 := hld.next hb1
      have hzr := hld1.zero hkn
      rw [show (rowF fAct).n = 1 from rfl] at hzr
      have z0 := hzr.c1
      rw [Nat.mul_one] at z0
      have r0 := hld1.free
      have HB := Lib.hid ((hb.trans (hb1.mono hsz)).setCell (p := ⟨w.heap.size, k, none⟩) (Nat.le_refl _) (.slice G d.length c2))
      have hl1 := hld1.step hkn hget (v := [.slice G d.length c2]) (s := wr.heap.size) rfl rfl hld.lt (fun j hj => (hld.own j _ hj (List.getElem?_eq_getElem (by omega))).2.1) (⟨G, c2, rfl, ho⟩ : (rowF fAct).Own w1 wr.heap.size w1.heap.size d [.slice G d.length c2])
      rw [show (rowF fAct).n = 1 from rfl, Nat.mul_one] at hl1
      have HL := Lib.hid hl1
      clear hld hld1 hzr hb hb1 hl1 ho a0
      go_wp2
      exact ⟨⟨k + 1, by omega, by go_num, HB.out, _, _, _, HL.out⟩, by simp [intOf]; omega⟩
    · obtain rfl : k = l.length := by omega
      have HO := Lib.hid (hld.done hmx (Nat.le_refl _) (Nat.le_refl _))
      clear hld
      go_wp2
      go_ret
      exact ⟨_, _, rfl, hb, HO.out⟩
set_option maxHeartbeats 1600000 in
set_option maxRecDepth 100000 in
theorem eq_ActSS (A A' : Option Addr) (c c' B B' : Nat) (l : List (List DAct)) (w : World) (hB : B ≤ w.heap.size) (hB' : B' ≤ w.heap.size) (h : RAt (rowF fAct) w B A l) (h' : RAt (rowF fAct) w B' A' l) :
    Calls Tryz.prog 129 #[.slice A l.length c, .slice A' l.length c'] w fun e w' => e = .returned (.bool true) ∧ Below w.heap.size w w' := by
  have hmx := h.1
  unfold maxLen at hmx
  go_enter Tryz.func129, Tryz.ntmps129
  go_wp2
  go_loopw [5] (fun i wr => ∃ k : Nat, k ≤ l.length ∧ i = .int .i64 k ∧ Below w.heap.size w wr) (fun i _ => l.length - (intOf i).toNat)
  case atStart => exact ⟨0, Nat.zero_le _, rfl, Below.refl _ _⟩
  case round =>
    obtain ⟨k, hk, rfl, hb⟩ := hrel
    by_cases hkn : k < l.length
    · obtain ⟨b, off, rfl, hbB, hc⟩ := h.2 (by omega)
      obtain ⟨b', off', rfl, hbB', hc'⟩ := h'.2 (by omega)
      have hkz : (k : Int) < l.length := by omega
      have hget : l[k]? = some l[k] := List.getElem?_eq_getElem hkn
      obtain ⟨v, hv0, hat0⟩ := hc k _ hget
      obtain ⟨v', hv0', hat0'⟩ := hc' k _ hget
      have hsz := hb.size
      have hat := (rowF fAct).at_same hat0 (.of hb hB)
      have hat' := (rowF fAct).at_same hat0' (.of hb hB')
      have hv := hv0.below hb (show b < w.heap.size by omega)
      have hv' := hv0'.below hb (show b' < w.heap.size by omega)
      rw [show (rowF fAct).n = 1 from rfl] at hv hv'
      clear hv0 hat0 hv0' hat0'
      generalize l[k] = d at hget hat hat'
      obtain ⟨A0, c0, rfl, q0⟩ := hat
      obtain ⟨A0x, c0x, rfl, q0x⟩ := hat'
      have a0 := hv.c1
      have b0 := hv'.c1
      rw [Nat.mul_one] at a0 b0
      clear hc hc' h h' hv hv' hget
      go_wp2_with fail
      go_still_tail 8, (by kernel_rfl)
      change wpList _ _ _ _ _ wr.drew
      have hb2 := hb.drew
      clear a0 b0
      have q0 := q0.keep (B' := wr.heap.size) ((Below.refl _ _).drew) (by omega)
      have q0x := q0x.keep (B' := wr.heap.size) ((Below.refl _ _).drew) (by omega)
      generalize wr.drew = w2 at hb2 q0 q0x ⊢
      have hs2 := hb2.size
      go_wp2_with fail
      refine (eq_ActS A0 A0x c0 c0x B B' d _ (by omega) (by omega) q0 q0x).mono ?_; rintro o w3 ⟨rfl, hb3⟩
      go_wp2
      exact ⟨⟨k + 1, by omega, by go_num, hb2.trans (hb3.mono hs2)⟩, by simp [intOf]; omega⟩
    · obtain rfl : k = l.length := by omega
      go_wp2
      go_ret
      exact ⟨rfl, hb⟩
set_option maxHeartbeats 1600000 in
set_option maxRecDepth 100000 in
theorem sz_Lock (d : DLock) (B : Nat) (vs : List Value) (left : Int) (w : World) (h0 : 0 ≤ left) (h1 : left ≤ 1048576) (_hB : B ≤ w.heap.size) (h : fLock.At w B d vs) :
    Calls Tryz.prog 162 #[.agg vs.toArray, .int .i64 left] w fun e w' => e = .returned (.int .i64 (szOf left (fLock.cnt d))) ∧ Below w.heap.size w w' := by
  obtain ⟨A0, c0, A1, c1, rfl, r0, r1⟩ := at_Lock h
  rw [cnt_Lock]
  clear h
  have K0 : ∃ m, m = (rowF fHold).cnt d.1 := ⟨_, rfl⟩
  obtain ⟨m0, J0⟩ := K0
  have K0 := Lib.hid J0
  clear J0
  have K1 : ∃ m, m = (rowF fHold).cnt d.2 := ⟨_, rfl⟩
  obtain ⟨m1, J1⟩ := K1
  have K1 := Lib.hid J1
  clear J1
  rw [← K0.out, ← K1.out]
  by_cases g0 : left < (m0 : Int)
  · have E0 := Lib.hid (szOf_lt g0)
    go_enter Tryz.func162, Tryz.ntmps162
    go_wp2_with fail
    have b := (Below.refl w.heap.size w).alloc (Nat.le_refl _) (.cells #[.slice A0 (d.1).length c0, .slice A1 (d.2).length c1] 165)
    have X := Bx.new (w := w) (c := #[.slice A0 (d.1).length c0, .slice A1 (d.2).length c1]) (t := 165) rfl
    generalize w.alloc (.cells #[.slice A0 (d.1).length c0, .slice A1 (d.2).length c1] 165) = w0 at b X ⊢
    have hsz := b.size
    refine (sz_HoldS A0 c0 d.1 (left) _ r0.1 (by omega) (by omega)).mono ?_; rintro o w1 ⟨rfl, rfl⟩
    rw [← K0.out, E0.out]
    obtain ⟨⟨x0, x1⟩, _⟩ := X.c2
    go_wp2
    go_ret
    exact ⟨by rw [szOf_lt (by omega)]; rfl, b⟩
  have E0 := Lib.hid (szOf_le (left := left) (n := m0) (by omega))
  have g0n : ¬ (left - (m0 : Int) < 0) := by omega
  by_cases g1 : left - (m0 : Int) < (m1 : Int)
  · have E1 := Lib.hid (szOf_lt g1)
    go_enter Tryz.func162, Tryz.ntmps162
    go_wp2_with fail
    have b := (Below.refl w.heap.size w).alloc (Nat.le_refl _) (.cells #[.slice A0 (d.1).length c0, .slice A1 (d.2).length c1] 165)
    have X := Bx.new (w := w) (c := #[.slice A0 (d.1).length c0, .slice A1 (d.2).length c1]) (t := 165) rfl
    generalize w.alloc (.cells #[.slice A0 (d.1).length c0, .slice A1 (d.2).length c1] 165) = w0 at b X ⊢
    have hsz := b.size
    refine (sz_HoldS A0 c0 d.1 (left) _ r0.1 (by omega) (by omega)).mono ?_; rintro o w1 ⟨rfl, rfl⟩
    rw [← K0.out, E0.out]
    obtain ⟨⟨x0, x1⟩, _⟩ := X.c2
    go_wp2_with fail
    clear x0 x1
    have hsz := b.size
    refine (sz_HoldS A1 c1 d.2 (left - (m0 : Int)) _ r1.1 (by omega) (by omega)).mono ?_; rintro o w2 ⟨rfl, rfl⟩
    rw [← K1.out, E1.out]
    obtain ⟨⟨x0, x1⟩, _⟩ := X.c2
    go_wp2
    go_ret
    exact ⟨by rw [szOf_lt (by omega)]; rfl, b⟩
  have E1 := Lib.hid (szOf_le (left := left - (m0 : Int)) (n := m1) (by omega))
  have g1n : ¬ (left - (m0 : Int) - (m1 : Int) < 0) := by omega
  go_enter Tryz.func162, Tryz.ntmps162
  go_wp2_with fail
  have b := (Below.refl w.heap.size w).alloc (Nat.le_refl _) (.cells #[.slice A0 (d.1).length c0, .slice A1 (d.2).length c1] 165)
  have X := Bx.new (w := w) (c := #[.slice A0 (d.1).length c0, .slice A1 (d.2).length c1]) (t := 165) rfl
  generalize w.alloc (.cells #[.slice A0 (d.1).length c0, .slice A1 (d.2).length c1] 165) = w0 at b X ⊢
  have hsz := b.size
  refine (sz_HoldS A0 c0 d.1 (left) _ r0.1 (by omega) (by omega)).mono ?_; rintro o w1 ⟨rfl, rfl⟩
  rw [← K0.out, E0.out]
  obtain ⟨⟨x0, x1⟩, _⟩ := X.c2
  go_wp2_with fail
  clear x0 x1
  have hsz := b.size
  refine (sz_HoldS A1 c1 d.2 (left - (m0 : Int)) _ r1.1 (by omega) (by omega)).mono ?_; rintro o w2 ⟨rfl, rfl⟩
  rw [← K1.out, E1.out]
  obtain ⟨⟨x0, x1⟩, _⟩ := X.c2
  go_wp2
  go_ret
  exact ⟨ret_intG (by rw [szOf_le (by omega)] <;> omega), b⟩
set_option maxHeartbeats 1600000 in
set_option maxRecDepth 100000 in
theorem eq_Lock (d : DLock) (B B' : Nat) (vs us : List Value) (w : World) (hB : B ≤ w.heap.size) (hB' : B' ≤ w.heap.size) (h : fLock.At w B d vs) (h' : fLock.At w B' d us) :
    Calls Tryz.prog 177 #[.agg vs.toArray, .agg us.toArray] w fun e w' => e = .returned (.bool true) ∧ Below w.heap.size w w' := by
  obtain ⟨A0, c0, A1, c1, rfl, r0, r1⟩ := at_Lock h
  obtain ⟨A0x, c0x, A1x, c1x, rfl, q0, q1⟩ := at_Lock h'
  clear h h'
  go_enter Tryz.func177, Tryz.ntmps177
  go_wp2_with fail
  have b := ((Below.refl w.heap.size w).alloc (Nat.le_refl _) (.cells #[.slice A0 (d.1).length c0, .slice A1 (d.2).length c1] 65)).alloc (by simp) (.cells #[.slice A0x (d.1).length c0x, .slice A1x (d.2).length c1x] 65)
  have X := (Bx.new (w := w) (c := #[.slice A0 (d.1).length c0, .slice A1 (d.2).length c1]) (t := 65) rfl).alloc (.cells #[.slice A0x (d.1).length c0x, .slice A1x (d.2).length c1x] 65)
  have Y := Bx.new (w := w.alloc (.cells #[.slice A0 (d.1).length c0, .slice A1 (d.2).length c1] 65)) (b := w.heap.size + 1) (c := #[.slice A0x (d.1).length c0x, .slice A1x (d.2).length c1x]) (t := 65) (by simp)
  generalize (w.alloc (.cells #[.slice A0 (d.1).length c0, .slice A1 (d.2).length c1] 65)).alloc (.cells #[.slice A0x (d.1).length c0x, .slice A1x (d.2).length c1x] 65) = w0 at b X Y ⊢
  have hsz := b.size
  refine (eq_HoldS A0 A0x c0 c0x B B' d.1 _ (by omega) (by omega) (r0.keep b hB) (q0.keep b hB')).mono ?_; rintro o w1 ⟨rfl, hb⟩
  have X := X.next hb
  have Y := Y.next hb
  have b := b.trans (hb.mono hsz)
  obtain ⟨⟨x0, x1⟩, _⟩ := X.c2
  obtain ⟨⟨y0, y1⟩, _⟩ := Y.c2
  clear hb
  go_wp2_with fail
  clear x0 x1 y0 y1
  have hsz := b.size
  refine (eq_HoldS A1 A1x c1 c1x B B' d.2 _ (by omega) (by omega) (r1.keep b hB) (q1.keep b hB')).mono ?_; rintro o w2 ⟨rfl, hb⟩
  have X := X.next hb
  have Y := Y.next hb
  have b := b.trans (hb.mono hsz)
  obtain ⟨⟨x0, x1⟩, _⟩ := X.c2
  obtain ⟨⟨y0, y1⟩, _⟩ := Y.c2
  clear hb
  go_wp2
  go_ret
  exact ⟨rfl, b⟩
set_option maxHeartbeats 1600000 in
set_option maxRecDepth 100000 in
theorem to_Lock (d : DLock) (B : Nat) (vs : List Value) (w : World) (hs : fLock.cnt d ≤ 1048576) (hB : B ≤ w.heap.size) (h : fLock.At w B d vs) :
    Calls Tryz.prog 166 #[.agg vs.toArray] w fun e w' => ∃ us, e = .returned (.agg us.toArray) ∧ Below w.heap.size w w' ∧ fLock.Own w' w.heap.size w'.heap.size d us := by
  obtain ⟨A0, c0, A1, c1, rfl, r0, r1⟩ := at_Lock h
  rw [cnt_Lock] at hs
  clear h
  go_enter Tryz.func166, Tryz.ntmps166
  go_wp2_with fail
  have b := (((Below.refl w.heap.size w).alloc (Nat.le_refl _) (.cells #[.slice A0 (d.1).length c0, .slice A1 (d.2).length c1] 165)).alloc (by simp) (.cells #[.slice none 0 0, .slice none 0 0] 65)).alloc (by simp; omega) (.cells #[.slice none 0 0, .slice none 0 0] 65)
  have X := ((Bx.new (w := w) (c := #[.slice A0 (d.1).length c0, .slice A1 (d.2).length c1]) (t := 165) rfl).alloc (.cells #[.slice none 0 0, .slice none 0 0] 65)).alloc (.cells #[.slice none 0 0, .slice none 0 0] 65)
  have Y := (Bx.new (w := w.alloc (.cells #[.slice A0 (d.1).length c0, .slice A1 (d.2).length c1] 165)) (b := w.heap.size + 1) (c := #[.slice none 0 0, .slice none 0 0]) (t := 65) (by simp)).alloc (.cells #[.slice none 0 0, .slice none 0 0] 65)
  have Z := Bx.new (w := (w.alloc (.cells #[.slice A0 (d.1).length c0, .slice A1 (d.2).length c1] 165)).alloc (.cells #[.slice none 0 0, .slice none 0 0] 65)) (b := w.heap.size + 1 + 1) (c := #[.slice none 0 0, .slice none 0 0]) (t := 65) (by simp)
  have hz : w.heap.size + 1 + 1 < (((w.alloc (.cells #[.slice A0 (d.1).length c0, .slice A1 (d.2).length c1] 165)).alloc (.cells #[.slice none 0 0, .slice none 0 0] 65)).alloc (.cells #[.slice none 0 0, .slice none 0 0] 65)).heap.size := by simp
  generalize ((w.alloc (.cells #[.slice A0 (d.1).length c0, .slice A1 (d.2).length c1] 165)).alloc (.cells #[.slice none 0 0, .slice none 0 0] 65)).alloc (.cells #[.slice none 0 0, .slice none 0 0] 65) = w0 at b X Y Z hz ⊢
  have hsz := b.size
  refine (to_HoldS A0 c0 B d.1 _ (by omega) (by omega) (r0.keep b hB)).mono ?_; rintro o w1 ⟨A0x, c0x, rfl, hb, o0⟩
  have o0 : (rowF fHold).Own _ _ _ d.1 [.slice A0x (d.1).length c0x] := ⟨_, _, rfl, o0⟩
  have X := X.next hb
  have Y := Y.next hb
  have Z := Z.next hb
  have b := b.trans (hb.mono hsz)
  have hs0 := hb.size
  have hz : w.heap.size + 1 + 1 < w1.heap.size := Nat.lt_of_lt_of_le hz hb.size
  obtain ⟨⟨x0, x1⟩, _⟩ := X.c2
  obtain ⟨⟨z0, z1⟩, zf⟩ := Z.c2
  clear hb
  go_wp2_with fail
  clear x0 x1 z0 z1 zf
  have b := (b).setCell (p := ⟨w.heap.size + 1 + 1, 0, none⟩) (by simp; omega) (.slice A0x (d.1).length c0x)
  have X := (X).far (a := ⟨w.heap.size + 1 + 1, 0, none⟩) (.slice A0x (d.1).length c0x) (by simp; omega)
  have Y := (Y).far (a := ⟨w.heap.size + 1 + 1, 0, none⟩) (.slice A0x (d.1).length c0x) (by simp)
  have Z := (Z).set (j := 0) (.slice A0x (d.1).length c0x) (by simp)
  have o0 := (rowF fHold).own_same (o0) (.far _ (a := ⟨w.heap.size + 1 + 1, 0, none⟩) (.slice A0x (d.1).length c0x) (.inl (by show w.heap.size + 1 + 1 < _; omega)))
  have hz : w.heap.size + 1 + 1 < ((w1).setCell ⟨w.heap.size + 1 + 1, 0, none⟩ (.slice A0x (d.1).length c0x)).heap.size := by simpa [World.setCell] using hz
  have he : ((w1).setCell ⟨w.heap.size + 1 + 1, 0, none⟩ (.slice A0x (d.1).length c0x)).heap.size = w1.heap.size := by simp [World.setCell]
  generalize (w1).setCell ⟨w.heap.size + 1 + 1, 0, none⟩ (.slice A0x (d.1).length c0x) = w2 at b X Y Z hz he o0 ⊢
  have hsz := b.size
  refine (to_HoldS A1 c1 B d.2 _ (by omega) (by omega) (r1.keep b hB)).mono ?_; rintro o w3 ⟨A1x, c1x, rfl, hb, o1⟩
  have o1 : (rowF fHold).Own _ _ _ d.2 [.slice A1x (d.2).length c1x] := ⟨_, _, rfl, o1⟩
  have X := X.next hb
  have Y := Y.next hb
  have Z := Z.next hb
  have b := b.trans (hb.mono hsz)
  have hs1 := hb.size
  have o0 := (rowF fHold).own_same o0 (.of hb (by omega))
  have hz : w.heap.size + 1 + 1 < w3.heap.size := Nat.lt_of_lt_of_le hz hb.size
  obtain ⟨⟨x0, x1⟩, _⟩ := X.c2
  obtain ⟨⟨z0, z1⟩, zf⟩ := Z.c2
  obtain ⟨⟨y0, y1⟩, yf⟩ := Y.c2
  clear hb X Y Z
  have HO := Lib.hid (own_Lock (lo := w.heap.size + 1 + 1 + 1) (B := w3.heap.size) (by omega) (by omega) o0 (by omega) (by omega) o1 (Nat.le_refl _))
  clear o0 o1
  go_wp2
  exact bodyPost_ret (v := .agg #[.slice A0x (d.1).length c0x, .slice A1x (d.2).length c1x]) (by simp [results, Tryz.results166, go_sem, y0, y1]) rfl ⟨[.slice A0x (d.1).length c0x, .slice A1x (d.2).length c1x], rfl, (by repeat' (first | (with_reducible refine Below.setCell ?_ (by simp <;> omega) _) | (with_reducible refine Below.alloc ?_ (by simp <;> omega) _) | (with_reducible assumption) | (with_reducible exact Below.refl _ _))), fLock.own_more (fLock.own_same HO.out (.only (lo' := w.heap.size + 1) (B' := w.heap.size + 1 + 1 + 1) (by repeat' (first | (with_reducible refine Onlys.setCell ?_ (by simp) (by simp) _) | (with_reducible exact Onlys.refl _ _ _))) (.inr (Nat.le_refl _)))) (by omega) (by simp [World.setCell])⟩
set_option maxHeartbeats 1600000 in
set_option maxRecDepth 100000 in
theorem sz_Cell (d : DCell) (B : Nat) (vs : List Value) (left : Int) (w : World) (h0 : 0 ≤ left) (h1 : left ≤ 1048576) (hB : B ≤ w.heap.size) (h : fCell.At w B d vs) :
    Calls Tryz.prog 105 #[.agg vs.toArray, .int .i64 left] w fun e w' => e = .returned (.int .i64 (szOf left (fCell.cnt d))) ∧ Below w.heap.size w w' := by
  obtain ⟨A4, c4, A5, c5, rfl, r4, r5⟩ := at_Cell h
  rw [cnt_Cell]
  clear h
  have K0 : ∃ m, m = fLock.cnt d.2.2 := ⟨_, rfl⟩
  obtain ⟨m0, J0⟩ := K0
  have K0 := Lib.hid J0
  clear J0
  rw [← K0.out]
  by_cases g0 : left < (m0 : Int)
  · have E0 := Lib.hid (szOf_lt g0)
    go_enter Tryz.func105, Tryz.ntmps105
    go_wp2_with fail
    have b := (Below.refl w.heap.size w).alloc (Nat.le_refl _) (.cells #[.int .i64 d.1, .int .i64 d.2.1.1, .int .i64 d.2.1.2.1, .bool d.2.1.2.2, .slice A4 (d.2.2.1).length c4, .slice A5 (d.2.2.2).length c5] 167)
    have X := Bx.new (w := w) (c := #[.int .i64 d.1, .int .i64 d.2.1.1, .int .i64 d.2.1.2.1, .bool d.2.1.2.2, .slice A4 (d.2.2.1).length c4, .slice A5 (d.2.2.2).length c5]) (t := 167) rfl
    generalize w.alloc (.cells #[.int .i64 d.1, .int .i64 d.2.1.1, .int .i64 d.2.1.2.1, .bool d.2.1.2.2, .slice A4 (d.2.2.1).length c4, .slice A5 (d.2.2.2).length c5] 167) = w0 at b X ⊢
    have hsz := b.size
    refine (sz_Lock d.2.2 B _ (left) _ (by omega) (by omega) (by omega) (mk_Lock (r4.keep b hB) (r5.keep b hB))).mono ?_; rintro o w1 ⟨rfl, hb⟩
    have b := b.trans (hb.mono hsz)
    have X := X.next hb
    clear hb
    rw [← K0.out, E0.out]
    obtain ⟨⟨x0, x1, x2, x3, x4, x5⟩, _⟩ := X.c6
    go_wp2
    go_ret
    exact ⟨by rw [szOf_lt (by omega)]; rfl, b⟩
  have E0 := Lib.hid (szOf_le (left := left) (n := m0) (by omega))
  have g0n : ¬ (left - (m0 : Int) < 0) := by omega
  go_enter Tryz.func105, Tryz.ntmps105
  go_wp2_with fail
  have b := (Below.refl w.heap.size w).alloc (Nat.le_refl _) (.cells #[.int .i64 d.1, .int .i64 d.2.1.1, .int .i64 d.2.1.2.1, .bool d.2.1.2.2, .slice A4 (d.2.2.1).length c4, .slice A5 (d.2.2.2).length c5] 167)
  have X := Bx.new (w := w) (c := #[.int .i64 d.1, .int .i64 d.2.1.1, .int .i64 d.2.1.2.1, .bool d.2.1.2.2, .slice A4 (d.2.2.1).length c4, .slice A5 (d.2.2.2).length c5]) (t := 167) rfl
  generalize w.alloc (.cells #[.int .i64 d.1, .int .i64 d.2.1.1, .int .i64 d.2.1.2.1, .bool d.2.1.2.2, .slice A4 (d.2.2.1).length c4, .slice A5 (d.2.2.2).length c5] 167) = w0 at b X ⊢
  have hsz := b.size
  refine (sz_Lock d.2.2 B _ (left) _ (by omega) (by omega) (by omega) (mk_Lock (r4.keep b hB) (r5.keep b hB))).mono ?_; rintro o w1 ⟨rfl, hb⟩
  have b := b.trans (hb.mono hsz)
  have X := X.next hb
  clear hb
  rw [← K0.out, E0.out]
  obtain ⟨⟨x0, x1, x2, x3, x4, x5⟩, _⟩ := X.c6
  go_wp2
  go_ret
  exact ⟨ret_intG (by rw [szOf_le (by omega)] <;> omega), b⟩
set_option maxHeartbeats 1600000 in
set_option maxRecDepth 100000 in
theorem eq_Cell (d : DCell) (B B' : Nat) (vs us : List Value) (w : World) (hB : B ≤ w.heap.size) (hB' : B' ≤ w.heap.size) (h : fCell.At w B d vs) (h' : fCell.At w B' d us) :
    Calls Tryz.prog 128 #[.agg vs.toArray, .agg us.toArray] w fun e w' => e = .returned (.bool true) ∧ Below w.heap.size w w' := by
  obtain ⟨A4, c4, A5, c5, rfl, r4, r5⟩ := at_Cell h
  obtain ⟨A4x, c4x, A5x, c5x, rfl, q4, q5⟩ := at_Cell h'
  clear h h'
  go_enter Tryz.func128, Tryz.ntmps128
  go_wp2_with fail
  have b := ((Below.refl w.heap.size w).alloc (Nat.le_refl _) (.cells #[.int .i64 d.1, .int .i64 d.2.1.1, .int .i64 d.2.1.2.1, .bool d.2.1.2.2, .slice A4 (d.2.2.1).length c4, .slice A5 (d.2.2.2).length c5] 67)).alloc (by simp) (.cells #[.int .i64 d.1, .int .i64 d.2.1.1, .int .i64 d.2.1.2.1, .bool d.2.1.2.2, .slice A4x (d.2.2.1).length c4x, .slice A5x (d.2.2.2).length c5x] 67)
  have X := (Bx.new (w := w) (c := #[.int .i64 d.1, .int .i64 d.2.1.1, .int .i64 d.2.1.2.1, .bool d.2.1.2.2, .slice A4 (d.2.2.1).length c4, .slice A5 (d.2.2.2).length c5]) (t := 67) rfl).alloc (.cells #[.int .i64 d.1, .int .i64 d.2.1.1, .int .i64 d.2.1.2.1, .bool d.2.1.2.2, .slice A4x (d.2.2.1).length c4x, .slice A5x (d.2.2.2).length c5x] 67)
  have Y := Bx.new (w := w.alloc (.cells #[.int .i64 d.1, .int .i64 d.2.1.1, .int .i64 d.2.1.2.1, .bool d.2.1.2.2, .slice A4 (d.2.2.1).length c4, .slice A5 (d.2.2.2).length c5] 67)) (b := w.heap.size + 1) (c := #[.int .i64 d.1, .int .i64 d.2.1.1, .int .i64 d.2.1.2.1, .bool d.2.1.2.2, .slice A4x (d.2.2.1).length c4x, .slice A5x (d.2.2.2).length c5x]) (t := 67) (by simp)
  generalize (w.alloc (.cells #[.int .i64 d.1, .int .i64 d.2.1.1, .int .i64 d.2.1.2.1, .bool d.2.1.2.2, .slice A4 (d.2.2.1).length c4, .slice A5 (d.2.2.2).length c5] 67)).alloc (.cells #[.int .i64 d.1, .int .i64 d.2.1.1, .int .i64 d.2.1.2.1, .bool d.2.1.2.2, .slice A4x (d.2.2.1).length c4x, .slice A5x (d.2.2.2).length c5x] 67) = w0 at b X Y ⊢
  have hsz := b.size
  refine (eq_Word d.2.1 _).mono ?_; rintro o w1 ⟨rfl, hb⟩
  have X := X.next hb
  have Y := Y.next hb
  have b := b.trans (hb.mono hsz)
  obtain ⟨⟨x0, x1, x2, x3, x4, x5⟩, _⟩ := X.c6
  obtain ⟨⟨y0, y1, y2, y3, y4, y5⟩, _⟩ := Y.c6
  clear hb
  go_wp2_with fail
  clear x0 x1 x2 x3 x4 x5 y0 y1 y2 y3 y4 y5
  have hsz := b.size
  refine (eq_Lock d.2.2 B B' _ _ _ (by omega) (by omega) (mk_Lock (r4.keep b hB) (r5.keep b hB)) (mk_Lock (q4.keep b hB') (q5.keep b hB'))).mono ?_; rintro o w2 ⟨rfl, hb⟩
  have X := X.next hb
  have Y := Y.next hb
  have b := b.trans (hb.mono hsz)
  obtain ⟨⟨x0, x1, x2, x3, x4, x5⟩, _⟩ := X.c6
  obtain ⟨⟨y0, y1, y2, y3, y4, y5⟩, _⟩ := Y.c6
  clear hb
  go_wp2
  go_ret
  exact ⟨rfl, b⟩
set_option maxHeartbeats 1600000 in
set_option maxRecDepth 100000 in
theorem to_Cell (d : DCell) (B : Nat) (vs : List Value) (w : World) (hs : fCell.cnt d ≤ 1048576) (hB : B ≤ w.heap.size) (h : fCell.At w B d vs) :
    Calls Tryz.prog 114 #[.agg vs.toArray] w fun e w' => ∃ us, e = .returned (.agg us.toArray) ∧ Below w.heap.size w w' ∧ fCell.Own w' w.heap.size w'.heap.size d us := by
  obtain ⟨A4, c4, A5, c5, rfl, r4, r5⟩ := at_Cell h
  rw [cnt_Cell] at hs
  have p2 : fLock.At w B d.2.2 [.slice A4 (d.2.2.1).length c4, .slice A5 (d.2.2.2).length c5] := mk_Lock r4 r5
  clear h
  go_enter Tryz.func114, Tryz.ntmps114
  go_wp2_with fail
  have b := (((Below.refl w.heap.size w).alloc (Nat.le_refl _) (.cells #[.int .i64 d.1, .int .i64 d.2.1.1, .int .i64 d.2.1.2.1, .bool d.2.1.2.2, .slice A4 (d.2.2.1).length c4, .slice A5 (d.2.2.2).length c5] 167)).alloc (by simp) (.cells #[.int .i64 0, .int .i64 0, .int .i64 0, .bool false, .slice none 0 0, .slice none 0 0] 67)).alloc (by simp; omega) (.cells #[.int .i64 d.1, .int .i64 0, .int .i64 0, .bool false, .slice none 0 0, .slice none 0 0] 67)
  have X := ((Bx.new (w := w) (c := #[.int .i64 d.1, .int .i64 d.2.1.1, .int .i64 d.2.1.2.1, .bool d.2.1.2.2, .slice A4 (d.2.2.1).length c4, .slice A5 (d.2.2.2).length c5]) (t := 167) rfl).alloc (.cells #[.int .i64 0, .int .i64 0, .int .i64 0, .bool false, .slice none 0 0, .slice none 0 0] 67)).alloc (.cells #[.int .i64 d.1, .int .i64 0, .int .i64 0, .bool false, .slice none 0 0, .slice none 0 0] 67)
  have Y := (Bx.new (w := w.alloc (.cells #[.int .i64 d.1, .int .i64 d.2.1.1, .int .i64 d.2.1.2.1, .bool d.2.1.2.2, .slice A4 (d.2.2.1).length c4, .slice A5 (d.2.2.2).length c5] 167)) (b := w.heap.size + 1) (c := #[.int .i64 0, .int .i64 0, .int .i64 0, .bool false, .slice none 0 0, .slice none 0 0]) (t := 67) (by simp)).alloc (.cells #[.int .i64 d.1, .int .i64 0, .int .i64 0, .bool false, .slice none 0 0, .slice none 0 0] 67)
  have Z := Bx.new (w := (w.alloc (.cells #[.int .i64 d.1, .int .i64 d.2.1.1, .int .i64 d.2.1.2.1, .bool d.2.1.2.2, .slice A4 (d.2.2.1).length c4, .slice A5 (d.2.2.2).length c5] 167)).alloc (.cells #[.int .i64 0, .int .i64 0, .int .i64 0, .bool false, .slice none 0 0, .slice none 0 0] 67)) (b := w.heap.size + 1 + 1) (c := #[.int .i64 d.1, .int .i64 0, .int .i64 0, .bool false, .slice none 0 0, .slice none 0 0]) (t := 67) (by simp)
  have hz : w.heap.size + 1 + 1 < (((w.alloc (.cells #[.int .i64 d.1, .int .i64 d.2.1.1, .int .i64 d.2.1.2.1, .bool d.2.1.2.2, .slice A4 (d.2.2.1).length c4, .slice A5 (d.2.2.2).length c5] 167)).alloc (.cells #[.int .i64 0, .int .i64 0, .int .i64 0, .bool false, .slice none 0 0, .slice none 0 0] 67)).alloc (.cells #[.int .i64 d.1, .int .i64 0, .int .i64 0, .bool false, .slice none 0 0, .slice none 0 0] 67)).heap.size := by simp
  generalize ((w.alloc (.cells #[.int .i64 d.1, .int .i64 d.2.1.1, .int .i64 d.2.1.2.1, .bool d.2.1.2.2, .slice A4 (d.2.2.1).length c4, .slice A5 (d.2.2.2).length c5] 167)).alloc (.cells #[.int .i64 0, .int .i64 0, .int .i64 0, .bool false, .slice none 0 0, .slice none 0 0] 67)).alloc (.cells #[.int .i64 d.1, .int .i64 0, .int .i64 0, .bool false, .slice none 0 0, .slice none 0 0] 67) = w0 at b X Y Z hz ⊢
  have hsz := b.size
  refine (to_Word d.2.1 _).mono ?_; rintro o w1 ⟨rfl, hb⟩
  have X := X.next hb
  have Y := Y.next hb
  have Z := Z.next hb
  have b := b.trans (hb.mono hsz)
  have hs0 := hb.size
  have hz : w.heap.size + 1 + 1 < w1.heap.size := Nat.lt_of_lt_of_le hz hb.size
  obtain ⟨⟨x0, x1, x2, x3, x4, x5⟩, _⟩ := X.c6
  obtain ⟨⟨z0, z1, z2, z3, z4, z5⟩, zf⟩ := Z.c6
  clear hb
  go_wp2_with fail
  clear x0 x1 x2 x3 x4 x5 z0 z1 z2 z3 z4 z5 zf
  have b := (((b).setCell (p := ⟨w.heap.size + 1 + 1, 1, none⟩) (by simp; omega) (.int .i64 d.2.1.1)).setCell (p := ⟨w.heap.size + 1 + 1, 2, none⟩) (by simp; omega) (.int .i64 d.2.1.2.1)).setCell (p := ⟨w.heap.size + 1 + 1, 3, none⟩) (by simp; omega) (.bool d.2.1.2.2)
  have X := (((X).far (a := ⟨w.heap.size + 1 + 1, 1, none⟩) (.int .i64 d.2.1.1) (by simp; omega)).far (a := ⟨w.heap.size + 1 + 1, 2, none⟩) (.int .i64 d.2.1.2.1) (by simp; omega)).far (a := ⟨w.heap.size + 1 + 1, 3, none⟩) (.bool d.2.1.2.2) (by simp; omega)
  have Y := (((Y).far (a := ⟨w.heap.size + 1 + 1, 1, none⟩) (.int .i64 d.2.1.1) (by simp)).far (a := ⟨w.heap.size + 1 + 1, 2, none⟩) (.int .i64 d.2.1.2.1) (by simp)).far (a := ⟨w.heap.size + 1 + 1, 3, none⟩) (.bool d.2.1.2.2) (by simp)
  have Z := (((Z).set (j := 1) (.int .i64 d.2.1.1) (by simp)).set (j := 2) (.int .i64 d.2.1.2.1) (by simp)).set (j := 3) (.bool d.2.1.2.2) (by simp)
  have hz : w.heap.size + 1 + 1 < ((((w1).setCell ⟨w.heap.size + 1 + 1, 1, none⟩ (.int .i64 d.2.1.1)).setCell ⟨w.heap.size + 1 + 1, 2, none⟩ (.int .i64 d.2.1.2.1)).setCell ⟨w.heap.size + 1 + 1, 3, none⟩ (.bool d.2.1.2.2)).heap.size := by simpa [World.setCell] using hz
  have he : ((((w1).setCell ⟨w.heap.size + 1 + 1, 1, none⟩ (.int .i64 d.2.1.1)).setCell ⟨w.heap.size + 1 + 1, 2, none⟩ (.int .i64 d.2.1.2.1)).setCell ⟨w.heap.size + 1 + 1, 3, none⟩ (.bool d.2.1.2.2)).heap.size = w1.heap.size := by simp [World.setCell]
  generalize (((w1).setCell ⟨w.heap.size + 1 + 1, 1, none⟩ (.int .i64 d.2.1.1)).setCell ⟨w.heap.size + 1 + 1, 2, none⟩ (.int .i64 d.2.1.2.1)).setCell ⟨w.heap.size + 1 + 1, 3, none⟩ (.bool d.2.1.2.2) = w2 at b X Y Z hz he ⊢
  have hsz := b.size
  refine (to_Lock d.2.2 B _ _ (by omega) (by omega) (fLock.at_same p2 (.of b hB))).mono ?_; rintro o w3 ⟨us2, rfl, hb, o2⟩
  obtain ⟨A4x, c4x, A5x, c5x, rfl, _, _⟩ := at_Lock (fLock.own_at o2)
  have X := X.next hb
  have Y := Y.next hb
  have Z := Z.next hb
  have b := b.trans (hb.mono hsz)
  have hs1 := hb.size
  have hz : w.heap.size + 1 + 1 < w3.heap.size := Nat.lt_of_lt_of_le hz hb.size
  obtain ⟨⟨x0, x1, x2, x3, x4, x5⟩, _⟩ := X.c6
  obtain ⟨⟨z0, z1, z2, z3, z4, z5⟩, zf⟩ := Z.c6
  obtain ⟨⟨y0, y1, y2, y3, y4, y5⟩, yf⟩ := Y.c6
  clear hb X Y Z
  have HO := Lib.hid (own_Cell (lo := w.heap.size + 1 + 1 + 1) (B := w3.heap.size) (by omega) (by omega) o2 (Nat.le_refl _))
  clear o2
  go_wp2
  exact bodyPost_ret (v := .agg #[.int .i64 d.1, .int .i64 d.2.1.1, .int .i64 d.2.1.2.1, .bool d.2.1.2.2, .slice A4x (d.2.2.1).length c4x, .slice A5x (d.2.2.2).length c5x]) (by simp [results, Tryz.results114, go_sem, y0, y1, y2, y3, y4, y5]) rfl ⟨[.int .i64 d.1, .int .i64 d.2.1.1, .int .i64 d.2.1.2.1, .bool d.2.1.2.2, .slice A4x (d.2.2.1).length c4x, .slice A5x (d.2.2.2).length c5x], rfl, (by repeat' (first | (with_reducible refine Below.setCell ?_ (by simp <;> omega) _) | (with_reducible refine Below.alloc ?_ (by simp <;> omega) _) | (with_reducible assumption) | (with_reducible exact Below.refl _ _))), fCell.own_more (fCell.own_same HO.out (.only (lo' := w.heap.size + 1) (B' := w.heap.size + 1 + 1 + 1) (by repeat' (first | (with_reducible refine Onlys.setCell ?_ (by simp) (by simp) _) | (with_reducible exact Onlys.refl _ _ _))) (.inr (Nat.le_refl _)))) (by omega) (by simp [World.setCell])⟩
set_option maxHeartbeats 1600000 in
set_option maxRecDepth 100000 in
theorem sz_CellS (A : Option Addr) (c B : Nat) (l : List DCell) (left : Int) (w : World) (h0 : 0 ≤ left) (h1 : left ≤ 1048576) (hB : B ≤ w.heap.size) (h : RAt fCell w B A l) :
    Calls Tryz.prog 55 #[.slice A l.length c, .int .i64 left] w fun e w' => e = .returned (.int .i64 (szOf left ((rowF fCell).cnt l))) ∧ Below w.heap.size w w' := by
  have hmx := h.1
  unfold maxLen at hmx
  rw [row_cnt]
  by_cases hl : left < l.length
  · have f1 : left - (l.length : Int) < 0 := by omega
    go_enter Tryz.func55, Tryz.ntmps55
    go_wp2
    go_ret
    exact ⟨by rw [szOf_lt (by omega)]; rfl, Below.refl _ _⟩
  · have f1 : ¬ (left - (l.length : Int) < 0) := by omega
    go_enter Tryz.func55, Tryz.ntmps55
    go_wp2
    go_loopw [1, 5] (fun s i wr => ∃ k : Nat, k ≤ l.length ∧ i = .int .i64 k ∧ ((l.length + psum fCell l k : Nat) : Int) ≤ left ∧ s = .int .i64 (left - (l.length : Int) - (psum fCell l k : Int)) ∧ Below w.heap.size w wr) (fun _ i _ => l.length - (intOf i).toNat)
    case atStart => exact ⟨0, Nat.zero_le _, rfl, by rw [psum_zero]; omega, by simp [psum_zero], Below.refl _ _⟩
    case round =>
      obtain ⟨k, hk, rfl, hle, rfl, hb⟩ := hrel
      by_cases hkn : k < l.length
      · obtain ⟨b, off, rfl, hbB, hc⟩ := h.2 (by omega)
        have hkz : (k : Int) < l.length := by omega
        have hget : l[k]? = some l[k] := List.getElem?_eq_getElem hkn
        obtain ⟨v, hv0, hat0⟩ := hc k _ hget
        have hsz := hb.size
        have hat := fCell.at_same hat0 (.of hb hB)
        have hv := hv0.below hb (show b < w.heap.size by omega)
        rw [show fCell.n = 6 from rfl] at hv
        have hps := psum_succ (F := fCell) hget
        have hpm := psum_mono fCell l (show k + 1 ≤ l.length by omega)
        clear hv0 hat0
        generalize l[k] = d at hget hat hps
        have HAT := Lib.hid hat
        obtain ⟨A4, c4, A5, c5, rfl, _, _⟩ := at_Cell hat
        obtain ⟨a0, a1, a2, a3, a4, a5⟩ := hv.c6
        clear hc h hv hget
        have HC := Lib.hid (show fCell.cnt d = psum fCell l (k + 1) - psum fCell l k by first | omega | (rw [hps]; omega))
        generalize hx : psum fCell l k = x at hle hps HC ⊢
        generalize hy : psum fCell l (k + 1) = y at hps hpm HC
        generalize hn : psum fCell l l.length = z at hpm ⊢
        generalize hL : l.length = n at *
        by_cases hok : ((n + y : Nat) : Int) ≤ left
        · have HE := Lib.hid (show szOf (left - (n : Int) - (x : Int)) (fCell.cnt d) = left - (n : Int) - (y : Int) by rw [HC.out, szOf_le (by omega)]; omega)
          have hge : ¬ (left - (n : Int) - (y : Int) < 0) := by omega
          clear hps hpm
          go_wp2_with fail
          refine (sz_Cell d B _ _ _ (by omega) (by omega) (by omega) HAT.out).mono ?_; rintro o w1 ⟨rfl, hb1⟩
          rw [HE.out]
          have hb2 := hb.trans (hb1.mono hsz)
          clear a0 a1 a2 a3 a4 a5 hb hb1
          go_wp2
          exact ⟨⟨k + 1, by omega, by go_num, by rw [hy]; exact hok, by rw [hy], hb2⟩, by simp [intOf]; omega⟩
        · have HE := Lib.hid (show szOf (left - (n : Int) - (x : Int)) (fCell.cnt d) = -1 by rw [HC.out, szOf_lt (by omega)])
          clear hps
          go_wp2_with fail
          refine (sz_Cell d B _ _ _ (by omega) (by omega) (by omega) HAT.out).mono ?_; rintro o w1 ⟨rfl, hb1⟩
          rw [HE.out]
          have hb2 := hb.trans (hb1.mono hsz)
          clear a0 a1 a2 a3 a4 a5 hb hb1
          go_wp2
          go_ret
          exact ⟨by rw [szOf_lt (by rw [hL, hn]; omega)]; rfl, hb2⟩
      · obtain rfl : k = l.length := by omega
        go_wp2
        go_ret
        exact ⟨ret_intG (by rw [szOf_le (by omega)] <;> omega), hb⟩
theorem info_Cell : (Tryz.prog.info? 67).map (fun i => (i.zero, i.size, i.bytes)) = some (some (.agg #[.int .i64 0, .int .i64 0, .int .i64 0, .bool false, .slice none 0 0, .slice none 0 0]), 6, 80) := by kernel_rfl
theorem make_Cell (n : Nat) (h : n ≤ 1048576) (w : World) :
    (Instr.makeSlice 35 (.int .i64 (n : Int)) (.int .i64 (n : Int))).run Tryz.prog w = .ok (.slice (some ⟨w.heap.size, 0, none⟩) n n) (w.alloc (.cells (madeCells #[.int .i64 0, .int .i64 0, .int .i64 0, .bool false, .slice none 0 0, .slice none 0 0] (n * 6)) 67)) := by
  obtain ⟨i, hi, hzz⟩ := Option.map_eq_some_iff.1 info_Cell
  simp only [Prod.mk.injEq] at hzz
  obtain ⟨hz, hs, hb⟩ := hzz
  have := run_make (P := Tryz.prog) w 35 67 i _ Tryz.underlying35 hi hz .i64 .i64 n n (by omega) (Int.le_refl _) (by rw [hb]; omega) (by omega)
  simpa [hs, Value.cells] using this
set_option maxHeartbeats 1600000 in
set_option maxRecDepth 100000 in
theorem to_CellS (A : Option Addr) (c B : Nat) (l : List DCell) (w : World) (hs : (rowF fCell).cnt l ≤ 1048576) (hB : B ≤ w.heap.size) (h : RAt fCell w B A l) :
    Calls Tryz.prog 63 #[.slice A l.length c] w fun e w' => ∃ G c', e = .returned (.slice G l.length c') ∧ Below w.heap.size w w' ∧ ROwn fCell w' w.heap.size w'.heap.size G l := by
  have hlen : l.length ≤ 1048576 := by rw [row_cnt] at hs; omega
  have hmx : l.length ≤ maxLen := h.1
  have hmk := make_Cell l.length hlen
  go_enter Tryz.func63, Tryz.ntmps63
  go_wp2
  clear hmk
  go_loopw [4] (fun i wr => ∃ k : Nat, k ≤ l.length ∧ i = .int .i64 k ∧ Below w.heap.size w wr ∧ ∃ vs L H, Laid fCell w.heap.size [.int .i64 0, .int .i64 0, .int .i64 0, .bool false, .slice none 0 0, .slice none 0 0] l wr k vs L H) (fun i _ => l.length - (intOf i).toNat)
  case atStart => exact ⟨0, Nat.zero_le _, rfl, (Below.refl _ _).alloc (Nat.le_refl _) _, _, _, _, made_laid (F := fCell) w (z := [.int .i64 0, .int .i64 0, .int .i64 0, .bool false, .slice none 0 0, .slice none 0 0]) rfl (by decide) (rfl)⟩
  case round =>
    obtain ⟨k, hk, rfl, hb, vs, L, H, hld⟩ := hrel
    by_cases hkn : k < l.length
    · obtain ⟨b, off, rfl, hbB, hc⟩ := h.2 (by omega)
      have hkz : (k : Int) < l.length := by omega
      have hget : l[k]? = some l[k] := List.getElem?_eq_getElem hkn
      obtain ⟨v, hv0, hat0⟩ := hc k _ hget
      have hcn := cnt_at (F := fCell) hget
      have hsz := hb.size
      have hat := fCell.at_same hat0 (.of hb hB)
      have hv := hv0.below hb (show b < w.heap.size by omega)
      rw [show fCell.n = 6 from rfl] at hv
      clear hv0 hat0
      generalize l[k] = d at hget hat hcn
      have HAT := Lib.hid hat
      obtain ⟨A4, c4, A5, c5, rfl, _, _⟩ := at_Cell hat
      obtain ⟨a0, a1, a2, a3, a4, a5⟩ := hv.c6
      clear hc h hv
      go_wp2_with fail
      refine (to_Cell d B _ _ (by omega) (by omega) HAT.out).mono ?_; rintro o w1 ⟨us, rfl, hb1, ho⟩
      have HO := Lib.hid ho
      obtain ⟨A4x, c4x, A5x, c5x, rfl, _, _⟩ := at_Cell (fCell.own_at ho)
      have hs1 := hb1.size
      have hld1 := hld.next hb1
      have hzr := hld1.zero hkn
      rw [show fCell.n = 6 from rfl] at hzr
      obtain ⟨z0, z1, z2, z3, z4, z5⟩ := hzr.c6
      have r0 := hld1.free
      have HB := Lib.hid (((((((hb.trans (hb1.mono hsz)).setCell (p := ⟨w.heap.size, k * 6, none⟩) (Nat.le_refl _) (.int .i64 d.1)).setCell (p := ⟨w.heap.size, k * 6 + 1, none⟩) (Nat.le_refl _) (.int .i64 d.2.1.1)).setCell (p := ⟨w.heap.size, k * 6 + 2, none⟩) (Nat.le_refl _) (.int .i64 d.2.1.2.1)).setCell (p := ⟨w.heap.size, k * 6 + 3, none⟩) (Nat.le_refl _) (.bool d.2.1.2.2)).setCell (p := ⟨w.heap.size, k * 6 + 4, none⟩) (Nat.le_refl _) (.slice A4x (d.2.2.1).length c4x)).setCell (p := ⟨w.heap.size, k * 6 + 5, none⟩) (Nat.le_refl _) (.slice A5x (d.2.2.2).length c5x))
      have hl1 := hld1.step hkn hget (v := [.int .i64 d.1, .int .i64 d.2.1.1, .int .i64 d.2.1.2.1, .bool d.2.1.2.2, .slice A4x (d.2.2.1).length c4x, .slice A5x (d.2.2.2).length c5x]) (s := wr.heap.size) rfl rfl hld.lt (fun j hj => (hld.own j _ hj (List.getElem?_eq_getElem (by omega))).2.1) HO.out
      have HL := Lib.hid hl1
      clear hld hld1 hzr hb hb1 hl1 ho a0 a1 a2 a3 a4 a5
      go_wp2
      exact ⟨⟨k + 1, by omega, by go_num, HB.out, _, _, _, HL.out⟩, by simp [intOf]; omega⟩
    · obtain rfl : k = l.length := by omega
      have HO := Lib.hid (hld.done hmx (Nat.le_refl _) (Nat.le_refl _))
      clear hld
      go_wp2
      go_ret
      exact ⟨_, _, rfl, hb, HO.out⟩
set_option maxHeartbeats 1600000 in
set_option maxRecDepth 100000 in
theorem eq_CellS (A A' : Option Addr) (c c' B B' : Nat) (l : List DCell) (w : World) (hB : B ≤ w.heap.size) (hB' : B' ≤ w.heap.size) (h : RAt fCell w B A l) (h' : RAt fCell w B' A' l) :
    Calls Tryz.prog 73 #[.slice A l.length c, .slice A' l.length c'] w fun e w' => e = .returned (.bool true) ∧ Below w.heap.size w w' := by
  have hmx := h.1
  unfold maxLen at hmx
  go_enter Tryz.func73, Tryz.ntmps73
  go_wp2
  go_loopw [5] (fun i wr => ∃ k : Nat, k ≤ l.length ∧ i = .int .i64 k ∧ Below w.heap.size w wr) (fun i _ => l.length - (intOf i).toNat)
  case atStart => exact ⟨0, Nat.zero_le _, rfl, Below.refl _ _⟩
  case round =>
    obtain ⟨k, hk, rfl, hb⟩ := hrel
    by_cases hkn : k < l.length
    · obtain ⟨b, off, rfl, hbB, hc⟩ := h.2 (by omega)
      obtain ⟨b', off', rfl, hbB', hc'⟩ := h'.2 (by omega)
      have hkz : (k : Int) < l.length := by omega
      have hget : l[k]? = some l[k] := List.getElem?_eq_getElem hkn
      obtain ⟨v, hv0, hat0⟩ := hc k _ hget
      obtain ⟨v', hv0', hat0'⟩ := hc' k _ hget
      have hsz := hb.size
      have hat := fCell.at_same hat0 (.of hb hB)
      have hat' := fCell.at_same hat0' (.of hb hB')
      have hv := hv0.below hb (show b < w.heap.size by omega)
      have hv' := hv0'.below hb (show b' < w.heap.size by omega)
      rw [show fCell.n = 6 from rfl] at hv hv'
      clear hv0 hat0 hv0' hat0'
      have hsz' : B ≤ wr.heap.size := by omega
      have hsz'' : B' ≤ wr.heap.size := by omega
      generalize l[k] = d at hget hat hat'
      have HAT := Lib.hid (fCell.at_same hat (.of (Below.refl _ _).drew hsz'))
      have HATX := Lib.hid (fCell.at_same hat' (.of (Below.refl _ _).drew hsz''))
      obtain ⟨A4, c4, A5, c5, rfl, _, _⟩ := at_Cell hat
      obtain ⟨A4x, c4x, A5x, c5x, rfl, _, _⟩ := at_Cell hat'
      obtain ⟨a0, a1, a2, a3, a4, a5⟩ := hv.c6
      obtain ⟨b0, b1, b2, b3, b4, b5⟩ := hv'.c6
      clear hc hc' h h' hv hv' hget
      go_wp2_with fail
      go_still_tail 8, (by kernel_rfl)
      change wpList _ _ _ _ _ wr.drew
      have hb2 := hb.drew
      clear a0 b0 a1 b1 a2 b2 a3 b3 a4 b4 a5 b5
      generalize wr.drew = w2 at hb2 HAT HATX ⊢
      have hs2 := hb2.size
      go_wp2_with fail
      refine (eq_Cell d B B' _ _ _ (by omega) (by omega) HAT.out HATX.out).mono ?_; rintro o w3 ⟨rfl, hb3⟩
      go_wp2
      exact ⟨⟨k + 1, by omega, by go_num, hb2.trans (hb3.mono hs2)⟩, by simp [intOf]; omega⟩
    · obtain rfl : k = l.length := by omega
      go_wp2
      go_ret
      exact ⟨rfl, hb⟩
set_option maxHeartbeats 1600000 in
set_option maxRecDepth 100000 in
theorem sz_Table (d : DTable) (B : Nat) (vs : List Value) (left : Int) (w : World) (h0 : 0 ≤ left) (h1 : left ≤ 1048576) (hB : B ≤ w.heap.size) (h : fTable.At w B d vs) :
    Calls Tryz.prog 22 #[.agg vs.toArray, .int .i64 left] w fun e w' => e = .returned (.int .i64 (szOf left (fTable.cnt d))) ∧ Below w.heap.size w w' := by
  obtain ⟨A0, c0, rfl, r0⟩ := at_Table h
  rw [cnt_Table]
  clear h
  have K0 : ∃ m, m = (rowF fCell).cnt d := ⟨_, rfl⟩
  obtain ⟨m0, J0⟩ := K0
  have K0 := Lib.hid J0
  clear J0
  rw [← K0.out]
  by_cases g0 : left < (m0 : Int)
  · have E0 := Lib.hid (szOf_lt g0)
    go_enter Tryz.func22, Tryz.ntmps22
    go_wp2_with fail
    have b := (Below.refl w.heap.size w).alloc (Nat.le_refl _) (.cells #[.slice A0 (d).length c0] 26)
    have X := Bx.new (w := w) (c := #[.slice A0 (d).length c0]) (t := 26) rfl
    generalize w.alloc (.cells #[.slice A0 (d).length c0] 26) = w0 at b X ⊢
    have hsz := b.size
    refine (sz_CellS A0 c0 B d (left) _ (by omega) (by omega) (by omega) (r0.keep b hB)).mono ?_; rintro o w1 ⟨rfl, hb⟩
    have b := b.trans (hb.mono hsz)
    have X := X.next hb
    clear hb
    rw [← K0.out, E0.out]
    obtain ⟨x0, _⟩ := X.c1
    go_wp2
    go_ret
    exact ⟨by rw [szOf_lt (by omega)]; rfl, b⟩
  have E0 := Lib.hid (szOf_le (left := left) (n := m0) (by omega))
  have g0n : ¬ (left - (m0 : Int) < 0) := by omega
  go_enter Tryz.func22, Tryz.ntmps22
  go_wp2_with fail
  have b := (Below.refl w.heap.size w).alloc (Nat.le_refl _) (.cells #[.slice A0 (d).length c0] 26)
  have X := Bx.new (w := w) (c := #[.slice A0 (d).length c0]) (t := 26) rfl
  generalize w.alloc (.cells #[.slice A0 (d).length c0] 26) = w0 at b X ⊢
  have hsz := b.size
  refine (sz_CellS A0 c0 B d (left) _ (by omega) (by omega) (by omega) (r0.keep b hB)).mono ?_; rintro o w1 ⟨rfl, hb⟩
  have b := b.trans (hb.mono hsz)
  have X := X.next hb
  clear hb
  rw [← K0.out, E0.out]
  obtain ⟨x0, _⟩ := X.c1
  go_wp2
  go_ret
  exact ⟨ret_intG (by rw [szOf_le (by omega)] <;> omega), b⟩
set_option maxHeartbeats 1600000 in
set_option maxRecDepth 100000 in
theorem eq_Table (d : DTable) (B B' : Nat) (vs us : List Value) (w : World) (hB : B ≤ w.heap.size) (hB' : B' ≤ w.heap.size) (h : fTable.At w B d vs) (h' : fTable.At w B' d us) :
    Calls Tryz.prog 39 #[.agg vs.toArray, .agg us.toArray] w fun e w' => e = .returned (.bool true) ∧ Below w.heap.size w w' := by
  obtain ⟨A0, c0, rfl, r0⟩ := at_Table h
  obtain ⟨A0x, c0x, rfl, q0⟩ := at_Table h'
  clear h h'
  go_enter Tryz.func39, Tryz.ntmps39
  go_wp2_with fail
  have b := ((Below.refl w.heap.size w).alloc (Nat.le_refl _) (.cells #[.slice A0 (d).length c0] 37)).alloc (by simp) (.cells #[.slice A0x (d).length c0x] 37)
  have X := (Bx.new (w := w) (c := #[.slice A0 (d).length c0]) (t := 37) rfl).alloc (.cells #[.slice A0x (d).length c0x] 37)
  have Y := Bx.new (w := w.alloc (.cells #[.slice A0 (d).length c0] 37)) (b := w.heap.size + 1) (c := #[.slice A0x (d).length c0x]) (t := 37) (by simp)
  generalize (w.alloc (.cells #[.slice A0 (d).length c0] 37)).alloc (.cells #[.slice A0x (d).length c0x] 37) = w0 at b X Y ⊢
  have hsz := b.size
  refine (eq_CellS A0 A0x c0 c0x B B' d _ (by omega) (by omega) (r0.keep b hB) (q0.keep b hB')).mono ?_; rintro o w1 ⟨rfl, hb⟩
  have X := X.next hb
  have Y := Y.next hb
  have b := b.trans (hb.mono hsz)
  obtain ⟨x0, _⟩ := X.c1
  obtain ⟨y0, _⟩ := Y.c1
  clear hb
  go_wp2
  go_ret
  exact ⟨rfl, b⟩
set_option maxHeartbeats 1600000 in
set_option maxRecDepth 100000 in
theorem to_Table (d : DTable) (B : Nat) (vs : List Value) (w : World) (hs : fTable.cnt d ≤ 1048576) (hB : B ≤ w.heap.size) (h : fTable.At w B d vs) :
    Calls Tryz.prog 31 #[.agg vs.toArray] w fun e w' => ∃ us, e = .returned (.agg us.toArray) ∧ Below w.heap.size w w' ∧ fTable.Own w' w.heap.size w'.heap.size d us := by
  obtain ⟨A0, c0, rfl, r0⟩ := at_Table h
  rw [cnt_Table] at hs
  clear h
  go_enter Tryz.func31, Tryz.ntmps31
  go_wp2_with fail
  have b := (((Below.refl w.heap.size w).alloc (Nat.le_refl _) (.cells #[.slice A0 (d).length c0] 26)).alloc (by simp) (.cells #[.slice none 0 0] 37)).alloc (by simp; omega) (.cells #[.slice none 0 0] 37)
  have X := ((Bx.new (w := w) (c := #[.slice A0 (d).length c0]) (t := 26) rfl).alloc (.cells #[.slice none 0 0] 37)).alloc (.cells #[.slice none 0 0] 37)
  have Y := (Bx.new (w := w.alloc (.cells #[.slice A0 (d).length c0] 26)) (b := w.heap.size + 1) (c := #[.slice none 0 0]) (t := 37) (by simp)).alloc (.cells #[.slice none 0 0] 37)
  have Z := Bx.new (w := (w.alloc (.cells #[.slice A0 (d).length c0] 26)).alloc (.cells #[.slice none 0 0] 37)) (b := w.heap.size + 1 + 1) (c := #[.slice none 0 0]) (t := 37) (by simp)
  have hz : w.heap.size + 1 + 1 < (((w.alloc (.cells #[.slice A0 (d).length c0] 26)).alloc (.cells #[.slice none 0 0] 37)).alloc (.cells #[.slice none 0 0] 37)).heap.size := by simp
  generalize ((w.alloc (.cells #[.slice A0 (d).length c0] 26)).alloc (.cells #[.slice none 0 0] 37)).alloc (.cells #[.slice none 0 0] 37) = w0 at b X Y Z hz ⊢
  have hsz := b.size
  refine (to_CellS A0 c0 B d _ (by omega) (by omega) (r0.keep b hB)).mono ?_; rintro o w1 ⟨A0x, c0x, rfl, hb, o0⟩
  have o0 : (rowF fCell).Own _ _ _ d [.slice A0x (d).length c0x] := ⟨_, _, rfl, o0⟩
  have X := X.next hb
  have Y := Y.next hb
  have Z := Z.next hb
  have b := b.trans (hb.mono hsz)
  have hs0 := hb.size
  have hz : w.heap.size + 1 + 1 < w1.heap.size := Nat.lt_of_lt_of_le hz hb.size
  obtain ⟨x0, _⟩ := X.c1
  obtain ⟨z0, zf⟩ := Z.c1
  obtain ⟨y0, yf⟩ := Y.c1
  clear hb X Y Z
  have HO := Lib.hid (own_Table (lo := w.heap.size + 1 + 1 + 1) (B := w1.heap.size) (by omega) (by omega) o0 (Nat.le_refl _))
  clear o0
  go_wp2
  exact bodyPost_ret (v := .agg #[.slice A0x (d).length c0x]) (by simp [results, Tryz.results31, go_sem, y0]) rfl ⟨[.slice A0x (d).length c0x], rfl, (by repeat' (first | (with_reducible refine Below.setCell ?_ (by simp <;> omega) _) | (with_reducible refine Below.alloc ?_ (by simp <;> omega) _) | (with_reducible assumption) | (with_reducible exact Below.refl _ _))), fTable.own_more (fTable.own_same HO.out (.only (lo' := w.heap.size + 1) (B' := w.heap.size + 1 + 1 + 1) (by repeat' (first | (with_reducible refine Onlys.setCell ?_ (by simp) (by simp) _) | (with_reducible exact Onlys.refl _ _ _))) (.inr (Nat.le_refl _)))) (by omega) (by simp [World.setCell])⟩
end Go.Proofs.YtkpkjcmoldkmmaaGreat
