/- The laws' helpers over lists of programs and over tables. -/
import Derived.Test.YtkpkjcmoldkmmaaGc
namespace Go.Proofs.Ytkpkjcmoldkmmaa
open Go.RowKit

abbrev DLock := (List DHold) × (List DHold)
def fLock : Fm DLock := pairF (rowF fHold) ((rowF fHold))
theorem at_Lock {w : World} {B : Nat} {d : DLock} {vs : List Value} (h : fLock.At w B d vs) : ∃ (A0 : Option Addr) (c0 : Nat) (A1 : Option Addr) (c1 : Nat), vs = [.slice A0 (d.1).length c0, .slice A1 (d.2).length c1] ∧ RAt fHold w B A0 d.1 ∧ RAt fHold w B A1 d.2 := by
  obtain ⟨x0, y0, rfl, h0, h1⟩ := h
  obtain ⟨A0, c0, rfl, r0⟩ := h0
  obtain ⟨A1, c1, rfl, r1⟩ := h1
  exact ⟨A0, c0, A1, c1, rfl, r0, r1⟩
theorem cnt_Lock (d : DLock) : fLock.cnt d = (rowF fHold).cnt d.1 + (rowF fHold).cnt d.2 := by
  show (rowF fHold).cnt d.1 + ((rowF fHold).cnt d.2) = _
  omega
theorem n_Lock : fLock.n = 2 := rfl
theorem own_Lock {w : World} {lo B L0 H0 L1 H1 : Nat} {d : DLock} {v0 v1 : List Value} (q0 : lo ≤ L0) (_g0 : L0 ≤ H0) (h0 : (rowF fHold).Own w L0 H0 d.1 v0) (q1 : H0 ≤ L1) (_g1 : L1 ≤ H1) (h1 : (rowF fHold).Own w L1 H1 d.2 v1) (qB : H1 ≤ B) : fLock.Own w lo B d (v0 ++ (v1)) := ⟨v0, _, L0, H0, H0, B, rfl, by omega, h0, ((rowF fHold).own_more h1 (by omega) (by omega))⟩
theorem mk_Lock {w : World} {B : Nat} {d : DLock} {A0 A1 : Option Addr} {c0 c1 : Nat} (r0 : RAt fHold w B A0 d.1) (r1 : RAt fHold w B A1 d.2) : fLock.At w B d [.slice A0 (d.1).length c0, .slice A1 (d.2).length c1] := ⟨[.slice A0 (d.1).length c0], _, rfl, ⟨A0, c0, rfl, r0⟩, ⟨A1, c1, rfl, r1⟩⟩
abbrev DCell := Int × DWord × DLock
def fCell : Fm DCell := pairF intF (pairF fWord (fLock))
theorem at_Cell {w : World} {B : Nat} {d : DCell} {vs : List Value} (h : fCell.At w B d vs) : ∃ (A4 : Option Addr) (c4 : Nat) (A5 : Option Addr) (c5 : Nat), vs = [.int .i64 d.1, .int .i64 d.2.1.1, .int .i64 d.2.1.2.1, .bool d.2.1.2.2, .slice A4 (d.2.2.1).length c4, .slice A5 (d.2.2.2).length c5] ∧ RAt fHold w B A4 d.2.2.1 ∧ RAt fHold w B A5 d.2.2.2 := by
  obtain ⟨x0, y0, rfl, h0, x1, y1, rfl, h1, h2⟩ := h
  cases h0
  have e1 := at_Word h1
  subst e1
  obtain ⟨A4, c4, A5, c5, rfl, r4, r5⟩ := at_Lock h2
  exact ⟨A4, c4, A5, c5, rfl, r4, r5⟩
theorem cnt_Cell (d : DCell) : fCell.cnt d = fLock.cnt d.2.2 := by
  show intF.cnt d.1 + (fWord.cnt d.2.1 + (fLock.cnt d.2.2)) = _
  have z0 : intF.cnt d.1 = 0 := rfl
  have z1 : fWord.cnt d.2.1 = 0 := cnt_Word _
  omega
theorem n_Cell : fCell.n = 6 := rfl
theorem own_Cell {w : World} {lo B L2 H2 : Nat} {d : DCell} {v2 : List Value} (q2 : lo ≤ L2) (_g2 : L2 ≤ H2) (h2 : fLock.Own w L2 H2 d.2.2 v2) (qB : H2 ≤ B) : fCell.Own w lo B d ([.int .i64 d.1] ++ ([.int .i64 d.2.1.1, .int .i64 d.2.1.2.1, .bool d.2.1.2.2] ++ (v2))) := ⟨[.int .i64 d.1], _, lo, lo, lo, B, rfl, by omega, rfl, ⟨[.int .i64 d.2.1.1, .int .i64 d.2.1.2.1, .bool d.2.1.2.2], _, lo, lo, lo, B, rfl, by omega, (own_Word (Nat.le_refl _) d.2.1), (fLock.own_more h2 (by omega) (by omega))⟩⟩
theorem mk_Cell {w : World} {B : Nat} {d : DCell} {A4 A5 : Option Addr} {c4 c5 : Nat} (r4 : RAt fHold w B A4 d.2.2.1) (r5 : RAt fHold w B A5 d.2.2.2) : fCell.At w B d [.int .i64 d.1, .int .i64 d.2.1.1, .int .i64 d.2.1.2.1, .bool d.2.1.2.2, .slice A4 (d.2.2.1).length c4, .slice A5 (d.2.2.2).length c5] := ⟨[.int .i64 d.1], _, rfl, rfl, ⟨[.int .i64 d.2.1.1, .int .i64 d.2.1.2.1, .bool d.2.1.2.2], _, rfl, (mk_Word), (mk_Lock r4 r5)⟩⟩
abbrev DTable := (List DCell)
def fTable : Fm DTable := (rowF fCell)
theorem at_Table {w : World} {B : Nat} {d : DTable} {vs : List Value} (h : fTable.At w B d vs) : ∃ (A0 : Option Addr) (c0 : Nat), vs = [.slice A0 (d).length c0] ∧ RAt fCell w B A0 d := by
  have h0 := h
  obtain ⟨A0, c0, rfl, r0⟩ := h0
  exact ⟨A0, c0, rfl, r0⟩
theorem cnt_Table (d : DTable) : fTable.cnt d = (rowF fCell).cnt d := by
  rfl
theorem n_Table : fTable.n = 1 := rfl
theorem own_Table {w : World} {lo B L0 H0 : Nat} {d : DTable} {v0 : List Value} (q0 : lo ≤ L0) (_g0 : L0 ≤ H0) (h0 : (rowF fCell).Own w L0 H0 d v0) (qB : H0 ≤ B) : fTable.Own w lo B d (v0) := ((rowF fCell).own_more h0 (by omega) (by omega))
theorem mk_Table {w : World} {B : Nat} {d : DTable} {A0 : Option Addr} {c0 : Nat} (r0 : RAt fCell w B A0 d) : fTable.At w B d [.slice A0 (d).length c0] := ⟨A0, c0, rfl, r0⟩
set_option maxHeartbeats 1600000 in
set_option maxRecDepth 100000 in
theorem sz_ActSS (A : Option Addr) (c B : Nat) (l : List (List DAct)) (left : Int) (w : World) (h0 : 0 ≤ left) (h1 : left ≤ 1048576) (hB : B ≤ w.heap.size) (h : RAt (rowF fAct) w B A l) :
    Calls Try.prog 43 #[.slice A l.length c, .int .i64 left] w fun e w' => e = .returned (.int .i64 (szOf left ((rowF (rowF fAct)).cnt l))) ∧ Below w.heap.size w w' := by
  have hmx := h.1
  unfold maxLen at hmx
  rw [row_cnt]
  by_cases hl : left < l.length
  · have f1 : left - (l.length : Int) < 0 := by omega
    go_enter Try.func43, Try.ntmps43
    go_wp2
    go_ret
    exact ⟨by rw [szOf_lt (by omega)]; rfl, Below.refl _ _⟩
  · have f1 : ¬ (left - (l.length : Int) < 0) := by omega
    go_enter Try.func43, Try.ntmps43
    go_wp2
    go_loopw [1, 5] (fun s i wr => ∃ k : Nat, k ≤ l.length ∧ i = .int .i64 k ∧ ((l.length + psum (rowF fAct) l k : Nat) : Int) ≤ left ∧ s = .int .i64 (left - (l.length : Int) - (psum (rowF fAct) l k : Int)) ∧ Below w.heap.size w wr) (fun _ i _ => l.length - (intOf i).toNat)
    case atStart => exact ⟨0, Nat.zero_le _, rfl, by rw [psum_zero]; omega, by simp [psum_zero], Below.refl _ _⟩
    case round =>
      obtain ⟨k, hk, rfl, hle, rfl, hb⟩ := hrel
      by_cases hkn : k < l.length
      · obtain ⟨b, off, rfl, hbB, hc⟩ := h.2 (by omega)
        have hkz : (k : Int) < l.length := by omega
        have hget : l[k]? = some l[k] := List.getElem?_eq_getElem hkn
        obtain ⟨v, hv0, hat0⟩ := hc k _ hget
        have hsz := hb.size
        have hat := (rowF fAct).at_same hat0 (.of hb hB)
        have hv := hv0.below hb (show b < w.heap.size by omega)
        rw [show (rowF fAct).n = 1 from rfl] at hv
        have hps := psum_succ (F := (rowF fAct)) hget
        have hpm := psum_mono (rowF fAct) l (show k + 1 ≤ l.length by omega)
        clear hv0 hat0
        generalize l[k] = d at hget hat hps
        obtain ⟨A0, c0, rfl, q0⟩ := hat
        have a0 := hv.c1
        rw [Nat.mul_one] at a0
        clear hc h hv hget
        have HC := Lib.hid (show (rowF fAct).cnt d = psum (rowF fAct) l (k + 1) - psum (rowF fAct) l k by first | omega | (rw [hps]; omega))
        generalize hx : psum (rowF fAct) l k = x at hle hps HC ⊢
        generalize hy : psum (rowF fAct) l (k + 1) = y at hps hpm HC
        generalize hn : psum (rowF fAct) l l.length = z at hpm ⊢
        generalize hL : l.length = n at *
        by_cases hok : ((n + y : Nat) : Int) ≤ left
        · have HE := Lib.hid (show szOf (left - (n : Int) - (x : Int)) ((rowF fAct).cnt d) = left - (n : Int) - (y : Int) by rw [HC.out, szOf_le (by omega)]; omega)
          have hge : ¬ (left - (n : Int) - (y : Int) < 0) := by omega
          clear hps hpm
          go_wp2_with fail
          refine (sz_ActS A0 c0 d _ _ q0.1 (by omega) (by omega)).mono ?_; rintro o w1 ⟨rfl, rfl⟩
          rw [HE.out]
          clear a0
          go_wp2
          exact ⟨⟨k + 1, by omega, by go_num, by rw [hy]; exact hok, by rw [hy], hb⟩, by simp [intOf]; omega⟩
        · have HE := Lib.hid (show szOf (left - (n : Int) - (x : Int)) ((rowF fAct).cnt d) = -1 by rw [HC.out, szOf_lt (by omega)])
          clear hps
          go_wp2_with fail
          refine (sz_ActS A0 c0 d _ _ q0.1 (by omega) (by omega)).mono ?_; rintro o w1 ⟨rfl, rfl⟩
          rw [HE.out]
          clear a0
          go_wp2
          go_ret
          exact ⟨by rw [szOf_lt (by rw [hL, hn]; omega)]; rfl, hb⟩
      · obtain rfl : k = l.length := by omega
        go_wp2
        go_ret
        exact ⟨ret_intG (by rw [szOf_le (by omega)] <;> omega), hb⟩
theorem info_ActS : (Try.prog.info? 63).map (fun i => (i.zero, i.size, i.bytes)) = some (some (.slice none 0 0), 1, 24) := by kernel_rfl
theorem make_ActS (n : Nat) (h : n ≤ 1048576) (w : World) :
    (Instr.makeSlice 73 (.int .i64 (n : Int)) (.int .i64 (n : Int))).run Try.prog w = .ok (.slice (some ⟨w.heap.size, 0, none⟩) n n) (w.alloc (.cells (madeCells #[.slice none 0 0] n) 63)) := by
  obtain ⟨i, hi, hzz⟩ := Option.map_eq_some_iff.1 info_ActS
  simp only [Prod.mk.injEq] at hzz
  obtain ⟨hz, hs, hb⟩ := hzz
  have := run_make (P := Try.prog) w 73 63 i _ Try.underlying73 hi hz .i64 .i64 n n (by omega) (Int.le_refl _) (by rw [hb]; omega) (by omega)
  simpa [hs, Value.cells] using this
set_option maxHeartbeats 1600000 in
set_option maxRecDepth 100000 in
theorem to_ActSS (A : Option Addr) (c B : Nat) (l : List (List DAct)) (w : World) (hs : (rowF (rowF fAct)).cnt l ≤ 1048576) (hB : B ≤ w.heap.size) (h : RAt (rowF fAct) w B A l) :
    Calls Try.prog 49 #[.slice A l.length c] w fun e w' => ∃ G c', e = .returned (.slice G l.length c') ∧ Below w.heap.size w w' ∧ ROwn (rowF fAct) w' w.heap.size w'.heap.size G l := by
  have hlen : l.length ≤ 1048576 := by rw [row_cnt] at hs; omega
  have hmx : l.length ≤ maxLen := h.1
  have hmk := make_ActS l.length hlen
  go_enter Try.func49, Try.ntmps49
  go_wp2
  clear hmk
  go_loopw [4] (fun i wr => ∃ k : Nat, k ≤ l.length ∧ i = .int .i64 k ∧ Below w.heap.size w wr ∧ ∃ vs L H, Laid (rowF fAct) w.heap.size [.slice none 0 0] l wr k vs L H) (fun i _ => l.length - (intOf i).toNat)
  case atStart => exact ⟨0, Nat.zero_le _, rfl, (Below.refl _ _).alloc (Nat.le_refl _) _, _, _, _, made_laid (F := (rowF fAct)) w (z := [.slice none 0 0]) rfl (by decide) ((Nat.mul_one _).symm)⟩
  case round =>
    obtain ⟨k, hk, rfl, hb, vs, L, H, hld⟩ := hrel
    by_cases hkn : k < l.length
    · obtain ⟨b, off, rfl, hbB, hc⟩ := h.2 (by omega)
      have hkz : (k : Int) < l.length := by omega
      have hget : l[k]? = some l[k] := List.getElem?_eq_getElem hkn
      obtain ⟨v, hv0, hat0⟩ := hc k _ hget
      have hcn := cnt_at (F := (rowF fAct)) hget
      have hsz := hb.size
      have hat := (rowF fAct).at_same hat0 (.of hb hB)
      have hv := hv0.below hb (show b < w.heap.size by omega)
      rw [show (rowF fAct).n = 1 from rfl] at hv
      clear hv0 hat0
      generalize l[k] = d at hget hat hcn
      obtain ⟨A0, c0, rfl, r0⟩ := hat
      have a0 := hv.c1
      rw [Nat.mul_one] at a0
      clear hc h hv
      go_wp2_with fail
      refine (to_ActS A0 c0 B d _ (by omega) (by omega) r0).mono ?_; rintro o w1 ⟨G, c2, rfl, hb1, ho⟩
      have hs1 := hb1.size
      have hld1 := hld.next hb1
      have hzr := hld1.zero hkn
      rw [show (rowF fAct).n = 1 from rfl] at hzr
      have z0 := hzr.c1
      rw [Nat.mul_one] at z0
      have r0 := hld1.free
      have HB := Lib.hid ((hb.trans (hb1.mono hsz)).setCell (p := ⟨w.heap.size, k, none⟩) (Nat.le_refl _) (.slice G d.length c2))
      have hl1 := hld1.step hkn hget (v := [.slice G d.length c2]) (s := wr.heap.size) rfl rfl hld.lt (fun j hj => (hld.own j _ hj (List.getElem?_eq_getElem (by omega))).2.1) (⟨G, c2, rfl, ho⟩ : (rowF fAct).Own w1 wr.heap.size w1.heap.size d [.slice G d.length c2])
      rw [show (rowF fAct).n = 1 from rfl, Nat.mul_one] at hl1
      have HL := Lib.hid hl1
      clear hld hld1 hzr hb hb1 hl1 ho a0
      go_wp2
      exact ⟨⟨k + 1, by omega, by go_num, HB.out, _, _, _, HL.out⟩, by simp [intOf]; omega⟩
    · obtain rfl : k = l.length := by omega
      have HO := Lib.hid (hld.done hmx (Nat.le_refl _) (Nat.le_refl _))
      clear hld
      go_wp2
      go_ret
      exact ⟨_, _, rfl, hb, HO.out⟩
set_option maxHeartbeats 1600000 in
set_option maxRecDepth 100000 in
theorem eq_ActSS (A A' : Option Addr) (c c' B B' : Nat) (l : List (List DAct)) (w : World) (hB : B ≤ w.heap.size) (hB' : B' ≤ w.heap.size) (h : RAt (rowF fAct) w B A l) (h' : RAt (rowF fAct) w B' A' l) :
    Calls Try.prog 57 #[.slice A l.length c, .slice A' l.length c'] w fun e w' => e = .returned (.bool true) ∧ Below w.heap.size w w' := by
  have hmx := h.1
  unfold maxLen at hmx
  go_enter Try.func57, Try.ntmps57
  go_wp2
  go_loopw [5] (fun i wr => ∃ k : Nat, k ≤ l.length ∧ i = .int .i64 k ∧ Below w.heap.size w wr) (fun i _ => l.length - (intOf i).toNat)
  case atStart => exact ⟨0, Nat.zero_le _, rfl, Below.refl _ _⟩
  case round =>
    obtain ⟨k, hk, rfl, hb⟩ := hrel
    by_cases hkn : k < l.length
    · obtain ⟨b, off, rfl, hbB, hc⟩ := h.2 (by omega)
      obtain ⟨b', off', rfl, hbB', hc'⟩ := h'.2 (by omega)
      have hkz : (k : Int) < l.length := by omega
      have hget : l[k]? = some l[k] := List.getElem?_eq_getElem hkn
      obtain ⟨v, hv0, hat0⟩ := hc k _ hget
      obtain ⟨v', hv0', hat0'⟩ := hc' k _ hget
      have hsz := hb.size
      have hat := (rowF fAct).at_same hat0 (.of hb hB)
      have hat' := (rowF fAct).at_same hat0' (.of hb hB')
      have hv := hv0.below hb (show b < w.heap.size by omega)
      have hv' := hv0'.below hb (show b' < w.heap.size by omega)
      rw [show (rowF fAct).n = 1 from rfl] at hv hv'
      clear hv0 hat0 hv0' hat0'
      generalize l[k] = d at hget hat hat'
      obtain ⟨A0, c0, rfl, q0⟩ := hat
      obtain ⟨A0x, c0x, rfl, q0x⟩ := hat'
      have a0 := hv.c1
      have b0 := hv'.c1
      rw [Nat.mul_one] at a0 b0
      clear hc hc' h h' hv hv' hget
      go_wp2_with fail
      go_still_tail 8, (by kernel_rfl)
      change wpList _ _ _ _ _ wr.drew
      have hb2 := hb.drew
      clear a0 b0
      have q0 := q0.keep (B' := wr.heap.size) ((Below.refl _ _).drew) (by omega)
      have q0x := q0x.keep (B' := wr.heap.size) ((Below.refl _ _).drew) (by omega)
      generalize wr.drew = w2 at hb2 q0 q0x ⊢
      have hs2 := hb2.size
      go_wp2_with fail
      refine (eq_ActS A0 A0x c0 c0x B B' d _ (by omega) (by omega) q0 q0x).mono ?_; rintro o w3 ⟨rfl, hb3⟩
      go_wp2
      exact ⟨⟨k + 1, by omega, by go_num, hb2.trans (hb3.mono hs2)⟩, by simp [intOf]; omega⟩
    · obtain rfl : k = l.length := by omega
      go_wp2
      go_ret
      exact ⟨rfl, hb⟩
set_option maxHeartbeats 1600000 in
set_option maxRecDepth 100000 in
theorem eq_Lock (d : DLock) (B B' : Nat) (vs us : List Value) (w : World) (hB : B ≤ w.heap.size) (hB' : B' ≤ w.heap.size) (h : fLock.At w B d vs) (h' : fLock.At w B' d us) :
    Calls Try.prog 138 #[.agg vs.toArray, .agg us.toArray] w fun e w' => e = .returned (.bool true) ∧ Below w.heap.size w w' := by
  obtain ⟨A0, c0, A1, c1, rfl, r0, r1⟩ := at_Lock h
  obtain ⟨A0x, c0x, A1x, c1x, rfl, q0, q1⟩ := at_Lock h'
  clear h h'
  go_enter Try.func138, Try.ntmps138
  go_wp2_with fail
  have b := ((Below.refl w.heap.size w).alloc (Nat.le_refl _) (.cells #[.slice A0 (d.1).length c0, .slice A1 (d.2).length c1] 153)).alloc (by simp) (.cells #[.slice A0x (d.1).length c0x, .slice A1x (d.2).length c1x] 153)
  have X := (Bx.new (w := w) (c := #[.slice A0 (d.1).length c0, .slice A1 (d.2).length c1]) (t := 153) rfl).alloc (.cells #[.slice A0x (d.1).length c0x, .slice A1x (d.2).length c1x] 153)
  have Y := Bx.new (w := w.alloc (.cells #[.slice A0 (d.1).length c0, .slice A1 (d.2).length c1] 153)) (b := w.heap.size + 1) (c := #[.slice A0x (d.1).length c0x, .slice A1x (d.2).length c1x]) (t := 153) (by simp)
  generalize (w.alloc (.cells #[.slice A0 (d.1).length c0, .slice A1 (d.2).length c1] 153)).alloc (.cells #[.slice A0x (d.1).length c0x, .slice A1x (d.2).length c1x] 153) = w0 at b X Y ⊢
  have hsz := b.size
  refine (eq_HoldS A0 A0x c0 c0x B B' d.1 _ (by omega) (by omega) (r0.keep b hB) (q0.keep b hB')).mono ?_; rintro o w1 ⟨rfl, hb⟩
  have X := X.next hb
  have Y := Y.next hb
  have b := b.trans (hb.mono hsz)
  obtain ⟨⟨x0, x1⟩, _⟩ := X.c2
  obtain ⟨⟨y0, y1⟩, _⟩ := Y.c2
  clear hb
  go_wp2_with fail
  clear x0 x1 y0 y1
  have hsz := b.size
  refine (eq_HoldS A1 A1x c1 c1x B B' d.2 _ (by omega) (by omega) (r1.keep b hB) (q1.keep b hB')).mono ?_; rintro o w2 ⟨rfl, hb⟩
  have X := X.next hb
  have Y := Y.next hb
  have b := b.trans (hb.mono hsz)
  obtain ⟨⟨x0, x1⟩, _⟩ := X.c2
  obtain ⟨⟨y0, y1⟩, _⟩ := Y.c2
  clear hb
  go_wp2
  go_ret
  exact ⟨rfl, b⟩
set_option maxHeartbeats 1600000 in
set_option maxRecDepth 100000 in
theorem eq_Cell (d : DCell) (B B' : Nat) (vs us : List Value) (w : World) (hB : B ≤ w.heap.size) (hB' : B' ≤ w.heap.size) (h : fCell.At w B d vs) (h' : fCell.At w B' d us) :
    Calls Try.prog 125 #[.agg vs.toArray, .agg us.toArray] w fun e w' => e = .returned (.bool true) ∧ Below w.heap.size w w' := by
  obtain ⟨A4, c4, A5, c5, rfl, r4, r5⟩ := at_Cell h
  obtain ⟨A4x, c4x, A5x, c5x, rfl, q4, q5⟩ := at_Cell h'
  clear h h'
  go_enter Try.func125, Try.ntmps125
  go_wp2_with fail
  have b := ((Below.refl w.heap.size w).alloc (Nat.le_refl _) (.cells #[.int .i64 d.1, .int .i64 d.2.1.1, .int .i64 d.2.1.2.1, .bool d.2.1.2.2, .slice A4 (d.2.2.1).length c4, .slice A5 (d.2.2.2).length c5] 155)).alloc (by simp) (.cells #[.int .i64 d.1, .int .i64 d.2.1.1, .int .i64 d.2.1.2.1, .bool d.2.1.2.2, .slice A4x (d.2.2.1).length c4x, .slice A5x (d.2.2.2).length c5x] 155)
  have X := (Bx.new (w := w) (c := #[.int .i64 d.1, .int .i64 d.2.1.1, .int .i64 d.2.1.2.1, .bool d.2.1.2.2, .slice A4 (d.2.2.1).length c4, .slice A5 (d.2.2.2).length c5]) (t := 155) rfl).alloc (.cells #[.int .i64 d.1, .int .i64 d.2.1.1, .int .i64 d.2.1.2.1, .bool d.2.1.2.2, .slice A4x (d.2.2.1).length c4x, .slice A5x (d.2.2.2).length c5x] 155)
  have Y := Bx.new (w := w.alloc (.cells #[.int .i64 d.1, .int .i64 d.2.1.1, .int .i64 d.2.1.2.1, .bool d.2.1.2.2, .slice A4 (d.2.2.1).length c4, .slice A5 (d.2.2.2).length c5] 155)) (b := w.heap.size + 1) (c := #[.int .i64 d.1, .int .i64 d.2.1.1, .int .i64 d.2.1.2.1, .bool d.2.1.2.2, .slice A4x (d.2.2.1).length c4x, .slice A5x (d.2.2.2).length c5x]) (t := 155) (by simp)
  generalize (w.alloc (.cells #[.int .i64 d.1, .int .i64 d.2.1.1, .int .i64 d.2.1.2.1, .bool d.2.1.2.2, .slice A4 (d.2.2.1).length c4, .slice A5 (d.2.2.2).length c5] 155)).alloc (.cells #[.int .i64 d.1, .int .i64 d.2.1.1, .int .i64 d.2.1.2.1, .bool d.2.1.2.2, .slice A4x (d.2.2.1).length c4x, .slice A5x (d.2.2.2).length c5x] 155) = w0 at b X Y ⊢
  have hsz := b.size
  refine (eq_Word d.2.1 _).mono ?_; rintro o w1 ⟨rfl, hb⟩
  have X := X.next hb
  have Y := Y.next hb
  have b := b.trans (hb.mono hsz)
  obtain ⟨⟨x0, x1, x2, x3, x4, x5⟩, _⟩ := X.c6
  obtain ⟨⟨y0, y1, y2, y3, y4, y5⟩, _⟩ := Y.c6
  clear hb
  go_wp2_with fail
  clear x0 x1 x2 x3 x4 x5 y0 y1 y2 y3 y4 y5
  have hsz := b.size
  refine (eq_Lock d.2.2 B B' _ _ _ (by omega) (by omega) (mk_Lock (r4.keep b hB) (r5.keep b hB)) (mk_Lock (q4.keep b hB') (q5.keep b hB'))).mono ?_; rintro o w2 ⟨rfl, hb⟩
  have X := X.next hb
  have Y := Y.next hb
  have b := b.trans (hb.mono hsz)
  obtain ⟨⟨x0, x1, x2, x3, x4, x5⟩, _⟩ := X.c6
  obtain ⟨⟨y0, y1, y2, y3, y4, y5⟩, _⟩ := Y.c6
  clear hb
  go_wp2
  go_ret
  exact ⟨rfl, b⟩
theorem info_Cell : (Try.prog.info? 155).map (fun i => (i.zero, i.size, i.bytes)) = some (some (.agg #[.int .i64 0, .int .i64 0, .int .i64 0, .bool false, .slice none 0 0, .slice none 0 0]), 6, 80) := by kernel_rfl
theorem make_Cell (n : Nat) (h : n ≤ 1048576) (w : World) :
    (Instr.makeSlice 27 (.int .i64 (n : Int)) (.int .i64 (n : Int))).run Try.prog w = .ok (.slice (some ⟨w.heap.size, 0, none⟩) n n) (w.alloc (.cells (madeCells #[.int .i64 0, .int .i64 0, .int .i64 0, .bool false, .slice none 0 0, .slice none 0 0] (n * 6)) 155)) := by
  obtain ⟨i, hi, hzz⟩ := Option.map_eq_some_iff.1 info_Cell
  simp only [Prod.mk.injEq] at hzz
  obtain ⟨hz, hs, hb⟩ := hzz
  have := run_make (P := Try.prog) w 27 155 i _ Try.underlying27 hi hz .i64 .i64 n n (by omega) (Int.le_refl _) (by rw [hb]; omega) (by omega)
  simpa [hs, Value.cells] using this
set_option maxHeartbeats 1600000 in
set_option maxRecDepth 100000 in
theorem eq_CellS (A A' : Option Addr) (c c' B B' : Nat) (l : List DCell) (w : World) (hB : B ≤ w.heap.size) (hB' : B' ≤ w.heap.size) (h : RAt fCell w B A l) (h' : RAt fCell w B' A' l) :
    Calls Try.prog 93 #[.slice A l.length c, .slice A' l.length c'] w fun e w' => e = .returned (.bool true) ∧ Below w.heap.size w w' := by
  have hmx := h.1
  unfold maxLen at hmx
  go_enter Try.func93, Try.ntmps93
  go_wp2
  go_loopw [5] (fun i wr => ∃ k : Nat, k ≤ l.length ∧ i = .int .i64 k ∧ Below w.heap.size w wr) (fun i _ => l.length - (intOf i).toNat)
  case atStart => exact ⟨0, Nat.zero_le _, rfl, Below.refl _ _⟩
  case round =>
    obtain ⟨k, hk, rfl, hb⟩ := hrel
    by_cases hkn : k < l.length
    · obtain ⟨b, off, rfl, hbB, hc⟩ := h.2 (by omega)
      obtain ⟨b', off', rfl, hbB', hc'⟩ := h'.2 (by omega)
      have hkz : (k : Int) < l.length := by omega
      have hget : l[k]? = some l[k] := List.getElem?_eq_getElem hkn
      obtain ⟨v, hv0, hat0⟩ := hc k _ hget
      obtain ⟨v', hv0', hat0'⟩ := hc' k _ hget
      have hsz := hb.size
      have hat := fCell.at_same hat0 (.of hb hB)
      have hat' := fCell.at_same hat0' (.of hb hB')
      have hv := hv0.below hb (show b < w.heap.size by omega)
      have hv' := hv0'.below hb (show b' < w.heap.size by omega)
      rw [show fCell.n = 6 from rfl] at hv hv'
      clear hv0 hat0 hv0' hat0'
      have hsz' : B ≤ wr.heap.size := by omega
      have hsz'' : B' ≤ wr.heap.size := by omega
      generalize l[k] = d at hget hat hat'
      have HAT := Lib.hid (fCell.at_same hat (.of (Below.refl _ _).drew hsz'))
      have HATX := Lib.hid (fCell.at_same hat' (.of (Below.refl _ _).drew hsz''))
      obtain ⟨A4, c4, A5, c5, rfl, _, _⟩ := at_Cell hat
      obtain ⟨A4x, c4x, A5x, c5x, rfl, _, _⟩ := at_Cell hat'
      obtain ⟨a0, a1, a2, a3, a4, a5⟩ := hv.c6
      obtain ⟨b0, b1, b2, b3, b4, b5⟩ := hv'.c6
      clear hc hc' h h' hv hv' hget
      go_wp2_with fail
      go_still_tail 8, (by kernel_rfl)
      change wpList _ _ _ _ _ wr.drew
      have hb2 := hb.drew
      clear a0 b0 a1 b1 a2 b2 a3 b3 a4 b4 a5 b5
      generalize wr.drew = w2 at hb2 HAT HATX ⊢
      have hs2 := hb2.size
      go_wp2_with fail
      refine (eq_Cell d B B' _ _ _ (by omega) (by omega) HAT.out HATX.out).mono ?_; rintro o w3 ⟨rfl, hb3⟩
      go_wp2
      exact ⟨⟨k + 1, by omega, by go_num, hb2.trans (hb3.mono hs2)⟩, by simp [intOf]; omega⟩
    · obtain rfl : k = l.length := by omega
      go_wp2
      go_ret
      exact ⟨rfl, hb⟩
set_option maxHeartbeats 1600000 in
set_option maxRecDepth 100000 in
theorem eq_Table (d : DTable) (B B' : Nat) (vs us : List Value) (w : World) (hB : B ≤ w.heap.size) (hB' : B' ≤ w.heap.size) (h : fTable.At w B d vs) (h' : fTable.At w B' d us) :
    Calls Try.prog 55 #[.agg vs.toArray, .agg us.toArray] w fun e w' => e = .returned (.bool true) ∧ Below w.heap.size w w' := by
  obtain ⟨A0, c0, rfl, r0⟩ := at_Table h
  obtain ⟨A0x, c0x, rfl, q0⟩ := at_Table h'
  clear h h'
  go_enter Try.func55, Try.ntmps55
  go_wp2_with fail
  have b := ((Below.refl w.heap.size w).alloc (Nat.le_refl _) (.cells #[.slice A0 (d).length c0] 29)).alloc (by simp) (.cells #[.slice A0x (d).length c0x] 29)
  have X := (Bx.new (w := w) (c := #[.slice A0 (d).length c0]) (t := 29) rfl).alloc (.cells #[.slice A0x (d).length c0x] 29)
  have Y := Bx.new (w := w.alloc (.cells #[.slice A0 (d).length c0] 29)) (b := w.heap.size + 1) (c := #[.slice A0x (d).length c0x]) (t := 29) (by simp)
  generalize (w.alloc (.cells #[.slice A0 (d).length c0] 29)).alloc (.cells #[.slice A0x (d).length c0x] 29) = w0 at b X Y ⊢
  have hsz := b.size
  refine (eq_CellS A0 A0x c0 c0x B B' d _ (by omega) (by omega) (r0.keep b hB) (q0.keep b hB')).mono ?_; rintro o w1 ⟨rfl, hb⟩
  have X := X.next hb
  have Y := Y.next hb
  have b := b.trans (hb.mono hsz)
  obtain ⟨x0, _⟩ := X.c1
  obtain ⟨y0, _⟩ := Y.c1
  clear hb
  go_wp2
  go_ret
  exact ⟨rfl, b⟩
end Go.Proofs.Ytkpkjcmoldkmmaa
