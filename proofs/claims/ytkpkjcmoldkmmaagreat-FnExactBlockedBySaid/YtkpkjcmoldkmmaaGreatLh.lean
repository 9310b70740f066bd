/- Contracts of the laws' functions over holds and locks: toHoldS, szLock, toLock, eqHoldS, eqLock, markLock, heldLock. -/
import Derived.Test.YtkpkjcmoldkmmaaGreatLm
namespace Go.Proofs.YtkpkjcmoldkmmaaGreat
open Go.RowKit

theorem hT_take (l : HL) (k i : Nat) : hT (l.take k) i = if i < k then hT l i else 0 := by
  simp only [hT, List.getD_eq_getElem?_getD, List.getElem?_take]
  split <;> simp
theorem hW_take (l : HL) (k i : Nat) : hW (l.take k) i = if i < k then hW l i else false := by
  simp only [hW, List.getD_eq_getElem?_getD, List.getElem?_take]
  split <;> simp
/-- what cell j of a row of holds is -/
def hval (l : HL) (j : Nat) : Value := if j % 2 = 0 then .int .i64 (hT l (j / 2)) else .bool (hW l (j / 2))
theorem hval0 (l : HL) (k : Nat) : hval l (k * 2) = .int .i64 (hT l k) := by
  unfold hval; rw [if_pos (by omega), show k * 2 / 2 = k by omega]
theorem hval1 (l : HL) (k : Nat) : hval l (k * 2 + 1) = .bool (hW l k) := by
  unfold hval; rw [if_neg (by omega), show (k * 2 + 1) / 2 = k by omega]
theorem hval_step (l : HL) (k j : Nat) : (if j = k * 2 + 1 then Value.bool (hW l k) else if j = k * 2 then .int .i64 (hT l k) else hval (l.take k) j) = hval (l.take (k + 1)) j := by
  unfold hval
  simp only [hT_take, hW_take]
  by_cases e1 : j = k * 2 + 1
  · subst e1; rw [if_pos rfl, if_neg (by omega), if_pos (by omega), show (k * 2 + 1) / 2 = k by omega]
  rw [if_neg e1]
  by_cases e0 : j = k * 2
  · subst e0; rw [if_pos rfl, if_pos (by omega), if_pos (by omega), show (k * 2) / 2 = k by omega]
  rw [if_neg e0]
  by_cases hlt : j / 2 < k
  · have h1 : j / 2 < k + 1 := by omega
    simp [hlt, h1]
  · have h1 : ¬ j / 2 < k + 1 := by omega
    simp [hlt, h1]

theorem toHold_any (t : Int) (b : Bool) (w : World) :
    Calls Tryz.prog 220 #[.agg #[.int .i64 t, .bool b]] w fun e w' => e = .returned (.agg #[.int .i64 t, .bool b]) ∧ Below w.heap.size w w' := by
  go_enter Tryz.func220, Tryz.ntmps220
  go_wp2
  exact bodyPost_ret (v := .agg #[.int .i64 t, .bool b]) (by simp [results, Tryz.results220, go_sem]) rfl ⟨rfl, (((Below.refl _ _).alloc (Nat.le_refl _) _).alloc (by simp) _).alloc (by simp; omega) _⟩

theorem infoHold : (Tryz.prog.info? 144).map (fun i => (i.zero, i.size, i.bytes)) = some (some (.agg #[.int .i64 0, .bool false]), 2, 16) := by kernel_rfl

theorem run_make_holds (n : Nat) (h : n ≤ 1048576) (w : World) :
    (Instr.makeSlice 63 (.int .i64 (n : Int)) (.int .i64 (n : Int))).run Tryz.prog w = .ok (.slice (some ⟨w.heap.size, 0, none⟩) n n) (w.alloc (.cells (madeCells #[.int .i64 0, .bool false] (n * 2)) 144)) := by
  obtain ⟨i, hi, hzz⟩ := Option.map_eq_some_iff.1 infoHold
  simp only [Prod.mk.injEq] at hzz
  obtain ⟨hz, hs, hb⟩ := hzz
  have := run_make (P := Tryz.prog) w 63 144 i _ Tryz.underlying63 hi hz .i64 .i64 n n (by omega) (Int.le_refl _) (by rw [hb]; omega) (by omega)
  simpa [hs, Value.cells] using this

theorem made_holds (w : World) (n t : Nat) : (w.alloc (.cells (madeCells #[.int .i64 0, .bool false] (n * 2)) t)).rowIs w.heap.size t (n * 2) (hval []) :=
  ⟨_, Go.Deep.blk_alloc_new _ _, size_madeCells _ _, fun i hi => by
    have h3 : i % 2 = 0 ∨ i % 2 = 1 := by omega
    simp only [madeCells, Array.getElem?_map, Array.getElem?_range, hi, if_true, Option.map_some]
    rcases h3 with h | h <;> simp [h, hval, hT, hW]⟩

set_option maxHeartbeats 400000 in
theorem toHoldS_any (A : Option Addr) (cap : Nat) (l : HL) (w : World) (hn : l.length ≤ 1048576) (hr : HAt w w.heap.size A l) :
    Calls Tryz.prog 202 #[.slice A l.length cap] w fun e w' => ∃ g, e = .returned (.slice (some ⟨g, 0, none⟩) l.length l.length) ∧ Below w.heap.size w w' ∧ HOwn w' w.heap.size w'.heap.size (some ⟨g, 0, none⟩) l := by
  have hmk := run_make_holds l.length hn
  generalize hL : l.length = n at hn hmk ⊢
  have HL := Lib.hid hL
  clear hL
  go_enter Tryz.func202, Tryz.ntmps202
  go_wp2
  clear hmk
  go_loopw [4] (fun i wr => ∃ k : Nat, k ≤ n ∧ i = .int .i64 k ∧ Below w.heap.size w wr ∧ wr.rowIs w.heap.size 144 (n * 2) (hval (l.take k))) (fun i _ => n - (intOf i).toNat)
  case atStart => exact ⟨0, Nat.zero_le _, rfl, (Below.refl _ _).alloc (Nat.le_refl _) _, made_holds w n _⟩
  case round =>
    obtain ⟨k, hk, rfl, hb, hrow⟩ := hrel
    by_cases hkn : k < n
    · have hlen := HL.out
      obtain ⟨b, off, rfl, hB, hc⟩ := hr (by omega)
      have c0 : wr.cell? ⟨b, off + k * 2, none⟩ = some (.int .i64 (hT l k)) := (hb.cell (p := ⟨b, off + k * 2, none⟩) hB).trans (hc k (by omega)).1
      have c1 : wr.cell? ⟨b, off + k * 2 + 1, none⟩ = some (.bool (hW l k)) := (hb.cell (p := ⟨b, off + k * 2 + 1, none⟩) hB).trans (hc k (by omega)).2
      have hkz : (k : Int) < n := by omega
      clear hc hr hlen
      go_wp2_with fail
      refine (toHold_any _ _ _).mono ?_; rintro e w1 ⟨rfl, hb1⟩
      have hrow1 := rowIs_below hrow hb1 hrow.lt
      have hg := hrow.lt
      have s0 : w1.cell? ⟨w.heap.size, k * 2, none⟩ = some (.int .i64 0) := by rw [hrow1.cell (by omega), hval0, hT_take, if_neg (by omega)]
      have s1 : w1.cell? ⟨w.heap.size, k * 2 + 1, none⟩ = some (.bool false) := by rw [hrow1.cell (by omega), hval1, hW_take, if_neg (by omega)]
      have r0 : w1.frozen? ⟨w.heap.size, k * 2, none⟩ = false := hrow1.frozen _
      have r1 : w1.frozen? ⟨w.heap.size, k * 2 + 1, none⟩ = false := hrow1.frozen _
      have Hrow1 := Lib.hid (((hrow1.set (k * 2) (.int .i64 (hT l k))).set (k * 2 + 1) (.bool (hW l k))).congr (fun j _ => hval_step l k j))
      clear hrow hrow1
      go_wp2
      exact ⟨⟨k + 1, by omega, by go_num, ((hb.trans (hb1.mono (by omega))).setCell (Nat.le_refl _) _).setCell (Nat.le_refl _) _, Hrow1.out⟩, by simp [intOf]; omega⟩
    · obtain rfl : k = n := by omega
      have ht : l.take k = l := by rw [← HL.out]; exact List.take_length
      rw [ht] at hrow
      have hg := hrow.lt
      have HO := Lib.hid (HOwn.of_row (lo := w.heap.size) (l := l) hrow (by rw [HL.out]) (fun j _ => ⟨hval0 l j, hval1 l j⟩) (Nat.le_refl _) hg)
      clear hrow ht
      go_wp2
      go_ret
      exact ⟨_, rfl, hb, HO.out⟩

set_option maxHeartbeats 400000 in
theorem toLock_any (A A' : Option Addr) (c c' : Nat) (l l' : HL) (w : World) (hn : l.length ≤ 1048576) (hn' : l'.length ≤ 1048576) (hr : LAt w w.heap.size A A' (l, l')) :
    Calls Tryz.prog 166 #[.agg #[.slice A l.length c, .slice A' l'.length c']] w fun e w' => ∃ G d G' d', e = .returned (.agg #[.slice G l.length d, .slice G' l'.length d']) ∧ Below w.heap.size w w' ∧ LOwn w' w.heap.size w'.heap.size G G' (l, l') := by
  obtain ⟨h1, h2⟩ := hr
  go_enter Tryz.func166, Tryz.ntmps166
  go_wp2_with fail
  have b3 : Below w.heap.size w (((w.alloc (.cells #[.slice A l.length c, .slice A' l'.length c'] 165)).alloc (.cells #[.slice none 0 0, .slice none 0 0] 65)).alloc (.cells #[.slice none 0 0, .slice none 0 0] 65)) :=
    (((Below.refl _ _).alloc (Nat.le_refl _) _).alloc (by simp) _).alloc (by simp; omega) _
  have X := ((Box.new (w := w) (c := #[.slice A l.length c, .slice A' l'.length c']) (t := 165) rfl).alloc (.cells #[.slice none 0 0, .slice none 0 0] 65)).alloc (.cells #[.slice none 0 0, .slice none 0 0] 65)
  have Y := (Box.new (w := w.alloc (.cells #[.slice A l.length c, .slice A' l'.length c'] 165)) (b := w.heap.size + 1) (c := #[.slice none 0 0, .slice none 0 0]) (t := 65) (by simp)).alloc (.cells #[.slice none 0 0, .slice none 0 0] 65)
  have Z := Box.new (w := (w.alloc (.cells #[.slice A l.length c, .slice A' l'.length c'] 165)).alloc (.cells #[.slice none 0 0, .slice none 0 0] 65)) (b := w.heap.size + 1 + 1) (c := #[.slice none 0 0, .slice none 0 0]) (t := 65) (by simp)
  refine (toHoldS_any A c l _ hn (h1.below b3 b3.size)).mono ?_; rintro e w1 ⟨g, rfl, hb1, ho1⟩
  have X := X.next hb1
  have Y := Y.next hb1
  have Z := Z.next hb1
  have b4 := b3.trans (hb1.mono b3.size)
  obtain ⟨x0, x1, xf⟩ := X.c2
  obtain ⟨y0, y1, yf⟩ := Y.c2
  obtain ⟨z0, z1, zf⟩ := Z.c2
  clear b3 hb1
  go_wp2_with fail
  clear x0 x1 xf y0 y1 yf z0 z1 zf
  have b5 := b4.setCell (p := ⟨w.heap.size + 1 + 1, 0, none⟩) (by simp; omega) (.slice (some ⟨g, 0, none⟩) l.length l.length)
  have Y := Y.far (a := ⟨w.heap.size + 1 + 1, 0, none⟩) (.slice (some ⟨g, 0, none⟩) l.length l.length) (by simp)
  have hz := Z.lt
  have Z := Z.set (j := 0) (.slice (some ⟨g, 0, none⟩) l.length l.length) (by simp)
  have ho1 := ho1.far (a := ⟨w.heap.size + 1 + 1, 0, none⟩) (.slice (some ⟨g, 0, none⟩) l.length l.length) (by simp)
  refine (toHoldS_any A' c' l' _ hn' (h2.below b5 b5.size)).mono ?_; rintro e w2 ⟨g', rfl, hb2, ho2⟩
  have Y := Y.next hb2
  have Z := Z.next hb2
  have b6 := b5.trans (hb2.mono b5.size)
  obtain ⟨y0, y1, yf⟩ := Y.c2
  obtain ⟨z0, z1, zf⟩ := Z.c2
  go_wp2
  have HB := Lib.hid (((b6.setCell (p := ⟨w.heap.size + 1 + 1, 1, none⟩) (by simp; omega) (.slice (some ⟨g', 0, none⟩) l'.length l'.length)).setCell (p := ⟨w.heap.size + 1, 0, none⟩) (by simp) (.slice (some ⟨g, 0, none⟩) l.length l.length)).setCell (p := ⟨w.heap.size + 1, 1, none⟩) (by simp) (.slice (some ⟨g', 0, none⟩) l'.length l'.length))
  have ho1 := ((((ho1.below hb2 (by simp [World.setCell])).far (a := ⟨w.heap.size + 1 + 1, 1, none⟩) (.slice (some ⟨g', 0, none⟩) l'.length l'.length) (by simp)).far (a := ⟨w.heap.size + 1, 0, none⟩) (.slice (some ⟨g, 0, none⟩) l.length l.length) (by simp)).far (a := ⟨w.heap.size + 1, 1, none⟩) (.slice (some ⟨g', 0, none⟩) l'.length l'.length) (by simp)).more (lo' := w.heap.size) (B' := w1.heap.size) (by simp; omega) (Nat.le_refl _)
  have ho2 := (ho2.more (lo' := w1.heap.size) (B' := w2.heap.size) (by simp [World.setCell]) (Nat.le_refl _))
  have ho2 := ((ho2.far (a := ⟨w.heap.size + 1 + 1, 1, none⟩) (.slice (some ⟨g', 0, none⟩) l'.length l'.length) (.inl hz)).far (a := ⟨w.heap.size + 1, 0, none⟩) (.slice (some ⟨g, 0, none⟩) l.length l.length) (.inl (Nat.lt_of_succ_lt hz))).far (a := ⟨w.heap.size + 1, 1, none⟩) (.slice (some ⟨g', 0, none⟩) l'.length l'.length) (.inl (Nat.lt_of_succ_lt hz))
  have hz2 : w1.heap.size ≤ w2.heap.size := by have := hb2.size; simpa [World.setCell] using this
  exact bodyPost_ret (v := .agg #[.slice (some ⟨g, 0, none⟩) l.length l.length, .slice (some ⟨g', 0, none⟩) l'.length l'.length]) (by simp [results, Tryz.results166, go_sem, y0, y1]) rfl ⟨_, _, _, _, rfl, HB.out, (LOwn.two ho1 ho2 (by omega) hz2).more (Nat.le_refl _) (by simp [World.setCell])⟩

theorem szHoldS_any (A : Option Addr) (n cap : Nat) (left : Int) (w : World) (hn : n ≤ maxLen) (h0 : 0 ≤ left) (h1 : left ≤ 1048576) :
    Calls Tryz.prog 201 #[.slice A n cap, .int .i64 left] w fun e w' => e = .returned (.int .i64 (szOf left n)) ∧ w = w' := by
  unfold maxLen at hn
  by_cases hl : left < n
  · have h2 : left - (n : Int) < 0 := by omega
    go_enter Tryz.func201, Tryz.ntmps201
    go_wp2
    go_ret
    exact ⟨by unfold szOf; rw [if_pos (by omega)]; rfl, rfl⟩
  · have h2 : ¬ left - (n : Int) < 0 := by omega
    go_enter Tryz.func201, Tryz.ntmps201
    go_wp2
    go_ret
    exact ⟨by unfold szOf; rw [if_neg (by omega)]; rfl, rfl⟩

theorem szOf_yes {left : Int} {n : Nat} (h : (n : Int) ≤ left) : szOf left n = left - n := by unfold szOf; rw [if_neg (by omega)]
theorem szOf_no {left : Int} {n : Nat} (h : left < n) : szOf left n = -1 := by unfold szOf; rw [if_pos h]
theorem szLock_yes (A A' : Option Addr) (n c n' c' : Nat) (w : World) (hn : n ≤ maxLen) (hn' : n' ≤ maxLen) (h : n + n' ≤ 1048576) :
    Calls Tryz.prog 162 #[.agg #[.slice A n c, .slice A' n' c'], .int .i64 1048576] w fun e w' => e = .returned (.int .i64 (1048576 - n - n')) ∧ Below w.heap.size w w' := by
  have e1 := szOf_yes (left := 1048576) (n := n) (by omega)
  have e2 := szOf_yes (left := 1048576 - (n : Int)) (n := n') (by omega)
  have f1 : ¬ (1048576 - (n : Int) < 0) := by omega
  have f2 : ¬ (1048576 - (n : Int) - n' < 0) := by omega
  have E1 := Lib.hid e1
  have E2 := Lib.hid e2
  clear e1 e2
  go_enter Tryz.func162, Tryz.ntmps162
  go_wp2_with fail
  refine (szHoldS_any _ _ _ _ _ hn (by omega) (by omega)).mono ?_; rintro e w1 ⟨rfl, rfl⟩
  rw [E1.out]
  go_wp2_with fail
  refine (szHoldS_any _ _ _ _ _ hn' (by omega) (by omega)).mono ?_; rintro e w1 ⟨rfl, rfl⟩
  rw [E2.out]
  go_wp2
  go_ret
  exact ⟨rfl, (Below.refl _ _).alloc (Nat.le_refl _) _⟩
theorem szLock_no (A A' : Option Addr) (n c n' c' : Nat) (w : World) (hn : n ≤ maxLen) (hn' : n' ≤ maxLen) (h : 1048576 < n + n') :
    Calls Tryz.prog 162 #[.agg #[.slice A n c, .slice A' n' c'], .int .i64 1048576] w fun e w' => e = .returned (.int .i64 (-1)) ∧ Below w.heap.size w w' := by
  by_cases hl : n ≤ 1048576
  · have E1 := Lib.hid (szOf_yes (left := 1048576) (n := n) (by omega))
    have E2 := Lib.hid (szOf_no (left := 1048576 - (n : Int)) (n := n') (by omega))
    have f1 : ¬ (1048576 - (n : Int) < 0) := by omega
    go_enter Tryz.func162, Tryz.ntmps162
    go_wp2_with fail
    refine (szHoldS_any _ _ _ _ _ hn (by omega) (by omega)).mono ?_; rintro e w1 ⟨rfl, rfl⟩
    rw [E1.out]
    go_wp2_with fail
    refine (szHoldS_any _ _ _ _ _ hn' (by omega) (by omega)).mono ?_; rintro e w1 ⟨rfl, rfl⟩
    rw [E2.out]
    go_wp2
    go_ret
    exact ⟨rfl, (Below.refl _ _).alloc (Nat.le_refl _) _⟩
  · have E1 := Lib.hid (szOf_no (left := 1048576) (n := n) (by omega))
    go_enter Tryz.func162, Tryz.ntmps162
    go_wp2_with fail
    refine (szHoldS_any _ _ _ _ _ hn (by omega) (by omega)).mono ?_; rintro e w1 ⟨rfl, rfl⟩
    rw [E1.out]
    go_wp2
    go_ret
    exact ⟨rfl, (Below.refl _ _).alloc (Nat.le_refl _) _⟩

theorem eqHold_same (a : Int) (b : Bool) (w : World) :
    Calls Tryz.prog 222 #[.agg #[.int .i64 a, .bool b], .agg #[.int .i64 a, .bool b]] w fun e w' => e = .returned (.bool true) ∧ Below w.heap.size w w' := by
  go_enter Tryz.func222, Tryz.ntmps222
  go_wp2
  go_ret
  exact ⟨rfl, ((Below.refl _ _).alloc (Nat.le_refl _) _).alloc (by simp) _⟩

set_option maxRecDepth 100000 in
theorem eqHoldS_same (A1 A2 : Option Addr) (c1 c2 B1 B2 : Nat) (l : HL) (w : World) (hn : l.length ≤ maxLen) (h1 : HAt w B1 A1 l) (h2 : HAt w B2 A2 l) :
    Calls Tryz.prog 207 #[.slice A1 l.length c1, .slice A2 l.length c2] w fun e w' => e = .returned (.bool true) ∧ Below w.heap.size w w' := by
  have h1 := h1.lt
  have h2 := h2.lt
  unfold maxLen at hn
  go_enter Tryz.func207, Tryz.ntmps207
  go_wp2
  go_loopw [5] (fun i wr => ∃ k : Nat, k ≤ l.length ∧ i = .int .i64 k ∧ Below w.heap.size w wr) (fun i _ => l.length - (intOf i).toNat)
  case atStart => exact ⟨0, Nat.zero_le _, rfl, Below.refl _ _⟩
  case round =>
    obtain ⟨k, hk, rfl, hb⟩ := hrel
    by_cases hkn : k < l.length
    · obtain ⟨b, off, rfl, hB, hc⟩ := h1 (by omega)
      obtain ⟨b', off', rfl, hB', hc'⟩ := h2 (by omega)
      have hkz : (k : Int) < l.length := by omega
      have d0 : wr.cell? ⟨b, off + k * 2, none⟩ = some (.int .i64 (hT l k)) := (hb.cell (p := ⟨b, off + k * 2, none⟩) hB).trans (hc k hkn).1
      have d1 : wr.cell? ⟨b, off + k * 2 + 1, none⟩ = some (.bool (hW l k)) := (hb.cell (p := ⟨b, off + k * 2 + 1, none⟩) hB).trans (hc k hkn).2
      have d0' : wr.cell? ⟨b', off' + k * 2, none⟩ = some (.int .i64 (hT l k)) := (hb.cell (p := ⟨b', off' + k * 2, none⟩) hB').trans (hc' k hkn).1
      have d1' : wr.cell? ⟨b', off' + k * 2 + 1, none⟩ = some (.bool (hW l k)) := (hb.cell (p := ⟨b', off' + k * 2 + 1, none⟩) hB').trans (hc' k hkn).2
      clear hc hc' h1 h2
      go_wp2_with fail
      go_still_tail 8, (by kernel_rfl)
      change wpList _ _ _ _ _ wr.drew
      have hb2 := hb.drew
      clear d0 d1 d0' d1'
      generalize wr.drew = w2 at hb2 ⊢
      go_wp2_with fail
      refine (eqHold_same _ _ _).mono ?_; rintro e w3 ⟨rfl, hb3⟩
      go_wp2
      exact ⟨⟨k + 1, by omega, by go_num, hb2.trans (hb3.mono hb2.size)⟩, by simp [intOf]; omega⟩
    · obtain rfl : k = l.length := by omega
      go_wp2
      go_ret
      exact ⟨rfl, hb⟩

theorem eqLock_same (A1 A2 G1 G2 : Option Addr) (c1 c2 d1 d2 B1 B2 : Nat) (p : HL × HL) (w : World) (hn : p.1.length ≤ maxLen) (hn' : p.2.length ≤ maxLen) (h1 : LAt w B1 A1 A2 p) (h2 : LAt w B2 G1 G2 p) :
    Calls Tryz.prog 177 #[.agg #[.slice A1 p.1.length c1, .slice A2 p.2.length c2], .agg #[.slice G1 p.1.length d1, .slice G2 p.2.length d2]] w fun e w' => e = .returned (.bool true) ∧ Below w.heap.size w w' := by
  obtain ⟨l, l'⟩ := p
  have ha := h1.1.lt
  have hb := h1.2.lt
  have hc := h2.1.lt
  have hd := h2.2.lt
  simp only at hn hn' ha hb hc hd ⊢
  clear h1 h2
  go_enter Tryz.func177, Tryz.ntmps177
  go_wp2_with fail
  have b2 : Below w.heap.size w ((w.alloc (.cells #[.slice A1 l.length c1, .slice A2 l'.length c2] 65)).alloc (.cells #[.slice G1 l.length d1, .slice G2 l'.length d2] 65)) :=
    ((Below.refl _ _).alloc (Nat.le_refl _) _).alloc (by simp) _
  have X := (Box.new (w := w) (c := #[.slice A1 l.length c1, .slice A2 l'.length c2]) (t := 65) rfl).alloc (.cells #[.slice G1 l.length d1, .slice G2 l'.length d2] 65)
  have Y := Box.new (w := w.alloc (.cells #[.slice A1 l.length c1, .slice A2 l'.length c2] 65)) (b := w.heap.size + 1) (c := #[.slice G1 l.length d1, .slice G2 l'.length d2]) (t := 65) (by simp)
  refine (eqHoldS_same _ _ _ _ _ _ l _ hn (ha.below b2 (Nat.le_refl _)) (hc.below b2 (Nat.le_refl _))).mono ?_; rintro e w1 ⟨rfl, hb1⟩
  have X := X.next hb1
  have Y := Y.next hb1
  have b3 := b2.trans (hb1.mono b2.size)
  obtain ⟨x0, x1, xf⟩ := X.c2
  obtain ⟨y0, y1, yf⟩ := Y.c2
  clear b2 hb1 xf yf
  go_wp2_with fail
  refine (eqHoldS_same _ _ _ _ _ _ l' _ hn' (hb.below b3 (Nat.le_refl _)) (hd.below b3 (Nat.le_refl _))).mono ?_; rintro e w2 ⟨rfl, hb2⟩
  go_wp2
  go_ret
  exact ⟨rfl, b3.trans (hb2.mono b3.size)⟩

/-- what marking leaves -/
def marks (k : Int) (n : Nat) : HL := (List.range n).map fun (j : Nat) => (k + j * 2, decide ((k + j * 2 + 1) % 3 = 0))
theorem marks_len (k : Int) (n : Nat) : (marks k n).length = n := by simp [marks]
theorem marks_get {k : Int} {n j : Nat} (h : j < n) : hT (marks k n) j = k + j * 2 ∧ hW (marks k n) j = decide ((k + j * 2 + 1) % 3 = 0) := by
  simp [hT, hW, marks, List.getD_eq_getElem?_getD, h]

end Go.Proofs.YtkpkjcmoldkmmaaGreat
