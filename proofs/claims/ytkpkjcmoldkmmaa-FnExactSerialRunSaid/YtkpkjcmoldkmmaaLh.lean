/- Contracts of the laws' functions over holds and locks: toHoldS, szLock, toLock, eqHoldS, eqLock, markLock, heldLock. -/
import Derived.Test.YtkpkjcmoldkmmaaLm
namespace Go.Proofs.Ytkpkjcmoldkmmaa
open Go.RowKit

theorem hT_take (l : HL) (k i : Nat) : hT (l.take k) i = if i < k then hT l i else 0 := by
  simp only [hT, List.getD_eq_getElem?_getD, List.getElem?_take]
  split <;> simp
theorem hW_take (l : HL) (k i : Nat) : hW (l.take k) i = if i < k then hW l i else false := by
  simp only [hW, List.getD_eq_getElem?_getD, List.getElem?_take]
  split <;> simp
/-- what cell j of a row of holds is -/
def hval (l : HL) (j : Nat) : Value := if j % 2 = 0 then .int .i64 (hT l (j / 2)) else .bool (hW l (j / 2))
theorem hval0 (l : HL) (k : Nat) : hval l (k * 2) = .int .i64 (hT l k) := by
  unfold hval; rw [if_pos (by omega), show k * 2 / 2 = k by omega]
theorem hval1 (l : HL) (k : Nat) : hval l (k * 2 + 1) = .bool (hW l k) := by
  unfold hval; rw [if_neg (by omega), show (k * 2 + 1) / 2 = k by omega]
theorem hval_step (l : HL) (k j : Nat) : (if j = k * 2 + 1 then Value.bool (hW l k) else if j = k * 2 then .int .i64 (hT l k) else hval (l.take k) j) = hval (l.take (k + 1)) j := by
  unfold hval
  simp only [hT_take, hW_take]
  by_cases e1 : j = k * 2 + 1
  · subst e1; rw [if_pos rfl, if_neg (by omega), if_pos (by omega), show (k * 2 + 1) / 2 = k by omega]
  rw [if_neg e1]
  by_cases e0 : j = k * 2
  · subst e0; rw [if_pos rfl, if_pos (by omega), if_pos (by omega), show (k * 2) / 2 = k by omega]
  rw [if_neg e0]
  by_cases hlt : j / 2 < k
  · have h1 : j / 2 < k + 1 := by omega
    simp [hlt, h1]
  · have h1 : ¬ j / 2 < k + 1 := by omega
    simp [hlt, h1]

theorem infoHold : (Try.prog.info? 178).map (fun i => (i.zero, i.size, i.bytes)) = some (some (.agg #[.int .i64 0, .bool false]), 2, 16) := by kernel_rfl

theorem run_make_holds (n : Nat) (h : n ≤ 1048576) (w : World) :
    (Instr.makeSlice 151 (.int .i64 (n : Int)) (.int .i64 (n : Int))).run Try.prog w = .ok (.slice (some ⟨w.heap.size, 0, none⟩) n n) (w.alloc (.cells (madeCells #[.int .i64 0, .bool false] (n * 2)) 178)) := by
  obtain ⟨i, hi, hzz⟩ := Option.map_eq_some_iff.1 infoHold
  simp only [Prod.mk.injEq] at hzz
  obtain ⟨hz, hs, hb⟩ := hzz
  have := run_make (P := Try.prog) w 151 178 i _ Try.underlying151 hi hz .i64 .i64 n n (by omega) (Int.le_refl _) (by rw [hb]; omega) (by omega)
  simpa [hs, Value.cells] using this

theorem made_holds (w : World) (n t : Nat) : (w.alloc (.cells (madeCells #[.int .i64 0, .bool false] (n * 2)) t)).rowIs w.heap.size t (n * 2) (hval []) :=
  ⟨_, Go.Deep.blk_alloc_new _ _, size_madeCells _ _, fun i hi => by
    have h3 : i % 2 = 0 ∨ i % 2 = 1 := by omega
    simp only [madeCells, Array.getElem?_map, Array.getElem?_range, hi, if_true, Option.map_some]
    rcases h3 with h | h <;> simp [h, hval, hT, hW]⟩

theorem szOf_yes {left : Int} {n : Nat} (h : (n : Int) ≤ left) : szOf left n = left - n := by unfold szOf; rw [if_neg (by omega)]
theorem szOf_no {left : Int} {n : Nat} (h : left < n) : szOf left n = -1 := by unfold szOf; rw [if_pos h]
theorem eqHold_same (a : Int) (b : Bool) (w : World) :
    Calls Try.prog 145 #[.agg #[.int .i64 a, .bool b], .agg #[.int .i64 a, .bool b]] w fun e w' => e = .returned (.bool true) ∧ Below w.heap.size w w' := by
  go_enter Try.func145, Try.ntmps145
  go_wp2
  go_ret
  exact ⟨rfl, ((Below.refl _ _).alloc (Nat.le_refl _) _).alloc (by simp) _⟩

set_option maxRecDepth 100000 in
theorem eqHoldS_same (A1 A2 : Option Addr) (c1 c2 B1 B2 : Nat) (l : HL) (w : World) (hn : l.length ≤ maxLen) (h1 : HAt w B1 A1 l) (h2 : HAt w B2 A2 l) :
    Calls Try.prog 143 #[.slice A1 l.length c1, .slice A2 l.length c2] w fun e w' => e = .returned (.bool true) ∧ Below w.heap.size w w' := by
  have h1 := h1.lt
  have h2 := h2.lt
  unfold maxLen at hn
  go_enter Try.func143, Try.ntmps143
  go_wp2
  go_loopw [5] (fun i wr => ∃ k : Nat, k ≤ l.length ∧ i = .int .i64 k ∧ Below w.heap.size w wr) (fun i _ => l.length - (intOf i).toNat)
  case atStart => exact ⟨0, Nat.zero_le _, rfl, Below.refl _ _⟩
  case round =>
    obtain ⟨k, hk, rfl, hb⟩ := hrel
    by_cases hkn : k < l.length
    · obtain ⟨b, off, rfl, hB, hc⟩ := h1 (by omega)
      obtain ⟨b', off', rfl, hB', hc'⟩ := h2 (by omega)
      have hkz : (k : Int) < l.length := by omega
      have d0 : wr.cell? ⟨b, off + k * 2, none⟩ = some (.int .i64 (hT l k)) := (hb.cell (p := ⟨b, off + k * 2, none⟩) hB).trans (hc k hkn).1
      have d1 : wr.cell? ⟨b, off + k * 2 + 1, none⟩ = some (.bool (hW l k)) := (hb.cell (p := ⟨b, off + k * 2 + 1, none⟩) hB).trans (hc k hkn).2
      have d0' : wr.cell? ⟨b', off' + k * 2, none⟩ = some (.int .i64 (hT l k)) := (hb.cell (p := ⟨b', off' + k * 2, none⟩) hB').trans (hc' k hkn).1
      have d1' : wr.cell? ⟨b', off' + k * 2 + 1, none⟩ = some (.bool (hW l k)) := (hb.cell (p := ⟨b', off' + k * 2 + 1, none⟩) hB').trans (hc' k hkn).2
      clear hc hc' h1 h2
      go_wp2_with fail
      go_still_tail 8, (by kernel_rfl)
      change wpList _ _ _ _ _ wr.drew
      have hb2 := hb.drew
      clear d0 d1 d0' d1'
      generalize wr.drew = w2 at hb2 ⊢
      go_wp2_with fail
      refine (eqHold_same _ _ _).mono ?_; rintro e w3 ⟨rfl, hb3⟩
      go_wp2
      exact ⟨⟨k + 1, by omega, by go_num, hb2.trans (hb3.mono hb2.size)⟩, by simp [intOf]; omega⟩
    · obtain rfl : k = l.length := by omega
      go_wp2
      go_ret
      exact ⟨rfl, hb⟩

theorem eqLock_same (A1 A2 G1 G2 : Option Addr) (c1 c2 d1 d2 B1 B2 : Nat) (p : HL × HL) (w : World) (hn : p.1.length ≤ maxLen) (hn' : p.2.length ≤ maxLen) (h1 : LAt w B1 A1 A2 p) (h2 : LAt w B2 G1 G2 p) :
    Calls Try.prog 138 #[.agg #[.slice A1 p.1.length c1, .slice A2 p.2.length c2], .agg #[.slice G1 p.1.length d1, .slice G2 p.2.length d2]] w fun e w' => e = .returned (.bool true) ∧ Below w.heap.size w w' := by
  obtain ⟨l, l'⟩ := p
  have ha := h1.1.lt
  have hb := h1.2.lt
  have hc := h2.1.lt
  have hd := h2.2.lt
  simp only at hn hn' ha hb hc hd ⊢
  clear h1 h2
  go_enter Try.func138, Try.ntmps138
  go_wp2_with fail
  have b2 : Below w.heap.size w ((w.alloc (.cells #[.slice A1 l.length c1, .slice A2 l'.length c2] 153)).alloc (.cells #[.slice G1 l.length d1, .slice G2 l'.length d2] 153)) :=
    ((Below.refl _ _).alloc (Nat.le_refl _) _).alloc (by simp) _
  have X := (Box.new (w := w) (c := #[.slice A1 l.length c1, .slice A2 l'.length c2]) (t := 153) rfl).alloc (.cells #[.slice G1 l.length d1, .slice G2 l'.length d2] 153)
  have Y := Box.new (w := w.alloc (.cells #[.slice A1 l.length c1, .slice A2 l'.length c2] 153)) (b := w.heap.size + 1) (c := #[.slice G1 l.length d1, .slice G2 l'.length d2]) (t := 153) (by simp)
  refine (eqHoldS_same _ _ _ _ _ _ l _ hn (ha.below b2 (Nat.le_refl _)) (hc.below b2 (Nat.le_refl _))).mono ?_; rintro e w1 ⟨rfl, hb1⟩
  have X := X.next hb1
  have Y := Y.next hb1
  have b3 := b2.trans (hb1.mono b2.size)
  obtain ⟨x0, x1, xf⟩ := X.c2
  obtain ⟨y0, y1, yf⟩ := Y.c2
  clear b2 hb1 xf yf
  go_wp2_with fail
  refine (eqHoldS_same _ _ _ _ _ _ l' _ hn' (hb.below b3 (Nat.le_refl _)) (hd.below b3 (Nat.le_refl _))).mono ?_; rintro e w2 ⟨rfl, hb2⟩
  go_wp2
  go_ret
  exact ⟨rfl, b3.trans (hb2.mono b3.size)⟩

/-- what marking leaves -/
def marks (k : Int) (n : Nat) : HL := (List.range n).map fun (j : Nat) => (k + j * 2, decide ((k + j * 2 + 1) % 3 = 0))
theorem marks_len (k : Int) (n : Nat) : (marks k n).length = n := by simp [marks]
theorem marks_get {k : Int} {n j : Nat} (h : j < n) : hT (marks k n) j = k + j * 2 ∧ hW (marks k n) j = decide ((k + j * 2 + 1) % 3 = 0) := by
  simp [hT, hW, marks, List.getD_eq_getElem?_getD, h]

theorem heldHoldS_any (A : Option Addr) (n cap B : Nat) (k0 : Int) (w : World) (hn : n ≤ 1073741824) (h0 : 0 ≤ k0) (hk0 : k0 ≤ 1073741824) (h : HAt w B A (marks k0 n)) :
    Calls Try.prog 129 #[.slice A n cap, .int .i64 k0] w fun e w' => e = .returned (.int .i64 (k0 + n * 2)) ∧ w = w' := by
  have hl := marks_len k0 n
  have HL := Lib.hid hl
  clear hl
  go_enter Try.func129, Try.ntmps129
  go_wp2
  go_loop [1, 5] (fun s i => ∃ k : Nat, k ≤ n ∧ i = .int .i64 k ∧ s = .int .i64 (k0 + k * 2)) (fun _ i => n - (intOf i).toNat)
  case atStart => exact ⟨0, Nat.zero_le _, rfl, by simp⟩
  case round =>
    obtain ⟨k, hk, rfl, rfl⟩ := hrel
    by_cases hkn : k < n
    · obtain ⟨b, off, rfl, _, hc⟩ := h (by rw [HL.out]; omega)
      have hkz : (k : Int) < n := by omega
      have hm := marks_get (k := k0) hkn
      have d0 : w.cell? ⟨b, off + k * 2, none⟩ = some (.int .i64 (k0 + k * 2)) := by rw [(hc k (by rw [HL.out]; exact hkn)).1, hm.1]
      have d1 : w.cell? ⟨b, off + k * 2 + 1, none⟩ = some (.bool (decide ((k0 + k * 2 + 1) % 3 = 0))) := by rw [(hc k (by rw [HL.out]; exact hkn)).2, hm.2]
      clear hc h hm
      by_cases h3 : (k0 + k * 2 + 1) % 3 = 0
      · rw [decide_eq_true h3] at d1
        go_wp2
        exact ⟨⟨k + 1, by omega, by go_num, by go_num⟩, by simp [intOf]; omega⟩
      · rw [decide_eq_false h3] at d1
        go_wp2
        exact ⟨⟨k + 1, by omega, by go_num, by go_num⟩, by simp [intOf]; omega⟩
    · obtain rfl : k = n := by omega
      go_wp2
      go_ret
      exact ⟨rfl, rfl⟩
end Go.Proofs.Ytkpkjcmoldkmmaa
