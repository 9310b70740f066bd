/- Contracts of the laws' functions over holds and locks: toHoldS, szLock, toLock, eqHoldS, eqLock, markLock, heldLock. -/
import Derived.Test.YtcndmdglnohbcaaGreatDoorLm
namespace Go.Proofs.YtcndmdglnohbcaaGreatDoor
open Go.RowKit

theorem hT_take (l : HL) (k i : Nat) : hT (l.take k) i = if i < k then hT l i else 0 := by
  simp only [hT, List.getD_eq_getElem?_getD, List.getElem?_take]
  split <;> simp
theorem hW_take (l : HL) (k i : Nat) : hW (l.take k) i = if i < k then hW l i else false := by
  simp only [hW, List.getD_eq_getElem?_getD, List.getElem?_take]
  split <;> simp
/-- what cell j of a row of holds is -/
def hval (l : HL) (j : Nat) : Value := if j % 2 = 0 then .int .i64 (hT l (j / 2)) else .bool (hW l (j / 2))
theorem hval0 (l : HL) (k : Nat) : hval l (k * 2) = .int .i64 (hT l k) := by
  unfold hval; rw [if_pos (by omega), show k * 2 / 2 = k by omega]
theorem hval1 (l : HL) (k : Nat) : hval l (k * 2 + 1) = .bool (hW l k) := by
  unfold hval; rw [if_neg (by omega), show (k * 2 + 1) / 2 = k by omega]
theorem hval_step (l : HL) (k j : Nat) : (if j = k * 2 + 1 then Value.bool (hW l k) else if j = k * 2 then .int .i64 (hT l k) else hval (l.take k) j) = hval (l.take (k + 1)) j := by
  unfold hval
  simp only [hT_take, hW_take]
  by_cases e1 : j = k * 2 + 1
  · subst e1; rw [if_pos rfl, if_neg (by omega), if_pos (by omega), show (k * 2 + 1) / 2 = k by omega]
  rw [if_neg e1]
  by_cases e0 : j = k * 2
  · subst e0; rw [if_pos rfl, if_pos (by omega), if_pos (by omega), show (k * 2) / 2 = k by omega]
  rw [if_neg e0]
  by_cases hlt : j / 2 < k
  · have h1 : j / 2 < k + 1 := by omega
    simp [hlt, h1]
  · have h1 : ¬ j / 2 < k + 1 := by omega
    simp [hlt, h1]

theorem infoHold : (Tryz.prog.info? 77).map (fun i => (i.zero, i.size, i.bytes)) = some (some (.agg #[.int .i64 0, .bool false]), 2, 16) := by kernel_rfl

theorem run_make_holds (n : Nat) (h : n ≤ 1048576) (w : World) :
    (Instr.makeSlice 38 (.int .i64 (n : Int)) (.int .i64 (n : Int))).run Tryz.prog w = .ok (.slice (some ⟨w.heap.size, 0, none⟩) n n) (w.alloc (.cells (madeCells #[.int .i64 0, .bool false] (n * 2)) 77)) := by
  obtain ⟨i, hi, hzz⟩ := Option.map_eq_some_iff.1 infoHold
  simp only [Prod.mk.injEq] at hzz
  obtain ⟨hz, hs, hb⟩ := hzz
  have := run_make (P := Tryz.prog) w 38 77 i _ Tryz.underlying38 hi hz .i64 .i64 n n (by omega) (Int.le_refl _) (by rw [hb]; omega) (by omega)
  simpa [hs, Value.cells] using this

theorem made_holds (w : World) (n t : Nat) : (w.alloc (.cells (madeCells #[.int .i64 0, .bool false] (n * 2)) t)).rowIs w.heap.size t (n * 2) (hval []) :=
  ⟨_, Go.Deep.blk_alloc_new _ _, size_madeCells _ _, fun i hi => by
    have h3 : i % 2 = 0 ∨ i % 2 = 1 := by omega
    simp only [madeCells, Array.getElem?_map, Array.getElem?_range, hi, if_true, Option.map_some]
    rcases h3 with h | h <;> simp [h, hval, hT, hW]⟩

theorem szOf_yes {left : Int} {n : Nat} (h : (n : Int) ≤ left) : szOf left n = left - n := by unfold szOf; rw [if_neg (by omega)]
theorem szOf_no {left : Int} {n : Nat} (h : left < n) : szOf left n = -1 := by unfold szOf; rw [if_pos h]
/-- what marking leaves -/
def marks (k : Int) (n : Nat) : HL := (List.range n).map fun (j : Nat) => (k + j * 2, decide ((k + j * 2 + 1) % 3 = 0))
theorem marks_len (k : Int) (n : Nat) : (marks k n).length = n := by simp [marks]
theorem marks_get {k : Int} {n j : Nat} (h : j < n) : hT (marks k n) j = k + j * 2 ∧ hW (marks k n) j = decide ((k + j * 2 + 1) % 3 = 0) := by
  simp [hT, hW, marks, List.getD_eq_getElem?_getD, h]

end Go.Proofs.YtcndmdglnohbcaaGreatDoor
