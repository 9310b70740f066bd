/- Heat lists: the model's HeatOk, the program's heats as an array. -/
import Derived.Test.YtkpkjcmoldkmmaaGreatVhu
import Derived.Test.YtkpkjcmoldkmmaaGreatRunAu
import Derived.Lib.MinMax
import Derived.Laws.Cover3
import Derived.Laws.StructEq
import Derived.Deep.RegionLaw
namespace Go.Proofs.YtkpkjcmoldkmmaaGreat
open Go.RowKit

theorem Box.c8 {w : World} {b : Nat} {x0 x1 x2 x3 x4 x5 x6 x7 : Value} (h : Box w b [x0, x1, x2, x3, x4, x5, x6, x7]) : w.cell? ⟨b, 0, none⟩ = some x0 ∧ w.cell? ⟨b, 1, none⟩ = some x1 ∧ w.cell? ⟨b, 2, none⟩ = some x2 ∧ w.cell? ⟨b, 3, none⟩ = some x3 ∧ w.cell? ⟨b, 4, none⟩ = some x4 ∧ w.cell? ⟨b, 5, none⟩ = some x5 ∧ w.cell? ⟨b, 6, none⟩ = some x6 ∧ w.cell? ⟨b, 7, none⟩ = some x7 ∧ (∀ o, w.frozen? ⟨b, o, none⟩ = false) ∧ b < w.heap.size :=
  ⟨h.cell 0 _ rfl, h.cell 1 _ rfl, h.cell 2 _ rfl, h.cell 3 _ rfl, h.cell 4 _ rfl, h.cell 5 _ rfl, h.cell 6 _ rfl, h.cell 7 _ rfl, h.free, h.lt⟩
theorem row8 (w : World) (f : Nat → Int) (t : TypeId) : (w.alloc (.cells #[.int .i64 (f 0), .int .i64 (f 1), .int .i64 (f 2), .int .i64 (f 3), .int .i64 (f 4), .int .i64 (f 5), .int .i64 (f 6), .int .i64 (f 7)] t)).rowIs w.heap.size t 8 (fun j => .int .i64 (f j)) :=
  ⟨_, Go.Deep.blk_alloc_new _ _, rfl, fun i hi => by
    have h8 : i = 0 ∨ i = 1 ∨ i = 2 ∨ i = 3 ∨ i = 4 ∨ i = 5 ∨ i = 6 ∨ i = 7 := by omega
    rcases h8 with rfl | rfl | rfl | rfl | rfl | rfl | rfl | rfl <;> rfl⟩
theorem row8z (w : World) (t : TypeId) : (w.alloc (.cells #[.int .i64 0, .int .i64 0, .int .i64 0, .int .i64 0, .int .i64 0, .int .i64 0, .int .i64 0, .int .i64 0] t)).rowIs w.heap.size t 8 (fun _ => .int .i64 0) :=
  ⟨_, Go.Deep.blk_alloc_new _ _, rfl, fun i hi => by
    have h8 : i = 0 ∨ i = 1 ∨ i = 2 ∨ i = 3 ∨ i = 4 ∨ i = 5 ∨ i = 6 ∨ i = 7 := by omega
    rcases h8 with rfl | rfl | rfl | rfl | rfl | rfl | rfl | rfl <;> rfl⟩
/-- the first k are kept within the limits -/
def limTo (f : Nat → Int) (k j : Nat) : Int := if j < k then lim (f j) else f j

set_option maxHeartbeats 800000 in
theorem within_any (f : Nat → Int) (w : World) :
    Calls Tryz.prog 189 #[.agg #[.int .i64 (f 0), .int .i64 (f 1), .int .i64 (f 2), .int .i64 (f 3), .int .i64 (f 4), .int .i64 (f 5), .int .i64 (f 6), .int .i64 (f 7)]] w fun e w' => e = .returned (.agg #[.int .i64 (lim (f 0)), .int .i64 (lim (f 1)), .int .i64 (lim (f 2)), .int .i64 (lim (f 3)), .int .i64 (lim (f 4)), .int .i64 (lim (f 5)), .int .i64 (lim (f 6)), .int .i64 (lim (f 7))]) ∧ Below w.heap.size w w' := by
  go_enter Tryz.func189, Tryz.ntmps189
  go_wp2
  go_loopw [4] (fun i wr => ∃ k : Nat, k ≤ 8 ∧ i = .int .i64 k ∧ Below w.heap.size w wr ∧ wr.rowIs w.heap.size 201 8 (fun j => .int .i64 (limTo f k j)) ∧ wr.rowIs (w.heap.size + 1) 201 8 (fun _ => .int .i64 0)) (fun i _ => 8 - (intOf i).toNat)
  case atStart =>
    refine ⟨0, Nat.zero_le _, rfl, ((Below.refl _ _).alloc (Nat.le_refl _) _).alloc (by simp) _, ?_, ?_⟩
    · have h0 := (row8 w f 201)
      exact (rowIs_below h0 ((Below.refl _ _).alloc (Nat.le_refl _) _) h0.lt).congr (fun j _ => by simp [limTo])
    · simpa using row8z (w.alloc (.cells #[.int .i64 (f 0), .int .i64 (f 1), .int .i64 (f 2), .int .i64 (f 3), .int .i64 (f 4), .int .i64 (f 5), .int .i64 (f 6), .int .i64 (f 7)] 201)) 201
  case round =>
    obtain ⟨k, hk, rfl, hb, hrow, hz⟩ := hrel
    by_cases hkn : k < 8
    · have hkz : (k : Int) < 8 := by omega
      have c0 : wr.cell? ⟨w.heap.size, k, none⟩ = some (.int .i64 (f k)) := by rw [hrow.cell hkn, limTo, if_neg (by omega)]
      have r0 : wr.frozen? ⟨w.heap.size, k, none⟩ = false := hrow.frozen _
      have Hrow1 := Lib.hid ((hrow.set k (.int .i64 (lim (f k)))).congr (g := fun j => .int .i64 (limTo f (k + 1) j)) (fun j _ => by
        unfold limTo
        by_cases e : j = k
        · subst e; rw [if_pos rfl, if_pos (by omega)]
        · rw [if_neg e]
          by_cases hlt : j < k
          · rw [if_pos hlt, if_pos (by omega)]
          · rw [if_neg hlt, if_neg (by omega)]))
      have Hz := Lib.hid hz
      clear hrow hz
      go_wp2
      exact ⟨⟨k + 1, by omega, by go_num, hb.setCell (Nat.le_refl _) _, Hrow1.out, Hz.out.of_block (Below.heap_setCell _ _ _ _ (by simp))⟩, by simp [intOf]; omega⟩
    · obtain rfl : k = 8 := by omega
      have c0 : wr.cell? ⟨w.heap.size, 0, none⟩ = some (.int .i64 (lim (f 0))) := by rw [hrow.cell (by omega), limTo, if_pos (by omega)]
      have c1 : wr.cell? ⟨w.heap.size, 1, none⟩ = some (.int .i64 (lim (f 1))) := by rw [hrow.cell (by omega), limTo, if_pos (by omega)]
      have c2 : wr.cell? ⟨w.heap.size, 2, none⟩ = some (.int .i64 (lim (f 2))) := by rw [hrow.cell (by omega), limTo, if_pos (by omega)]
      have c3 : wr.cell? ⟨w.heap.size, 3, none⟩ = some (.int .i64 (lim (f 3))) := by rw [hrow.cell (by omega), limTo, if_pos (by omega)]
      have c4 : wr.cell? ⟨w.heap.size, 4, none⟩ = some (.int .i64 (lim (f 4))) := by rw [hrow.cell (by omega), limTo, if_pos (by omega)]
      have c5 : wr.cell? ⟨w.heap.size, 5, none⟩ = some (.int .i64 (lim (f 5))) := by rw [hrow.cell (by omega), limTo, if_pos (by omega)]
      have c6 : wr.cell? ⟨w.heap.size, 6, none⟩ = some (.int .i64 (lim (f 6))) := by rw [hrow.cell (by omega), limTo, if_pos (by omega)]
      have c7 : wr.cell? ⟨w.heap.size, 7, none⟩ = some (.int .i64 (lim (f 7))) := by rw [hrow.cell (by omega), limTo, if_pos (by omega)]
      have z0 : wr.cell? ⟨w.heap.size + 1, 0, none⟩ = some (.int .i64 0) := hz.cell (by omega)
      have z1 : wr.cell? ⟨w.heap.size + 1, 1, none⟩ = some (.int .i64 0) := hz.cell (by omega)
      have z2 : wr.cell? ⟨w.heap.size + 1, 2, none⟩ = some (.int .i64 0) := hz.cell (by omega)
      have z3 : wr.cell? ⟨w.heap.size + 1, 3, none⟩ = some (.int .i64 0) := hz.cell (by omega)
      have z4 : wr.cell? ⟨w.heap.size + 1, 4, none⟩ = some (.int .i64 0) := hz.cell (by omega)
      have z5 : wr.cell? ⟨w.heap.size + 1, 5, none⟩ = some (.int .i64 0) := hz.cell (by omega)
      have z6 : wr.cell? ⟨w.heap.size + 1, 6, none⟩ = some (.int .i64 0) := hz.cell (by omega)
      have z7 : wr.cell? ⟨w.heap.size + 1, 7, none⟩ = some (.int .i64 0) := hz.cell (by omega)
      have zf : ∀ o, wr.frozen? ⟨w.heap.size + 1, o, none⟩ = false := fun o => hz.frozen o
      clear hrow hz
      go_wp2
      refine bodyPost_ret (v := .agg #[.int .i64 (lim (f 0)), .int .i64 (lim (f 1)), .int .i64 (lim (f 2)), .int .i64 (lim (f 3)), .int .i64 (lim (f 4)), .int .i64 (lim (f 5)), .int .i64 (lim (f 6)), .int .i64 (lim (f 7))]) ?_ rfl ⟨rfl, ?_⟩
      · simp [results, Tryz.results189, go_sem, z0, z1, z2, z3, z4, z5, z6, z7]
      · repeat' (refine Below.setCell ?_ (by simp) _)
        exact hb
end Go.Proofs.YtkpkjcmoldkmmaaGreat
