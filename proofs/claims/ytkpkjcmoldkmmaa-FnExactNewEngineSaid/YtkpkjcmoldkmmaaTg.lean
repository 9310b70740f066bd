/- The laws' copies of tables: toCell, toCellS, toTable. -/
import Derived.Test.YtkpkjcmoldkmmaaTe
import Derived.Test.YtkpkjcmoldkmmaaTc
namespace Go.Proofs.Ytkpkjcmoldkmmaa
open Go.RowKit

abbrev zer6 : List Value := [.int .i64 0, .int .i64 0, .int .i64 0, .bool false, .slice none 0 0, .slice none 0 0]
/-- cell i of a cell -/
def tv (c : CD) (q : Pl) : Nat → Value
  | 0 => .int .i64 c.v
  | 1 => .int .i64 c.e
  | 2 => .int .i64 c.s
  | 3 => .bool c.h
  | 4 => .slice q.G c.hs.length q.c
  | _ => .slice q.G' c.ws.length q.c'
def tval (f : Nat → CD) (q : Nat → Pl) (j : Nat) : Value := tv (f (j / 6)) (q (j / 6)) (j % 6)
theorem tval_at (f : Nat → CD) (q : Nat → Pl) (k i : Nat) (hi : i < 6) : tval f q (k * 6 + i) = tv (f k) (q k) i := by
  unfold tval
  rw [show (k * 6 + i) / 6 = k by omega, show (k * 6 + i) % 6 = i by omega]
theorem tval_at0 (f : Nat → CD) (q : Nat → Pl) (k : Nat) : tval f q (k * 6) = tv (f k) (q k) 0 := tval_at f q k 0 (by omega)
def Pl.zero : Pl := ⟨none, 0, none, 0⟩
theorem tval_step (f : Nat → CD) (q : Nat → Pl) (k : Nat) (c : CD) (p : Pl) (j : Nat) :
    (if j = k * 6 + 5 then tv c p 5 else if j = k * 6 + 4 then tv c p 4 else if j = k * 6 + 3 then tv c p 3 else if j = k * 6 + 2 then tv c p 2 else if j = k * 6 + 1 then tv c p 1 else if j = k * 6 then tv c p 0 else tval f q j) =
      tval (fun i => if i = k then c else f i) (fun i => if i = k then p else q i) j := by
  by_cases e : j / 6 = k
  · have hj : j = k * 6 + j % 6 := by omega
    have hi : j % 6 < 6 := Nat.mod_lt _ (by omega)
    generalize j % 6 = i at hj hi
    subst hj
    rw [tval_at (fun i => if i = k then c else f i) (fun i => if i = k then p else q i) k i hi]
    show _ = tv (if k = k then c else f k) (if k = k then p else q k) i
    rw [if_pos rfl, if_pos rfl]
    match i, hi with
    | 0, _ => simp
    | 1, _ => simp
    | 2, _ => simp
    | 3, _ => simp
    | 4, _ => simp
    | 5, _ => simp
  · rw [if_neg (by omega), if_neg (by omega), if_neg (by omega), if_neg (by omega), if_neg (by omega), if_neg (by omega)]
    simp [tval, e]
theorem made_cells (w : World) (n t : Nat) : (w.alloc (.cells (madeCells #[.int .i64 0, .int .i64 0, .int .i64 0, .bool false, .slice none 0 0, .slice none 0 0] (n * 6)) t)).rowIs w.heap.size t (n * 6) (tval (fun _ => CD.zero) (fun _ => Pl.zero)) :=
  ⟨_, Go.Deep.blk_alloc_new _ _, size_madeCells _ _, fun i hi => by
    have h3 : i % 6 = 0 ∨ i % 6 = 1 ∨ i % 6 = 2 ∨ i % 6 = 3 ∨ i % 6 = 4 ∨ i % 6 = 5 := by omega
    simp only [madeCells, Array.getElem?_map, Array.getElem?_range, hi, if_true, Option.map_some]
    rcases h3 with h | h | h | h | h | h <;> simp [h, tval, tv, CD.zero, Pl.zero]⟩
theorem TRow.of_row {w : World} {g t n : Nat} {f : Nat → CD} {q : Nat → Pl} {lo B : Nat} {L H : Nat → Nat} (h : w.rowIs g t (n * 6) (tval f q)) (h1 : lo ≤ g) (h2 : g < B) (low : ∀ j, j < n → lo ≤ L j) (high : ∀ j, j < n → H j ≤ B) (roff : ∀ j, j < n → g < L j ∨ H j ≤ g)
    (own : ∀ j, j < n → LsOwn w (L j) (H j) (f j) (q j)) (part : ∀ i j, i < n → j < n → ¬ i = j → H i ≤ L j ∨ H j ≤ L i) : TRow w lo B g 0 n f q L H := by
  refine ⟨h1, h2, fun o => h.frozen o, fun j hj => ?_, low, high, roff, own, part⟩
  have e : ∀ i, i < 6 → w.cell? ⟨g, 0 + j * 6 + i, none⟩ = some (tv (f j) (q j) i) := fun i hi => by
    rw [Nat.zero_add, h.cell (by omega), tval_at _ _ _ _ hi]
  exact ⟨e 0 (by omega), e 1 (by omega), e 2 (by omega), e 3 (by omega), e 4 (by omega), e 5 (by omega)⟩
theorem infoCell : (Try.prog.info? 155).map (fun i => (i.zero, i.size, i.bytes)) = some (some (.agg #[.int .i64 0, .int .i64 0, .int .i64 0, .bool false, .slice none 0 0, .slice none 0 0]), 6, 80) := by kernel_rfl
theorem run_make_cells (n : Nat) (h : n ≤ 1048576) (w : World) :
    (Instr.makeSlice 27 (.int .i64 (n : Int)) (.int .i64 (n : Int))).run Try.prog w = .ok (.slice (some ⟨w.heap.size, 0, none⟩) n n) (w.alloc (.cells (madeCells #[.int .i64 0, .int .i64 0, .int .i64 0, .bool false, .slice none 0 0, .slice none 0 0] (n * 6)) 155)) := by
  obtain ⟨i, hi, hzz⟩ := Option.map_eq_some_iff.1 infoCell
  simp only [Prod.mk.injEq] at hzz
  obtain ⟨hz, hs, hb⟩ := hzz
  have := run_make (P := Try.prog) w 27 155 i _ Try.underlying27 hi hz .i64 .i64 n n (by omega) (Int.le_refl _) (by rw [hb]; omega) (by omega)
  simpa [hs, Value.cells] using this

def ftoT (T : TL) (k j : Nat) : CD := if j < k then cd T j else CD.zero
end Go.Proofs.Ytkpkjcmoldkmmaa
