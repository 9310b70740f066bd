/- Lists of wants in memory, and the laws' functions over them. -/
import Derived.Test.YtognfnfbmbfidaaInts
namespace Go.Proofs.Ytognfnfbmbfidaa
open Go.RowKit

abbrev HL := List (Int × Bool)
/-- the cells of a list of holds -/
def hcs : HL → List Value
  | [] => []
  | h :: l => .int .i64 h.1 :: .bool h.2 :: hcs l
theorem hcs_append (a b : HL) : hcs (a ++ b) = hcs a ++ hcs b := by
  induction a with
  | nil => rfl
  | cons x a ih => simp [hcs, ih]
theorem hcs_length (l : HL) : (hcs l).length = l.length * 2 := by
  induction l with
  | nil => rfl
  | cons x l ih => simp [hcs, ih]; omega
def hT (l : HL) (k : Nat) : Int := (l.getD k (0, false)).1
def hW (l : HL) (k : Nat) : Bool := (l.getD k (0, false)).2
theorem hcs_get : ∀ {l : HL} {k : Nat}, k < l.length → (hcs l)[k * 2]? = some (.int .i64 (hT l k)) ∧ (hcs l)[k * 2 + 1]? = some (.bool (hW l k))
  | [], k, h => absurd h (Nat.not_lt_zero _)
  | x :: l, 0, _ => ⟨rfl, rfl⟩
  | x :: l, k + 1, h => by
    have := hcs_get (l := l) (k := k) (by simpa using h)
    have e : (k + 1) * 2 = k * 2 + 2 := by omega
    rw [e]
    exact this
theorem hT_get {l : HL} {k : Nat} (h : k < l.length) : (hT l k, hW l k) = l[k] := by simp [hT, hW, List.getD_eq_getElem?_getD, List.getElem?_eq_getElem h]

/-- the cells from the slice's address on hold l -/
def HAt (w : World) (B : Nat) (A : Option Addr) (l : HL) : Prop :=
  0 < l.length → ∃ b off, A = some ⟨b, off, none⟩ ∧ b < B ∧ ∀ j, j < l.length → w.cell? ⟨b, off + j * 2, none⟩ = some (.int .i64 (hT l j)) ∧ w.cell? ⟨b, off + j * 2 + 1, none⟩ = some (.bool (hW l j))
/-- and they lie in a block from lo on and may be written -/
def HOwn (w : World) (lo B : Nat) (A : Option Addr) (l : HL) : Prop :=
  0 < l.length → ∃ b off, A = some ⟨b, off, none⟩ ∧ lo ≤ b ∧ b < B ∧ ∀ j, j < l.length → (w.cell? ⟨b, off + j * 2, none⟩ = some (.int .i64 (hT l j)) ∧ w.cell? ⟨b, off + j * 2 + 1, none⟩ = some (.bool (hW l j))) ∧ ∀ o, w.frozen? ⟨b, o, none⟩ = false

section
variable {w w' : World} {lo B lo' B' : Nat} {A : Option Addr} {l : HL}
theorem HAt.below (h : HAt w B A l) (hb : Below B w w') (hB : B ≤ B') : HAt w' B' A l := fun hn => by
  obtain ⟨b, off, e, hlt, hc⟩ := h hn
  exact ⟨b, off, e, by omega, fun j hj => ⟨(hb.cell (p := ⟨b, _, none⟩) hlt).trans (hc j hj).1, (hb.cell (p := ⟨b, _, none⟩) hlt).trans (hc j hj).2⟩⟩
theorem HAt.up (h : HAt w B A l) (hB : B ≤ B') : HAt w B' A l := h.below (Below.refl _ _) hB
theorem HAt.keep (h : HAt w B A l) (hb : Below B' w w') (hB : B ≤ B') : HAt w' B A l := h.below (hb.mono hB) (Nat.le_refl _)
theorem HAt.lt (h : HAt w B A l) : HAt w w.heap.size A l := fun hn => by
  obtain ⟨b, off, e, hlt, hc⟩ := h hn
  exact ⟨b, off, e, World.block_lt_of_cell? w _ (hc 0 hn).1, hc⟩
theorem HOwn.at_ (h : HOwn w lo B A l) : HAt w B A l := fun hn => by
  obtain ⟨b, off, e, _, h2, hc⟩ := h hn
  exact ⟨b, off, e, h2, fun j hj => (hc j hj).1⟩
theorem HOwn.below (h : HOwn w lo B A l) (hb : Below B' w w') (hB : B ≤ B') : HOwn w' lo B A l := fun hn => by
  obtain ⟨b, off, e, h1, h2, hc⟩ := h hn
  have hk : b < B' := by omega
  exact ⟨b, off, e, h1, h2, fun j hj => ⟨⟨(hb.cell (p := ⟨b, _, none⟩) hk).trans (hc j hj).1.1, (hb.cell (p := ⟨b, _, none⟩) hk).trans (hc j hj).1.2⟩, fun o => (hb.frozen (p := ⟨b, o, none⟩) hk).trans ((hc j hj).2 o)⟩⟩
theorem HOwn.more (h : HOwn w lo B A l) (hl : lo' ≤ lo) (hB : B ≤ B') : HOwn w lo' B' A l := fun hn => by
  obtain ⟨b, off, e, h1, h2, hc⟩ := h hn
  exact ⟨b, off, e, by omega, by omega, hc⟩
/-- a row of the call's own that holds l -/
theorem HOwn.of_owns {e : TypeId} {v : Value} {n : Nat} (h : w.ownsRow lo e 2 v n (hcs l)) : ∃ A cap, v = .slice A l.length cap ∧ n = l.length ∧ HOwn w lo w.heap.size A l := by
  have hl : n = l.length := by have := h.1; rw [hcs_length] at this; omega
  subst hl
  rcases h.2 with ⟨rfl, e0⟩ | ⟨g, cap, cur, rfl, hg, hh, hn, hm, hs, ht⟩
  · exact ⟨none, 0, by rw [e0], rfl, fun hn => absurd hn (by omega)⟩
  · refine ⟨_, cap, rfl, rfl, fun _ => ⟨g, 0, rfl, hg, (Array.getElem?_eq_some_iff.1 hh).1, fun j hj => ⟨⟨?_, ?_⟩, fun o => h.frozenAt o⟩⟩⟩
    · rw [Nat.zero_add, h.cellAt _ (by omega)]; exact (hcs_get hj).1
    · rw [Nat.zero_add, h.cellAt _ (by omega)]; exact (hcs_get hj).2
/-- a row of known cells -/
theorem HOwn.of_row {t g N : Nat} {f : Nat → Value} (h : w.rowIs g t N f) (hN : N = l.length * 2) (hf : ∀ j, j < l.length → f (j * 2) = .int .i64 (hT l j) ∧ f (j * 2 + 1) = .bool (hW l j)) (h1 : lo ≤ g) (h2 : g < B) : HOwn w lo B (some ⟨g, 0, none⟩) l := fun _ =>
  ⟨g, 0, rfl, h1, h2, fun j hj => ⟨⟨by rw [Nat.zero_add, h.cell (by omega), (hf j hj).1], by rw [Nat.zero_add, h.cell (by omega), (hf j hj).2]⟩, fun o => h.frozen o⟩⟩
end

theorem Onlys.more {lo B lo' B' : Nat} {w w' : World} (h : Onlys lo B w w') (h1 : lo' ≤ lo) (h2 : B ≤ B') : Onlys lo' B' w w' :=
  ⟨h.os, h.tape, h.output, h.size, fun k hk => h.block k (by omega)⟩
theorem HOwn.onlys {w w' : World} {lo B lo' B' : Nat} {A : Option Addr} {l : HL} (h : HOwn w lo B A l) (ho : Onlys lo' B' w w') (hd : B ≤ lo' ∨ B' ≤ lo) : HOwn w' lo B A l := fun hn => by
  obtain ⟨b, off, e, h1, h2, hc⟩ := h hn
  have hk := ho.block b (by omega)
  exact ⟨b, off, e, h1, h2, fun j hj => ⟨⟨(World.cell?_of_block (a := ⟨b, _, none⟩) hk).trans (hc j hj).1.1, (World.cell?_of_block (a := ⟨b, _, none⟩) hk).trans (hc j hj).1.2⟩, fun o => (World.frozen?_of_block (a := ⟨b, o, none⟩) hk).trans ((hc j hj).2 o)⟩⟩
theorem HAt.onlys {w w' : World} {B lo' B' : Nat} {A : Option Addr} {l : HL} (h : HAt w B A l) (ho : Onlys lo' B' w w') (hd : B ≤ lo') : HAt w' B A l := h.below (ho.below hd) (Nat.le_refl _)

theorem HOwn.far {w : World} {lo B : Nat} {A : Option Addr} {l : HL} {a : Addr} (h : HOwn w lo B A l) (v : Value) (hd : a.block < lo ∨ B ≤ a.block) : HOwn (w.setCell a v) lo B A l := fun hn => by
  obtain ⟨b, off, e, h1, h2, hc⟩ := h hn
  have hne : ∀ o, a ≠ ⟨b, o, none⟩ := fun o e => by subst e; simp at hd; omega
  exact ⟨b, off, e, h1, h2, fun j hj => ⟨⟨by rw [World.cell?_setCell_other _ _ _ _ (hne _)]; exact (hc j hj).1.1, by rw [World.cell?_setCell_other _ _ _ _ (hne _)]; exact (hc j hj).1.2⟩, fun o => by rw [World.frozen?_setCell]; exact (hc j hj).2 o⟩⟩
theorem HAt.far {w : World} {B : Nat} {A : Option Addr} {l : HL} {a : Addr} (h : HAt w B A l) (v : Value) (hd : B ≤ a.block) : HAt (w.setCell a v) B A l := h.below ((Below.refl B w).setCell hd v) (Nat.le_refl _)

/-- block b holds these cells and may be written -/
structure Box (w : World) (b : Nat) (cs : List Value) : Prop where
  lt : b < w.heap.size
  cell : ∀ j u, cs[j]? = some u → w.cell? ⟨b, j, none⟩ = some u
  free : ∀ o, w.frozen? ⟨b, o, none⟩ = false
section
variable {w w' : World} {b : Nat} {cs : List Value}
theorem Box.new {c : Array Value} {t : TypeId} (h : b = w.heap.size) : Box (w.alloc (.cells c t)) b c.toList := by
  subst h
  exact ⟨by simp, fun j u hu => by rw [World.cell?_alloc_new]; simpa using hu, fun o => by simp⟩
theorem Box.alloc (h : Box w b cs) (o : Obj) : Box (w.alloc o) b cs :=
  ⟨by simp; have := h.lt; omega, fun j u hu => by rw [World.cell?_alloc_lt _ _ _ h.lt]; exact h.cell j u hu, fun q => by rw [World.frozen?_alloc_old _ _ _ (Nat.ne_of_lt h.lt)]; exact h.free q⟩
theorem Box.below {B : Nat} (h : Box w b cs) (hb : Below B w w') (hB : b < B) : Box w' b cs :=
  ⟨Nat.lt_of_lt_of_le h.lt hb.size, fun j u hu => (hb.cell (p := ⟨b, j, none⟩) hB).trans (h.cell j u hu), fun o => (hb.frozen (p := ⟨b, o, none⟩) hB).trans (h.free o)⟩
theorem Box.next (h : Box w b cs) (hb : Below w.heap.size w w') : Box w' b cs := h.below hb h.lt
theorem Box.far {a : Addr} (h : Box w b cs) (v : Value) (hne : ¬ a.block = b) : Box (w.setCell a v) b cs :=
  ⟨by simpa [World.setCell] using h.lt, fun j u hu => by rw [World.cell?_setCell_other _ _ _ _ (by intro e; exact hne (by rw [e]))]; exact h.cell j u hu, fun o => by rw [World.frozen?_setCell]; exact h.free o⟩
theorem Box.set {j : Nat} (h : Box w b cs) (v : Value) (hj : j < cs.length) : Box (w.setCell ⟨b, j, none⟩ v) b (cs.set j v) := by
  refine ⟨by simpa [World.setCell] using h.lt, fun i u hu => ?_, fun o => by rw [World.frozen?_setCell]; exact h.free o⟩
  by_cases e : i = j
  · subst e
    rw [List.getElem?_set_self hj] at hu
    injection hu with hu
    subst hu
    exact World.cell?_setCell_same _ _ _ (h.cell i _ (List.getElem?_eq_getElem hj))
  · rw [List.getElem?_set_ne (by omega)] at hu
    rw [World.cell?_setCell_other _ _ _ _ (by intro h'; injection h' with _ h' _; omega)]
    exact h.cell i u hu
theorem Box.grown {row : Option Nat} (h : Box w b cs) (hg : w.grownBy w' row) (hne : ∀ q, row = some q → ¬ q = b) : Box w' b cs := by
  have hk := hg.block b h.lt (fun e => hne b e.symm rfl)
  exact ⟨Nat.lt_of_lt_of_le h.lt hg.size, fun j u hu => (World.cell?_of_block (a := ⟨b, j, none⟩) hk).trans (h.cell j u hu), fun o => (World.frozen?_of_block (a := ⟨b, o, none⟩) hk).trans (h.free o)⟩
theorem Box.c1 {x : Value} (h : Box w b [x]) : w.cell? ⟨b, 0, none⟩ = some x ∧ ∀ o, w.frozen? ⟨b, o, none⟩ = false := ⟨h.cell 0 _ rfl, h.free⟩
theorem Box.c2 {x y : Value} (h : Box w b [x, y]) : w.cell? ⟨b, 0, none⟩ = some x ∧ w.cell? ⟨b, 1, none⟩ = some y ∧ ∀ o, w.frozen? ⟨b, o, none⟩ = false := ⟨h.cell 0 _ rfl, h.cell 1 _ rfl, h.free⟩
theorem Box.c3 {x y z : Value} (h : Box w b [x, y, z]) : w.cell? ⟨b, 0, none⟩ = some x ∧ w.cell? ⟨b, 1, none⟩ = some y ∧ w.cell? ⟨b, 2, none⟩ = some z ∧ ∀ o, w.frozen? ⟨b, o, none⟩ = false := ⟨h.cell 0 _ rfl, h.cell 1 _ rfl, h.cell 2 _ rfl, h.free⟩
theorem Box.drew (h : Box w b cs) : Box w.drew b cs := h.next (Below.refl _ _).drew
end
theorem hT_take (l : HL) (k i : Nat) : hT (l.take k) i = if i < k then hT l i else 0 := by
  simp only [hT, List.getD_eq_getElem?_getD, List.getElem?_take]
  split <;> simp
theorem hW_take (l : HL) (k i : Nat) : hW (l.take k) i = if i < k then hW l i else false := by
  simp only [hW, List.getD_eq_getElem?_getD, List.getElem?_take]
  split <;> simp
/-- what cell j of a row of holds is -/
def hval (l : HL) (j : Nat) : Value := if j % 2 = 0 then .int .i64 (hT l (j / 2)) else .bool (hW l (j / 2))
theorem hval0 (l : HL) (k : Nat) : hval l (k * 2) = .int .i64 (hT l k) := by
  unfold hval; rw [if_pos (by omega), show k * 2 / 2 = k by omega]
theorem hval1 (l : HL) (k : Nat) : hval l (k * 2 + 1) = .bool (hW l k) := by
  unfold hval; rw [if_neg (by omega), show (k * 2 + 1) / 2 = k by omega]
theorem hval_step (l : HL) (k j : Nat) : (if j = k * 2 + 1 then Value.bool (hW l k) else if j = k * 2 then .int .i64 (hT l k) else hval (l.take k) j) = hval (l.take (k + 1)) j := by
  unfold hval
  simp only [hT_take, hW_take]
  by_cases e1 : j = k * 2 + 1
  · subst e1; rw [if_pos rfl, if_neg (by omega), if_pos (by omega), show (k * 2 + 1) / 2 = k by omega]
  rw [if_neg e1]
  by_cases e0 : j = k * 2
  · subst e0; rw [if_pos rfl, if_pos (by omega), if_pos (by omega), show (k * 2) / 2 = k by omega]
  rw [if_neg e0]
  by_cases hlt : j / 2 < k
  · have h1 : j / 2 < k + 1 := by omega
    simp [hlt, h1]
  · have h1 : ¬ j / 2 < k + 1 := by omega
    simp [hlt, h1]

theorem toWant_any (t : Int) (b : Bool) (w : World) :
    Calls Try.prog 71 #[.agg #[.int .i64 t, .bool b]] w fun e w' => e = .returned (.agg #[.int .i64 t, .bool b]) ∧ Below w.heap.size w w' := by
  go_enter Try.func71, Try.ntmps71
  go_wp2
  exact bodyPost_ret (v := .agg #[.int .i64 t, .bool b]) (by simp [results, Try.results71, go_sem]) rfl ⟨rfl, (((Below.refl _ _).alloc (Nat.le_refl _) _).alloc (by simp) _).alloc (by simp; omega) _⟩

theorem infoWant : (Try.prog.info? 32).map (fun i => (i.zero, i.size, i.bytes)) = some (some (.agg #[.int .i64 0, .bool false]), 2, 16) := by kernel_rfl

theorem run_make_wants (n : Nat) (h : n ≤ 1048576) (w : World) :
    (Instr.makeSlice 24 (.int .i64 (n : Int)) (.int .i64 (n : Int))).run Try.prog w = .ok (.slice (some ⟨w.heap.size, 0, none⟩) n n) (w.alloc (.cells (madeCells #[.int .i64 0, .bool false] (n * 2)) 32)) := by
  obtain ⟨i, hi, hzz⟩ := Option.map_eq_some_iff.1 infoWant
  simp only [Prod.mk.injEq] at hzz
  obtain ⟨hz, hs, hb⟩ := hzz
  have := run_make (P := Try.prog) w 24 32 i _ Try.underlying24 hi hz .i64 .i64 n n (by omega) (Int.le_refl _) (by rw [hb]; omega) (by omega)
  simpa [hs, Value.cells] using this

theorem made_wants (w : World) (n t : Nat) : (w.alloc (.cells (madeCells #[.int .i64 0, .bool false] (n * 2)) t)).rowIs w.heap.size t (n * 2) (hval []) :=
  ⟨_, Go.Deep.blk_alloc_new _ _, size_madeCells _ _, fun i hi => by
    have h3 : i % 2 = 0 ∨ i % 2 = 1 := by omega
    simp only [madeCells, Array.getElem?_map, Array.getElem?_range, hi, if_true, Option.map_some]
    rcases h3 with h | h <;> simp [h, hval, hT, hW]⟩

set_option maxHeartbeats 400000 in
theorem toWantS_any (A : Option Addr) (cap : Nat) (l : HL) (w : World) (hn : l.length ≤ 1048576) (hr : HAt w w.heap.size A l) :
    Calls Try.prog 38 #[.slice A l.length cap] w fun e w' => ∃ g, e = .returned (.slice (some ⟨g, 0, none⟩) l.length l.length) ∧ Below w.heap.size w w' ∧ HOwn w' w.heap.size w'.heap.size (some ⟨g, 0, none⟩) l := by
  have hmk := run_make_wants l.length hn
  generalize hL : l.length = n at hn hmk ⊢
  have HL := Lib.hid hL
  clear hL
  go_enter Try.func38, Try.ntmps38
  go_wp2
  clear hmk
  go_loopw [4] (fun i wr => ∃ k : Nat, k ≤ n ∧ i = .int .i64 k ∧ Below w.heap.size w wr ∧ wr.rowIs w.heap.size 32 (n * 2) (hval (l.take k))) (fun i _ => n - (intOf i).toNat)
  case atStart => exact ⟨0, Nat.zero_le _, rfl, (Below.refl _ _).alloc (Nat.le_refl _) _, made_wants w n _⟩
  case round =>
    obtain ⟨k, hk, rfl, hb, hrow⟩ := hrel
    by_cases hkn : k < n
    · have hlen := HL.out
      obtain ⟨b, off, rfl, hB, hc⟩ := hr (by omega)
      have c0 : wr.cell? ⟨b, off + k * 2, none⟩ = some (.int .i64 (hT l k)) := (hb.cell (p := ⟨b, off + k * 2, none⟩) hB).trans (hc k (by omega)).1
      have c1 : wr.cell? ⟨b, off + k * 2 + 1, none⟩ = some (.bool (hW l k)) := (hb.cell (p := ⟨b, off + k * 2 + 1, none⟩) hB).trans (hc k (by omega)).2
      have hkz : (k : Int) < n := by omega
      clear hc hr hlen
      go_wp2_with fail
      refine (toWant_any _ _ _).mono ?_; rintro e w1 ⟨rfl, hb1⟩
      have hrow1 := rowIs_below hrow hb1 hrow.lt
      have hg := hrow.lt
      have s0 : w1.cell? ⟨w.heap.size, k * 2, none⟩ = some (.int .i64 0) := by rw [hrow1.cell (by omega), hval0, hT_take, if_neg (by omega)]
      have s1 : w1.cell? ⟨w.heap.size, k * 2 + 1, none⟩ = some (.bool false) := by rw [hrow1.cell (by omega), hval1, hW_take, if_neg (by omega)]
      have r0 : w1.frozen? ⟨w.heap.size, k * 2, none⟩ = false := hrow1.frozen _
      have r1 : w1.frozen? ⟨w.heap.size, k * 2 + 1, none⟩ = false := hrow1.frozen _
      have Hrow1 := Lib.hid (((hrow1.set (k * 2) (.int .i64 (hT l k))).set (k * 2 + 1) (.bool (hW l k))).congr (fun j _ => hval_step l k j))
      clear hrow hrow1
      go_wp2
      exact ⟨⟨k + 1, by omega, by go_num, ((hb.trans (hb1.mono (by omega))).setCell (Nat.le_refl _) _).setCell (Nat.le_refl _) _, Hrow1.out⟩, by simp [intOf]; omega⟩
    · obtain rfl : k = n := by omega
      have ht : l.take k = l := by rw [← HL.out]; exact List.take_length
      rw [ht] at hrow
      have hg := hrow.lt
      have HO := Lib.hid (HOwn.of_row (lo := w.heap.size) (l := l) hrow (by rw [HL.out]) (fun j _ => ⟨hval0 l j, hval1 l j⟩) (Nat.le_refl _) hg)
      clear hrow ht
      go_wp2
      go_ret
      exact ⟨_, rfl, hb, HO.out⟩

theorem szWantS_any (A : Option Addr) (n cap : Nat) (left : Int) (w : World) (hn : n ≤ maxLen) (h0 : 0 ≤ left) (h1 : left ≤ 1048576) :
    Calls Try.prog 36 #[.slice A n cap, .int .i64 left] w fun e w' => e = .returned (.int .i64 (szOf left n)) ∧ w = w' := by
  unfold maxLen at hn
  by_cases hl : left < n
  · have h2 : left - (n : Int) < 0 := by omega
    go_enter Try.func36, Try.ntmps36
    go_wp2
    go_ret
    exact ⟨by unfold szOf; rw [if_pos (by omega)]; rfl, rfl⟩
  · have h2 : ¬ left - (n : Int) < 0 := by omega
    go_enter Try.func36, Try.ntmps36
    go_wp2
    go_ret
    exact ⟨by unfold szOf; rw [if_neg (by omega)]; rfl, rfl⟩

theorem szOf_yes {left : Int} {n : Nat} (h : (n : Int) ≤ left) : szOf left n = left - n := by unfold szOf; rw [if_neg (by omega)]
theorem szOf_no {left : Int} {n : Nat} (h : left < n) : szOf left n = -1 := by unfold szOf; rw [if_pos h]
theorem eqWant_same (a : Int) (b : Bool) (w : World) :
    Calls Try.prog 51 #[.agg #[.int .i64 a, .bool b], .agg #[.int .i64 a, .bool b]] w fun e w' => e = .returned (.bool true) ∧ Below w.heap.size w w' := by
  go_enter Try.func51, Try.ntmps51
  go_wp2
  go_ret
  exact ⟨rfl, ((Below.refl _ _).alloc (Nat.le_refl _) _).alloc (by simp) _⟩

set_option maxRecDepth 100000 in
theorem eqWantS_same (A1 A2 : Option Addr) (c1 c2 B1 B2 : Nat) (l : HL) (w : World) (hn : l.length ≤ maxLen) (h1 : HAt w B1 A1 l) (h2 : HAt w B2 A2 l) :
    Calls Try.prog 39 #[.slice A1 l.length c1, .slice A2 l.length c2] w fun e w' => e = .returned (.bool true) ∧ Below w.heap.size w w' := by
  have h1 := h1.lt
  have h2 := h2.lt
  unfold maxLen at hn
  go_enter Try.func39, Try.ntmps39
  go_wp2
  go_loopw [5] (fun i wr => ∃ k : Nat, k ≤ l.length ∧ i = .int .i64 k ∧ Below w.heap.size w wr) (fun i _ => l.length - (intOf i).toNat)
  case atStart => exact ⟨0, Nat.zero_le _, rfl, Below.refl _ _⟩
  case round =>
    obtain ⟨k, hk, rfl, hb⟩ := hrel
    by_cases hkn : k < l.length
    · obtain ⟨b, off, rfl, hB, hc⟩ := h1 (by omega)
      obtain ⟨b', off', rfl, hB', hc'⟩ := h2 (by omega)
      have hkz : (k : Int) < l.length := by omega
      have d0 : wr.cell? ⟨b, off + k * 2, none⟩ = some (.int .i64 (hT l k)) := (hb.cell (p := ⟨b, off + k * 2, none⟩) hB).trans (hc k hkn).1
      have d1 : wr.cell? ⟨b, off + k * 2 + 1, none⟩ = some (.bool (hW l k)) := (hb.cell (p := ⟨b, off + k * 2 + 1, none⟩) hB).trans (hc k hkn).2
      have d0' : wr.cell? ⟨b', off' + k * 2, none⟩ = some (.int .i64 (hT l k)) := (hb.cell (p := ⟨b', off' + k * 2, none⟩) hB').trans (hc' k hkn).1
      have d1' : wr.cell? ⟨b', off' + k * 2 + 1, none⟩ = some (.bool (hW l k)) := (hb.cell (p := ⟨b', off' + k * 2 + 1, none⟩) hB').trans (hc' k hkn).2
      clear hc hc' h1 h2
      go_wp2_with fail
      go_still_tail 8, (by kernel_rfl)
      change wpList _ _ _ _ _ wr.drew
      have hb2 := hb.drew
      clear d0 d1 d0' d1'
      generalize wr.drew = w2 at hb2 ⊢
      go_wp2_with fail
      refine (eqWant_same _ _ _).mono ?_; rintro e w3 ⟨rfl, hb3⟩
      go_wp2
      exact ⟨⟨k + 1, by omega, by go_num, hb2.trans (hb3.mono hb2.size)⟩, by simp [intOf]; omega⟩
    · obtain rfl : k = l.length := by omega
      go_wp2
      go_ret
      exact ⟨rfl, hb⟩

/-- what marking leaves -/
def marks (k : Int) (n : Nat) : HL := (List.range n).map fun (j : Nat) => (k + j * 2, decide ((k + j * 2 + 1) % 3 = 0))
theorem marks_len (k : Int) (n : Nat) : (marks k n).length = n := by simp [marks]
theorem marks_get {k : Int} {n j : Nat} (h : j < n) : hT (marks k n) j = k + j * 2 ∧ hW (marks k n) j = decide ((k + j * 2 + 1) % 3 = 0) := by
  simp [hT, hW, marks, List.getD_eq_getElem?_getD, h]

theorem heldWantS_any (A : Option Addr) (n cap B : Nat) (k0 : Int) (w : World) (hn : n ≤ 1073741824) (h0 : 0 ≤ k0) (hk0 : k0 ≤ 1073741824) (h : HAt w B A (marks k0 n)) :
    Calls Try.prog 47 #[.slice A n cap, .int .i64 k0] w fun e w' => e = .returned (.int .i64 (k0 + n * 2)) ∧ w = w' := by
  have hl := marks_len k0 n
  have HL := Lib.hid hl
  clear hl
  go_enter Try.func47, Try.ntmps47
  go_wp2
  go_loop [1, 5] (fun s i => ∃ k : Nat, k ≤ n ∧ i = .int .i64 k ∧ s = .int .i64 (k0 + k * 2)) (fun _ i => n - (intOf i).toNat)
  case atStart => exact ⟨0, Nat.zero_le _, rfl, by simp⟩
  case round =>
    obtain ⟨k, hk, rfl, rfl⟩ := hrel
    by_cases hkn : k < n
    · obtain ⟨b, off, rfl, _, hc⟩ := h (by rw [HL.out]; omega)
      have hkz : (k : Int) < n := by omega
      have hm := marks_get (k := k0) hkn
      have d0 : w.cell? ⟨b, off + k * 2, none⟩ = some (.int .i64 (k0 + k * 2)) := by rw [(hc k (by rw [HL.out]; exact hkn)).1, hm.1]
      have d1 : w.cell? ⟨b, off + k * 2 + 1, none⟩ = some (.bool (decide ((k0 + k * 2 + 1) % 3 = 0))) := by rw [(hc k (by rw [HL.out]; exact hkn)).2, hm.2]
      clear hc h hm
      by_cases h3 : (k0 + k * 2 + 1) % 3 = 0
      · rw [decide_eq_true h3] at d1
        go_wp2
        exact ⟨⟨k + 1, by omega, by go_num, by go_num⟩, by simp [intOf]; omega⟩
      · rw [decide_eq_false h3] at d1
        go_wp2
        exact ⟨⟨k + 1, by omega, by go_num, by go_num⟩, by simp [intOf]; omega⟩
    · obtain rfl : k = n := by omega
      go_wp2
      go_ret
      exact ⟨rfl, rfl⟩
def CellsH (w : World) (b off n : Nat) (t : Nat → Int) (v : Nat → Bool) : Prop := ∀ j, j < n → w.cell? ⟨b, off + j * 2, none⟩ = some (.int .i64 (t j)) ∧ w.cell? ⟨b, off + j * 2 + 1, none⟩ = some (.bool (v j))
theorem CellsH.set {w : World} {b off n k : Nat} {t t' : Nat → Int} {v v' : Nat → Bool} (h : CellsH w b off n t v) (hk : k < n) (x : Int) (y : Bool) (e0 : t' k = x) (e1 : v' k = y) (e2 : ∀ j, ¬ j = k → t' j = t j) (e3 : ∀ j, ¬ j = k → v' j = v j) :
    CellsH ((w.setCell ⟨b, off + k * 2, none⟩ (.int .i64 x)).setCell ⟨b, off + k * 2 + 1, none⟩ (.bool y)) b off n t' v' := fun j hj => by
  by_cases e : j = k
  · subst e
    refine ⟨?_, ?_⟩
    · rw [World.cell?_setCell_other _ _ _ _ (by intro h'; injection h' with _ h' _; omega), World.cell?_setCell_same _ _ _ (h j hk).1, e0]
    · rw [World.cell?_setCell_same (u := .bool (v j)), e1]
      rw [World.cell?_setCell_other _ _ _ _ (by intro h'; injection h' with _ h' _; omega)]
      exact (h j hk).2
  · refine ⟨?_, ?_⟩
    · rw [World.cell?_setCell_other _ _ _ _ (by intro h'; injection h' with _ h' _; omega), World.cell?_setCell_other _ _ _ _ (by intro h'; injection h' with _ h' _; omega), (h j hj).1, e2 j e]
    · rw [World.cell?_setCell_other _ _ _ _ (by intro h'; injection h' with _ h' _; omega), World.cell?_setCell_other _ _ _ _ (by intro h'; injection h' with _ h' _; omega), (h j hj).2, e3 j e]

def mT (k0 : Int) (l : HL) (k j : Nat) : Int := if j < k then k0 + j * 2 else hT l j
def mW (k0 : Int) (l : HL) (k j : Nat) : Bool := if j < k then decide ((k0 + j * 2 + 1) % 3 = 0) else hW l j
def Free (w : World) (b : Nat) : Prop := ∀ o, w.frozen? ⟨b, o, none⟩ = false

theorem markWantS_any (A : Option Addr) (cap lo B : Nat) (l : HL) (k0 : Int) (w : World) (hn : l.length ≤ 1073741824) (h0 : 0 ≤ k0) (hk0 : k0 ≤ 1073741824) (h : HOwn w lo B A l) :
    Calls Try.prog 46 #[.slice A l.length cap, .int .i64 k0] w fun e w' => e = .returned (.int .i64 (k0 + l.length * 2)) ∧ Onlys lo B w w' ∧ HOwn w' lo B A (marks k0 l.length) := by
  rcases Nat.eq_zero_or_pos l.length with hz | hpos
  · rw [hz]
    go_enter Try.func46, Try.ntmps46
    go_wp2
    refine wp_loop_rounds 1 ?_; rw [rounds_succ]
    go_wp2
    go_ret
    exact ⟨by simp, Onlys.refl _ _ _, fun h => absurd h (by rw [marks_len]; omega)⟩
  obtain ⟨b, off, rfl, hb1, hb2, hc⟩ := h hpos
  have hf := (hc 0 hpos).2
  have hc : CellsH w b off l.length (hT l) (hW l) := fun j hj => (hc j hj).1
  clear h
  generalize hL : l.length = n at hn hpos hc ⊢
  clear hL
  go_enter Try.func46, Try.ntmps46
  go_wp2
  go_loopw [1, 5] (fun s i wr => ∃ k : Nat, k ≤ n ∧ i = .int .i64 k ∧ s = .int .i64 (k0 + k * 2) ∧ Onlys lo B w wr ∧ CellsH wr b off n (mT k0 l k) (mW k0 l k) ∧ Free wr b) (fun _ i _ => n - (intOf i).toNat)
  case atStart => exact ⟨0, Nat.zero_le _, rfl, by simp, Onlys.refl _ _ _, fun j hj => by simpa [mT, mW] using hc j hj, hf⟩
  case round =>
    obtain ⟨k, hk, rfl, rfl, ho, hcr, fr⟩ := hrel
    clear hc
    by_cases hkn : k < n
    · have hkz : (k : Int) < n := by omega
      have d0 : wr.cell? ⟨b, off + k * 2, none⟩ = some (.int .i64 (hT l k)) := by rw [(hcr k hkn).1, mT, if_neg (by omega)]
      have d1 : wr.cell? ⟨b, off + k * 2 + 1, none⟩ = some (.bool (hW l k)) := by rw [(hcr k hkn).2, mW, if_neg (by omega)]
      have r0 : wr.frozen? ⟨b, off + k * 2, none⟩ = false := fr _
      have r1 : wr.frozen? ⟨b, off + k * 2 + 1, none⟩ = false := fr _
      go_wp2
      exact ⟨⟨k + 1, by omega, by go_num, by go_num, (ho.setCell hb1 hb2 _).setCell hb1 hb2 _, hcr.set hkn _ _ (by unfold mT; rw [if_pos (by omega)]) (by unfold mW; rw [if_pos (by omega), Bool.eq_iff_iff]; simp) (fun j hj => by
        unfold mT
        by_cases e : j < k
        · rw [if_pos e, if_pos (by omega)]
        · rw [if_neg e, if_neg (by omega)]) (fun j hj => by
        unfold mW
        by_cases e : j < k
        · rw [if_pos e, if_pos (by omega)]
        · rw [if_neg e, if_neg (by omega)]), fun o => by simpa using fr o⟩, by simp [intOf]; omega⟩
    · obtain rfl : k = n := by omega
      go_wp2
      go_ret
      exact ⟨rfl, ho, fun _ => ⟨b, off, rfl, hb1, hb2, fun j hj => by
        rw [marks_len] at hj
        refine ⟨⟨?_, ?_⟩, fr⟩
        · rw [(hcr j hj).1, mT, if_pos hj, (marks_get hj).1]
        · rw [(hcr j hj).2, mW, if_pos hj, (marks_get hj).2]⟩⟩

theorem HOwn.one {w : World} {lo B : Nat} {A : Option Addr} {l : HL} (h : HOwn w lo B A l) (hl : 0 < l.length) : ∃ a, A = some a ∧ lo ≤ a.block ∧ a.block < B ∧ HOwn w a.block (a.block + 1) A l := by
  obtain ⟨b, off, e, h1, h2, hc⟩ := h hl
  exact ⟨_, e, h1, h2, fun _ => ⟨b, off, e, Nat.le_refl _, Nat.lt_succ_self _, hc⟩⟩
theorem HOwn.none {w : World} {lo B : Nat} {A : Option Addr} {l : HL} (h : l.length = 0) : HOwn w lo B A l := fun hn => absurd hn (by omega)

/-- perhaps a block laid, then only blocks from lo on and below B turned -/
def MarkS (lo B : Nat) (w w' : World) : Prop := Onlys lo B w w' ∨ ∃ o, Onlys lo B (w.alloc o) w'
theorem MarkS.one {lo B : Nat} {w w' : World} (h : Onlys lo B w w') : MarkS lo B w w' := .inl h
theorem MarkS.two {lo B : Nat} {w w' : World} (h : ∃ o, Onlys lo B (w.alloc o) w') : MarkS lo B w w' := .inr h
section
variable {w w' : World} {lo B lo' B' b : Nat} {A A' : Option Addr} {cs : List Value} {l : HL}
/-- what a step does, said with the world between -/
theorem MarkS.mid (h : MarkS lo B w w') : ∃ v, Below w.heap.size w v ∧ Onlys lo B v w' := by
  rcases h with h | ⟨o, h⟩
  · exact ⟨w, Below.refl _ _, h⟩
  · exact ⟨_, (Below.refl w.heap.size w).alloc (Nat.le_refl _) o, h⟩
theorem MarkS.size (h : MarkS lo B w w') : w.heap.size ≤ w'.heap.size := by obtain ⟨v, h1, h2⟩ := h.mid; rw [h2.size]; exact h1.size
theorem MarkS.bel (h : MarkS lo B w w') {L : Nat} (hL : L ≤ lo) (hL' : L ≤ w.heap.size) : Below L w w' := by
  obtain ⟨v, h1, h2⟩ := h.mid
  exact (h1.mono hL').trans (h2.below hL)
theorem Box.mark (k : Box w b cs) (h : MarkS lo B w w') (hd : b < lo ∨ B ≤ b) : Box w' b cs := by
  obtain ⟨v, h1, h2⟩ := h.mid
  have k := k.next h1
  have hk := h2.block b hd
  exact ⟨by rw [h2.size]; exact k.lt, fun j u hu => (World.cell?_of_block (a := ⟨b, j, none⟩) hk).trans (k.cell j u hu), fun q => (World.frozen?_of_block (a := ⟨b, q, none⟩) hk).trans (k.free q)⟩
theorem HOwn.mark (k : HOwn w lo' B' A l) (h : MarkS lo B w w') (hs : B' ≤ w.heap.size) (hd : B' ≤ lo ∨ B ≤ lo') : HOwn w' lo' B' A l := by
  obtain ⟨v, h1, h2⟩ := h.mid
  exact (k.below h1 hs).onlys h2 hd
theorem HAt.mark (k : HAt w B' A l) (h : MarkS lo B w w') (hs : B' ≤ w.heap.size) (hd : B' ≤ lo) : HAt w' B' A l := by
  obtain ⟨v, h1, h2⟩ := h.mid
  exact (k.keep h1 hs).onlys h2 hd
theorem OwnI.mark {N : Nat} {f : Nat → Int} (k : OwnI w lo' B' A N f) (h : MarkS lo B w w') (hs : B' ≤ w.heap.size) (hd : B' ≤ lo ∨ B ≤ lo') : OwnI w' lo' B' A N f := by
  obtain ⟨v, h1, h2⟩ := h.mid
  exact (k.below h1 hs).onlys h2 hd
theorem IntsAt.mark {N : Nat} {f : Nat → Int} (k : IntsAt w B' A N f) (h : MarkS lo B w w') (hs : B' ≤ w.heap.size) (hd : B' ≤ lo) : IntsAt w' B' A N f := by
  obtain ⟨v, h1, h2⟩ := h.mid
  exact (k.below (h1.mono hs) (Nat.le_refl _)).onlys h2 hd
end
theorem markIntS_int (A : Option Addr) (n cap lo B : Nat) (f : Nat → Int) (k0 : Int) (w : World) (hn : n ≤ 1073741824) (h0 : 0 ≤ k0) (hk0 : k0 ≤ 1073741824) (h : OwnI w lo B A n f) :
    Calls Try.prog 33 #[.slice A n cap, .int .i64 k0] w fun e w' => e = .returned (.int .i64 (k0 + n)) ∧ Onlys lo B w w' ∧ OwnI w' lo B A n (fun j => k0 + j) := by
  obtain ⟨m, rfl⟩ := Int.eq_ofNat_of_zero_le h0
  exact markIntS_any A n cap lo B f m w hn (by omega) h
theorem heldIntS_int (A : Option Addr) (n cap B : Nat) (k0 : Int) (w : World) (hn : n ≤ 1073741824) (h0 : 0 ≤ k0) (hk0 : k0 ≤ 1073741824) (h : IntsAt w B A n (fun j => k0 + j)) :
    Calls Try.prog 34 #[.slice A n cap, .int .i64 k0] w fun e w' => e = .returned (.int .i64 (k0 + n)) ∧ w = w' := by
  obtain ⟨m, rfl⟩ := Int.eq_ofNat_of_zero_le h0
  exact heldIntS_any A n cap B m w hn (by omega) h
end Go.Proofs.Ytognfnfbmbfidaa
