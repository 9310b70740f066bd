/- The laws' copies of tables: toCell, toCellS, toTable. -/
import Derived.Test.YtomkfldimkpmdaaTe
import Derived.Test.YtomkfldimkpmdaaTc
namespace Go.Proofs.Ytomkfldimkpmdaa
open Go.RowKit

abbrev zer6 : List Value := [.int .i64 0, .int .i64 0, .int .i64 0, .bool false, .slice none 0 0, .slice none 0 0]
set_option maxHeartbeats 800000 in
set_option maxRecDepth 100000 in
theorem toCell_any (c : CD) (q : Pl) (w : World) (hn : c.hs.length ≤ 1048576) (hn' : c.ws.length ≤ 1048576) (hr : LsAt w w.heap.size c q) :
    Calls Try.prog 99 #[cval c q] w fun e w' => ∃ q', e = .returned (cval c q') ∧ Below w.heap.size w w' ∧ LsOwn w' w.heap.size w'.heap.size c q' := by
  unfold cval
  generalize hx : (Value.slice q.G c.hs.length q.c) = x4
  generalize hy : (Value.slice q.G' c.ws.length q.c') = x5
  go_enter Try.func99, Try.ntmps99
  go_wp2_with fail
  have b := (((Below.refl w.heap.size w).alloc (Nat.le_refl _) (.cells #[.int .i64 c.v, .int .i64 c.e, .int .i64 c.s, .bool c.h, x4, x5] 151)).alloc (by simp) (.cells #[.int .i64 0, .int .i64 0, .int .i64 0, .bool false, .slice none 0 0, .slice none 0 0] 83)).alloc (by simp; omega) (.cells #[.int .i64 c.v, .int .i64 0, .int .i64 0, .bool false, .slice none 0 0, .slice none 0 0] 83)
  have X := ((Box.new (w := w) (c := #[.int .i64 c.v, .int .i64 c.e, .int .i64 c.s, .bool c.h, x4, x5]) (t := 151) rfl).alloc (.cells #[.int .i64 0, .int .i64 0, .int .i64 0, .bool false, .slice none 0 0, .slice none 0 0] 83)).alloc (.cells #[.int .i64 c.v, .int .i64 0, .int .i64 0, .bool false, .slice none 0 0, .slice none 0 0] 83)
  have Y := (Box.new (w := w.alloc (.cells #[.int .i64 c.v, .int .i64 c.e, .int .i64 c.s, .bool c.h, x4, x5] 151)) (b := w.heap.size + 1) (c := #[.int .i64 0, .int .i64 0, .int .i64 0, .bool false, .slice none 0 0, .slice none 0 0]) (t := 83) (by simp)).alloc (.cells #[.int .i64 c.v, .int .i64 0, .int .i64 0, .bool false, .slice none 0 0, .slice none 0 0] 83)
  have Z := Box.new (w := (w.alloc (.cells #[.int .i64 c.v, .int .i64 c.e, .int .i64 c.s, .bool c.h, x4, x5] 151)).alloc (.cells #[.int .i64 0, .int .i64 0, .int .i64 0, .bool false, .slice none 0 0, .slice none 0 0] 83)) (b := w.heap.size + 1 + 1) (c := #[.int .i64 c.v, .int .i64 0, .int .i64 0, .bool false, .slice none 0 0, .slice none 0 0]) (t := 83) (by simp)
  have hsz : w.heap.size + 1 + 1 < (((w.alloc (.cells #[.int .i64 c.v, .int .i64 c.e, .int .i64 c.s, .bool c.h, x4, x5] 151)).alloc (.cells #[.int .i64 0, .int .i64 0, .int .i64 0, .bool false, .slice none 0 0, .slice none 0 0] 83)).alloc (.cells #[.int .i64 c.v, .int .i64 0, .int .i64 0, .bool false, .slice none 0 0, .slice none 0 0] 83)).heap.size := by simp
  generalize ((w.alloc (.cells #[.int .i64 c.v, .int .i64 c.e, .int .i64 c.s, .bool c.h, x4, x5] 151)).alloc (.cells #[.int .i64 0, .int .i64 0, .int .i64 0, .bool false, .slice none 0 0, .slice none 0 0] 83)).alloc (.cells #[.int .i64 c.v, .int .i64 0, .int .i64 0, .bool false, .slice none 0 0, .slice none 0 0] 83) = w0 at b X Y Z hsz ⊢
  refine (toWord_any _ _ _ _).mono ?_; rintro e w1 ⟨rfl, hb1⟩
  have X := X.next hb1
  have Y := Y.next hb1
  have Z := Z.next hb1
  have b := b.trans (hb1.mono b.size)
  have hsz : w.heap.size + 1 + 1 < w1.heap.size := Nat.lt_of_lt_of_le hsz hb1.size
  subst hx hy
  obtain ⟨⟨_, _, _, _, x4, x5⟩, _⟩ := X.c6
  obtain ⟨⟨z0, z1, z2, z3, z4, z5⟩, zf⟩ := Z.c6
  clear hb1
  go_wp2_with fail
  clear x4 x5 z0 z1 z2 z3 z4 z5 zf
  have b := ((b.setCell (p := ⟨w.heap.size + 1 + 1, 1, none⟩) (by simp; omega) (.int .i64 c.e)).setCell (p := ⟨w.heap.size + 1 + 1, 2, none⟩) (by simp; omega) (.int .i64 c.s)).setCell (p := ⟨w.heap.size + 1 + 1, 3, none⟩) (by simp; omega) (.bool c.h)
  have Y := ((Y.far (a := ⟨w.heap.size + 1 + 1, 1, none⟩) (.int .i64 c.e) (by simp)).far (a := ⟨w.heap.size + 1 + 1, 2, none⟩) (.int .i64 c.s) (by simp)).far (a := ⟨w.heap.size + 1 + 1, 3, none⟩) (.bool c.h) (by simp)
  have Z := ((Z.set (j := 1) (.int .i64 c.e) (by simp)).set (j := 2) (.int .i64 c.s) (by simp)).set (j := 3) (.bool c.h) (by simp)
  have hsz : w.heap.size + 1 + 1 < (((w1.setCell ⟨w.heap.size + 1 + 1, 1, none⟩ (.int .i64 c.e)).setCell ⟨w.heap.size + 1 + 1, 2, none⟩ (.int .i64 c.s)).setCell ⟨w.heap.size + 1 + 1, 3, none⟩ (.bool c.h)).heap.size := by simpa [World.setCell] using hsz
  generalize ((w1.setCell ⟨w.heap.size + 1 + 1, 1, none⟩ (.int .i64 c.e)).setCell ⟨w.heap.size + 1 + 1, 2, none⟩ (.int .i64 c.s)).setCell ⟨w.heap.size + 1 + 1, 3, none⟩ (.bool c.h) = w2 at b Y Z hsz ⊢
  refine (toLock_any _ _ _ _ c.hs c.ws _ hn hn' (LAt.below hr b b.size)).mono ?_; rintro e w3 ⟨G, d, G', d', rfl, hb3, ho⟩
  have Y := Y.next hb3
  have Z := Z.next hb3
  have b := b.trans (hb3.mono b.size)
  have hs3 := hb3.size
  obtain ⟨⟨y0, y1, y2, y3, y4, y5⟩, yf⟩ := Y.c6
  obtain ⟨⟨z0, z1, z2, z3, z4, z5⟩, zf⟩ := Z.c6
  clear hb3
  go_wp2
  have HB := Lib.hid ((((((((b.setCell (p := ⟨w.heap.size + 1 + 1, 4, none⟩) (by simp; omega) (.slice G c.hs.length d)).setCell (p := ⟨w.heap.size + 1 + 1, 5, none⟩) (by simp; omega) (.slice G' c.ws.length d')).setCell (p := ⟨w.heap.size + 1, 0, none⟩) (by simp) (.int .i64 c.v)).setCell (p := ⟨w.heap.size + 1, 1, none⟩) (by simp) (.int .i64 c.e)).setCell (p := ⟨w.heap.size + 1, 2, none⟩) (by simp) (.int .i64 c.s)).setCell (p := ⟨w.heap.size + 1, 3, none⟩) (by simp) (.bool c.h)).setCell (p := ⟨w.heap.size + 1, 4, none⟩) (by simp) (.slice G c.hs.length d)).setCell (p := ⟨w.heap.size + 1, 5, none⟩) (by simp) (.slice G' c.ws.length d'))
  exact bodyPost_ret (v := cval c ⟨G, d, G', d'⟩) (by simp [results, Try.results99, go_sem, y0, y1, y2, y3, y4, y5, cval]) rfl ⟨⟨G, d, G', d'⟩, rfl, HB.out, by
    have o1 := LOwn.more (lo' := w.heap.size + 1 + 1 + 1) (B' := w3.heap.size) ho (by omega) (Nat.le_refl _)
    refine LOwn.more (lo := w.heap.size + 1 + 1 + 1) (B := w3.heap.size) ?_ (by omega) (by simp [World.setCell])
    have far : ∀ {w'} (h : LOwn w' (w.heap.size + 1 + 1 + 1) w3.heap.size G G' (c.hs, c.ws)) (i j : Nat) (v : Value), i ≤ w.heap.size + 1 + 1 → LOwn (w'.setCell ⟨i, j, none⟩ v) (w.heap.size + 1 + 1 + 1) w3.heap.size G G' (c.hs, c.ws) := fun h i j v hi => ⟨h.1.far v (.inl (by show i < _; omega)), h.2.1.far v (.inl (by show i < _; omega)), h.2.2⟩
    exact far (far (far (far (far (far (far (far o1 _ _ _ (by omega)) _ _ _ (by omega)) _ _ _ (by omega)) _ _ _ (by omega)) _ _ _ (by omega)) _ _ _ (by omega)) _ _ _ (by omega)) _ _ _ (by omega)⟩

/-- cell i of a cell -/
def tv (c : CD) (q : Pl) : Nat → Value
  | 0 => .int .i64 c.v
  | 1 => .int .i64 c.e
  | 2 => .int .i64 c.s
  | 3 => .bool c.h
  | 4 => .slice q.G c.hs.length q.c
  | _ => .slice q.G' c.ws.length q.c'
def tval (f : Nat → CD) (q : Nat → Pl) (j : Nat) : Value := tv (f (j / 6)) (q (j / 6)) (j % 6)
theorem tval_at (f : Nat → CD) (q : Nat → Pl) (k i : Nat) (hi : i < 6) : tval f q (k * 6 + i) = tv (f k) (q k) i := by
  unfold tval
  rw [show (k * 6 + i) / 6 = k by omega, show (k * 6 + i) % 6 = i by omega]
theorem tval_at0 (f : Nat → CD) (q : Nat → Pl) (k : Nat) : tval f q (k * 6) = tv (f k) (q k) 0 := tval_at f q k 0 (by omega)
def Pl.zero : Pl := ⟨none, 0, none, 0⟩
theorem tval_step (f : Nat → CD) (q : Nat → Pl) (k : Nat) (c : CD) (p : Pl) (j : Nat) :
    (if j = k * 6 + 5 then tv c p 5 else if j = k * 6 + 4 then tv c p 4 else if j = k * 6 + 3 then tv c p 3 else if j = k * 6 + 2 then tv c p 2 else if j = k * 6 + 1 then tv c p 1 else if j = k * 6 then tv c p 0 else tval f q j) =
      tval (fun i => if i = k then c else f i) (fun i => if i = k then p else q i) j := by
  by_cases e : j / 6 = k
  · have hj : j = k * 6 + j % 6 := by omega
    have hi : j % 6 < 6 := Nat.mod_lt _ (by omega)
    generalize j % 6 = i at hj hi
    subst hj
    rw [tval_at (fun i => if i = k then c else f i) (fun i => if i = k then p else q i) k i hi]
    show _ = tv (if k = k then c else f k) (if k = k then p else q k) i
    rw [if_pos rfl, if_pos rfl]
    match i, hi with
    | 0, _ => simp
    | 1, _ => simp
    | 2, _ => simp
    | 3, _ => simp
    | 4, _ => simp
    | 5, _ => simp
  · rw [if_neg (by omega), if_neg (by omega), if_neg (by omega), if_neg (by omega), if_neg (by omega), if_neg (by omega)]
    simp [tval, e]
theorem made_cells (w : World) (n t : Nat) : (w.alloc (.cells (madeCells #[.int .i64 0, .int .i64 0, .int .i64 0, .bool false, .slice none 0 0, .slice none 0 0] (n * 6)) t)).rowIs w.heap.size t (n * 6) (tval (fun _ => CD.zero) (fun _ => Pl.zero)) :=
  ⟨_, Go.Deep.blk_alloc_new _ _, size_madeCells _ _, fun i hi => by
    have h3 : i % 6 = 0 ∨ i % 6 = 1 ∨ i % 6 = 2 ∨ i % 6 = 3 ∨ i % 6 = 4 ∨ i % 6 = 5 := by omega
    simp only [madeCells, Array.getElem?_map, Array.getElem?_range, hi, if_true, Option.map_some]
    rcases h3 with h | h | h | h | h | h <;> simp [h, tval, tv, CD.zero, Pl.zero]⟩
theorem TRow.of_row {w : World} {g t n : Nat} {f : Nat → CD} {q : Nat → Pl} {lo B : Nat} {L H : Nat → Nat} (h : w.rowIs g t (n * 6) (tval f q)) (h1 : lo ≤ g) (h2 : g < B) (low : ∀ j, j < n → lo ≤ L j) (high : ∀ j, j < n → H j ≤ B) (roff : ∀ j, j < n → g < L j ∨ H j ≤ g)
    (own : ∀ j, j < n → LsOwn w (L j) (H j) (f j) (q j)) (part : ∀ i j, i < n → j < n → ¬ i = j → H i ≤ L j ∨ H j ≤ L i) : TRow w lo B g 0 n f q L H := by
  refine ⟨h1, h2, fun o => h.frozen o, fun j hj => ?_, low, high, roff, own, part⟩
  have e : ∀ i, i < 6 → w.cell? ⟨g, 0 + j * 6 + i, none⟩ = some (tv (f j) (q j) i) := fun i hi => by
    rw [Nat.zero_add, h.cell (by omega), tval_at _ _ _ _ hi]
  exact ⟨e 0 (by omega), e 1 (by omega), e 2 (by omega), e 3 (by omega), e 4 (by omega), e 5 (by omega)⟩
theorem infoCell : (Try.prog.info? 83).map (fun i => (i.zero, i.size, i.bytes)) = some (some (.agg #[.int .i64 0, .int .i64 0, .int .i64 0, .bool false, .slice none 0 0, .slice none 0 0]), 6, 80) := by kernel_rfl
theorem run_make_cells (n : Nat) (h : n ≤ 1048576) (w : World) :
    (Instr.makeSlice 28 (.int .i64 (n : Int)) (.int .i64 (n : Int))).run Try.prog w = .ok (.slice (some ⟨w.heap.size, 0, none⟩) n n) (w.alloc (.cells (madeCells #[.int .i64 0, .int .i64 0, .int .i64 0, .bool false, .slice none 0 0, .slice none 0 0] (n * 6)) 83)) := by
  obtain ⟨i, hi, hzz⟩ := Option.map_eq_some_iff.1 infoCell
  simp only [Prod.mk.injEq] at hzz
  obtain ⟨hz, hs, hb⟩ := hzz
  have := run_make (P := Try.prog) w 28 83 i _ Try.underlying28 hi hz .i64 .i64 n n (by omega) (Int.le_refl _) (by rw [hb]; omega) (by omega)
  simpa [hs, Value.cells] using this

def ftoT (T : TL) (k j : Nat) : CD := if j < k then cd T j else CD.zero
/-- the first k cells are laid -/
structure LaidTo (w wr : World) (T : TL) (k : Nat) (q : Nat → Pl) (L H : Nat → Nat) : Prop where
  row : wr.rowIs w.heap.size 83 (T.length * 6) (tval (ftoT T k) q)
  own : ∀ j, j < k → w.heap.size < L j ∧ H j ≤ wr.heap.size ∧ LsOwn wr (L j) (H j) (cd T j) (q j)
  part : ∀ i j, i < j → j < k → H i ≤ L j
  zer : ∀ j, k ≤ j → q j = Pl.zero

set_option maxHeartbeats 1600000 in
set_option maxRecDepth 100000 in
theorem toCellS_any (A : Option Addr) (c B : Nat) (T : TL) (w : World) (hs : TFit T) (hB : B ≤ w.heap.size) (h : TAt w B A T) :
    Calls Try.prog 46 #[.slice A T.length c] w fun e w' => ∃ g, e = .returned (.slice (some ⟨g, 0, none⟩) T.length T.length) ∧ TOwn w' w.heap.size w'.heap.size (some ⟨g, 0, none⟩) T ∧ Below w.heap.size w w' := by
  have hmk := run_make_cells T.length hs.len
  have hlen := hs.len
  go_enter Try.func46, Try.ntmps46
  go_wp2
  clear hmk
  go_loopw [4] (fun i wr => ∃ k : Nat, k ≤ T.length ∧ i = .int .i64 k ∧ Below w.heap.size w wr ∧ ∃ q L H, LaidTo w wr T k q L H) (fun i _ => T.length - (intOf i).toNat)
  case atStart => exact ⟨0, Nat.zero_le _, rfl, (Below.refl _ _).alloc (Nat.le_refl _) _, fun _ => Pl.zero, fun _ => 0, fun _ => 0, (made_cells w T.length _).congr (fun j _ => by simp [ftoT, tval]), fun j hj => absurd hj (by omega), fun i j _ hj => absurd hj (by omega), fun j _ => rfl⟩
  case round =>
    obtain ⟨k, hk, rfl, hb, q, L, H, hrow, hown, hpart, hzer⟩ := hrel
    by_cases hkn : k < T.length
    · obtain ⟨b, off, rfl, hbB, qa, hc⟩ := h (by omega)
      have hkz : (k : Int) < T.length := by omega
      obtain ⟨a0, a1, a2, a3, a4, a5⟩ := (hc k hkn).1.below hb (show b < w.heap.size by omega)
      have i0 : LsAt wr B (cd T k) (qa k) := LAt.keep (hc k hkn).2 hb hB
      have hl := hs.at_ hkn
      have hsz := hb.size
      have hlt := hrow.lt
      clear hc h
      go_wp2_with fail
      refine (toCell_any (cd T k) (qa k) _ hl.1 hl.2 (LAt.up i0 (by omega))).mono ?_; rintro e w1 ⟨p, rfl, hb1, ho1⟩
      unfold cval
      have s1 := hb1.size
      have hrow1 := rowIs_below hrow hb1 hlt
      have c0 : w1.cell? ⟨w.heap.size, k * 6, none⟩ = some (.int .i64 0) := by rw [hrow1.cell (by omega), tval_at0, ftoT, if_neg (by omega)]; rfl
      have c1 : w1.cell? ⟨w.heap.size, k * 6 + 1, none⟩ = some (.int .i64 0) := by rw [hrow1.cell (by omega), tval_at _ _ _ _ (by omega), ftoT, if_neg (by omega)]; rfl
      have c2 : w1.cell? ⟨w.heap.size, k * 6 + 2, none⟩ = some (.int .i64 0) := by rw [hrow1.cell (by omega), tval_at _ _ _ _ (by omega), ftoT, if_neg (by omega)]; rfl
      have c3 : w1.cell? ⟨w.heap.size, k * 6 + 3, none⟩ = some (.bool false) := by rw [hrow1.cell (by omega), tval_at _ _ _ _ (by omega), ftoT, if_neg (by omega)]; rfl
      have c4 : w1.cell? ⟨w.heap.size, k * 6 + 4, none⟩ = some (.slice none 0 0) := by rw [hrow1.cell (by omega), tval_at _ _ _ _ (by omega), ftoT, if_neg (by omega), hzer k (Nat.le_refl _)]; rfl
      have c5 : w1.cell? ⟨w.heap.size, k * 6 + 5, none⟩ = some (.slice none 0 0) := by rw [hrow1.cell (by omega), tval_at _ _ _ _ (by omega), ftoT, if_neg (by omega), hzer k (Nat.le_refl _)]; rfl
      have r0 : ∀ o, w1.frozen? ⟨w.heap.size, o, none⟩ = false := hrow1.frozen
      have hb2 := (((((hb.trans (hb1.mono hsz)).setCell (p := ⟨w.heap.size, k * 6, none⟩) (Nat.le_refl _) (tv (cd T k) p 0)).setCell (p := ⟨w.heap.size, k * 6 + 1, none⟩) (Nat.le_refl _) (tv (cd T k) p 1)).setCell (p := ⟨w.heap.size, k * 6 + 2, none⟩) (Nat.le_refl _) (tv (cd T k) p 2)).setCell (p := ⟨w.heap.size, k * 6 + 3, none⟩) (Nat.le_refl _) (tv (cd T k) p 3)).setCell (p := ⟨w.heap.size, k * 6 + 4, none⟩) (Nat.le_refl _) (tv (cd T k) p 4)
      have hb2 := hb2.setCell (p := ⟨w.heap.size, k * 6 + 5, none⟩) (Nat.le_refl _) (tv (cd T k) p 5)
      have ho2 := ((((((Onlys.refl w.heap.size (w.heap.size + 1) w1).setCell (p := ⟨w.heap.size, k * 6, none⟩) (Nat.le_refl _) (Nat.lt_succ_self _) (tv (cd T k) p 0)).setCell (p := ⟨w.heap.size, k * 6 + 1, none⟩) (Nat.le_refl _) (Nat.lt_succ_self _) (tv (cd T k) p 1)).setCell (p := ⟨w.heap.size, k * 6 + 2, none⟩) (Nat.le_refl _) (Nat.lt_succ_self _) (tv (cd T k) p 2)).setCell (p := ⟨w.heap.size, k * 6 + 3, none⟩) (Nat.le_refl _) (Nat.lt_succ_self _) (tv (cd T k) p 3)).setCell (p := ⟨w.heap.size, k * 6 + 4, none⟩) (Nat.le_refl _) (Nat.lt_succ_self _) (tv (cd T k) p 4)).setCell (p := ⟨w.heap.size, k * 6 + 5, none⟩) (Nat.le_refl _) (Nat.lt_succ_self _) (tv (cd T k) p 5)
      have R := ((((((hrow1.set (k * 6) (tv (cd T k) p 0)).set (k * 6 + 1) (tv (cd T k) p 1)).set (k * 6 + 2) (tv (cd T k) p 2)).set (k * 6 + 3) (tv (cd T k) p 3)).set (k * 6 + 4) (tv (cd T k) p 4)).set (k * 6 + 5) (tv (cd T k) p 5)).congr (fun j _ => tval_step (ftoT T k) q k (cd T k) p j)
      have HL := Lib.hid (show LaidTo w ((((((w1.setCell ⟨w.heap.size, k * 6, none⟩ (tv (cd T k) p 0)).setCell ⟨w.heap.size, k * 6 + 1, none⟩ (tv (cd T k) p 1)).setCell ⟨w.heap.size, k * 6 + 2, none⟩ (tv (cd T k) p 2)).setCell ⟨w.heap.size, k * 6 + 3, none⟩ (tv (cd T k) p 3)).setCell ⟨w.heap.size, k * 6 + 4, none⟩ (tv (cd T k) p 4)).setCell ⟨w.heap.size, k * 6 + 5, none⟩ (tv (cd T k) p 5)) T (k + 1) (fun i => if i = k then p else q i) (fun i => if i = k then wr.heap.size else L i) (fun i => if i = k then w1.heap.size else H i) from by
        generalize (((((w1.setCell ⟨w.heap.size, k * 6, none⟩ (tv (cd T k) p 0)).setCell ⟨w.heap.size, k * 6 + 1, none⟩ (tv (cd T k) p 1)).setCell ⟨w.heap.size, k * 6 + 2, none⟩ (tv (cd T k) p 2)).setCell ⟨w.heap.size, k * 6 + 3, none⟩ (tv (cd T k) p 3)).setCell ⟨w.heap.size, k * 6 + 4, none⟩ (tv (cd T k) p 4)).setCell ⟨w.heap.size, k * 6 + 5, none⟩ (tv (cd T k) p 5) = w2 at R hb2 ho2
        refine ⟨R.congr (fun j _ => ?_), fun j hj => ?_, fun i j hij hj => ?_, fun j hj => ?_⟩
        · unfold tval ftoT
          by_cases e : j / 6 = k
          · have : j / 6 < k + 1 := by omega
            simp [e]
          · by_cases h1 : j / 6 < k
            · have : j / 6 < k + 1 := by omega
              simp [e, h1, this]
            · have : ¬ j / 6 < k + 1 := by omega
              simp [e, h1, this]
        · have hz2 := ho2.size
          by_cases e : j = k
          · subst e
            simp only [if_true]
            exact ⟨hlt, by omega, LOwn.onlys ho1 ho2 (.inr (by omega))⟩
          · simp only [if_neg e]
            obtain ⟨u1, u2, u3⟩ := hown j (by omega)
            exact ⟨u1, by omega, LOwn.onlys (LOwn.below u3 hb1 u2) ho2 (.inr (by omega))⟩
        · have hi : ¬ i = k := by omega
          simp only [if_neg hi]
          by_cases e : j = k
          · subst e
            simp only [if_true]
            exact (hown i (by omega)).2.1
          · simp only [if_neg e]
            exact hpart i j hij (by omega)
        · have e : ¬ j = k := by omega
          simp only [if_neg e]
          exact hzer j (by omega))
      have Hb2 := Lib.hid hb2
      clear hrow hrow1 hown hpart hzer ho1 hb hb1 i0 R hb2 ho2
      go_wp2
      exact ⟨⟨k + 1, by omega, by go_num, Hb2.out, _, _, _, HL.out⟩, by simp [intOf]; omega⟩
    · obtain rfl : k = T.length := by omega
      have HO := Lib.hid (show TOwn wr w.heap.size wr.heap.size (some ⟨w.heap.size, 0, none⟩) T from fun _ => ⟨_, 0, rfl, q, L, H,
        (TRow.of_row hrow (Nat.le_refl _) hrow.lt (fun j hj => Nat.le_of_lt (hown j hj).1) (fun j hj => (hown j hj).2.1) (fun j hj => .inl (hown j hj).1) (fun j hj => by
          have := (hown j hj).2.2
          unfold ftoT
          rw [if_pos hj]; exact this) (fun i j hi hj hne => by
          rcases Nat.lt_or_gt_of_ne hne with h' | h'
          · exact .inl (hpart i j h' hj)
          · exact .inr (hpart j i h' hi))).congr (fun j hj => by unfold ftoT; rw [if_pos hj])⟩)
      clear hrow hown hpart hzer
      go_wp2
      go_ret
      exact ⟨_, rfl, HO.out, hb⟩

theorem toTable_any (A : Option Addr) (c B : Nat) (T : TL) (w : World) (hs : TFit T) (hB : B ≤ w.heap.size) (h : TAt w B A T) :
    Calls Try.prog 11 #[.agg #[.slice A T.length c]] w fun e w' => ∃ g, e = .returned (.agg #[.slice (some ⟨g, 0, none⟩) T.length T.length]) ∧ TOwn w' w.heap.size w'.heap.size (some ⟨g, 0, none⟩) T ∧ Below w.heap.size w w' := by
  go_enter Try.func11, Try.ntmps11
  go_wp2_with fail
  have b := (((Below.refl w.heap.size w).alloc (Nat.le_refl _) (.cells #[.slice A T.length c] 24)).alloc (by simp) (.cells #[.slice none 0 0] 30)).alloc (by simp; omega) (.cells #[.slice none 0 0] 30)
  have Y := (Box.new (w := w.alloc (.cells #[.slice A T.length c] 24)) (b := w.heap.size + 1) (c := #[.slice none 0 0]) (t := 30) (by simp)).alloc (.cells #[.slice none 0 0] 30)
  have Z := Box.new (w := (w.alloc (.cells #[.slice A T.length c] 24)).alloc (.cells #[.slice none 0 0] 30)) (b := w.heap.size + 1 + 1) (c := #[.slice none 0 0]) (t := 30) (by simp)
  have hsz : w.heap.size + 1 + 1 < (((w.alloc (.cells #[.slice A T.length c] 24)).alloc (.cells #[.slice none 0 0] 30)).alloc (.cells #[.slice none 0 0] 30)).heap.size := by simp
  generalize ((w.alloc (.cells #[.slice A T.length c] 24)).alloc (.cells #[.slice none 0 0] 30)).alloc (.cells #[.slice none 0 0] 30) = w0 at b Y Z hsz ⊢
  refine (toCellS_any A c B T _ hs (Nat.le_trans hB b.size) (h.keep b hB)).mono ?_; rintro e w1 ⟨g, rfl, ho, hb1⟩
  have Y := Y.next hb1
  have Z := Z.next hb1
  have b := b.trans (hb1.mono b.size)
  have hs1 := hb1.size
  obtain ⟨y0, yf⟩ := Y.c1
  obtain ⟨z0, zf⟩ := Z.c1
  clear hb1
  go_wp2
  have HB := Lib.hid ((b.setCell (p := ⟨w.heap.size + 1 + 1, 0, none⟩) (by simp; omega) (.slice (some ⟨g, 0, none⟩) T.length T.length)).setCell (p := ⟨w.heap.size + 1, 0, none⟩) (by simp) (.slice (some ⟨g, 0, none⟩) T.length T.length))
  have HO := Lib.hid ((ho.more (lo' := w.heap.size + 1 + 1 + 1) (B' := w1.heap.size) (by omega) (Nat.le_refl _)).onlys (((Onlys.refl (w.heap.size + 1) (w.heap.size + 1 + 1 + 1) w1).setCell (p := ⟨w.heap.size + 1 + 1, 0, none⟩) (by simp) (by simp) (.slice (some ⟨g, 0, none⟩) T.length T.length)).setCell (p := ⟨w.heap.size + 1, 0, none⟩) (by simp) (by simp) (.slice (some ⟨g, 0, none⟩) T.length T.length)) (.inr (Nat.le_refl _)))
  exact bodyPost_ret (v := .agg #[.slice (some ⟨g, 0, none⟩) T.length T.length]) (by simp [results, Try.results11, go_sem, y0]) rfl ⟨g, rfl, HO.out.more (by omega) (by simp [World.setCell]), HB.out⟩
end Go.Proofs.Ytomkfldimkpmdaa
