/- Data in memory, said once for all types: a datum's cells, rows of data, rows in the making. -/
import Derived.Test.YtkpkjcmoldkmmaaGreatLb
namespace Go.Proofs.YtkpkjcmoldkmmaaGreat
open Go.RowKit

def SameB (B : Nat) (w w' : World) : Prop := ∀ k, k < B → w'.heap[k]? = w.heap[k]?
def SameI (lo B : Nat) (w w' : World) : Prop := ∀ k, lo ≤ k → k < B → w'.heap[k]? = w.heap[k]?
theorem SameB.of {B B' : Nat} {w w' : World} (h : Below B' w w') (hB : B ≤ B') : SameB B w w' := fun k hk => h.block k (by omega)
theorem SameI.of {lo B B' : Nat} {w w' : World} (h : Below B' w w') (hB : B ≤ B') : SameI lo B w w' := fun k _ hk => h.block k (by omega)
theorem SameI.only {lo B lo' B' : Nat} {w w' : World} (h : Onlys lo' B' w w') (hd : B ≤ lo' ∨ B' ≤ lo) : SameI lo B w w' := fun k h1 h2 => h.block k (by omega)
theorem SameI.mono {lo B lo' B' : Nat} {w w' : World} (h : SameI lo B w w') (h1 : lo ≤ lo') (h2 : B' ≤ B) : SameI lo' B' w w' := fun k a b => h k (by omega) (by omega)
theorem SameI.far {lo B : Nat} (w : World) {a : Addr} (v : Value) (hd : a.block < lo ∨ B ≤ a.block) : SameI lo B w (w.setCell a v) := fun k h1 h2 => Below.heap_setCell _ _ _ _ (by omega)

/-- how a datum lies in cells: At to read, Own to write, from lo on and below B -/
structure Fm (α : Type) where
  n : Nat
  cnt : α → Nat
  Wf : α → Prop
  At : World → Nat → α → List Value → Prop
  Own : World → Nat → Nat → α → List Value → Prop
  len : ∀ {w B a vs}, At w B a vs → vs.length = n
  at_same : ∀ {w w' B a vs}, At w B a vs → SameB B w w' → At w' B a vs
  at_up : ∀ {w B B' a vs}, At w B a vs → B ≤ B' → At w B' a vs
  own_at : ∀ {w lo B a vs}, Own w lo B a vs → At w B a vs
  own_same : ∀ {w w' lo B a vs}, Own w lo B a vs → SameI lo B w w' → Own w' lo B a vs
  own_more : ∀ {w lo B lo' B' a vs}, Own w lo B a vs → lo' ≤ lo → B ≤ B' → Own w lo' B' a vs

/-- an int of 64 bits -/
def wfI (x : Int) : Prop := -9223372036854775808 ≤ x ∧ x ≤ 9223372036854775807
def intF : Fm Int where
  n := 1
  cnt := fun _ => 0
  Wf := wfI
  At := fun _ _ a vs => vs = [.int .i64 a]
  Own := fun _ _ _ a vs => vs = [.int .i64 a]
  len := by intro _ _ _ _ h; rw [h]; rfl
  at_same := fun h _ => h
  at_up := fun h _ => h
  own_at := fun h => h
  own_same := fun h _ => h
  own_more := fun h _ _ => h
def boolF : Fm Bool where
  n := 1
  cnt := fun _ => 0
  Wf := fun _ => True
  At := fun _ _ a vs => vs = [.bool a]
  Own := fun _ _ _ a vs => vs = [.bool a]
  len := by intro _ _ _ _ h; rw [h]; rfl
  at_same := fun h _ => h
  at_up := fun h _ => h
  own_at := fun h => h
  own_same := fun h _ => h
  own_more := fun h _ _ => h
def pairF {α β : Type} (F : Fm α) (G : Fm β) : Fm (α × β) where
  n := F.n + G.n
  cnt := fun p => F.cnt p.1 + G.cnt p.2
  Wf := fun p => F.Wf p.1 ∧ G.Wf p.2
  At := fun w B p vs => ∃ x y, vs = x ++ y ∧ F.At w B p.1 x ∧ G.At w B p.2 y
  Own := fun w lo B p vs => ∃ x y L H L' H', vs = x ++ y ∧ (lo ≤ L ∧ H ≤ B ∧ lo ≤ L' ∧ H' ≤ B ∧ (H ≤ L' ∨ H' ≤ L)) ∧ F.Own w L H p.1 x ∧ G.Own w L' H' p.2 y
  len := by rintro _ _ _ _ ⟨x, y, rfl, h1, h2⟩; rw [List.length_append, F.len h1, G.len h2]
  at_same := by rintro _ _ _ _ _ ⟨x, y, rfl, h1, h2⟩ hs; exact ⟨x, y, rfl, F.at_same h1 hs, G.at_same h2 hs⟩
  at_up := by rintro _ _ _ _ _ ⟨x, y, rfl, h1, h2⟩ hs; exact ⟨x, y, rfl, F.at_up h1 hs, G.at_up h2 hs⟩
  own_at := by rintro _ _ _ _ _ ⟨x, y, L, H, L', H', rfl, hd, h1, h2⟩; exact ⟨x, y, rfl, F.at_up (F.own_at h1) hd.2.1, G.at_up (G.own_at h2) hd.2.2.2.1⟩
  own_same := by rintro _ _ _ _ _ _ ⟨x, y, L, H, L', H', rfl, hd, h1, h2⟩ hs; exact ⟨x, y, L, H, L', H', rfl, hd, F.own_same h1 (hs.mono hd.1 hd.2.1), G.own_same h2 (hs.mono hd.2.2.1 hd.2.2.2.1)⟩
  own_more := by rintro _ _ _ _ _ _ _ ⟨x, y, L, H, L', H', rfl, hd, h1, h2⟩ hl hB; exact ⟨x, y, L, H, L', H', rfl, by omega, h1, h2⟩

/-- the cells from o on in block b -/
def RCells (w : World) (b o : Nat) (vs : List Value) : Prop := ∀ i u, vs[i]? = some u → w.cell? ⟨b, o + i, none⟩ = some u
section
variable {w w' : World} {b o B : Nat} {vs : List Value}
theorem RCells.block (h : RCells w b o vs) (hk : w'.heap[b]? = w.heap[b]?) : RCells w' b o vs := fun i u hu => (World.cell?_of_block (a := ⟨b, o + i, none⟩) hk).trans (h i u hu)
theorem RCells.below (h : RCells w b o vs) (hb : Below B w w') (hB : b < B) : RCells w' b o vs := h.block (hb.block b hB)
theorem RCells.lt (h : RCells w b o vs) (hn : 0 < vs.length) : b < w.heap.size := World.block_lt_of_cell? w _ (h 0 _ (List.getElem?_eq_getElem hn))
theorem RCells.c1 {x0 : Value} (h : RCells w b o [x0]) : w.cell? ⟨b, o, none⟩ = some x0 := h 0 _ rfl
theorem RCells.c2 {x0 x1 : Value} (h : RCells w b o [x0, x1]) : w.cell? ⟨b, o, none⟩ = some x0 ∧ w.cell? ⟨b, o + 1, none⟩ = some x1 := ⟨h 0 _ rfl, h 1 _ rfl⟩
theorem RCells.c3 {x0 x1 x2 : Value} (h : RCells w b o [x0, x1, x2]) : w.cell? ⟨b, o, none⟩ = some x0 ∧ w.cell? ⟨b, o + 1, none⟩ = some x1 ∧ w.cell? ⟨b, o + 2, none⟩ = some x2 := ⟨h 0 _ rfl, h 1 _ rfl, h 2 _ rfl⟩
theorem RCells.c5 {x0 x1 x2 x3 x4 : Value} (h : RCells w b o [x0, x1, x2, x3, x4]) : w.cell? ⟨b, o, none⟩ = some x0 ∧ w.cell? ⟨b, o + 1, none⟩ = some x1 ∧ w.cell? ⟨b, o + 2, none⟩ = some x2 ∧ w.cell? ⟨b, o + 3, none⟩ = some x3 ∧ w.cell? ⟨b, o + 4, none⟩ = some x4 := ⟨h 0 _ rfl, h 1 _ rfl, h 2 _ rfl, h 3 _ rfl, h 4 _ rfl⟩
theorem RCells.c6 {x0 x1 x2 x3 x4 x5 : Value} (h : RCells w b o [x0, x1, x2, x3, x4, x5]) : w.cell? ⟨b, o, none⟩ = some x0 ∧ w.cell? ⟨b, o + 1, none⟩ = some x1 ∧ w.cell? ⟨b, o + 2, none⟩ = some x2 ∧ w.cell? ⟨b, o + 3, none⟩ = some x3 ∧ w.cell? ⟨b, o + 4, none⟩ = some x4 ∧ w.cell? ⟨b, o + 5, none⟩ = some x5 := ⟨h 0 _ rfl, h 1 _ rfl, h 2 _ rfl, h 3 _ rfl, h 4 _ rfl, h 5 _ rfl⟩
theorem RCells.c9 {x0 x1 x2 x3 x4 x5 x6 x7 x8 : Value} (h : RCells w b o [x0, x1, x2, x3, x4, x5, x6, x7, x8]) : w.cell? ⟨b, o, none⟩ = some x0 ∧ w.cell? ⟨b, o + 1, none⟩ = some x1 ∧ w.cell? ⟨b, o + 2, none⟩ = some x2 ∧ w.cell? ⟨b, o + 3, none⟩ = some x3 ∧ w.cell? ⟨b, o + 4, none⟩ = some x4 ∧ w.cell? ⟨b, o + 5, none⟩ = some x5 ∧ w.cell? ⟨b, o + 6, none⟩ = some x6 ∧ w.cell? ⟨b, o + 7, none⟩ = some x7 ∧ w.cell? ⟨b, o + 8, none⟩ = some x8 := ⟨h 0 _ rfl, h 1 _ rfl, h 2 _ rfl, h 3 _ rfl, h 4 _ rfl, h 5 _ rfl, h 6 _ rfl, h 7 _ rfl, h 8 _ rfl⟩
end

/-- a row of data: its elements from the slice's address on -/
def RAt {α : Type} (F : Fm α) (w : World) (B : Nat) (A : Option Addr) (l : List α) : Prop :=
  l.length ≤ maxLen ∧ (0 < l.length → ∃ b off, A = some ⟨b, off, none⟩ ∧ b < B ∧ ∀ j a, l[j]? = some a → ∃ vs, RCells w b (off + j * F.n) vs ∧ F.At w B a vs)
/-- .. in block b, the elements' own memory apart from it and from each other -/
structure RRow {α : Type} (F : Fm α) (w : World) (lo B b off : Nat) (l : List α) (vs : Nat → List Value) (L H : Nat → Nat) : Prop where
  rlo : lo ≤ b
  rhi : b < B
  free : ∀ o, w.frozen? ⟨b, o, none⟩ = false
  span : ∀ j, j < l.length → lo ≤ L j ∧ H j ≤ B ∧ (b < L j ∨ H j ≤ b)
  part : ∀ i j, i < l.length → j < l.length → ¬ i = j → H i ≤ L j ∨ H j ≤ L i
  cell : ∀ j, j < l.length → RCells w b (off + j * F.n) (vs j)
  own : ∀ j a, l[j]? = some a → F.Own w (L j) (H j) a (vs j)
def ROwn {α : Type} (F : Fm α) (w : World) (lo B : Nat) (A : Option Addr) (l : List α) : Prop :=
  l.length ≤ maxLen ∧ (0 < l.length → ∃ b off, A = some ⟨b, off, none⟩ ∧ ∃ vs L H, RRow F w lo B b off l vs L H)
section
variable {α : Type} {F : Fm α} {w w' : World} {lo B lo' B' b off : Nat} {A : Option Addr} {l : List α} {vs : Nat → List Value} {L H : Nat → Nat}
theorem get_lt {j : Nat} {a : α} (h : l[j]? = some a) : j < l.length := (List.getElem?_eq_some_iff.1 h).1
theorem RAt.same (h : RAt F w B A l) (hs : SameB B w w') : RAt F w' B A l := ⟨h.1, fun hn => by
  obtain ⟨b, off, e, hb, hc⟩ := h.2 hn
  exact ⟨b, off, e, hb, fun j a hj => by
    obtain ⟨vs, h1, h2⟩ := hc j a hj
    exact ⟨vs, h1.block (hs b hb), F.at_same h2 hs⟩⟩⟩
theorem RAt.up (h : RAt F w B A l) (hB : B ≤ B') : RAt F w B' A l := ⟨h.1, fun hn => by
  obtain ⟨b, off, e, hb, hc⟩ := h.2 hn
  exact ⟨b, off, e, by omega, fun j a hj => by
    obtain ⟨vs, h1, h2⟩ := hc j a hj
    exact ⟨vs, h1, F.at_up h2 hB⟩⟩⟩
theorem RAt.keep (h : RAt F w B A l) (hb : Below B' w w') (hB : B ≤ B') : RAt F w' B A l := h.same (.of hb hB)
theorem RRow.same (h : RRow F w lo B b off l vs L H) (hs : SameI lo B w w') : RRow F w' lo B b off l vs L H :=
  have hk := hs b h.rlo h.rhi
  ⟨h.rlo, h.rhi, fun o => (World.frozen?_of_block (a := ⟨b, o, none⟩) hk).trans (h.free o), h.span, h.part, fun j hj => (h.cell j hj).block hk, fun j a hj => F.own_same (h.own j a hj) (hs.mono (h.span j (get_lt hj)).1 (h.span j (get_lt hj)).2.1)⟩
theorem RRow.more (h : RRow F w lo B b off l vs L H) (hl : lo' ≤ lo) (hB : B ≤ B') : RRow F w lo' B' b off l vs L H :=
  ⟨by have := h.rlo; omega, by have := h.rhi; omega, h.free, fun j hj => by have := h.span j hj; omega, h.part, h.cell, h.own⟩
theorem ROwn.same (h : ROwn F w lo B A l) (hs : SameI lo B w w') : ROwn F w' lo B A l := ⟨h.1, fun hn => by
  obtain ⟨b, off, e, vs, L, H, hr⟩ := h.2 hn
  exact ⟨b, off, e, vs, L, H, hr.same hs⟩⟩
theorem ROwn.more (h : ROwn F w lo B A l) (hl : lo' ≤ lo) (hB : B ≤ B') : ROwn F w lo' B' A l := ⟨h.1, fun hn => by
  obtain ⟨b, off, e, vs, L, H, hr⟩ := h.2 hn
  exact ⟨b, off, e, vs, L, H, hr.more hl hB⟩⟩
theorem ROwn.at_ (h : ROwn F w lo B A l) : RAt F w B A l := ⟨h.1, fun hn => by
  obtain ⟨b, off, e, vs, L, H, hr⟩ := h.2 hn
  exact ⟨b, off, e, hr.rhi, fun j a hj => ⟨vs j, hr.cell j (get_lt hj), F.at_up (F.own_at (hr.own j a hj)) (hr.span j (get_lt hj)).2.1⟩⟩⟩
theorem ROwn.next (h : ROwn F w lo B A l) (hb : Below B' w w') (hB : B ≤ B') : ROwn F w' lo B A l := h.same (.of hb hB)
theorem ROwn.far (h : ROwn F w lo B A l) {a : Addr} (v : Value) (hd : a.block < lo ∨ B ≤ a.block) : ROwn F (w.setCell a v) lo B A l := h.same (.far w v hd)
theorem ROwn.only (h : ROwn F w lo B A l) (ho : Onlys lo' B' w w') (hd : B ≤ lo' ∨ B' ≤ lo) : ROwn F w' lo B A l := h.same (.only ho hd)
theorem RAt.nil : RAt F w B A [] := ⟨Nat.zero_le _, fun h => absurd h (by simp)⟩
theorem ROwn.nil : ROwn F w lo B A [] := ⟨Nat.zero_le _, fun h => absurd h (by simp)⟩
end
def rowF {α : Type} (F : Fm α) : Fm (List α) where
  n := 1
  cnt := fun l => l.length + (l.map F.cnt).sum
  Wf := fun l => ∀ a, a ∈ l → F.Wf a
  At := fun w B l vs => ∃ A cap, vs = [.slice A l.length cap] ∧ RAt F w B A l
  Own := fun w lo B l vs => ∃ A cap, vs = [.slice A l.length cap] ∧ ROwn F w lo B A l
  len := by rintro _ _ _ _ ⟨A, cap, rfl, _⟩; rfl
  at_same := by rintro _ _ _ _ _ ⟨A, cap, rfl, h⟩ hs; exact ⟨A, cap, rfl, h.same hs⟩
  at_up := by rintro _ _ _ _ _ ⟨A, cap, rfl, h⟩ hs; exact ⟨A, cap, rfl, h.up hs⟩
  own_at := by rintro _ _ _ _ _ ⟨A, cap, rfl, h⟩; exact ⟨A, cap, rfl, h.at_⟩
  own_same := by rintro _ _ _ _ _ _ ⟨A, cap, rfl, h⟩ hs; exact ⟨A, cap, rfl, h.same hs⟩
  own_more := by rintro _ _ _ _ _ _ _ ⟨A, cap, rfl, h⟩ h1 h2; exact ⟨A, cap, rfl, h.more h1 h2⟩

/-! rows in the making -/
def storeRec (w : World) (g o : Nat) : List Value → World
  | [] => w
  | v :: vs => storeRec (w.setCell ⟨g, o, none⟩ v) g (o + 1) vs
theorem storeRec_only (g : Nat) : ∀ (vs : List Value) (w : World) (o : Nat), Onlys g (g + 1) w (storeRec w g o vs)
  | [], w, _ => Onlys.refl _ _ w
  | v :: vs, w, o => ((Onlys.refl g (g + 1) w).setCell (p := ⟨g, o, none⟩) (Nat.le_refl _) (Nat.lt_succ_self _) v).trans (storeRec_only g vs _ (o + 1))
theorem storeRec_frozen (g : Nat) : ∀ (vs : List Value) (w : World) (o : Nat) (a : Addr), (storeRec w g o vs).frozen? a = w.frozen? a
  | [], _, _, _ => rfl
  | _ :: vs, _, o, a => (storeRec_frozen g vs _ (o + 1) a).trans (World.frozen?_setCell _ _ _ _)
theorem storeRec_far (g : Nat) : ∀ (vs : List Value) (w : World) (o p : Nat), (p < o ∨ o + vs.length ≤ p) → (storeRec w g o vs).cell? ⟨g, p, none⟩ = w.cell? ⟨g, p, none⟩
  | [], _, _, _, _ => rfl
  | v :: vs, w, o, p, h => by
    rw [storeRec, storeRec_far g vs _ (o + 1) p (by simp at h; omega)]
    exact World.cell?_setCell_other _ _ _ _ (by intro e; injection e with _ e _; simp at h; omega)
theorem storeRec_near (g : Nat) : ∀ (vs us : List Value) (w : World) (o : Nat), us.length = vs.length → RCells w g o us → RCells (storeRec w g o vs) g o vs
  | [], _, _, _, _, _ => fun _ _ hu => by simp at hu
  | _ :: _, [], _, _, e, _ => by simp at e
  | v :: vs, z :: us, w, o, e, h => fun i u hu => by
    have hz := h 0 _ rfl
    cases i with
    | zero =>
      simp at hu
      subst hu
      show (storeRec (w.setCell ⟨g, o, none⟩ v) g (o + 1) vs).cell? ⟨g, o, none⟩ = some v
      rw [storeRec_far g vs _ (o + 1) o (by omega)]
      exact World.cell?_setCell_same _ _ _ (by simpa using hz)
    | succ i =>
      have hr : RCells (w.setCell ⟨g, o, none⟩ v) g (o + 1) us := fun i' u' hu' => by
        rw [World.cell?_setCell_other _ _ _ _ (by intro e'; injection e' with _ e' _; omega)]
        have := h (i' + 1) u' (by simpa using hu')
        rw [show o + 1 + i' = o + (i' + 1) by omega]
        exact this
      have := storeRec_near g vs us _ (o + 1) (by simpa using e) hr i u (by simpa using hu)
      rw [storeRec, show o + (i + 1) = o + 1 + i by omega]
      exact this

/-- the first k data laid in the new row g, zeros behind them -/
structure Laid {α : Type} (F : Fm α) (g : Nat) (z : List Value) (l : List α) (wr : World) (k : Nat) (vs : Nat → List Value) (L H : Nat → Nat) : Prop where
  lt : g < wr.heap.size
  free : ∀ o, wr.frozen? ⟨g, o, none⟩ = false
  cell : ∀ j, j < l.length → RCells wr g (j * F.n) (if j < k then vs j else z)
  own : ∀ j a, j < k → l[j]? = some a → g < L j ∧ H j ≤ wr.heap.size ∧ F.Own wr (L j) (H j) a (vs j)
  part : ∀ i j, i < j → j < k → H i ≤ L j
theorem RCells.of_row {w : World} {g t N o : Nat} {f : Nat → Value} {vs : List Value} (h : w.rowIs g t N f) (hN : o + vs.length ≤ N) (hf : ∀ i u, vs[i]? = some u → f (o + i) = u) : RCells w g o vs := fun i u hu => by
  have hi := (List.getElem?_eq_some_iff.1 hu).1
  rw [h.cell (by omega), hf i u hu]
theorem Laid.new {α : Type} {F : Fm α} {g : Nat} {z : List Value} {l : List α} {w : World} {t : TypeId} {f : Nat → Value} {N : Nat} (hg : w.rowIs g t N f) (hz : z.length = F.n) (hN : N = l.length * F.n) (hf : ∀ j i u, z[i]? = some u → f (j * F.n + i) = u) :
    Laid F g z l w 0 (fun _ => []) (fun _ => 0) (fun _ => 0) :=
  ⟨hg.lt, fun o => hg.frozen o, fun j hj => by
    rw [if_neg (by omega)]
    have hm : (j + 1) * F.n ≤ l.length * F.n := Nat.mul_le_mul_right _ (by omega)
    rw [Nat.succ_mul] at hm
    exact RCells.of_row hg (by omega) (fun i u hu => hf j i u hu), fun j a hj => absurd hj (by omega), fun i j _ hj => absurd hj (by omega)⟩
section
variable {α : Type} {F : Fm α} {g : Nat} {z : List Value} {l : List α} {wr w1 : World} {k : Nat} {vs : Nat → List Value} {L H : Nat → Nat}
theorem Laid.next (h : Laid F g z l wr k vs L H) (hb : Below wr.heap.size wr w1) : Laid F g z l w1 k vs L H :=
  ⟨Nat.lt_of_lt_of_le h.lt hb.size, fun o => (hb.frozen (p := ⟨g, o, none⟩) h.lt).trans (h.free o), fun j hj => (h.cell j hj).below hb h.lt,
    fun j a hj ha => ⟨(h.own j a hj ha).1, Nat.le_trans (h.own j a hj ha).2.1 hb.size, F.own_same (h.own j a hj ha).2.2 (.of hb (h.own j a hj ha).2.1)⟩, h.part⟩
theorem Laid.zero (h : Laid F g z l wr k vs L H) (hk : k < l.length) : RCells wr g (k * F.n) z := by
  have := h.cell k hk
  rwa [if_neg (Nat.lt_irrefl k)] at this
/-- datum k stored: its own memory lies in [s, w1.heap.size) -/
theorem Laid.step (h : Laid F g z l w1 k vs L H) (hk : k < l.length) {a : α} (ha : l[k]? = some a) {v : List Value} {s : Nat} (hv : v.length = F.n) (hz : z.length = F.n) (hg : g < s) (hH : ∀ j, j < k → H j ≤ s) (ho : F.Own w1 s w1.heap.size a v) :
    Laid F g z l (storeRec w1 g (k * F.n) v) (k + 1) (fun j => if j = k then v else vs j) (fun j => if j = k then s else L j) (fun j => if j = k then w1.heap.size else H j) := by
  have hon := storeRec_only g v w1 (k * F.n)
  refine ⟨by rw [hon.size]; exact h.lt, fun o => by rw [storeRec_frozen]; exact h.free o, fun j hj => ?_, fun j b hj hb => ?_, fun i j hij hj => ?_⟩
  · by_cases e : j = k
    · subst e
      simp only [if_true, if_pos (show j < j + 1 by omega)]
      exact storeRec_near g v z _ _ (by omega) (h.zero hk)
    · have h1 := h.cell j hj
      have hlen : (if j < k then vs j else z).length = F.n := by
        by_cases hjk : j < k
        · rw [if_pos hjk]
          exact F.len (F.own_at (h.own j _ hjk (List.getElem?_eq_getElem hj)).2.2)
        · rw [if_neg hjk]; exact hz
      have hsame : (if j < k + 1 then (if j = k then v else vs j) else z) = if j < k then vs j else z := by
        by_cases hjk : j < k
        · rw [if_pos hjk, if_pos (by omega), if_neg e]
        · rw [if_neg hjk, if_neg (by omega)]
      rw [hsame]
      intro i u hu
      have hi : i < F.n := by
        have := (List.getElem?_eq_some_iff.1 hu).1
        rwa [hlen] at this
      rw [storeRec_far g v _ _ _ (by
        rw [hv]
        rcases Nat.lt_or_gt_of_ne e with hlt | hgt
        · have : (j + 1) * F.n ≤ k * F.n := Nat.mul_le_mul_right _ (by omega)
          rw [Nat.succ_mul] at this
          exact .inl (by omega)
        · have : (k + 1) * F.n ≤ j * F.n := Nat.mul_le_mul_right _ (by omega)
          rw [Nat.succ_mul] at this
          exact .inr (by omega))]
      exact h1 i u hu
  · by_cases e : j = k
    · subst e
      have e2 : a = b := Option.some.inj (ha.symm.trans hb)
      subst e2
      simp only [if_true]
      exact ⟨hg, by rw [hon.size]; exact Nat.le_refl _, F.own_same ho (.only hon (.inr (by omega)))⟩
    · simp only [if_neg e]
      have h1 := h.own j b (by omega) hb
      exact ⟨h1.1, by rw [hon.size]; exact h1.2.1, F.own_same h1.2.2 (.only hon (.inr (by omega)))⟩
  · have ei : ¬ i = k := by omega
    by_cases e : j = k
    · subst e
      simp only [if_true, if_neg ei]
      exact hH i (by omega)
    · simp only [if_neg ei, if_neg e]
      exact h.part i j hij (by omega)
theorem Laid.done {lo B : Nat} (h : Laid F g z l wr l.length vs L H) (hl : l.length ≤ maxLen) (hlo : lo ≤ g) (hB : wr.heap.size ≤ B) : ROwn F wr lo B (some ⟨g, 0, none⟩) l := ⟨hl, fun _ => ⟨g, 0, rfl, vs, L, H, hlo, by have := h.lt; omega, h.free,
  fun j hj => by have := h.own j _ hj (List.getElem?_eq_getElem hj); omega,
  fun i j hi hj hne => by
    rcases Nat.lt_or_gt_of_ne hne with hlt | hgt
    · exact .inl (h.part i j hlt hj)
    · exact .inr (h.part j i hgt hi),
  fun j hj => by
    have := h.cell j hj
    rw [if_pos hj] at this
    rwa [Nat.zero_add],
  fun j a ha => (h.own j a (get_lt ha) ha).2.2⟩⟩
end
/-! how much a row takes -/
/-- what the first k data take -/
def psum {α : Type} (F : Fm α) (l : List α) (k : Nat) : Nat := ((l.take k).map F.cnt).sum
theorem psum_succ {α : Type} {F : Fm α} {l : List α} {k : Nat} {a : α} (h : l[k]? = some a) : psum F l (k + 1) = psum F l k + F.cnt a := by
  unfold psum
  rw [List.take_add_one, h]
  simp
theorem psum_zero {α : Type} {F : Fm α} {l : List α} : psum F l 0 = 0 := rfl
theorem psum_all {α : Type} {F : Fm α} {l : List α} : psum F l l.length = (l.map F.cnt).sum := by unfold psum; rw [List.take_length]
theorem psum_mono {α : Type} (F : Fm α) (l : List α) {i j : Nat} (h : i ≤ j) : psum F l i ≤ psum F l j := by
  induction j with
  | zero => have : i = 0 := by omega
            subst this; exact Nat.le_refl _
  | succ j ih =>
    by_cases e : i = j + 1
    · subst e; exact Nat.le_refl _
    · have := ih (by omega)
      have h2 : psum F l j ≤ psum F l (j + 1) := by
        unfold psum
        rw [List.take_add_one, List.map_append, List.sum_append]
        omega
      omega
theorem zsum {α : Type} (l : List α) : (l.map fun _ => 0).sum = 0 := by
  induction l with
  | nil => rfl
  | cons x l ih => simpa using ih
theorem row_cnt {α : Type} (F : Fm α) (l : List α) : (rowF F).cnt l = l.length + psum F l l.length := by rw [psum_all]; rfl
theorem cnt_at {α : Type} {F : Fm α} {l : List α} {k : Nat} {a : α} (h : l[k]? = some a) : F.cnt a + l.length ≤ (rowF F).cnt l := by
  rw [row_cnt]
  have h1 := psum_succ (F := F) h
  have h2 := psum_mono F l (show k + 1 ≤ l.length by have := get_lt h; omega)
  omega
end Go.Proofs.YtkpkjcmoldkmmaaGreat
