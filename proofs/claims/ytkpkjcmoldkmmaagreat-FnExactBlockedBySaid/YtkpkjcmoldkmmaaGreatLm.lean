/- Lists of holds in memory. -/
import Derived.Test.YtkpkjcmoldkmmaaGreatLk
import Derived.Test.YtkpkjcmoldkmmaaGreatLb
namespace Go.Proofs.YtkpkjcmoldkmmaaGreat
open Go.RowKit

/-- the cells of a list of holds -/
def hcs : HL → List Value
  | [] => []
  | h :: l => .int .i64 h.1 :: .bool h.2 :: hcs l
theorem hcs_append (a b : HL) : hcs (a ++ b) = hcs a ++ hcs b := by
  induction a with
  | nil => rfl
  | cons x a ih => simp [hcs, ih]
theorem hcs_length (l : HL) : (hcs l).length = l.length * 2 := by
  induction l with
  | nil => rfl
  | cons x l ih => simp [hcs, ih]; omega
def hT (l : HL) (k : Nat) : Int := (l.getD k (0, false)).1
def hW (l : HL) (k : Nat) : Bool := (l.getD k (0, false)).2
theorem hcs_get : ∀ {l : HL} {k : Nat}, k < l.length → (hcs l)[k * 2]? = some (.int .i64 (hT l k)) ∧ (hcs l)[k * 2 + 1]? = some (.bool (hW l k))
  | [], k, h => absurd h (Nat.not_lt_zero _)
  | x :: l, 0, _ => ⟨rfl, rfl⟩
  | x :: l, k + 1, h => by
    have := hcs_get (l := l) (k := k) (by simpa using h)
    have e : (k + 1) * 2 = k * 2 + 2 := by omega
    rw [e]
    exact this
theorem hT_get {l : HL} {k : Nat} (h : k < l.length) : (hT l k, hW l k) = l[k] := by simp [hT, hW, List.getD_eq_getElem?_getD, List.getElem?_eq_getElem h]

/-- the cells from the slice's address on hold l -/
def HAt (w : World) (B : Nat) (A : Option Addr) (l : HL) : Prop :=
  0 < l.length → ∃ b off, A = some ⟨b, off, none⟩ ∧ b < B ∧ ∀ j, j < l.length → w.cell? ⟨b, off + j * 2, none⟩ = some (.int .i64 (hT l j)) ∧ w.cell? ⟨b, off + j * 2 + 1, none⟩ = some (.bool (hW l j))
/-- and they lie in a block from lo on and may be written -/
def HOwn (w : World) (lo B : Nat) (A : Option Addr) (l : HL) : Prop :=
  0 < l.length → ∃ b off, A = some ⟨b, off, none⟩ ∧ lo ≤ b ∧ b < B ∧ ∀ j, j < l.length → (w.cell? ⟨b, off + j * 2, none⟩ = some (.int .i64 (hT l j)) ∧ w.cell? ⟨b, off + j * 2 + 1, none⟩ = some (.bool (hW l j))) ∧ ∀ o, w.frozen? ⟨b, o, none⟩ = false

section
variable {w w' : World} {lo B lo' B' : Nat} {A : Option Addr} {l : HL}
theorem HAt.below (h : HAt w B A l) (hb : Below B w w') (hB : B ≤ B') : HAt w' B' A l := fun hn => by
  obtain ⟨b, off, e, hlt, hc⟩ := h hn
  exact ⟨b, off, e, by omega, fun j hj => ⟨(hb.cell (p := ⟨b, _, none⟩) hlt).trans (hc j hj).1, (hb.cell (p := ⟨b, _, none⟩) hlt).trans (hc j hj).2⟩⟩
theorem HAt.up (h : HAt w B A l) (hB : B ≤ B') : HAt w B' A l := h.below (Below.refl _ _) hB
theorem HAt.keep (h : HAt w B A l) (hb : Below B' w w') (hB : B ≤ B') : HAt w' B A l := h.below (hb.mono hB) (Nat.le_refl _)
theorem HAt.lt (h : HAt w B A l) : HAt w w.heap.size A l := fun hn => by
  obtain ⟨b, off, e, hlt, hc⟩ := h hn
  exact ⟨b, off, e, World.block_lt_of_cell? w _ (hc 0 hn).1, hc⟩
theorem HOwn.at_ (h : HOwn w lo B A l) : HAt w B A l := fun hn => by
  obtain ⟨b, off, e, _, h2, hc⟩ := h hn
  exact ⟨b, off, e, h2, fun j hj => (hc j hj).1⟩
theorem HOwn.below (h : HOwn w lo B A l) (hb : Below B' w w') (hB : B ≤ B') : HOwn w' lo B A l := fun hn => by
  obtain ⟨b, off, e, h1, h2, hc⟩ := h hn
  have hk : b < B' := by omega
  exact ⟨b, off, e, h1, h2, fun j hj => ⟨⟨(hb.cell (p := ⟨b, _, none⟩) hk).trans (hc j hj).1.1, (hb.cell (p := ⟨b, _, none⟩) hk).trans (hc j hj).1.2⟩, fun o => (hb.frozen (p := ⟨b, o, none⟩) hk).trans ((hc j hj).2 o)⟩⟩
theorem HOwn.more (h : HOwn w lo B A l) (hl : lo' ≤ lo) (hB : B ≤ B') : HOwn w lo' B' A l := fun hn => by
  obtain ⟨b, off, e, h1, h2, hc⟩ := h hn
  exact ⟨b, off, e, by omega, by omega, hc⟩
/-- a row of the call's own that holds l -/
theorem HOwn.of_owns {e : TypeId} {v : Value} {n : Nat} (h : w.ownsRow lo e 2 v n (hcs l)) : ∃ A cap, v = .slice A l.length cap ∧ n = l.length ∧ HOwn w lo w.heap.size A l := by
  have hl : n = l.length := by have := h.1; rw [hcs_length] at this; omega
  subst hl
  rcases h.2 with ⟨rfl, e0⟩ | ⟨g, cap, cur, rfl, hg, hh, hn, hm, hs, ht⟩
  · exact ⟨none, 0, by rw [e0], rfl, fun hn => absurd hn (by omega)⟩
  · refine ⟨_, cap, rfl, rfl, fun _ => ⟨g, 0, rfl, hg, (Array.getElem?_eq_some_iff.1 hh).1, fun j hj => ⟨⟨?_, ?_⟩, fun o => h.frozenAt o⟩⟩⟩
    · rw [Nat.zero_add, h.cellAt _ (by omega)]; exact (hcs_get hj).1
    · rw [Nat.zero_add, h.cellAt _ (by omega)]; exact (hcs_get hj).2
/-- a row of known cells -/
theorem HOwn.of_row {t g N : Nat} {f : Nat → Value} (h : w.rowIs g t N f) (hN : N = l.length * 2) (hf : ∀ j, j < l.length → f (j * 2) = .int .i64 (hT l j) ∧ f (j * 2 + 1) = .bool (hW l j)) (h1 : lo ≤ g) (h2 : g < B) : HOwn w lo B (some ⟨g, 0, none⟩) l := fun _ =>
  ⟨g, 0, rfl, h1, h2, fun j hj => ⟨⟨by rw [Nat.zero_add, h.cell (by omega), (hf j hj).1], by rw [Nat.zero_add, h.cell (by omega), (hf j hj).2]⟩, fun o => h.frozen o⟩⟩
end

theorem Onlys.more {lo B lo' B' : Nat} {w w' : World} (h : Onlys lo B w w') (h1 : lo' ≤ lo) (h2 : B ≤ B') : Onlys lo' B' w w' :=
  ⟨h.os, h.tape, h.output, h.size, fun k hk => h.block k (by omega)⟩
theorem HOwn.onlys {w w' : World} {lo B lo' B' : Nat} {A : Option Addr} {l : HL} (h : HOwn w lo B A l) (ho : Onlys lo' B' w w') (hd : B ≤ lo' ∨ B' ≤ lo) : HOwn w' lo B A l := fun hn => by
  obtain ⟨b, off, e, h1, h2, hc⟩ := h hn
  have hk := ho.block b (by omega)
  exact ⟨b, off, e, h1, h2, fun j hj => ⟨⟨(World.cell?_of_block (a := ⟨b, _, none⟩) hk).trans (hc j hj).1.1, (World.cell?_of_block (a := ⟨b, _, none⟩) hk).trans (hc j hj).1.2⟩, fun o => (World.frozen?_of_block (a := ⟨b, o, none⟩) hk).trans ((hc j hj).2 o)⟩⟩
theorem HAt.onlys {w w' : World} {B lo' B' : Nat} {A : Option Addr} {l : HL} (h : HAt w B A l) (ho : Onlys lo' B' w w') (hd : B ≤ lo') : HAt w' B A l := h.below (ho.below hd) (Nat.le_refl _)

theorem HOwn.far {w : World} {lo B : Nat} {A : Option Addr} {l : HL} {a : Addr} (h : HOwn w lo B A l) (v : Value) (hd : a.block < lo ∨ B ≤ a.block) : HOwn (w.setCell a v) lo B A l := fun hn => by
  obtain ⟨b, off, e, h1, h2, hc⟩ := h hn
  have hne : ∀ o, a ≠ ⟨b, o, none⟩ := fun o e => by subst e; simp at hd; omega
  exact ⟨b, off, e, h1, h2, fun j hj => ⟨⟨by rw [World.cell?_setCell_other _ _ _ _ (hne _)]; exact (hc j hj).1.1, by rw [World.cell?_setCell_other _ _ _ _ (hne _)]; exact (hc j hj).1.2⟩, fun o => by rw [World.frozen?_setCell]; exact (hc j hj).2 o⟩⟩
theorem HAt.far {w : World} {B : Nat} {A : Option Addr} {l : HL} {a : Addr} (h : HAt w B A l) (v : Value) (hd : B ≤ a.block) : HAt (w.setCell a v) B A l := h.below ((Below.refl B w).setCell hd v) (Nat.le_refl _)

/-- a lock's two lists lie in two blocks -/
def Apart (A A' : Option Addr) (p : HL × HL) : Prop := 0 < p.1.length → 0 < p.2.length → ∀ a a', A = some a → A' = some a' → ¬ a.block = a'.block
def LAt (w : World) (B : Nat) (A A' : Option Addr) (p : HL × HL) : Prop := HAt w B A p.1 ∧ HAt w B A' p.2
def LOwn (w : World) (lo B : Nat) (A A' : Option Addr) (p : HL × HL) : Prop := HOwn w lo B A p.1 ∧ HOwn w lo B A' p.2 ∧ Apart A A' p
section
variable {w w' : World} {lo B lo' B' : Nat} {A A' : Option Addr} {p : HL × HL}
theorem LAt.below (h : LAt w B A A' p) (hb : Below B w w') (hB : B ≤ B') : LAt w' B' A A' p := ⟨h.1.below hb hB, h.2.below hb hB⟩
theorem LAt.up (h : LAt w B A A' p) (hB : B ≤ B') : LAt w B' A A' p := ⟨h.1.up hB, h.2.up hB⟩
theorem LAt.keep (h : LAt w B A A' p) (hb : Below B' w w') (hB : B ≤ B') : LAt w' B A A' p := ⟨h.1.keep hb hB, h.2.keep hb hB⟩
theorem LAt.onlys (h : LAt w B A A' p) (ho : Onlys lo' B' w w') (hd : B ≤ lo') : LAt w' B A A' p := ⟨h.1.onlys ho hd, h.2.onlys ho hd⟩
theorem LOwn.at_ (h : LOwn w lo B A A' p) : LAt w B A A' p := ⟨h.1.at_, h.2.1.at_⟩
theorem LOwn.below (h : LOwn w lo B A A' p) (hb : Below B' w w') (hB : B ≤ B') : LOwn w' lo B A A' p := ⟨h.1.below hb hB, h.2.1.below hb hB, h.2.2⟩
theorem LOwn.more (h : LOwn w lo B A A' p) (hl : lo' ≤ lo) (hB : B ≤ B') : LOwn w lo' B' A A' p := ⟨h.1.more hl hB, h.2.1.more hl hB, h.2.2⟩
theorem LOwn.onlys (h : LOwn w lo B A A' p) (ho : Onlys lo' B' w w') (hd : B ≤ lo' ∨ B' ≤ lo) : LOwn w' lo B A A' p := ⟨h.1.onlys ho hd, h.2.1.onlys ho hd, h.2.2⟩
/-- one list lies below m, the other from m on -/
theorem LOwn.two {m : Nat} {v1 v2 : HL} (h1 : HOwn w lo m A v1) (h2 : HOwn w m B A' v2) (hl : lo ≤ m) (hm : m ≤ B) : LOwn w lo B A A' (v1, v2) :=
  ⟨h1.more (Nat.le_refl _) hm, h2.more hl (Nat.le_refl _), fun g1 g2 a a' e1 e2 => by
    obtain ⟨b, _, e, _, hb, _⟩ := h1 g1
    obtain ⟨b', _, e', hb', _, _⟩ := h2 g2
    rw [e1] at e; rw [e2] at e'
    injection e with e; injection e' with e'
    subst e e'
    show ¬ b = b'
    omega⟩
theorem LOwn.two' {m : Nat} {v1 v2 : HL} (h1 : HOwn w m B A v1) (h2 : HOwn w lo m A' v2) (hl : lo ≤ m) (hm : m ≤ B) : LOwn w lo B A A' (v1, v2) :=
  ⟨h1.more hl (Nat.le_refl _), h2.more (Nat.le_refl _) hm, fun g1 g2 a a' e1 e2 => by
    obtain ⟨b, _, e, hb, _, _⟩ := h1 g1
    obtain ⟨b', _, e', _, hb', _⟩ := h2 g2
    rw [e1] at e; rw [e2] at e'
    injection e with e; injection e' with e'
    subst e e'
    show ¬ b = b'
    omega⟩
end
/-- block b holds these cells and may be written -/
structure Box (w : World) (b : Nat) (cs : List Value) : Prop where
  lt : b < w.heap.size
  cell : ∀ j u, cs[j]? = some u → w.cell? ⟨b, j, none⟩ = some u
  free : ∀ o, w.frozen? ⟨b, o, none⟩ = false
section
variable {w w' : World} {b : Nat} {cs : List Value}
theorem Box.new {c : Array Value} {t : TypeId} (h : b = w.heap.size) : Box (w.alloc (.cells c t)) b c.toList := by
  subst h
  exact ⟨by simp, fun j u hu => by rw [World.cell?_alloc_new]; simpa using hu, fun o => by simp⟩
theorem Box.alloc (h : Box w b cs) (o : Obj) : Box (w.alloc o) b cs :=
  ⟨by simp; have := h.lt; omega, fun j u hu => by rw [World.cell?_alloc_lt _ _ _ h.lt]; exact h.cell j u hu, fun q => by rw [World.frozen?_alloc_old _ _ _ (Nat.ne_of_lt h.lt)]; exact h.free q⟩
theorem Box.below {B : Nat} (h : Box w b cs) (hb : Below B w w') (hB : b < B) : Box w' b cs :=
  ⟨Nat.lt_of_lt_of_le h.lt hb.size, fun j u hu => (hb.cell (p := ⟨b, j, none⟩) hB).trans (h.cell j u hu), fun o => (hb.frozen (p := ⟨b, o, none⟩) hB).trans (h.free o)⟩
theorem Box.next (h : Box w b cs) (hb : Below w.heap.size w w') : Box w' b cs := h.below hb h.lt
theorem Box.far {a : Addr} (h : Box w b cs) (v : Value) (hne : ¬ a.block = b) : Box (w.setCell a v) b cs :=
  ⟨by simpa [World.setCell] using h.lt, fun j u hu => by rw [World.cell?_setCell_other _ _ _ _ (by intro e; exact hne (by rw [e]))]; exact h.cell j u hu, fun o => by rw [World.frozen?_setCell]; exact h.free o⟩
theorem Box.set {j : Nat} (h : Box w b cs) (v : Value) (hj : j < cs.length) : Box (w.setCell ⟨b, j, none⟩ v) b (cs.set j v) := by
  refine ⟨by simpa [World.setCell] using h.lt, fun i u hu => ?_, fun o => by rw [World.frozen?_setCell]; exact h.free o⟩
  by_cases e : i = j
  · subst e
    rw [List.getElem?_set_self hj] at hu
    injection hu with hu
    subst hu
    exact World.cell?_setCell_same _ _ _ (h.cell i _ (List.getElem?_eq_getElem hj))
  · rw [List.getElem?_set_ne (by omega)] at hu
    rw [World.cell?_setCell_other _ _ _ _ (by intro h'; injection h' with _ h' _; omega)]
    exact h.cell i u hu
theorem Box.grown {row : Option Nat} (h : Box w b cs) (hg : w.grownBy w' row) (hne : ∀ q, row = some q → ¬ q = b) : Box w' b cs := by
  have hk := hg.block b h.lt (fun e => hne b e.symm rfl)
  exact ⟨Nat.lt_of_lt_of_le h.lt hg.size, fun j u hu => (World.cell?_of_block (a := ⟨b, j, none⟩) hk).trans (h.cell j u hu), fun o => (World.frozen?_of_block (a := ⟨b, o, none⟩) hk).trans (h.free o)⟩
theorem Box.c1 {x : Value} (h : Box w b [x]) : w.cell? ⟨b, 0, none⟩ = some x ∧ ∀ o, w.frozen? ⟨b, o, none⟩ = false := ⟨h.cell 0 _ rfl, h.free⟩
theorem Box.c2 {x y : Value} (h : Box w b [x, y]) : w.cell? ⟨b, 0, none⟩ = some x ∧ w.cell? ⟨b, 1, none⟩ = some y ∧ ∀ o, w.frozen? ⟨b, o, none⟩ = false := ⟨h.cell 0 _ rfl, h.cell 1 _ rfl, h.free⟩
theorem Box.c3 {x y z : Value} (h : Box w b [x, y, z]) : w.cell? ⟨b, 0, none⟩ = some x ∧ w.cell? ⟨b, 1, none⟩ = some y ∧ w.cell? ⟨b, 2, none⟩ = some z ∧ ∀ o, w.frozen? ⟨b, o, none⟩ = false := ⟨h.cell 0 _ rfl, h.cell 1 _ rfl, h.cell 2 _ rfl, h.free⟩
theorem Box.drew (h : Box w b cs) : Box w.drew b cs := h.next (Below.refl _ _).drew
end
end Go.Proofs.YtkpkjcmoldkmmaaGreat
