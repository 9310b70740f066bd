/- Tables in memory: a cell is six cells, its lock's lists lie in blocks of their own. -/
import Derived.Test.YtkpkjcmoldkmmaaGreatLk2
namespace Go.Proofs.YtkpkjcmoldkmmaaGreat
open Go.RowKit

/-- a cell of a table -/
structure CD where
  v : Int
  e : Int
  s : Int
  h : Bool
  hs : HL
  ws : HL
abbrev TL := List CD
def CD.zero : CD := ⟨0, 0, 0, false, [], []⟩
def CD.p (c : CD) : HL × HL := (c.hs, c.ws)
def cd (T : TL) (j : Nat) : CD := T.getD j CD.zero
theorem cd_get {T : TL} {j : Nat} (h : j < T.length) : cd T j = T[j] := by simp [cd, List.getD_eq_getElem?_getD, List.getElem?_eq_getElem h]
/-- where a cell's two lists lie, and the room they have -/
structure Pl where
  G : Option Addr
  c : Nat
  G' : Option Addr
  c' : Nat
/-- a cell as a value -/
def cval (c : CD) (q : Pl) : Value := .agg #[.int .i64 c.v, .int .i64 c.e, .int .i64 c.s, .bool c.h, .slice q.G c.hs.length q.c, .slice q.G' c.ws.length q.c']
def cvs (c : CD) (q : Pl) : List Value := [.int .i64 c.v, .int .i64 c.e, .int .i64 c.s, .bool c.h, .slice q.G c.hs.length q.c, .slice q.G' c.ws.length q.c']
/-- the six cells from o on -/
structure CCells (w : World) (b o : Nat) (c : CD) (q : Pl) : Prop where
  c0 : w.cell? ⟨b, o, none⟩ = some (.int .i64 c.v)
  c1 : w.cell? ⟨b, o + 1, none⟩ = some (.int .i64 c.e)
  c2 : w.cell? ⟨b, o + 2, none⟩ = some (.int .i64 c.s)
  c3 : w.cell? ⟨b, o + 3, none⟩ = some (.bool c.h)
  c4 : w.cell? ⟨b, o + 4, none⟩ = some (.slice q.G c.hs.length q.c)
  c5 : w.cell? ⟨b, o + 5, none⟩ = some (.slice q.G' c.ws.length q.c')
def LsAt (w : World) (B : Nat) (c : CD) (q : Pl) : Prop := LAt w B q.G q.G' c.p
def LsOwn (w : World) (lo B : Nat) (c : CD) (q : Pl) : Prop := LOwn w lo B q.G q.G' c.p
def TAt (w : World) (B : Nat) (A : Option Addr) (T : TL) : Prop :=
  0 < T.length → ∃ b off, A = some ⟨b, off, none⟩ ∧ b < B ∧ ∃ q : Nat → Pl, ∀ j, j < T.length → CCells w b (off + j * 6) (cd T j) (q j) ∧ LsAt w B (cd T j) (q j)
/-- the table's row in block b, its lists in intervals that lie apart -/
structure TRow (w : World) (lo B b off n : Nat) (f : Nat → CD) (q : Nat → Pl) (L H : Nat → Nat) : Prop where
  rlo : lo ≤ b
  rhi : b < B
  free : ∀ o, w.frozen? ⟨b, o, none⟩ = false
  cell : ∀ j, j < n → CCells w b (off + j * 6) (f j) (q j)
  low : ∀ j, j < n → lo ≤ L j
  high : ∀ j, j < n → H j ≤ B
  roff : ∀ j, j < n → b < L j ∨ H j ≤ b
  own : ∀ j, j < n → LsOwn w (L j) (H j) (f j) (q j)
  part : ∀ i j, i < n → j < n → ¬ i = j → H i ≤ L j ∨ H j ≤ L i
def TOwn (w : World) (lo B : Nat) (A : Option Addr) (T : TL) : Prop :=
  0 < T.length → ∃ b off, A = some ⟨b, off, none⟩ ∧ ∃ q L H, TRow w lo B b off T.length (cd T) q L H

section
variable {w w' : World} {lo B lo' B' b o : Nat} {A : Option Addr} {T : TL} {c : CD} {q : Pl}
theorem CCells.block (h : CCells w b o c q) (hk : w'.heap[b]? = w.heap[b]?) : CCells w' b o c q :=
  have e : ∀ p : Nat, w'.cell? ⟨b, p, none⟩ = w.cell? ⟨b, p, none⟩ := fun p => World.cell?_of_block (a := ⟨b, p, none⟩) hk
  ⟨(e _).trans h.c0, (e _).trans h.c1, (e _).trans h.c2, (e _).trans h.c3, (e _).trans h.c4, (e _).trans h.c5⟩
theorem CCells.below (h : CCells w b o c q) (hb : Below B w w') (hB : b < B) : CCells w' b o c q := h.block (hb.block b hB)
theorem CCells.lt (h : CCells w b o c q) : b < w.heap.size := World.block_lt_of_cell? w _ h.c0
theorem CCells.far (h : CCells w b o c q) {a : Addr} (v : Value) (hne : ∀ i, i < 6 → ¬ a = ⟨b, o + i, none⟩) : CCells (w.setCell a v) b o c q := by
  have e : ∀ i, i < 6 → (w.setCell a v).cell? ⟨b, o + i, none⟩ = w.cell? ⟨b, o + i, none⟩ := fun i hi => World.cell?_setCell_other _ _ _ _ (hne i hi)
  exact ⟨(e 0 (by omega)).trans h.c0, (e 1 (by omega)).trans h.c1, (e 2 (by omega)).trans h.c2, (e 3 (by omega)).trans h.c3, (e 4 (by omega)).trans h.c4, (e 5 (by omega)).trans h.c5⟩
theorem TAt.below (h : TAt w B A T) (hb : Below B w w') (hB : B ≤ B') : TAt w' B' A T := fun hn => by
  obtain ⟨b, off, e, hlt, q, hc⟩ := h hn
  exact ⟨b, off, e, by omega, q, fun j hj => ⟨(hc j hj).1.below hb hlt, (hc j hj).2.below hb hB⟩⟩
theorem TAt.up (h : TAt w B A T) (hB : B ≤ B') : TAt w B' A T := h.below (Below.refl _ _) hB
theorem TAt.keep (h : TAt w B A T) (hb : Below B' w w') (hB : B ≤ B') : TAt w' B A T := h.below (hb.mono hB) (Nat.le_refl _)
theorem TAt.onlys (h : TAt w B A T) (ho : Onlys lo' B' w w') (hd : B ≤ lo') : TAt w' B A T := h.below (ho.below hd) (Nat.le_refl _)
theorem TRow.keep {off n : Nat} {f : Nat → CD} {q : Nat → Pl} {L H : Nat → Nat} (h : TRow w lo B b off n f q L H) (hb : Below B' w w') (hB : B ≤ B') : TRow w' lo B b off n f q L H :=
  have hbB : b < B' := by have := h.rhi; omega
  ⟨h.rlo, h.rhi, fun o => (hb.frozen (p := ⟨b, o, none⟩) hbB).trans (h.free o), fun j hj => (h.cell j hj).below hb hbB, h.low, h.high, h.roff, fun j hj => (h.own j hj).below hb (by have := h.high j hj; omega), h.part⟩
theorem TRow.onlys {off n : Nat} {f : Nat → CD} {q : Nat → Pl} {L H : Nat → Nat} (h : TRow w lo B b off n f q L H) (ho : Onlys lo' B' w w') (hd : B ≤ lo' ∨ B' ≤ lo) : TRow w' lo B b off n f q L H := by
  have h1 := h.rlo
  have h2 := h.rhi
  have hk := ho.block b (by omega)
  exact ⟨h.rlo, h.rhi, fun o => (World.frozen?_of_block (a := ⟨b, o, none⟩) hk).trans (h.free o), fun j hj => (h.cell j hj).block hk, h.low, h.high, h.roff, fun j hj => LOwn.onlys (h.own j hj) ho (by have := h.high j hj; have := h.low j hj; omega), h.part⟩
theorem TRow.more {off n : Nat} {f : Nat → CD} {q : Nat → Pl} {L H : Nat → Nat} (h : TRow w lo B b off n f q L H) (hl : lo' ≤ lo) (hB : B ≤ B') : TRow w lo' B' b off n f q L H :=
  ⟨by have := h.rlo; omega, by have := h.rhi; omega, h.free, h.cell, fun j hj => by have := h.low j hj; omega, fun j hj => by have := h.high j hj; omega, h.roff, h.own, h.part⟩
theorem TRow.at_ {off n : Nat} {f : Nat → CD} {q : Nat → Pl} {L H : Nat → Nat} (h : TRow w lo B b off n f q L H) (j : Nat) (hj : j < n) : CCells w b (off + j * 6) (f j) (q j) ∧ LsAt w B (f j) (q j) :=
  ⟨h.cell j hj, (LOwn.at_ (h.own j hj)).up (h.high j hj)⟩
theorem TOwn.at_ (h : TOwn w lo B A T) : TAt w B A T := fun hn => by
  obtain ⟨b, off, e, q, L, H, hr⟩ := h hn
  exact ⟨b, off, e, hr.rhi, q, hr.at_⟩
theorem TOwn.below (h : TOwn w lo B A T) (hb : Below B' w w') (hB : B ≤ B') : TOwn w' lo B A T := fun hn => by
  obtain ⟨b, off, e, q, L, H, hr⟩ := h hn
  exact ⟨b, off, e, q, L, H, hr.keep hb hB⟩
theorem TOwn.onlys (h : TOwn w lo B A T) (ho : Onlys lo' B' w w') (hd : B ≤ lo' ∨ B' ≤ lo) : TOwn w' lo B A T := fun hn => by
  obtain ⟨b, off, e, q, L, H, hr⟩ := h hn
  exact ⟨b, off, e, q, L, H, hr.onlys ho hd⟩
theorem TOwn.more (h : TOwn w lo B A T) (hl : lo' ≤ lo) (hB : B ≤ B') : TOwn w lo' B' A T := fun hn => by
  obtain ⟨b, off, e, q, L, H, hr⟩ := h hn
  exact ⟨b, off, e, q, L, H, hr.more hl hB⟩
end

/-! the table's lengths -/
/-- how many holds the first k cells have -/
def totT (T : TL) : Nat → Nat
  | 0 => 0
  | k + 1 => totT T k + ((cd T k).hs.length + (cd T k).ws.length)
theorem totT_succ (T : TL) (k : Nat) : totT T (k + 1) = totT T k + ((cd T k).hs.length + (cd T k).ws.length) := rfl
theorem totT_mono (T : TL) {i j : Nat} (h : i ≤ j) : totT T i ≤ totT T j := by
  induction j with
  | zero => have : i = 0 := by omega
            subst this; exact Nat.le_refl _
  | succ j ih =>
    by_cases e : i = j + 1
    · subst e; exact Nat.le_refl _
    · have := ih (by omega)
      rw [totT_succ]; omega
theorem totT_at (T : TL) {k : Nat} (h : k < T.length) : (cd T k).hs.length + (cd T k).ws.length ≤ totT T T.length := by
  have := totT_mono T (show k + 1 ≤ T.length by omega)
  rw [totT_succ] at this
  omega
/-- lengths that slices have -/
def TLen (T : TL) : Prop := T.length ≤ maxLen ∧ ∀ j, j < T.length → (cd T j).hs.length ≤ maxLen ∧ (cd T j).ws.length ≤ maxLen
/-- the table fits the laws' bound -/
def TFit (T : TL) : Prop := T.length + totT T T.length ≤ 1048576
theorem TFit.len {T : TL} (h : TFit T) : T.length ≤ 1048576 := by unfold TFit at h; omega
theorem TFit.at_ {T : TL} (h : TFit T) {k : Nat} (hk : k < T.length) : (cd T k).hs.length ≤ 1048576 ∧ (cd T k).ws.length ≤ 1048576 := by
  have := totT_at T hk
  unfold TFit at h; omega
/-- six cells in a block of their own -/
theorem Box.c6 {w : World} {b : Nat} {x0 x1 x2 x3 x4 x5 : Value} (h : Box w b [x0, x1, x2, x3, x4, x5]) : (w.cell? ⟨b, 0, none⟩ = some x0 ∧ w.cell? ⟨b, 1, none⟩ = some x1 ∧ w.cell? ⟨b, 2, none⟩ = some x2 ∧ w.cell? ⟨b, 3, none⟩ = some x3 ∧ w.cell? ⟨b, 4, none⟩ = some x4 ∧ w.cell? ⟨b, 5, none⟩ = some x5) ∧ ∀ o, w.frozen? ⟨b, o, none⟩ = false :=
  ⟨⟨h.cell 0 _ rfl, h.cell 1 _ rfl, h.cell 2 _ rfl, h.cell 3 _ rfl, h.cell 4 _ rfl, h.cell 5 _ rfl⟩, h.free⟩
end Go.Proofs.YtkpkjcmoldkmmaaGreat
