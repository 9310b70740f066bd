/- A copied table in the making: its cells in block g, its lists elsewhere. -/
import Derived.Test.YtcndmdglnohbcaaGreatDoorTy
import Derived.Test.YtcndmdglnohbcaaGreatDoorTe
import Derived.Test.YtcndmdglnohbcaaGreatDoorTb
namespace Go.Proofs.YtcndmdglnohbcaaGreatDoor
open Go.RowKit

/-- a list of holds in a block from lo on, apart from block g -/
def HG (w : World) (lo g : Nat) (A : Option Addr) (l : HL) : Prop :=
  0 < l.length → ∃ b off, A = some ⟨b, off, none⟩ ∧ lo ≤ b ∧ b < w.heap.size ∧ ¬ b = g ∧ ∀ j, j < l.length → w.cell? ⟨b, off + j * 2, none⟩ = some (.int .i64 (hT l j)) ∧ w.cell? ⟨b, off + j * 2 + 1, none⟩ = some (.bool (hW l j))
section
variable {w w' : World} {lo g n : Nat} {A : Option Addr} {l : HL} {f : Nat → CD} {q : Nat → Pl}
theorem HG.next (h : HG w lo g A l) (hb : Below w.heap.size w w') : HG w' lo g A l := fun hn => by
  obtain ⟨b, off, e, h0, h1, h2, hc⟩ := h hn
  exact ⟨b, off, e, h0, Nat.lt_of_lt_of_le h1 hb.size, h2, fun j hj => ⟨(hb.cell (p := ⟨b, _, none⟩) h1).trans (hc j hj).1, (hb.cell (p := ⟨b, _, none⟩) h1).trans (hc j hj).2⟩⟩
theorem HG.far {a : Addr} (h : HG w lo g A l) (u : Value) (ha : a.block < lo ∨ a.block = g) : HG (w.setCell a u) lo g A l := fun hn => by
  obtain ⟨b, off, e, h0, h1, h2, hc⟩ := h hn
  have hne : ∀ p : Nat, ¬ a = ⟨b, p, none⟩ := fun p e => by
    have : a.block = b := by rw [e]
    omega
  exact ⟨b, off, e, h0, by simpa [World.setCell] using h1, h2, fun j hj => ⟨by rw [World.cell?_setCell_other _ _ _ _ (hne _)]; exact (hc j hj).1, by rw [World.cell?_setCell_other _ _ _ _ (hne _)]; exact (hc j hj).2⟩⟩
theorem HG.at_ (h : HG w lo g A l) : HAt w w.heap.size A l := fun hn => by
  obtain ⟨b, off, e, _, h1, _, hc⟩ := h hn
  exact ⟨b, off, e, h1, hc⟩
theorem HG.of_own {lo' : Nat} (h : HOwn w lo' w.heap.size A l) (hlo : g < lo') (hl : lo ≤ lo') : HG w lo g A l := fun hn => by
  obtain ⟨b, off, e, h1, h2, hc⟩ := h hn
  exact ⟨b, off, e, by omega, h2, by omega, fun j hj => (hc j hj).1⟩
/-- a table's cells in block g, its lists apart from it -/
structure TG (w : World) (lo g n : Nat) (f : Nat → CD) (q : Nat → Pl) : Prop where
  low : lo ≤ g
  lt : g < w.heap.size
  free : ∀ o, w.frozen? ⟨g, o, none⟩ = false
  cell : ∀ j, j < n → CCells w g (j * 6) (f j) (q j)
  hs : ∀ j, j < n → HG w lo g (q j).G (f j).hs
  ws : ∀ j, j < n → HG w lo g (q j).G' (f j).ws
theorem TG.next (h : TG w lo g n f q) (hb : Below w.heap.size w w') : TG w' lo g n f q :=
  ⟨h.low, Nat.lt_of_lt_of_le h.lt hb.size, fun o => (hb.frozen (p := ⟨g, o, none⟩) h.lt).trans (h.free o), fun j hj => (h.cell j hj).below hb h.lt, fun j hj => (h.hs j hj).next hb, fun j hj => (h.ws j hj).next hb⟩
theorem TG.at_ {T : TL} (h : TG w lo g T.length (cd T) q) : TAt w w.heap.size (some ⟨g, 0, none⟩) T := fun _ =>
  ⟨g, 0, rfl, h.lt, q, fun j hj => ⟨by rw [Nat.zero_add]; exact h.cell j hj, (h.hs j hj).at_, (h.ws j hj).at_⟩⟩
theorem TG.congr {f' : Nat → CD} (h : TG w lo g n f q) (e : ∀ j, j < n → f j = f' j) : TG w lo g n f' q :=
  ⟨h.low, h.lt, h.free, fun j hj => (e j hj) ▸ h.cell j hj, fun j hj => (e j hj) ▸ h.hs j hj, fun j hj => (e j hj) ▸ h.ws j hj⟩
theorem TG.far {a : Addr} (h : TG w lo g n f q) (u : Value) (ha : a.block < lo) : TG (w.setCell a u) lo g n f q :=
  ⟨h.low, by simpa [World.setCell] using h.lt, fun o => by rw [World.frozen?_setCell]; exact h.free o, fun j hj => (h.cell j hj).far u (fun i _ e => absurd (show a.block = g by rw [e]) (by have := h.low; omega)), fun j hj => (h.hs j hj).far u (.inl ha), fun j hj => (h.ws j hj).far u (.inl ha)⟩
theorem CCells.lock {b o : Nat} {c : CD} {p P : Pl} (h : CCells w b o c p) (m : HL × HL) :
    CCells ((w.setCell ⟨b, o + 4, none⟩ (.slice P.G m.1.length P.c)).setCell ⟨b, o + 5, none⟩ (.slice P.G' m.2.length P.c')) b o ⟨c.v, c.e, c.s, c.h, m.1, m.2⟩ P :=
  ⟨(cc_other (j := 0) (by omega)).trans ((cc_other (j := 0) (by omega)).trans h.c0), (cc_other (by omega)).trans ((cc_other (by omega)).trans h.c1), (cc_other (by omega)).trans ((cc_other (by omega)).trans h.c2),
    (cc_other (by omega)).trans ((cc_other (by omega)).trans h.c3), (cc_other (by omega)).trans (cc_same h.c4), cc_same ((cc_other (by omega)).trans h.c5)⟩
/-- a new lock in cell k -/
theorem TG.lock (h : TG w lo g n f q) {k : Nat} (P : Pl) {m : HL × HL} (h1 : HG w lo g P.G m.1) (h2 : HG w lo g P.G' m.2) :
    TG ((w.setCell ⟨g, k * 6 + 4, none⟩ (.slice P.G m.1.length P.c)).setCell ⟨g, k * 6 + 5, none⟩ (.slice P.G' m.2.length P.c')) lo g n (fun j => if j = k then ⟨(f k).v, (f k).e, (f k).s, (f k).h, m.1, m.2⟩ else f j) (fun j => if j = k then P else q j) := by
  refine ⟨h.low, by simpa [World.setCell] using h.lt, fun o => by rw [World.frozen?_setCell, World.frozen?_setCell]; exact h.free o, fun j hj => ?_, fun j hj => ?_, fun j hj => ?_⟩
  · by_cases e : j = k
    · subst e
      simp only [if_true]
      exact (h.cell j hj).lock m
    · simp only [if_neg e]
      exact ((h.cell j hj).far _ (fun i hi e' => by injection e' with _ e' _; omega)).far _ (fun i hi e' => by injection e' with _ e' _; omega)
  · by_cases e : j = k
    · subst e; simp only [if_true]; exact (h1.far _ (.inr rfl)).far _ (.inr rfl)
    · simp only [if_neg e]; exact ((h.hs j hj).far _ (.inr rfl)).far _ (.inr rfl)
  · by_cases e : j = k
    · subst e; simp only [if_true]; exact (h2.far _ (.inr rfl)).far _ (.inr rfl)
    · simp only [if_neg e]; exact ((h.ws j hj).far _ (.inr rfl)).far _ (.inr rfl)
theorem TG.held (h : TG w lo g n f q) {k : Nat} (z : Bool) :
    TG (w.setCell ⟨g, k * 6 + 3, none⟩ (.bool z)) lo g n (fun j => if j = k then ⟨(f k).v, (f k).e, (f k).s, z, (f k).hs, (f k).ws⟩ else f j) q := by
  refine ⟨h.low, by simpa [World.setCell] using h.lt, fun o => by rw [World.frozen?_setCell]; exact h.free o, fun j hj => ?_, fun j hj => ?_, fun j hj => ?_⟩
  · by_cases e : j = k
    · subst e
      simp only [if_true]
      exact (h.cell j hj).seth z
    · simp only [if_neg e]
      exact (h.cell j hj).far _ (fun i hi e' => by injection e' with _ e' _; omega)
  · by_cases e : j = k
    · subst e; simp only [if_true]; exact (h.hs j hj).far _ (.inr rfl)
    · simp only [if_neg e]; exact (h.hs j hj).far _ (.inr rfl)
  · by_cases e : j = k
    · subst e; simp only [if_true]; exact (h.ws j hj).far _ (.inr rfl)
    · simp only [if_neg e]; exact (h.ws j hj).far _ (.inr rfl)
end
/-- the copy of a table that is not empty -/
theorem CopyTo.tg {wr : World} {lo : Nat} {T : TL} {v : Value} {q : Nat → Pl} (h : CopyTo wr lo T T.length v q) (hn : 0 < T.length) : ∃ g cap, v = .slice (some ⟨g, 0, none⟩) T.length cap ∧ TG wr lo g T.length (cd T) q := by
  rcases h.row.2 with ⟨rfl, e⟩ | ⟨g, cap, cur, rfl, hg, hh, hnn, hm, hs, ht⟩
  · have := h.row.1
    rw [e] at this; simp at this; omega
  · have hlt : g < wr.heap.size := (Array.getElem?_eq_some_iff.1 hh).1
    have hG : ∀ {A : Option Addr} {l : HL} {c : Nat}, OwnH wr lo (.slice A l.length c) l → HG wr lo g A l := fun {A l c} ho hl => by
      obtain ⟨A', cap', e, h1⟩ := ho.own
      injection e with e1 _ _
      subst e1
      obtain ⟨b, off, e, h2, h3, hc⟩ := h1 hl
      refine ⟨b, off, e, h2, h3, fun e' => ?_, fun j hj => (hc j hj).1⟩
      exact ownsRow_ne (k := b) ho h.row (by decide) (by rw [e]; rfl) (by rw [e']; rfl)
    refine ⟨g, cap, rfl, hg, hlt, fun o => ?_, fun j hj => ?_, fun j hj => hG (h.own j hj).1, fun j hj => hG (h.own j hj).2⟩
    · simp [World.frozen?, hh]
    · have e : ∀ i, i < 6 → wr.cell? ⟨g, j * 6 + i, none⟩ = (cvs (cd T j) (q j))[i]? := fun i hi => by
        rw [h.row.cellAt _ (by omega), ccs_get T q hj hi]
      exact ⟨e 0 (by omega), e 1 (by omega), e 2 (by omega), e 3 (by omega), e 4 (by omega), e 5 (by omega)⟩
/-- cell k's lock renewed: the table behind it -/
theorem TG.put {w : World} {lo g : Nat} {T : TL} {q : Nat → Pl} {k : Nat} {m : HL × HL} (h : TG w lo g T.length (fun j => if j = k then ⟨(cd T k).v, (cd T k).e, (cd T k).s, wrote m.1, m.1, m.2⟩ else cd T j) q) :
    TG w lo g (putT T k (lockC (cd T k) m)).length (cd (putT T k (lockC (cd T k) m))) q := by
  rw [putT_len]
  exact h.congr fun j hj => by rw [putT_at _ _ _ _ hj]; rfl
theorem HG.less {w : World} {lo lo' g : Nat} {A : Option Addr} {l : HL} (h : HG w lo g A l) (hl : lo' ≤ lo) : HG w lo' g A l := fun hn => by
  obtain ⟨b, off, e, h0, h1⟩ := h hn
  exact ⟨b, off, e, by omega, h1⟩
theorem TG.less {w : World} {lo lo' g n : Nat} {f : Nat → CD} {q : Nat → Pl} (h : TG w lo g n f q) (hl : lo' ≤ lo) : TG w lo' g n f q :=
  ⟨by have := h.low; omega, h.lt, h.free, h.cell, fun j hj => (h.hs j hj).less hl, fun j hj => (h.ws j hj).less hl⟩
/-- a table in blocks from lo on -/
def TLo (w : World) (lo : Nat) (A : Option Addr) (T : TL) : Prop := 0 < T.length → ∃ g q, A = some ⟨g, 0, none⟩ ∧ TG w lo g T.length (cd T) q
section
variable {w w' : World} {lo lo' : Nat} {A : Option Addr} {T : TL}
theorem TLo.at_ (h : TLo w lo A T) : TAt w w.heap.size A T := fun hn => by
  obtain ⟨g, q, rfl, h1⟩ := h hn
  exact h1.at_ hn
theorem TLo.next (h : TLo w lo A T) (hb : Below w.heap.size w w') : TLo w' lo A T := fun hn => by
  obtain ⟨g, q, e, h1⟩ := h hn
  exact ⟨g, q, e, h1.next hb⟩
theorem TLo.far {a : Addr} (h : TLo w lo A T) (u : Value) (ha : a.block < lo) : TLo (w.setCell a u) lo A T := fun hn => by
  obtain ⟨g, q, e, h1⟩ := h hn
  exact ⟨g, q, e, h1.far u ha⟩
theorem TLo.less (h : TLo w lo A T) (hl : lo' ≤ lo) : TLo w lo' A T := fun hn => by
  obtain ⟨g, q, e, h1⟩ := h hn
  exact ⟨g, q, e, h1.less hl⟩
end
theorem TG.tlo {w : World} {lo g : Nat} {T : TL} {q : Nat → Pl} (h : TG w lo g T.length (cd T) q) : TLo w lo (some ⟨g, 0, none⟩) T := fun _ => ⟨g, q, rfl, h⟩
theorem CopyTo.tlo {wr : World} {lo : Nat} {T : TL} {A : Option Addr} {c : Nat} {q : Nat → Pl} (h : CopyTo wr lo T T.length (.slice A T.length c) q) : TLo wr lo A T := fun hn => by
  obtain ⟨g, cap, e, h1⟩ := h.tg hn
  injection e with e _ _
  exact ⟨g, q, e, h1⟩
end Go.Proofs.YtcndmdglnohbcaaGreatDoor
