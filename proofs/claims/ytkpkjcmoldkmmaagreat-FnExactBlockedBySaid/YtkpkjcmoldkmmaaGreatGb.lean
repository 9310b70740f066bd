/- The laws' helpers over flat structs. -/
import Derived.Test.YtkpkjcmoldkmmaaGreatGa
namespace Go.Proofs.YtkpkjcmoldkmmaaGreat
open Go.RowKit

/-! boxes: blocks of the call's own with known cells -/
structure Bx (w : World) (b : Nat) (cs : List Value) : Prop where
  lt : b < w.heap.size
  cell : ∀ j u, cs[j]? = some u → w.cell? ⟨b, j, none⟩ = some u
  free : ∀ o, w.frozen? ⟨b, o, none⟩ = false
section
variable {w w' : World} {b : Nat} {cs : List Value}
theorem Bx.new {c : Array Value} {t : TypeId} (h : b = w.heap.size) : Bx (w.alloc (.cells c t)) b c.toList := by
  subst h
  exact ⟨by simp, fun j u hu => by rw [World.cell?_alloc_new]; simpa using hu, fun o => by simp⟩
theorem Bx.alloc (h : Bx w b cs) (o : Obj) : Bx (w.alloc o) b cs :=
  ⟨by simp; have := h.lt; omega, fun j u hu => by rw [World.cell?_alloc_lt _ _ _ h.lt]; exact h.cell j u hu, fun q => by rw [World.frozen?_alloc_old _ _ _ (Nat.ne_of_lt h.lt)]; exact h.free q⟩
theorem Bx.below {B : Nat} (h : Bx w b cs) (hb : Below B w w') (hB : b < B) : Bx w' b cs :=
  ⟨Nat.lt_of_lt_of_le h.lt hb.size, fun j u hu => (hb.cell (p := ⟨b, j, none⟩) hB).trans (h.cell j u hu), fun o => (hb.frozen (p := ⟨b, o, none⟩) hB).trans (h.free o)⟩
theorem Bx.next (h : Bx w b cs) (hb : Below w.heap.size w w') : Bx w' b cs := h.below hb h.lt
theorem Bx.drew (h : Bx w b cs) : Bx w.drew b cs := h.next (Below.refl _ _).drew
theorem Bx.far {a : Addr} (h : Bx w b cs) (v : Value) (hne : ¬ a.block = b) : Bx (w.setCell a v) b cs :=
  ⟨by simpa [World.setCell] using h.lt, fun j u hu => by rw [World.cell?_setCell_other _ _ _ _ (by intro e; exact hne (by rw [e]))]; exact h.cell j u hu, fun o => by rw [World.frozen?_setCell]; exact h.free o⟩
theorem Bx.set {j : Nat} (h : Bx w b cs) (v : Value) (hj : j < cs.length) : Bx (w.setCell ⟨b, j, none⟩ v) b (cs.set j v) := by
  refine ⟨by simpa [World.setCell] using h.lt, fun i u hu => ?_, fun o => by rw [World.frozen?_setCell]; exact h.free o⟩
  by_cases e : i = j
  · subst e
    rw [List.getElem?_set_self hj] at hu
    injection hu with hu
    subst hu
    exact World.cell?_setCell_same _ _ _ (h.cell i _ (List.getElem?_eq_getElem hj))
  · rw [List.getElem?_set_ne (by omega)] at hu
    rw [World.cell?_setCell_other _ _ _ _ (by intro h'; injection h' with _ h' _; omega)]
    exact h.cell i u hu
theorem Bx.c1 {x0 : Value} (h : Bx w b [x0]) : (w.cell? ⟨b, 0, none⟩ = some x0) ∧ ∀ o, w.frozen? ⟨b, o, none⟩ = false := ⟨h.cell 0 _ rfl, h.free⟩
theorem Bx.c2 {x0 x1 : Value} (h : Bx w b [x0, x1]) : (w.cell? ⟨b, 0, none⟩ = some x0 ∧ w.cell? ⟨b, 1, none⟩ = some x1) ∧ ∀ o, w.frozen? ⟨b, o, none⟩ = false := ⟨⟨h.cell 0 _ rfl, h.cell 1 _ rfl⟩, h.free⟩
theorem Bx.c3 {x0 x1 x2 : Value} (h : Bx w b [x0, x1, x2]) : (w.cell? ⟨b, 0, none⟩ = some x0 ∧ w.cell? ⟨b, 1, none⟩ = some x1 ∧ w.cell? ⟨b, 2, none⟩ = some x2) ∧ ∀ o, w.frozen? ⟨b, o, none⟩ = false := ⟨⟨h.cell 0 _ rfl, h.cell 1 _ rfl, h.cell 2 _ rfl⟩, h.free⟩
theorem Bx.c4 {x0 x1 x2 x3 : Value} (h : Bx w b [x0, x1, x2, x3]) : (w.cell? ⟨b, 0, none⟩ = some x0 ∧ w.cell? ⟨b, 1, none⟩ = some x1 ∧ w.cell? ⟨b, 2, none⟩ = some x2 ∧ w.cell? ⟨b, 3, none⟩ = some x3) ∧ ∀ o, w.frozen? ⟨b, o, none⟩ = false := ⟨⟨h.cell 0 _ rfl, h.cell 1 _ rfl, h.cell 2 _ rfl, h.cell 3 _ rfl⟩, h.free⟩
theorem Bx.c5 {x0 x1 x2 x3 x4 : Value} (h : Bx w b [x0, x1, x2, x3, x4]) : (w.cell? ⟨b, 0, none⟩ = some x0 ∧ w.cell? ⟨b, 1, none⟩ = some x1 ∧ w.cell? ⟨b, 2, none⟩ = some x2 ∧ w.cell? ⟨b, 3, none⟩ = some x3 ∧ w.cell? ⟨b, 4, none⟩ = some x4) ∧ ∀ o, w.frozen? ⟨b, o, none⟩ = false := ⟨⟨h.cell 0 _ rfl, h.cell 1 _ rfl, h.cell 2 _ rfl, h.cell 3 _ rfl, h.cell 4 _ rfl⟩, h.free⟩
theorem Bx.c6 {x0 x1 x2 x3 x4 x5 : Value} (h : Bx w b [x0, x1, x2, x3, x4, x5]) : (w.cell? ⟨b, 0, none⟩ = some x0 ∧ w.cell? ⟨b, 1, none⟩ = some x1 ∧ w.cell? ⟨b, 2, none⟩ = some x2 ∧ w.cell? ⟨b, 3, none⟩ = some x3 ∧ w.cell? ⟨b, 4, none⟩ = some x4 ∧ w.cell? ⟨b, 5, none⟩ = some x5) ∧ ∀ o, w.frozen? ⟨b, o, none⟩ = false := ⟨⟨h.cell 0 _ rfl, h.cell 1 _ rfl, h.cell 2 _ rfl, h.cell 3 _ rfl, h.cell 4 _ rfl, h.cell 5 _ rfl⟩, h.free⟩
theorem Bx.c9 {x0 x1 x2 x3 x4 x5 x6 x7 x8 : Value} (h : Bx w b [x0, x1, x2, x3, x4, x5, x6, x7, x8]) : (w.cell? ⟨b, 0, none⟩ = some x0 ∧ w.cell? ⟨b, 1, none⟩ = some x1 ∧ w.cell? ⟨b, 2, none⟩ = some x2 ∧ w.cell? ⟨b, 3, none⟩ = some x3 ∧ w.cell? ⟨b, 4, none⟩ = some x4 ∧ w.cell? ⟨b, 5, none⟩ = some x5 ∧ w.cell? ⟨b, 6, none⟩ = some x6 ∧ w.cell? ⟨b, 7, none⟩ = some x7 ∧ w.cell? ⟨b, 8, none⟩ = some x8) ∧ ∀ o, w.frozen? ⟨b, o, none⟩ = false := ⟨⟨h.cell 0 _ rfl, h.cell 1 _ rfl, h.cell 2 _ rfl, h.cell 3 _ rfl, h.cell 4 _ rfl, h.cell 5 _ rfl, h.cell 6 _ rfl, h.cell 7 _ rfl, h.cell 8 _ rfl⟩, h.free⟩
theorem Bx.c13 {x0 x1 x2 x3 x4 x5 x6 x7 x8 x9 x10 x11 x12 : Value} (h : Bx w b [x0, x1, x2, x3, x4, x5, x6, x7, x8, x9, x10, x11, x12]) : (w.cell? ⟨b, 0, none⟩ = some x0 ∧ w.cell? ⟨b, 1, none⟩ = some x1 ∧ w.cell? ⟨b, 2, none⟩ = some x2 ∧ w.cell? ⟨b, 3, none⟩ = some x3 ∧ w.cell? ⟨b, 4, none⟩ = some x4 ∧ w.cell? ⟨b, 5, none⟩ = some x5 ∧ w.cell? ⟨b, 6, none⟩ = some x6 ∧ w.cell? ⟨b, 7, none⟩ = some x7 ∧ w.cell? ⟨b, 8, none⟩ = some x8 ∧ w.cell? ⟨b, 9, none⟩ = some x9 ∧ w.cell? ⟨b, 10, none⟩ = some x10 ∧ w.cell? ⟨b, 11, none⟩ = some x11 ∧ w.cell? ⟨b, 12, none⟩ = some x12) ∧ ∀ o, w.frozen? ⟨b, o, none⟩ = false := ⟨⟨h.cell 0 _ rfl, h.cell 1 _ rfl, h.cell 2 _ rfl, h.cell 3 _ rfl, h.cell 4 _ rfl, h.cell 5 _ rfl, h.cell 6 _ rfl, h.cell 7 _ rfl, h.cell 8 _ rfl, h.cell 9 _ rfl, h.cell 10 _ rfl, h.cell 11 _ rfl, h.cell 12 _ rfl⟩, h.free⟩
end
theorem ret_intG {a b : Int} (h : a = b) : Ending.returned (.int .i64 a) = .returned (.int .i64 b) := by rw [h]
theorem szOf_lt {left : Int} {n : Nat} (h : left < n) : szOf left n = -1 := by unfold szOf; rw [if_pos h]
theorem szOf_le {left : Int} {n : Nat} (h : (n : Int) ≤ left) : szOf left n = left - n := by unfold szOf; rw [if_neg (by omega)]
theorem made_laid {α : Type} {F : Fm α} (w : World) {z : List Value} {l : List α} {t : TypeId} {N : Nat} (hz : z.length = F.n) (hp : 0 < z.length) (hN : N = l.length * z.length) :
    Laid F w.heap.size z l (w.alloc (.cells (madeCells z.toArray N) t)) 0 (fun _ => []) (fun _ => 0) (fun _ => 0) := by
  have hr : (w.alloc (.cells (madeCells z.toArray N) t)).rowIs w.heap.size t N (fun i => (z[i % z.length]?).getD .nilIface) :=
    ⟨_, Go.Deep.blk_alloc_new _ _, size_madeCells _ _, fun i hi => by
      have hm : i % z.length < z.length := Nat.mod_lt _ hp
      simp [madeCells, hi, hm]⟩
  refine Laid.new hr hz (by rw [hN, hz]) (fun j i u hu => ?_)
  have hi := (List.getElem?_eq_some_iff.1 hu).1
  rw [← hz, Nat.mul_comm, Nat.mul_add_mod, Nat.mod_eq_of_lt hi, hu]
  rfl
theorem farTwo {lo B g g' : Nat} {w w' : World} (h : Onlys g g' w w') (hd : B ≤ g ∨ g' ≤ lo) : SameI lo B w w' := .only h hd
abbrev DAct := Int × Int × Int
def fAct : Fm DAct := pairF intF (pairF intF (intF))
theorem at_Act {w : World} {B : Nat} {d : DAct} {vs : List Value} (h : fAct.At w B d vs) : vs = [.int .i64 d.1, .int .i64 d.2.1, .int .i64 d.2.2] := by
  obtain ⟨x0, y0, rfl, h0, x1, y1, rfl, h1, h2⟩ := h
  cases h0
  cases h1
  cases h2
  rfl
theorem cnt_Act (d : DAct) : fAct.cnt d = 0 := by
  show intF.cnt d.1 + (intF.cnt d.2.1 + (intF.cnt d.2.2)) = _
  have z0 : intF.cnt d.1 = 0 := rfl
  have z1 : intF.cnt d.2.1 = 0 := rfl
  have z2 : intF.cnt d.2.2 = 0 := rfl
  omega
theorem n_Act : fAct.n = 3 := rfl
theorem own_Act {w : World} {lo B : Nat} (h : lo ≤ B) (d : DAct) : fAct.Own w lo B d [.int .i64 d.1, .int .i64 d.2.1, .int .i64 d.2.2] := ⟨[.int .i64 d.1], _, lo, lo, lo, B, rfl, by omega, rfl, ⟨[.int .i64 d.2.1], _, lo, lo, lo, B, rfl, by omega, rfl, rfl⟩⟩
theorem mk_Act {w : World} {B : Nat} {d : DAct} : fAct.At w B d [.int .i64 d.1, .int .i64 d.2.1, .int .i64 d.2.2] := ⟨[.int .i64 d.1], _, rfl, rfl, ⟨[.int .i64 d.2.1], _, rfl, rfl, rfl⟩⟩
abbrev DWord := Int × Int × Bool
def fWord : Fm DWord := pairF intF (pairF intF (boolF))
theorem at_Word {w : World} {B : Nat} {d : DWord} {vs : List Value} (h : fWord.At w B d vs) : vs = [.int .i64 d.1, .int .i64 d.2.1, .bool d.2.2] := by
  obtain ⟨x0, y0, rfl, h0, x1, y1, rfl, h1, h2⟩ := h
  cases h0
  cases h1
  cases h2
  rfl
theorem cnt_Word (d : DWord) : fWord.cnt d = 0 := by
  show intF.cnt d.1 + (intF.cnt d.2.1 + (boolF.cnt d.2.2)) = _
  have z0 : intF.cnt d.1 = 0 := rfl
  have z1 : intF.cnt d.2.1 = 0 := rfl
  have z2 : boolF.cnt d.2.2 = 0 := rfl
  omega
theorem n_Word : fWord.n = 3 := rfl
theorem own_Word {w : World} {lo B : Nat} (h : lo ≤ B) (d : DWord) : fWord.Own w lo B d [.int .i64 d.1, .int .i64 d.2.1, .bool d.2.2] := ⟨[.int .i64 d.1], _, lo, lo, lo, B, rfl, by omega, rfl, ⟨[.int .i64 d.2.1], _, lo, lo, lo, B, rfl, by omega, rfl, rfl⟩⟩
theorem mk_Word {w : World} {B : Nat} {d : DWord} : fWord.At w B d [.int .i64 d.1, .int .i64 d.2.1, .bool d.2.2] := ⟨[.int .i64 d.1], _, rfl, rfl, ⟨[.int .i64 d.2.1], _, rfl, rfl, rfl⟩⟩
abbrev DHold := Int × Bool
def fHold : Fm DHold := pairF intF (boolF)
theorem at_Hold {w : World} {B : Nat} {d : DHold} {vs : List Value} (h : fHold.At w B d vs) : vs = [.int .i64 d.1, .bool d.2] := by
  obtain ⟨x0, y0, rfl, h0, h1⟩ := h
  cases h0
  cases h1
  rfl
theorem cnt_Hold (d : DHold) : fHold.cnt d = 0 := by
  show intF.cnt d.1 + (boolF.cnt d.2) = _
  have z0 : intF.cnt d.1 = 0 := rfl
  have z1 : boolF.cnt d.2 = 0 := rfl
  omega
theorem n_Hold : fHold.n = 2 := rfl
theorem own_Hold {w : World} {lo B : Nat} (h : lo ≤ B) (d : DHold) : fHold.Own w lo B d [.int .i64 d.1, .bool d.2] := ⟨[.int .i64 d.1], _, lo, lo, lo, B, rfl, by omega, rfl, rfl⟩
theorem mk_Hold {w : World} {B : Nat} {d : DHold} : fHold.At w B d [.int .i64 d.1, .bool d.2] := ⟨[.int .i64 d.1], _, rfl, rfl, rfl⟩
abbrev DWant := Int × Bool
def fWant : Fm DWant := pairF intF (boolF)
theorem at_Want {w : World} {B : Nat} {d : DWant} {vs : List Value} (h : fWant.At w B d vs) : vs = [.int .i64 d.1, .bool d.2] := by
  obtain ⟨x0, y0, rfl, h0, h1⟩ := h
  cases h0
  cases h1
  rfl
theorem cnt_Want (d : DWant) : fWant.cnt d = 0 := by
  show intF.cnt d.1 + (boolF.cnt d.2) = _
  have z0 : intF.cnt d.1 = 0 := rfl
  have z1 : boolF.cnt d.2 = 0 := rfl
  omega
theorem n_Want : fWant.n = 2 := rfl
theorem own_Want {w : World} {lo B : Nat} (h : lo ≤ B) (d : DWant) : fWant.Own w lo B d [.int .i64 d.1, .bool d.2] := ⟨[.int .i64 d.1], _, lo, lo, lo, B, rfl, by omega, rfl, rfl⟩
theorem mk_Want {w : World} {B : Nat} {d : DWant} : fWant.At w B d [.int .i64 d.1, .bool d.2] := ⟨[.int .i64 d.1], _, rfl, rfl, rfl⟩
abbrev DPut := Int × Int
def fPut : Fm DPut := pairF intF (intF)
theorem at_Put {w : World} {B : Nat} {d : DPut} {vs : List Value} (h : fPut.At w B d vs) : vs = [.int .i64 d.1, .int .i64 d.2] := by
  obtain ⟨x0, y0, rfl, h0, h1⟩ := h
  cases h0
  cases h1
  rfl
theorem cnt_Put (d : DPut) : fPut.cnt d = 0 := by
  show intF.cnt d.1 + (intF.cnt d.2) = _
  have z0 : intF.cnt d.1 = 0 := rfl
  have z1 : intF.cnt d.2 = 0 := rfl
  omega
theorem n_Put : fPut.n = 2 := rfl
theorem own_Put {w : World} {lo B : Nat} (h : lo ≤ B) (d : DPut) : fPut.Own w lo B d [.int .i64 d.1, .int .i64 d.2] := ⟨[.int .i64 d.1], _, lo, lo, lo, B, rfl, by omega, rfl, rfl⟩
theorem mk_Put {w : World} {B : Nat} {d : DPut} : fPut.At w B d [.int .i64 d.1, .int .i64 d.2] := ⟨[.int .i64 d.1], _, rfl, rfl, rfl⟩
abbrev DSetup := Int × Int × Int × Bool × Int
def fSetup : Fm DSetup := pairF intF (pairF intF (pairF intF (pairF boolF (intF))))
theorem at_Setup {w : World} {B : Nat} {d : DSetup} {vs : List Value} (h : fSetup.At w B d vs) : vs = [.int .i64 d.1, .int .i64 d.2.1, .int .i64 d.2.2.1, .bool d.2.2.2.1, .int .i64 d.2.2.2.2] := by
  obtain ⟨x0, y0, rfl, h0, x1, y1, rfl, h1, x2, y2, rfl, h2, x3, y3, rfl, h3, h4⟩ := h
  cases h0
  cases h1
  cases h2
  cases h3
  cases h4
  rfl
theorem cnt_Setup (d : DSetup) : fSetup.cnt d = 0 := by
  show intF.cnt d.1 + (intF.cnt d.2.1 + (intF.cnt d.2.2.1 + (boolF.cnt d.2.2.2.1 + (intF.cnt d.2.2.2.2)))) = _
  have z0 : intF.cnt d.1 = 0 := rfl
  have z1 : intF.cnt d.2.1 = 0 := rfl
  have z2 : intF.cnt d.2.2.1 = 0 := rfl
  have z3 : boolF.cnt d.2.2.2.1 = 0 := rfl
  have z4 : intF.cnt d.2.2.2.2 = 0 := rfl
  omega
theorem n_Setup : fSetup.n = 5 := rfl
theorem own_Setup {w : World} {lo B : Nat} (h : lo ≤ B) (d : DSetup) : fSetup.Own w lo B d [.int .i64 d.1, .int .i64 d.2.1, .int .i64 d.2.2.1, .bool d.2.2.2.1, .int .i64 d.2.2.2.2] := ⟨[.int .i64 d.1], _, lo, lo, lo, B, rfl, by omega, rfl, ⟨[.int .i64 d.2.1], _, lo, lo, lo, B, rfl, by omega, rfl, ⟨[.int .i64 d.2.2.1], _, lo, lo, lo, B, rfl, by omega, rfl, ⟨[.bool d.2.2.2.1], _, lo, lo, lo, B, rfl, by omega, rfl, rfl⟩⟩⟩⟩
theorem mk_Setup {w : World} {B : Nat} {d : DSetup} : fSetup.At w B d [.int .i64 d.1, .int .i64 d.2.1, .int .i64 d.2.2.1, .bool d.2.2.2.1, .int .i64 d.2.2.2.2] := ⟨[.int .i64 d.1], _, rfl, rfl, ⟨[.int .i64 d.2.1], _, rfl, rfl, ⟨[.int .i64 d.2.2.1], _, rfl, rfl, ⟨[.bool d.2.2.2.1], _, rfl, rfl, rfl⟩⟩⟩⟩
abbrev DSeen := Int × DWord × Int
def fSeen : Fm DSeen := pairF intF (pairF fWord (intF))
theorem at_Seen {w : World} {B : Nat} {d : DSeen} {vs : List Value} (h : fSeen.At w B d vs) : vs = [.int .i64 d.1, .int .i64 d.2.1.1, .int .i64 d.2.1.2.1, .bool d.2.1.2.2, .int .i64 d.2.2] := by
  obtain ⟨x0, y0, rfl, h0, x1, y1, rfl, h1, h2⟩ := h
  cases h0
  have e1 := at_Word h1
  subst e1
  cases h2
  rfl
theorem cnt_Seen (d : DSeen) : fSeen.cnt d = 0 := by
  show intF.cnt d.1 + (fWord.cnt d.2.1 + (intF.cnt d.2.2)) = _
  have z0 : intF.cnt d.1 = 0 := rfl
  have z1 : fWord.cnt d.2.1 = 0 := cnt_Word _
  have z2 : intF.cnt d.2.2 = 0 := rfl
  omega
theorem n_Seen : fSeen.n = 5 := rfl
theorem own_Seen {w : World} {lo B : Nat} (h : lo ≤ B) (d : DSeen) : fSeen.Own w lo B d [.int .i64 d.1, .int .i64 d.2.1.1, .int .i64 d.2.1.2.1, .bool d.2.1.2.2, .int .i64 d.2.2] := ⟨[.int .i64 d.1], _, lo, lo, lo, B, rfl, by omega, rfl, ⟨[.int .i64 d.2.1.1, .int .i64 d.2.1.2.1, .bool d.2.1.2.2], _, lo, lo, lo, B, rfl, by omega, (own_Word (Nat.le_refl _) d.2.1), rfl⟩⟩
theorem mk_Seen {w : World} {B : Nat} {d : DSeen} : fSeen.At w B d [.int .i64 d.1, .int .i64 d.2.1.1, .int .i64 d.2.1.2.1, .bool d.2.1.2.2, .int .i64 d.2.2] := ⟨[.int .i64 d.1], _, rfl, rfl, ⟨[.int .i64 d.2.1.1, .int .i64 d.2.1.2.1, .bool d.2.1.2.2], _, rfl, (mk_Word), rfl⟩⟩
theorem cnt_Int (x : Int) : intF.cnt x = 0 := rfl
set_option maxRecDepth 100000 in
theorem to_Act (d : DAct) (w : World) : Calls Tryz.prog 203 #[.agg #[.int .i64 d.1, .int .i64 d.2.1, .int .i64 d.2.2]] w fun e w' => e = .returned (.agg #[.int .i64 d.1, .int .i64 d.2.1, .int .i64 d.2.2]) ∧ Below w.heap.size w w' := by
  go_enter Tryz.func203, Tryz.ntmps203
  go_wp2
  exact bodyPost_ret (v := .agg #[.int .i64 d.1, .int .i64 d.2.1, .int .i64 d.2.2]) (by simp [results, Tryz.results203, go_sem]) rfl ⟨rfl, (by repeat' (first | (with_reducible refine Below.setCell ?_ (by simp <;> omega) _) | (with_reducible refine Below.alloc ?_ (by simp <;> omega) _) | (with_reducible assumption) | (with_reducible exact Below.refl _ _)))⟩
set_option maxRecDepth 100000 in
theorem eq_Act (d : DAct) (w : World) : Calls Tryz.prog 208 #[.agg #[.int .i64 d.1, .int .i64 d.2.1, .int .i64 d.2.2], .agg #[.int .i64 d.1, .int .i64 d.2.1, .int .i64 d.2.2]] w fun e w' => e = .returned (.bool true) ∧ Below w.heap.size w w' := by
  go_enter Tryz.func208, Tryz.ntmps208
  go_wp2
  go_ret
  exact ⟨rfl, (by repeat' (first | (with_reducible refine Below.setCell ?_ (by simp <;> omega) _) | (with_reducible refine Below.alloc ?_ (by simp <;> omega) _) | (with_reducible assumption) | (with_reducible exact Below.refl _ _)))⟩
set_option maxRecDepth 100000 in
theorem to_Word (d : DWord) (w : World) : Calls Tryz.prog 165 #[.agg #[.int .i64 d.1, .int .i64 d.2.1, .bool d.2.2]] w fun e w' => e = .returned (.agg #[.int .i64 d.1, .int .i64 d.2.1, .bool d.2.2]) ∧ Below w.heap.size w w' := by
  go_enter Tryz.func165, Tryz.ntmps165
  go_wp2
  exact bodyPost_ret (v := .agg #[.int .i64 d.1, .int .i64 d.2.1, .bool d.2.2]) (by simp [results, Tryz.results165, go_sem]) rfl ⟨rfl, (by repeat' (first | (with_reducible refine Below.setCell ?_ (by simp <;> omega) _) | (with_reducible refine Below.alloc ?_ (by simp <;> omega) _) | (with_reducible assumption) | (with_reducible exact Below.refl _ _)))⟩
set_option maxRecDepth 100000 in
theorem eq_Word (d : DWord) (w : World) : Calls Tryz.prog 176 #[.agg #[.int .i64 d.1, .int .i64 d.2.1, .bool d.2.2], .agg #[.int .i64 d.1, .int .i64 d.2.1, .bool d.2.2]] w fun e w' => e = .returned (.bool true) ∧ Below w.heap.size w w' := by
  go_enter Tryz.func176, Tryz.ntmps176
  go_wp2
  go_ret
  exact ⟨rfl, (by repeat' (first | (with_reducible refine Below.setCell ?_ (by simp <;> omega) _) | (with_reducible refine Below.alloc ?_ (by simp <;> omega) _) | (with_reducible assumption) | (with_reducible exact Below.refl _ _)))⟩
set_option maxRecDepth 100000 in
theorem to_Hold (d : DHold) (w : World) : Calls Tryz.prog 220 #[.agg #[.int .i64 d.1, .bool d.2]] w fun e w' => e = .returned (.agg #[.int .i64 d.1, .bool d.2]) ∧ Below w.heap.size w w' := by
  go_enter Tryz.func220, Tryz.ntmps220
  go_wp2
  exact bodyPost_ret (v := .agg #[.int .i64 d.1, .bool d.2]) (by simp [results, Tryz.results220, go_sem]) rfl ⟨rfl, (by repeat' (first | (with_reducible refine Below.setCell ?_ (by simp <;> omega) _) | (with_reducible refine Below.alloc ?_ (by simp <;> omega) _) | (with_reducible assumption) | (with_reducible exact Below.refl _ _)))⟩
set_option maxRecDepth 100000 in
theorem eq_Hold (d : DHold) (w : World) : Calls Tryz.prog 222 #[.agg #[.int .i64 d.1, .bool d.2], .agg #[.int .i64 d.1, .bool d.2]] w fun e w' => e = .returned (.bool true) ∧ Below w.heap.size w w' := by
  go_enter Tryz.func222, Tryz.ntmps222
  go_wp2
  go_ret
  exact ⟨rfl, (by repeat' (first | (with_reducible refine Below.setCell ?_ (by simp <;> omega) _) | (with_reducible refine Below.alloc ?_ (by simp <;> omega) _) | (with_reducible assumption) | (with_reducible exact Below.refl _ _)))⟩
set_option maxRecDepth 100000 in
theorem to_Want (d : DWant) (w : World) : Calls Tryz.prog 168 #[.agg #[.int .i64 d.1, .bool d.2]] w fun e w' => e = .returned (.agg #[.int .i64 d.1, .bool d.2]) ∧ Below w.heap.size w w' := by
  go_enter Tryz.func168, Tryz.ntmps168
  go_wp2
  exact bodyPost_ret (v := .agg #[.int .i64 d.1, .bool d.2]) (by simp [results, Tryz.results168, go_sem]) rfl ⟨rfl, (by repeat' (first | (with_reducible refine Below.setCell ?_ (by simp <;> omega) _) | (with_reducible refine Below.alloc ?_ (by simp <;> omega) _) | (with_reducible assumption) | (with_reducible exact Below.refl _ _)))⟩
set_option maxRecDepth 100000 in
theorem eq_Want (d : DWant) (w : World) : Calls Tryz.prog 179 #[.agg #[.int .i64 d.1, .bool d.2], .agg #[.int .i64 d.1, .bool d.2]] w fun e w' => e = .returned (.bool true) ∧ Below w.heap.size w w' := by
  go_enter Tryz.func179, Tryz.ntmps179
  go_wp2
  go_ret
  exact ⟨rfl, (by repeat' (first | (with_reducible refine Below.setCell ?_ (by simp <;> omega) _) | (with_reducible refine Below.alloc ?_ (by simp <;> omega) _) | (with_reducible assumption) | (with_reducible exact Below.refl _ _)))⟩
set_option maxRecDepth 100000 in
theorem to_Put (d : DPut) (w : World) : Calls Tryz.prog 170 #[.agg #[.int .i64 d.1, .int .i64 d.2]] w fun e w' => e = .returned (.agg #[.int .i64 d.1, .int .i64 d.2]) ∧ Below w.heap.size w w' := by
  go_enter Tryz.func170, Tryz.ntmps170
  go_wp2
  exact bodyPost_ret (v := .agg #[.int .i64 d.1, .int .i64 d.2]) (by simp [results, Tryz.results170, go_sem]) rfl ⟨rfl, (by repeat' (first | (with_reducible refine Below.setCell ?_ (by simp <;> omega) _) | (with_reducible refine Below.alloc ?_ (by simp <;> omega) _) | (with_reducible assumption) | (with_reducible exact Below.refl _ _)))⟩
set_option maxRecDepth 100000 in
theorem eq_Put (d : DPut) (w : World) : Calls Tryz.prog 181 #[.agg #[.int .i64 d.1, .int .i64 d.2], .agg #[.int .i64 d.1, .int .i64 d.2]] w fun e w' => e = .returned (.bool true) ∧ Below w.heap.size w w' := by
  go_enter Tryz.func181, Tryz.ntmps181
  go_wp2
  go_ret
  exact ⟨rfl, (by repeat' (first | (with_reducible refine Below.setCell ?_ (by simp <;> omega) _) | (with_reducible refine Below.alloc ?_ (by simp <;> omega) _) | (with_reducible assumption) | (with_reducible exact Below.refl _ _)))⟩
set_option maxRecDepth 100000 in
theorem to_Setup (d : DSetup) (w : World) : Calls Tryz.prog 30 #[.agg #[.int .i64 d.1, .int .i64 d.2.1, .int .i64 d.2.2.1, .bool d.2.2.2.1, .int .i64 d.2.2.2.2]] w fun e w' => e = .returned (.agg #[.int .i64 d.1, .int .i64 d.2.1, .int .i64 d.2.2.1, .bool d.2.2.2.1, .int .i64 d.2.2.2.2]) ∧ Below w.heap.size w w' := by
  go_enter Tryz.func30, Tryz.ntmps30
  go_wp2
  exact bodyPost_ret (v := .agg #[.int .i64 d.1, .int .i64 d.2.1, .int .i64 d.2.2.1, .bool d.2.2.2.1, .int .i64 d.2.2.2.2]) (by simp [results, Tryz.results30, go_sem]) rfl ⟨rfl, (by repeat' (first | (with_reducible refine Below.setCell ?_ (by simp <;> omega) _) | (with_reducible refine Below.alloc ?_ (by simp <;> omega) _) | (with_reducible assumption) | (with_reducible exact Below.refl _ _)))⟩
set_option maxRecDepth 100000 in
theorem eq_Setup (d : DSetup) (w : World) : Calls Tryz.prog 38 #[.agg #[.int .i64 d.1, .int .i64 d.2.1, .int .i64 d.2.2.1, .bool d.2.2.2.1, .int .i64 d.2.2.2.2], .agg #[.int .i64 d.1, .int .i64 d.2.1, .int .i64 d.2.2.1, .bool d.2.2.2.1, .int .i64 d.2.2.2.2]] w fun e w' => e = .returned (.bool true) ∧ Below w.heap.size w w' := by
  go_enter Tryz.func38, Tryz.ntmps38
  go_wp2
  go_ret
  exact ⟨rfl, (by repeat' (first | (with_reducible refine Below.setCell ?_ (by simp <;> omega) _) | (with_reducible refine Below.alloc ?_ (by simp <;> omega) _) | (with_reducible assumption) | (with_reducible exact Below.refl _ _)))⟩
set_option maxRecDepth 100000 in
theorem to_Seen (d : DSeen) (w : World) : Calls Tryz.prog 169 #[.agg #[.int .i64 d.1, .int .i64 d.2.1.1, .int .i64 d.2.1.2.1, .bool d.2.1.2.2, .int .i64 d.2.2]] w fun e w' => e = .returned (.agg #[.int .i64 d.1, .int .i64 d.2.1.1, .int .i64 d.2.1.2.1, .bool d.2.1.2.2, .int .i64 d.2.2]) ∧ Below w.heap.size w w' := by
  go_enter Tryz.func169, Tryz.ntmps169
  go_wp2_with fail
  have b := (((Below.refl w.heap.size w).alloc (Nat.le_refl _) (.cells #[.int .i64 d.1, .int .i64 d.2.1.1, .int .i64 d.2.1.2.1, .bool d.2.1.2.2, .int .i64 d.2.2] 239)).alloc (by simp) (.cells #[.int .i64 0, .int .i64 0, .int .i64 0, .bool false, .int .i64 0] 141)).alloc (by simp; omega) (.cells #[.int .i64 d.1, .int .i64 0, .int .i64 0, .bool false, .int .i64 0] 141)
  have X := ((Bx.new (w := w) (c := #[.int .i64 d.1, .int .i64 d.2.1.1, .int .i64 d.2.1.2.1, .bool d.2.1.2.2, .int .i64 d.2.2]) (t := 239) rfl).alloc (.cells #[.int .i64 0, .int .i64 0, .int .i64 0, .bool false, .int .i64 0] 141)).alloc (.cells #[.int .i64 d.1, .int .i64 0, .int .i64 0, .bool false, .int .i64 0] 141)
  have Y := (Bx.new (w := w.alloc (.cells #[.int .i64 d.1, .int .i64 d.2.1.1, .int .i64 d.2.1.2.1, .bool d.2.1.2.2, .int .i64 d.2.2] 239)) (b := w.heap.size + 1) (c := #[.int .i64 0, .int .i64 0, .int .i64 0, .bool false, .int .i64 0]) (t := 141) (by simp)).alloc (.cells #[.int .i64 d.1, .int .i64 0, .int .i64 0, .bool false, .int .i64 0] 141)
  have Z := Bx.new (w := (w.alloc (.cells #[.int .i64 d.1, .int .i64 d.2.1.1, .int .i64 d.2.1.2.1, .bool d.2.1.2.2, .int .i64 d.2.2] 239)).alloc (.cells #[.int .i64 0, .int .i64 0, .int .i64 0, .bool false, .int .i64 0] 141)) (b := w.heap.size + 1 + 1) (c := #[.int .i64 d.1, .int .i64 0, .int .i64 0, .bool false, .int .i64 0]) (t := 141) (by simp)
  have hz : w.heap.size + 1 + 1 < (((w.alloc (.cells #[.int .i64 d.1, .int .i64 d.2.1.1, .int .i64 d.2.1.2.1, .bool d.2.1.2.2, .int .i64 d.2.2] 239)).alloc (.cells #[.int .i64 0, .int .i64 0, .int .i64 0, .bool false, .int .i64 0] 141)).alloc (.cells #[.int .i64 d.1, .int .i64 0, .int .i64 0, .bool false, .int .i64 0] 141)).heap.size := by simp
  generalize ((w.alloc (.cells #[.int .i64 d.1, .int .i64 d.2.1.1, .int .i64 d.2.1.2.1, .bool d.2.1.2.2, .int .i64 d.2.2] 239)).alloc (.cells #[.int .i64 0, .int .i64 0, .int .i64 0, .bool false, .int .i64 0] 141)).alloc (.cells #[.int .i64 d.1, .int .i64 0, .int .i64 0, .bool false, .int .i64 0] 141) = w0 at b X Y Z hz ⊢
  have hsz := b.size
  refine (to_Word d.2.1 _).mono ?_; rintro o w1 ⟨rfl, hb⟩
  have X := X.next hb
  have Y := Y.next hb
  have Z := Z.next hb
  have b := b.trans (hb.mono hsz)
  have hs0 := hb.size
  have hz : w.heap.size + 1 + 1 < w1.heap.size := Nat.lt_of_lt_of_le hz hb.size
  obtain ⟨⟨x0, x1, x2, x3, x4⟩, _⟩ := X.c5
  obtain ⟨⟨z0, z1, z2, z3, z4⟩, zf⟩ := Z.c5
  obtain ⟨⟨y0, y1, y2, y3, y4⟩, yf⟩ := Y.c5
  clear hb X Y Z
  go_wp2
  exact bodyPost_ret (v := .agg #[.int .i64 d.1, .int .i64 d.2.1.1, .int .i64 d.2.1.2.1, .bool d.2.1.2.2, .int .i64 d.2.2]) (by simp [results, Tryz.results169, go_sem, y0, y1, y2, y3, y4]) rfl ⟨rfl, (by repeat' (first | (with_reducible refine Below.setCell ?_ (by simp <;> omega) _) | (with_reducible refine Below.alloc ?_ (by simp <;> omega) _) | (with_reducible assumption) | (with_reducible exact Below.refl _ _)))⟩
set_option maxRecDepth 100000 in
theorem eq_Seen (d : DSeen) (w : World) : Calls Tryz.prog 180 #[.agg #[.int .i64 d.1, .int .i64 d.2.1.1, .int .i64 d.2.1.2.1, .bool d.2.1.2.2, .int .i64 d.2.2], .agg #[.int .i64 d.1, .int .i64 d.2.1.1, .int .i64 d.2.1.2.1, .bool d.2.1.2.2, .int .i64 d.2.2]] w fun e w' => e = .returned (.bool true) ∧ Below w.heap.size w w' := by
  go_enter Tryz.func180, Tryz.ntmps180
  go_wp2
  go_ret
  exact ⟨rfl, (by repeat' (first | (with_reducible refine Below.setCell ?_ (by simp <;> omega) _) | (with_reducible refine Below.alloc ?_ (by simp <;> omega) _) | (with_reducible assumption) | (with_reducible exact Below.refl _ _)))⟩
end Go.Proofs.YtkpkjcmoldkmmaaGreat
