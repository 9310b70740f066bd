/- The program's queue: nodes linked by pointers. -/
import Derived.Test.YtaninlnobmjbmaaDoorLi4
namespace Go.Proofs.YtaninlnobmjbmaaDoor
open Go.RowKit

def ptr (o : Option Nat) : Value := .pointer (o.map fun b => ⟨b, 0, none⟩)
/-- nodes in these blocks hold these items, each bears the next one's address -/
def Nodes (w : World) : List Nat → HL → Prop
  | [], [] => True
  | b :: bs, x :: l => Box w b [.int .i64 x.1, .bool x.2, ptr bs.head?] ∧ Nodes w bs l
  | _, _ => False
theorem Nodes.keep {w w' : World} : ∀ {bs : List Nat} {l : HL}, Nodes w bs l → (∀ b ∈ bs, ∀ cs, Box w b cs → Box w' b cs) → Nodes w' bs l
  | [], [], _, _ => trivial
  | b :: bs, x :: l, h, k => ⟨k b (by simp) _ h.1, Nodes.keep h.2 (fun c hc => k c (by simp [hc]))⟩
theorem Nodes.nil {w : World} {l : HL} (h : Nodes w [] l) : l = [] := by
  cases l with
  | nil => rfl
  | cons x l => exact absurd h id
theorem Nodes.cons {w : World} {b : Nat} {bs : List Nat} {l : HL} (h : Nodes w (b :: bs) l) : ∃ x r, l = x :: r ∧ Box w b [.int .i64 x.1, .bool x.2, ptr bs.head?] ∧ Nodes w bs r := by
  cases l with
  | nil => exact absurd h id
  | cons x l => exact ⟨x, l, rfl, h.1, h.2⟩
theorem Nodes.len {w : World} : ∀ {bs : List Nat} {l : HL}, Nodes w bs l → bs.length = l.length
  | [], [], _ => rfl
  | b :: bs, x :: l, h => by simp [Nodes.len h.2]
/-- one node more behind the last -/
theorem Nodes.snoc {w W : World} {nb : Nat} {x : Int × Bool} : ∀ {bs : List Nat} {l : HL} {last : Nat}, Nodes w bs l → bs.getLast? = some last → bs.Nodup →
    (∀ c ∈ bs, ¬ c = last → ∀ cs, Box w c cs → Box W c cs) → (∀ a b c, Box w last [a, b, c] → Box W last [a, b, ptr (some nb)]) → Box W nb [.int .i64 x.1, .bool x.2, ptr none] →
    Nodes W (bs ++ [nb]) (l ++ [x])
  | [b], [y], last, h, hl, hd, hk, hs, hb => by
    have e : last = b := by simpa using hl.symm
    subst e
    exact ⟨hs _ _ _ h.1, hb, trivial⟩
  | b :: b2 :: bs, y :: y2 :: l, last, h, hl, hd, hk, hs, hb => by
    have hl2 : (b2 :: bs).getLast? = some last := by simpa using hl
    have hne : ¬ b = last := fun e => by
      have hm := List.mem_of_getLast? hl2
      rw [List.nodup_cons] at hd
      exact hd.1 (e ▸ hm)
    exact ⟨hk b (by simp) hne _ h.1, Nodes.snoc h.2 hl2 (List.nodup_cons.1 hd).2 (fun c hc => hk c (by simp only [List.mem_cons] at hc ⊢; exact .inr hc)) hs hb⟩
  | [], _, _, _, hl, _, _, _, _ => by cases hl
  | [b], y :: y2 :: l, _, h, _, _, _, _, _ => absurd h.2 id
  | b :: b2 :: bs, [y], _, h, _, _, _, _, _ => absurd h.2 id

theorem nodes_cell {w : World} : ∀ {bs : List Nat} {l : HL} {b : Nat}, Nodes w bs l → b ∈ bs → ∃ u, w.cell? ⟨b, 2, none⟩ = some u ∧ ∀ o, w.frozen? ⟨b, o, none⟩ = false
  | c :: bs, x :: l, b, h, hm => by
    rcases List.mem_cons.1 hm with rfl | hm
    · exact ⟨_, h.1.c3.2.2.1, h.1.c3.2.2.2⟩
    · exact nodes_cell h.2 hm
  | [], _, _, _, hm => by cases hm
  | _ :: _, [], _, h, _ => absurd h id
structure QAt (w : World) (lo q : Nat) (bs : List Nat) (l : HL) : Prop where
  box : ∃ z, Box w q [ptr bs.head?, z] ∧ ∀ b, bs.getLast? = some b → z = ptr (some b)
  nodes : Nodes w bs l
  nd : bs.Nodup
  far : ∀ b ∈ bs, lo ≤ b ∧ ¬ b = q ∧ b < w.heap.size
  lo : lo ≤ q
theorem QAt.keep {w w' : World} {lo q : Nat} {bs : List Nat} {l : HL} (h : QAt w lo q bs l) (hs : w.heap.size ≤ w'.heap.size) (k : ∀ b, lo ≤ b → b < w.heap.size → ∀ cs, Box w b cs → Box w' b cs) : QAt w' lo q bs l := by
  obtain ⟨z, hb, hz⟩ := h.box
  exact ⟨⟨z, k q h.lo hb.lt _ hb, hz⟩, h.nodes.keep (fun b hm cs hc => k b (h.far b hm).1 (h.far b hm).2.2 cs hc), h.nd, fun b hm => ⟨(h.far b hm).1, (h.far b hm).2.1, Nat.lt_of_lt_of_le (h.far b hm).2.2 hs⟩, h.lo⟩
theorem QAt.next {w w' : World} {lo q : Nat} {bs : List Nat} {l : HL} (h : QAt w lo q bs l) (hb : Below w.heap.size w w') : QAt w' lo q bs l := h.keep hb.size (fun _ _ _ _ hc => hc.next hb)
theorem QAt.lt {w : World} {lo q : Nat} {bs : List Nat} {l : HL} (h : QAt w lo q bs l) : q < w.heap.size := by obtain ⟨z, hb, _⟩ := h.box; exact hb.lt
theorem ptr_some (b : Nat) : ptr (some b) = .pointer (some ⟨b, 0, none⟩) := rfl
theorem ptr_none : ptr none = .pointer none := rfl

/-- the queue has one item more -/
def Added (lo q : Nat) (bs : List Nat) (l : HL) (x : Int × Bool) (w : World) (e : Ending) (w' : World) : Prop := e = .returned (.tuple #[]) ∧ ∃ nb, QAt w' lo q (bs ++ [nb]) (l ++ [x]) ∧ Below lo w w'
theorem sz_set (w : World) (a : Addr) (v : Value) : (w.setCell a v).heap.size = w.heap.size := by simp [World.setCell]

/-- a queue of these items -/
def IsQueue (lo : Nat) (l : HL) (w : World) (e : Ending) (w' : World) : Prop := ∃ q bs, e = .returned (.pointer (some ⟨q, 0, none⟩)) ∧ QAt w' lo q bs l ∧ Below lo w w'

/-- the first item taken -/
def Took (lo q : Nat) (bs : List Nat) (l : HL) (x : Int × Bool) (w : World) (e : Ending) (w' : World) : Prop := e = .returned (.agg #[.int .i64 x.1, .bool x.2]) ∧ QAt w' lo q bs l ∧ w.grownBy w' (some q)
theorem grownBy_refl (w : World) (r : Option Nat) : w.grownBy w r := ⟨rfl, rfl, rfl, Nat.le_refl _, fun _ _ _ => rfl⟩

theorem OwnH.more {w' : World} {lo : Nat} {v' : Value} {l : HL} {x : Int × Bool} (h : w'.ownsRow lo 120 2 v' (l.length + 1) (hcs l ++ [.int .i64 x.1, .bool x.2])) : OwnH w' lo v' (l ++ [x]) := by
  unfold OwnH
  rw [hcs_append, List.length_append]
  exact h
/-- a fresh row of these holds -/
def Fresh (l : HL) (w : World) (e : Ending) (w' : World) : Prop := ∃ v, e = .returned v ∧ OwnH w' w.heap.size v l ∧ Below w.heap.size w w'
def ItemsR (w : World) (l got : HL) (p v : Value) (gk : Nat) (wr : World) : Prop := ∃ bs2 rest, rest.length = gk ∧ p = ptr bs2.head? ∧ Nodes w bs2 rest ∧ l = got ++ rest ∧ OwnH wr w.heap.size v got ∧ Below w.heap.size w wr

end Go.Proofs.YtaninlnobmjbmaaDoor
