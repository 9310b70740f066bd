/- The model's copies: l03Holds, l03Copy. -/
import Derived.Test.YtcndmdglnohbcaaGreatDoorLk3
import Derived.Test.YtcndmdglnohbcaaGreatDoorLs3
namespace Go.Proofs.YtcndmdglnohbcaaGreatDoor
open Go.RowKit

theorem hcs_take {l : HL} {k : Nat} (h : k < l.length) : hcs (l.take (k + 1)) = hcs (l.take k) ++ [.int .i64 (hT l k), .bool (hW l k)] := by
  rw [List.take_succ_eq_append_getElem h, hcs_append, ← hT_get h]; rfl
/-- one list of the call's own -/
def OwnH (w : World) (lo : Nat) (v : Value) (l : HL) : Prop := w.ownsRow lo 77 2 v l.length (hcs l)
theorem OwnH.block {w w' : World} {lo : Nat} {v : Value} {l : HL} (h : OwnH w lo v l) (hb : ∀ k, k < w.heap.size → lo ≤ k → w'.heap[k]? = w.heap[k]?) : OwnH w' lo v l := ownsRow_block' h hb
theorem OwnH.next {w w' : World} {lo : Nat} {v : Value} {l : HL} (h : OwnH w lo v l) (hb : Below w.heap.size w w') : OwnH w' lo v l := h.block fun k hk _ => hb.block k hk
theorem OwnH.less {w : World} {lo lo' : Nat} {v : Value} {l : HL} (h : OwnH w lo v l) (hl : lo' ≤ lo) : OwnH w lo' v l := by
  refine ⟨h.1, ?_⟩
  rcases h.2 with h' | ⟨g, cap, cur, h1, h2, h3⟩
  · exact .inl h'
  · exact .inr ⟨g, cap, cur, h1, by omega, h3⟩
theorem OwnH.own {w : World} {lo : Nat} {v : Value} {l : HL} (h : OwnH w lo v l) : ∃ A cap, v = .slice A l.length cap ∧ HOwn w lo w.heap.size A l := by
  obtain ⟨A, cap, e, _, ho⟩ := HOwn.of_owns h
  exact ⟨A, cap, e, ho⟩
theorem OwnH.far {w : World} {lo : Nat} {v : Value} {l : HL} {a : Addr} (h : OwnH w lo v l) (u : Value) (hd : a.block < lo) : OwnH (w.setCell a u) lo v l :=
  h.block fun k _ hk => Below.heap_setCell _ _ _ _ (by omega)
theorem OwnH.nil (w : World) (lo : Nat) : OwnH w lo (.slice none 0 0) [] := World.ownsRow_nil _ _ _ _

/-- a lock's two lists, the call's own, in two blocks -/
def OwnL (w : World) (lo : Nat) (v1 v2 : Value) (p : HL × HL) : Prop := OwnH w lo v1 p.1 ∧ OwnH w lo v2 p.2 ∧ ∀ k, v1.ownBlock = some k → ¬ v2.ownBlock = some k
theorem OwnL.next {w w' : World} {lo : Nat} {v1 v2 : Value} {p : HL × HL} (h : OwnL w lo v1 v2 p) (hb : Below w.heap.size w w') : OwnL w' lo v1 v2 p := ⟨h.1.next hb, h.2.1.next hb, h.2.2⟩
theorem OwnL.less {w : World} {lo lo' : Nat} {v1 v2 : Value} {p : HL × HL} (h : OwnL w lo v1 v2 p) (hl : lo' ≤ lo) : OwnL w lo' v1 v2 p := ⟨h.1.less hl, h.2.1.less hl, h.2.2⟩
theorem OwnL.far {w : World} {lo : Nat} {v1 v2 : Value} {p : HL × HL} {a : Addr} (h : OwnL w lo v1 v2 p) (u : Value) (hd : a.block < lo) : OwnL (w.setCell a u) lo v1 v2 p := ⟨h.1.far u hd, h.2.1.far u hd, h.2.2⟩
/-- two lists, each laid behind a mark -/
theorem OwnL.two {w : World} {lo m : Nat} {v1 v2 : Value} {p : HL × HL} (h1 : OwnH w lo v1 p.1) (hm : ∀ k, v1.ownBlock = some k → k < m) (h2 : OwnH w m v2 p.2) (hl : lo ≤ m) : OwnL w lo v1 v2 p :=
  ⟨h1, h2.less hl, fun k hk hk' => by have := hm k hk; have := (h2.lt k hk').1; omega⟩
theorem OwnL.two' {w : World} {lo m : Nat} {v1 v2 : Value} {p : HL × HL} (h1 : OwnH w m v1 p.1) (h2 : OwnH w lo v2 p.2) (hm : ∀ k, v2.ownBlock = some k → k < m) (hl : lo ≤ m) : OwnL w lo v1 v2 p :=
  ⟨h1.less hl, h2, fun k hk hk' => by have := hm k hk'; have := (h1.lt k hk).1; omega⟩
theorem OwnL.lock {w : World} {lo : Nat} {v1 v2 : Value} {p : HL × HL} (h : OwnL w lo v1 v2 p) : ∃ A c A' c', v1 = .slice A p.1.length c ∧ v2 = .slice A' p.2.length c' ∧ LOwn w lo w.heap.size A A' p := by
  obtain ⟨A, c, rfl, h1⟩ := h.1.own
  obtain ⟨A', c', rfl, h2⟩ := h.2.1.own
  exact ⟨A, c, A', c', rfl, rfl, h1, h2, fun _ _ a a' e1 e2 => by
    subst e1 e2
    intro e
    exact h.2.2 a.block rfl (by rw [e]; rfl)⟩
/-- an answer that is a lock of the call's own, as rows -/
def RetOwn (w : World) (p : HL × HL) (f : Value → Value) (e : Ending) (w' : World) : Prop := ∃ v1 v2, e = .returned (f (.agg #[v1, v2])) ∧ OwnL w' w.heap.size v1 v2 p ∧ Below w.heap.size w w'
theorem RetOwn.lock {w w' : World} {p : HL × HL} {f : Value → Value} {e : Ending} (h : RetOwn w p f e w') : RetLock w p f e w' := by
  obtain ⟨v1, v2, e, ho, hb⟩ := h
  obtain ⟨A, c, A', c', rfl, rfl, hl⟩ := ho.lock
  exact ⟨A, c, A', c', e, hl, hb⟩

/-- a block of another type than holds -/
def BoxT (w : World) (b : Nat) : Prop := ∃ N f, w.rowIs b 40 N f
section
variable {w w' : World} {b : Nat}
theorem BoxT.new {c : Array Value} (h : b = w.heap.size) : BoxT (w.alloc (.cells c 40)) b := by
  subst h
  exact ⟨c.size, fun i => c[i]?.getD (.bool false), World.rowIs_alloc w c _ _ (fun i hi => by simp [hi])⟩
theorem BoxT.lt (h : BoxT w b) : b < w.heap.size := by obtain ⟨N, f, h⟩ := h; exact h.lt
theorem BoxT.alloc (h : BoxT w b) (o : Obj) : BoxT (w.alloc o) b := by obtain ⟨N, f, h⟩ := h; exact ⟨N, f, h.alloc o⟩
theorem BoxT.next (h : BoxT w b) (hb : Below w.heap.size w w') : BoxT w' b := by obtain ⟨N, f, h⟩ := h; exact ⟨N, f, h.of_block (hb.block b h.lt)⟩
theorem BoxT.grown {row : Option Nat} (h : BoxT w b) (hg : w.grownBy w' row) (hne : ∀ q, row = some q → ¬ q = b) : BoxT w' b := by
  obtain ⟨N, f, h⟩ := h
  exact ⟨N, f, h.of_block (hg.block b h.lt (fun e => hne b e.symm rfl))⟩
theorem BoxT.set (h : BoxT w b) (j : Nat) (v : Value) : BoxT (w.setCell ⟨b, j, none⟩ v) b := by obtain ⟨N, f, h⟩ := h; exact ⟨N, _, h.set j v⟩
theorem BoxT.far (h : BoxT w b) {a : Addr} (v : Value) (hne : ¬ a.block = b) : BoxT (w.setCell a v) b := by
  obtain ⟨N, f, h⟩ := h
  exact ⟨N, f, h.of_block (Below.heap_setCell _ _ _ _ (fun e => hne e.symm))⟩
theorem BoxT.ne {lo : Nat} {v : Value} {l : HL} (h : BoxT w b) (o : OwnH w lo v l) : ∀ k, v.ownBlock = some k → ¬ b = k := by
  intro k hk e
  subst e
  obtain ⟨N, f, c, hc, _⟩ := h
  rcases o.2 with ⟨rfl, _⟩ | ⟨g, cap, cur, rfl, _, hh, _⟩
  · cases hk
  · injection hk with hk
    simp only at hk
    subst hk
    have := hc.symm.trans hh
    injection this with this
    injection this with _ e1 _
    exact absurd e1 (by decide)
end

end Go.Proofs.YtcndmdglnohbcaaGreatDoor
