/- spec.LockOk. -/
import Derived.Test.YtkpkjcmoldkmmaaLs1
namespace Go.Proofs.Ytkpkjcmoldkmmaa
open Go.RowKit

theorem infoInt : (Try.prog.info? 3).map (fun i => (i.zero, i.size, i.bytes)) = some (some (.int .i64 0), 1, 8) := by kernel_rfl
theorem ownsRow_block' {w w' : World} {base size n : Nat} {e : TypeId} {v : Value} {xs : List Value} (h : w.ownsRow base e size v n xs) (hb : ∀ k, k < w.heap.size → base ≤ k → w'.heap[k]? = w.heap[k]?) : w'.ownsRow base e size v n xs := by
  refine ⟨h.1, ?_⟩
  rcases h.2 with h' | ⟨g, cap, cur, h1, h2, h3, h4⟩
  · exact .inl h'
  · refine .inr ⟨g, cap, cur, h1, h2, ?_, h4⟩
    rw [hb g (Array.getElem?_eq_some_iff.1 h3).1 h2]
    exact h3
def Rest (hs ws : HL) (k : Nat) : Prop := lockOk hs ws = (idsOk (ids hs ++ ids (ws.take k)) (ids (ws.drop k)) && !grantsS hs ws)
theorem Rest.step {hs ws : HL} {k : Nat} (h : Rest hs ws k) (hk : k < ws.length) : lockOk hs ws = ((tidB (hT ws k) && !(ids hs ++ ids (ws.take k)).contains (hT ws k)) && idsOk (ids hs ++ ids (ws.take (k + 1))) (ids (ws.drop (k + 1))) && !grantsS hs ws) := by
  unfold Rest at h
  rw [h, drop_ids hk, take_ids hk, ← List.append_assoc]
  rfl
theorem Rest.bad1 {hs ws : HL} {k : Nat} (h : Rest hs ws k) (hk : k < ws.length) (ht : tidB (hT ws k) = false) : lockOk hs ws = false := by rw [h.step hk, ht]; simp
theorem Rest.bad2 {hs ws : HL} {k : Nat} (h : Rest hs ws k) (hk : k < ws.length) (ht : (ids hs ++ ids (ws.take k)).contains (hT ws k) = true) : lockOk hs ws = false := by rw [h.step hk, ht]; simp
theorem Rest.ok {hs ws : HL} {k : Nat} (h : Rest hs ws k) (hk : k < ws.length) (h1 : tidB (hT ws k) = true) (ht : (ids hs ++ ids (ws.take k)).contains (hT ws k) = false) : Rest hs ws (k + 1) := by unfold Rest; rw [h.step hk, ht, h1]; simp
theorem Rest.done {hs ws : HL} (h : Rest hs ws ws.length) : lockOk hs ws = !grantsS hs ws := by unfold Rest at h; rw [h]; simp [ids, idsOk]
def AllOk1 (hs : HL) (k : Nat) : Prop := ∀ j, j < k → ok1 hs j = true
theorem AllOk1.next {hs : HL} {k : Nat} (h : AllOk1 hs k) (hk : ok1 hs k = true) : AllOk1 hs (k + 1) := fun j hj => by
  by_cases e : j = k
  · subst e; exact hk
  · exact h j (by omega)

/-- what the model's loops carry behind a region that drew -/
structure AftH (w : World) (v : Value) (l : List Int) (b : Nat) (t : Int) (y : Bool) (L1 L2 : Value) (w2 : World) : Prop where
  own : w2.ownsRow (w.heap.size + 1) 3 1 v l.length (l.map (.int .i64))
  bel : Below w.heap.size w w2
  box : Box w2 w.heap.size [L1, L2]
  loc : Box w2 b [.int .i64 t, .bool y]
theorem AftH.mk' {w wr : World} {v : Value} {l : List Int} {t : Int} {y : Bool} {L1 L2 : Value} (ho : wr.ownsRow (w.heap.size + 1) 3 1 v l.length (l.map (.int .i64))) (hb : Below w.heap.size w wr) (X : Box wr w.heap.size [L1, L2]) (T : TypeId) (m : Nat) :
    AftH w v l wr.heap.size t y L1 L2 ((wr.alloc (.cells #[.int .i64 t, .bool y] T)).drewN m) := by
  have hq : Below (wr.alloc (.cells #[.int .i64 t, .bool y] T)).heap.size (wr.alloc (.cells #[.int .i64 t, .bool y] T)) ((wr.alloc (.cells #[.int .i64 t, .bool y] T)).drewN m) := below_drewN (Below.refl _ _) m
  exact ⟨ownsRow_block' (ho.alloc _) (fun k hk _ => hq.block k hk), below_drewN (hb.alloc hb.size _) m, (X.alloc _).next hq, (Box.new rfl).next hq⟩

end Go.Proofs.Ytkpkjcmoldkmmaa
