/- What a law carries: marks as one step, answers of several kinds. -/
import Derived.Test.YtcndmdglnohbcaaGreatDoorLo
namespace Go.Proofs.YtcndmdglnohbcaaGreatDoor
open Go.RowKit

/-- perhaps a block laid, then only blocks from lo on and below B turned -/
def MarkS (lo B : Nat) (w w' : World) : Prop := Onlys lo B w w' ∨ ∃ o, Onlys lo B (w.alloc o) w'
theorem MarkS.one {lo B : Nat} {w w' : World} (h : Onlys lo B w w') : MarkS lo B w w' := .inl h
theorem MarkS.two {lo B : Nat} {w w' : World} (h : ∃ o, Onlys lo B (w.alloc o) w') : MarkS lo B w w' := .inr h
section
variable {w w' : World} {lo B lo' B' b : Nat} {A A' : Option Addr} {p : HL × HL} {cs : List Value}
/-- what a step does, said with the world between -/
theorem MarkS.mid (h : MarkS lo B w w') : ∃ v, Below w.heap.size w v ∧ Onlys lo B v w' := by
  rcases h with h | ⟨o, h⟩
  · exact ⟨w, Below.refl _ _, h⟩
  · exact ⟨_, (Below.refl w.heap.size w).alloc (Nat.le_refl _) o, h⟩
theorem MarkS.size (h : MarkS lo B w w') : w.heap.size ≤ w'.heap.size := by obtain ⟨v, h1, h2⟩ := h.mid; rw [h2.size]; exact h1.size
theorem MarkS.bel (h : MarkS lo B w w') {L : Nat} (hL : L ≤ lo) (hL' : L ≤ w.heap.size) : Below L w w' := by
  obtain ⟨v, h1, h2⟩ := h.mid
  exact (h1.mono hL').trans (h2.below hL)
theorem Box.mark (k : Box w b cs) (h : MarkS lo B w w') (hd : b < lo ∨ B ≤ b) : Box w' b cs := by
  obtain ⟨v, h1, h2⟩ := h.mid
  have k := k.next h1
  have hk := h2.block b hd
  exact ⟨by rw [h2.size]; exact k.lt, fun j u hu => (World.cell?_of_block (a := ⟨b, j, none⟩) hk).trans (k.cell j u hu), fun q => (World.frozen?_of_block (a := ⟨b, q, none⟩) hk).trans (k.free q)⟩
theorem LOwn.mark (k : LOwn w lo' B' A A' p) (h : MarkS lo B w w') (hs : B' ≤ w.heap.size) (hd : B' ≤ lo ∨ B ≤ lo') : LOwn w' lo' B' A A' p := by
  obtain ⟨v, h1, h2⟩ := h.mid
  exact (k.below h1 hs).onlys h2 hd
theorem LAt.mark (k : LAt w B' A A' p) (h : MarkS lo B w w') (hs : B' ≤ w.heap.size) (hd : B' ≤ lo) : LAt w' B' A A' p := by
  obtain ⟨v, h1, h2⟩ := h.mid
  exact (k.keep h1 hs).onlys h2 hd
theorem OwnI.mark {N : Nat} {f : Nat → Int} (k : OwnI w lo' B' A N f) (h : MarkS lo B w w') (hs : B' ≤ w.heap.size) (hd : B' ≤ lo ∨ B ≤ lo') : OwnI w' lo' B' A N f := by
  obtain ⟨v, h1, h2⟩ := h.mid
  exact (k.below h1 hs).onlys h2 hd
theorem IntsAt.mark {N : Nat} {f : Nat → Int} (k : IntsAt w B' A N f) (h : MarkS lo B w w') (hs : B' ≤ w.heap.size) (hd : B' ≤ lo) : IntsAt w' B' A N f := by
  obtain ⟨v, h1, h2⟩ := h.mid
  exact (k.below (h1.mono hs) (Nat.le_refl _)).onlys h2 hd
end
/-- an answer that is a lock of the call's own -/
def RetLock (w : World) (p : HL × HL) (f : Value → Value) (e : Ending) (w' : World) : Prop := ∃ A c A' c', e = .returned (f (.agg #[.slice A p.1.length c, .slice A' p.2.length c'])) ∧ LOwn w' w.heap.size w'.heap.size A A' p ∧ Below w.heap.size w w'
end Go.Proofs.YtcndmdglnohbcaaGreatDoor
