/- A slice of bytes opened. -/
import Derived.Test.YtilgfcbjonalaaaDoorNew
import Derived.ChangeSame
import Derived.JoinedOf
import Derived.JoinedAt
import Derived.RowKit3
import Derived.Lib.SmallJoins
import Derived.Deep.Slices
import Derived.Deep.Strs
import Derived.ChangeOld
namespace Go.Proofs.YtilgfcbjonalaaaDoor
open Go.ChangeShapes Go.WideShapes Go.ChangeAt Go.RowKit Go.Joins Go.Deep

theorem cellsU8 : Tryd.prog.cellsOf 5 = 1 := by kernel_rfl

section
variable {H : Type} {enc : TypeId × Value → H} {W : World}

/-- a byte at every cell -/
theorem bytesAt_of {A : Addr} {N : Nat} (h : ∀ j, j < N → ∃ v : Int, (0 ≤ v ∧ v ≤ 255) ∧ W.cell? (A.add j) = some (.int .u8 v)) : ∃ g : Nat → Int, BytesAt W W.heap.size (some A) N g := by
  have hex : ∀ j, ∃ v : Int, (0 ≤ v ∧ v ≤ 255) ∧ (j < N → W.cell? (A.add j) = some (.int .u8 v)) := fun j => by
    by_cases hj : j < N
    · obtain ⟨v, hr, hv⟩ := h j hj
      exact ⟨v, hr, fun _ => hv⟩
    · exact ⟨0, ⟨by omega, by omega⟩, fun hj' => absurd hj' hj⟩
  refine ⟨fun j => Classical.choose (hex j), fun j => (Classical.choose_spec (hex j)).1, fun hN => ?_⟩
  have hc : ∀ j, j < N → W.cell? (A.add j) = some (.int .u8 (Classical.choose (hex j))) := fun j hj => (Classical.choose_spec (hex j)).2 hj
  obtain ⟨b, off, spot⟩ := A
  have h0 := hc 0 hN
  have hs : spot = none := by simpa [Addr.add] using World.cell?_spot h0
  subst hs
  refine ⟨b, off, rfl, by simpa [Addr.add] using World.block_lt_of_cell? _ _ h0, fun j hj => ?_⟩
  have := hc j hj
  by_cases hj0 : j = 0
  · subst hj0
    simpa [Addr.add] using this
  · simpa [Addr.add, hj0] using this

theorem open_bytesAt {A : Option Addr} {n cap : Nat} {d : DataW H} {p : List MemPlace} (h : DataW.Trod enc Tryd.prog W 0 (fun _ => true) true 22 (.slice A n cap) d p) :
    ∃ g : Nat → Int, BytesAt W W.heap.size A n g := by
  obtain ⟨fuel, hf⟩ := h
  rcases open_slice Tryd.underlying22 hf with ⟨hcs, _⟩ | ⟨a, len, cap', m, k, D, Pl, hcs, _, hl, hm, hmm, _, hi⟩
  · simp [Value.cells] at hcs
    obtain ⟨rfl, rfl, rfl⟩ := hcs
    exact ⟨fun _ => 0, fun _ => ⟨Int.le_refl 0, (by decide : (0 : Int) ≤ 255)⟩, fun h => absurd h (by omega)⟩
  · simp [Value.cells] at hcs
    obtain ⟨rfl, rfl, rfl⟩ := hcs
    exact bytesAt_of (W := W) (A := a) (N := n) (fun j hj => by
      obtain ⟨cs', hc, ht⟩ := hi j (by rw [hmm]; simp; omega)
      rw [cellsU8] at hc
      obtain ⟨_, hlen, hcell⟩ := World.cells?_some hc
      obtain ⟨v, e0, _, hwf⟩ := DataW.trod_int Tryd.underlying5 ht
      have hr : IntKind.u8.min ≤ v ∧ v ≤ IntKind.u8.max := by simpa [Lit.wf] using hwf
      refine ⟨v, ⟨hr.1, hr.2⟩, ?_⟩
      have := hcell 0 (by omega)
      rw [e0] at this
      simpa [add_add] using this)
end
end Go.Proofs.YtilgfcbjonalaaaDoor
