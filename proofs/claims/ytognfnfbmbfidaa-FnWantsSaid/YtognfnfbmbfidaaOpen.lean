/- Arguments opened: a slice of acts, a slice of integers. -/
import Derived.Test.YtognfnfbmbfidaaActs
import Derived.ChangeSame
import Derived.JoinedOf
import Derived.JoinedAt
import Derived.RowKit3
import Derived.Lib.SmallJoins
import Derived.Deep.Slices
import Derived.Deep.Strs
import Derived.ChangeOld
namespace Go.Proofs.Ytognfnfbmbfidaa
open Go.ChangeShapes Go.WideShapes Go.ChangeAt Go.RowKit Go.Joins Go.Deep

theorem own : ownKnob Try.prog.godebug = none := by kernel_rfl
theorem laidOut : laidOutB Try.prog = true := by kernel_rfl
theorem cellsInt : Try.prog.cellsOf 3 = 1 := by kernel_rfl
theorem cellsActL : Try.prog.cellsOf 89 = 3 := by kernel_rfl

section
variable {H : Type} {enc : TypeId × Value → H} {W : World}

/-- an int at every cell -/
theorem intsAt_of {A : Addr} {N : Nat} (h : ∀ j, j < N → ∃ v : Int, W.cell? (A.add j) = some (.int .i64 v)) : ∃ f : Nat → Int, IntsAt W W.heap.size (some A) N f := by
  have hex : ∀ j, ∃ v : Int, j < N → W.cell? (A.add j) = some (.int .i64 v) := fun j => by
    by_cases hj : j < N
    · obtain ⟨v, hv⟩ := h j hj
      exact ⟨v, fun _ => hv⟩
    · exact ⟨0, fun hj' => absurd hj' hj⟩
  refine ⟨fun j => Classical.choose (hex j), fun hN => ?_⟩
  have hc : ∀ j, j < N → W.cell? (A.add j) = some (.int .i64 (Classical.choose (hex j))) := fun j hj => Classical.choose_spec (hex j) hj
  obtain ⟨b, off, spot⟩ := A
  have h0 := hc 0 hN
  have hs : spot = none := by simpa [Addr.add] using World.cell?_spot h0
  subst hs
  refine ⟨b, off, rfl, by simpa [Addr.add] using World.block_lt_of_cell? _ _ h0, fun j hj => ?_⟩
  have := hc j hj
  by_cases hj0 : j = 0
  · subst hj0
    simpa [Addr.add] using this
  · simpa [Addr.add, hj0] using this

theorem open_intsAt {A : Option Addr} {n cap : Nat} {d : DataW H} {p : List MemPlace} (h : DataW.Trod enc Try.prog W 0 (fun _ => true) true 33 (.slice A n cap) d p) :
    ∃ f : Nat → Int, n ≤ maxLen ∧ IntsAt W W.heap.size A n f := by
  obtain ⟨fuel, hf⟩ := h
  rcases open_slice Try.underlying33 hf with ⟨hcs, _⟩ | ⟨a, len, cap', m, k, D, Pl, hcs, _, hl, hm, hmm, _, hi⟩
  · simp [Value.cells] at hcs
    obtain ⟨rfl, rfl, rfl⟩ := hcs
    exact ⟨fun _ => 0, Nat.zero_le _, fun h => absurd h (by omega)⟩
  · simp [Value.cells] at hcs
    obtain ⟨rfl, rfl, rfl⟩ := hcs
    obtain ⟨f, hf'⟩ := intsAt_of (W := W) (A := a) (N := n) (fun j hj => by
      obtain ⟨cs', hc, ht⟩ := hi j (by rw [hmm]; simp; omega)
      rw [cellsInt] at hc
      obtain ⟨_, hlen, hcell⟩ := World.cells?_some hc
      obtain ⟨v, e0, _, _⟩ := DataW.trod_int Try.underlying3 ht
      refine ⟨v, ?_⟩
      have := hcell 0 (by omega)
      rw [e0] at this
      simpa [add_add] using this)
    exact ⟨f, by omega, hf'⟩

set_option maxRecDepth 100000 in
theorem open_acts {A : Option Addr} {n cap : Nat} {d : DataW H} {p : List MemPlace} (h : DataW.Trod enc Try.prog W 0 (fun _ => true) true 51 (.slice A n cap) d p) :
    ∃ f : Nat → Int, n ≤ maxLen ∧ IntsAt W W.heap.size A (n * 3) f := by
  obtain ⟨fuel, hf⟩ := h
  rcases open_slice Try.underlying51 hf with ⟨hcs, _⟩ | ⟨a, len, cap', m, k, D, Pl, hcs, _, hl, hm, hmm, _, hi⟩
  · simp [Value.cells] at hcs
    obtain ⟨rfl, rfl, rfl⟩ := hcs
    exact ⟨fun _ => 0, Nat.zero_le _, fun h => absurd h (by omega)⟩
  · simp [Value.cells] at hcs
    obtain ⟨rfl, rfl, rfl⟩ := hcs
    obtain ⟨f, hf'⟩ := intsAt_of (W := W) (A := a) (N := n * 3) (fun j hj => by
      obtain ⟨cs', hc, ht⟩ := hi (j / 3) (by rw [hmm]; simp; omega)
      rw [cellsActL] at hc
      obtain ⟨_, hlen, hcell⟩ := World.cells?_some hc
      obtain ⟨y0, y1, y2, n', _, _, t0, t1, t2⟩ := trod_struct3 Try.underlying89 ht
      obtain ⟨x0, e0, _, _⟩ := DataW.trod_int Try.underlying3 t0
      obtain ⟨x1, e1, _, _⟩ := DataW.trod_int Try.underlying3 t1
      obtain ⟨x2, e2, _, _⟩ := DataW.trod_int Try.underlying3 t2
      rw [cellsInt] at e0 e1 e2
      match cs', hlen with
      | [a0, a1, a2], _ =>
        simp at e0 e1 e2
        subst e0 e1 e2
        have q0 := hcell 0 (by omega)
        have q1 := hcell 1 (by omega)
        have q2 := hcell 2 (by omega)
        rw [add_add] at q0 q1 q2
        have h3 : j % 3 = 0 ∨ j % 3 = 1 ∨ j % 3 = 2 := by omega
        rcases h3 with h | h | h
        · exact ⟨x0, by rw [show j / 3 * 3 + 0 = j by omega] at q0; simpa using q0⟩
        · exact ⟨x1, by rw [show j / 3 * 3 + 1 = j by omega] at q1; simpa using q1⟩
        · exact ⟨x2, by rw [show j / 3 * 3 + 2 = j by omega] at q2; simpa using q2⟩)
    exact ⟨f, by omega, hf'⟩
end
end Go.Proofs.Ytognfnfbmbfidaa
