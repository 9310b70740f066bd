/- A lock among the arguments, opened; a law over locks, lifted. -/
import Derived.Test.YtomkfldimkpmdaaLk2
import Derived.Deep.RegionLaw
import Derived.ChangeSame
import Derived.JoinedOf
import Derived.JoinedAt
import Derived.RowKit3
import Derived.Lib.SmallJoins
import Derived.Deep.Slices
import Derived.Deep.Strs
import Derived.ChangeOld
import Derived.OpenShut
namespace Go.Proofs.Ytomkfldimkpmdaa
open Go.ChangeShapes Go.WideShapes Go.ChangeAt Go.RowKit Go.Joins Go.Deep

theorem own : ownKnob Try.prog.godebug = none := by kernel_rfl
theorem laidOut : laidOutB Try.prog = true := by kernel_rfl
theorem cellsHoldL : Try.prog.cellsOf 229 = 2 := by kernel_rfl
theorem cellsLockL : Try.prog.cellsOf 149 = 2 := by kernel_rfl
theorem cellsIntL : Try.prog.cellsOf 3 = 1 := by kernel_rfl
theorem cellsBoolL : Try.prog.cellsOf 4 = 1 := by kernel_rfl

section
variable {H : Type} {enc : TypeId × Value → H} {W : World}

theorem holdsAt_of {A : Addr} {n : Nat} (h : ∀ j, j < n → ∃ z : Int × Bool, W.cell? (A.add (j * 2)) = some (.int .i64 z.1) ∧ W.cell? (A.add (j * 2 + 1)) = some (.bool z.2)) : ∃ l : HL, l.length = n ∧ HAt W W.heap.size (some A) l := by
  have hex : ∀ j, ∃ z : Int × Bool, j < n → W.cell? (A.add (j * 2)) = some (.int .i64 z.1) ∧ W.cell? (A.add (j * 2 + 1)) = some (.bool z.2) := fun j => by
    by_cases hj : j < n
    · obtain ⟨z, hz⟩ := h j hj
      exact ⟨z, fun _ => hz⟩
    · exact ⟨(0, false), fun hj' => absurd hj' hj⟩
  obtain ⟨g, hc⟩ := Classical.axiomOfChoice hex
  clear hex h
  refine ⟨(List.range n).map g, by simp, fun hN => ?_⟩
  rw [List.length_map, List.length_range] at hN
  have hadd : ∀ (b off k : Nat), (⟨b, off, none⟩ : Addr).add k = ⟨b, off + k, none⟩ := fun b off k => by
    by_cases e : k = 0
    · subst e; simp [Addr.add]
    · simp [Addr.add, e]
  obtain ⟨b, off, spot⟩ := A
  have h0 := (hc 0 hN).1
  have hs : spot = none := by simpa [Addr.add] using World.cell?_spot h0
  subst hs
  refine ⟨b, off, rfl, by simpa [Addr.add] using World.block_lt_of_cell? _ _ h0, fun j hj => ?_⟩
  have hj : j < n := by simpa using hj
  have := hc j hj
  rw [hadd, hadd] at this
  simpa [hT, hW, List.getD_eq_getElem?_getD, hj, Nat.add_assoc] using this

theorem list2 {l : List Value} (h : l.length = 2) : ∃ a b, l = [a, b] := by
  match l, h with
  | [a, b], _ => exact ⟨a, b, rfl⟩
theorem open_holds {v : Value} {y : DataW H × List MemPlace} {fuel : Nat} (hf : DataW.trod enc Try.prog W 0 (fun _ => true) true fuel 147 [v] = some y) :
    ∃ (A : Option Addr) (cap : Nat) (l : HL), v = .slice A l.length cap ∧ l.length ≤ maxLen ∧ HAt W W.heap.size A l := by
  rcases open_slice Try.underlying147 hf with ⟨hcs, _⟩ | ⟨a, len, cap', m, k, D, Pl, hcs, _, hl, hm, hmm, _, hi⟩
  · simp at hcs
    subst hcs
    exact ⟨none, 0, [], rfl, Nat.zero_le _, fun h => absurd h (by simp)⟩
  · simp at hcs
    subst hcs
    obtain ⟨l, hll, hat⟩ := holdsAt_of (W := W) (A := a) (n := len) (fun j hj => by
      obtain ⟨cs', hc, ht⟩ := hi j (by rw [hmm]; simp; omega)
      rw [cellsHoldL] at hc
      obtain ⟨_, hlen, hcell⟩ := World.cells?_some hc
      obtain ⟨y0, y1, n', _, _, t0, t1⟩ := trod_struct2 Try.underlying229 ht
      obtain ⟨x0, e0, _, _⟩ := DataW.trod_int Try.underlying3 t0
      obtain ⟨x1, e1, _⟩ := DataW.trod_bool Try.underlying4 t1
      rw [cellsIntL] at e0
      rw [cellsBoolL] at e1
      obtain ⟨a0, a1, rfl⟩ := list2 hlen
      simp at e0 e1
      subst e0 e1
      have q0 := hcell 0 (by omega)
      have q1 := hcell 1 (by omega)
      rw [add_add] at q0 q1
      exact ⟨(x0, x1), by simpa using q0, by simpa using q1⟩)
    subst hll
    exact ⟨some a, cap', l, rfl, by omega, hat⟩
end
end Go.Proofs.Ytomkfldimkpmdaa
