/- A lock among the arguments, opened; a law over locks, lifted. -/
import Derived.Test.YtcndmdglnohbcaaGreatDoorLk2
import Derived.Deep.RegionLaw
import Derived.ChangeSame
import Derived.JoinedOf
import Derived.JoinedAt
import Derived.RowKit3
import Derived.Lib.SmallJoins
import Derived.Deep.Slices
import Derived.Deep.Strs
import Derived.ChangeOld
import Derived.OpenShut
namespace Go.Proofs.YtcndmdglnohbcaaGreatDoor
open Go.ChangeShapes Go.WideShapes Go.ChangeAt Go.RowKit Go.Joins Go.Deep

theorem own : ownKnob Tryz.prog.godebug = none := by kernel_rfl
theorem laidOut : laidOutB Tryz.prog = true := by kernel_rfl
theorem cellsIntL : Tryz.prog.cellsOf 3 = 1 := by kernel_rfl
theorem cellsBoolL : Tryz.prog.cellsOf 4 = 1 := by kernel_rfl

section
variable {H : Type} {enc : TypeId × Value → H} {W : World}

theorem holdsAt_of {A : Addr} {n : Nat} (h : ∀ j, j < n → ∃ z : Int × Bool, W.cell? (A.add (j * 2)) = some (.int .i64 z.1) ∧ W.cell? (A.add (j * 2 + 1)) = some (.bool z.2)) : ∃ l : HL, l.length = n ∧ HAt W W.heap.size (some A) l := by
  have hex : ∀ j, ∃ z : Int × Bool, j < n → W.cell? (A.add (j * 2)) = some (.int .i64 z.1) ∧ W.cell? (A.add (j * 2 + 1)) = some (.bool z.2) := fun j => by
    by_cases hj : j < n
    · obtain ⟨z, hz⟩ := h j hj
      exact ⟨z, fun _ => hz⟩
    · exact ⟨(0, false), fun hj' => absurd hj' hj⟩
  obtain ⟨g, hc⟩ := Classical.axiomOfChoice hex
  clear hex h
  refine ⟨(List.range n).map g, by simp, fun hN => ?_⟩
  rw [List.length_map, List.length_range] at hN
  have hadd : ∀ (b off k : Nat), (⟨b, off, none⟩ : Addr).add k = ⟨b, off + k, none⟩ := fun b off k => by
    by_cases e : k = 0
    · subst e; simp [Addr.add]
    · simp [Addr.add, e]
  obtain ⟨b, off, spot⟩ := A
  have h0 := (hc 0 hN).1
  have hs : spot = none := by simpa [Addr.add] using World.cell?_spot h0
  subst hs
  refine ⟨b, off, rfl, by simpa [Addr.add] using World.block_lt_of_cell? _ _ h0, fun j hj => ?_⟩
  have hj : j < n := by simpa using hj
  have := hc j hj
  rw [hadd, hadd] at this
  simpa [hT, hW, List.getD_eq_getElem?_getD, hj, Nat.add_assoc] using this

theorem list2 {l : List Value} (h : l.length = 2) : ∃ a b, l = [a, b] := by
  match l, h with
  | [a, b], _ => exact ⟨a, b, rfl⟩
end
end Go.Proofs.YtcndmdglnohbcaaGreatDoor
