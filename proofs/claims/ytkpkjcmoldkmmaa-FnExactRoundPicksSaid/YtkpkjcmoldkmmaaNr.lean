/- RoundPicks: the mathematics, the model's and the program's. -/
import Derived.Test.YtkpkjcmoldkmmaaCl
import Derived.Test.YtkpkjcmoldkmmaaHm
import Derived.Test.YtkpkjcmoldkmmaaRunAu
namespace Go.Proofs.Ytkpkjcmoldkmmaa
open Go.RowKit

/-- an answer: a list of the call's own, and whether there is one -/
def RetLB {α : Type} (F : Fm α) (w : World) (l : List α) (b : Bool) (e : Ending) (w' : World) : Prop := ∃ A c, e = .returned (.tuple #[.slice A l.length c, .bool b]) ∧ Below w.heap.size w w' ∧ ROwn F w' w.heap.size w'.heap.size A l
theorem RetLB.nil {α : Type} {F : Fm α} {w w' : World} (b : Below w.heap.size w w') : RetLB F w [] false (.returned (.tuple #[.slice none 0 0, .bool false])) w' := ⟨none, 0, rfl, b, ROwn.nil⟩
def turnsL (n m : Nat) : List Int := (List.range m).map fun i => ((i % n : Nat) : Int)
theorem turns_len (n m : Nat) : (turnsL n m).length = m := by simp [turnsL]
theorem turns_get {n m j : Nat} (h : j < m) : (turnsL n m)[j]? = some ((j % n : Nat) : Int) := by simp [turnsL, h]
theorem turns_succ (n m : Nat) : turnsL n (m + 1) = turnsL n m ++ [((m % n : Nat) : Int)] := by
  unfold turnsL
  rw [List.range_succ, List.map_append]
  rfl
def roundsOk (n m : Int) : Bool := inB n 1 4 && inB m 0 (400 / n)
def roundsL (n m : Int) : List Int := if roundsOk n m then turnsL n.toNat (n.toNat * m.toNat) else []
theorem rounds_yes {n m : Int} (h : roundsOk n m = true) : roundsL n m = turnsL n.toNat (n.toNat * m.toNat) := if_pos h
theorem rounds_no {n m : Int} (h : roundsOk n m = false) : roundsL n m = [] := by unfold roundsL; rw [h]; rfl
theorem rounds_in {n m : Int} (h : roundsOk n m = true) : ∃ a b : Nat, n = a ∧ m = b ∧ 1 ≤ a ∧ a ≤ 4 ∧ b ≤ 400 / a ∧ a * b ≤ 400 := by
  simp only [roundsOk, inB, Bool.and_eq_true, decide_eq_true_eq] at h
  obtain ⟨⟨h1, h2⟩, h3, h4⟩ := h
  obtain ⟨a, rfl⟩ := Int.eq_ofNat_of_zero_le (show 0 ≤ n by omega)
  obtain ⟨b, rfl⟩ := Int.eq_ofNat_of_zero_le h3
  have h5 : b ≤ 400 / a := by
    have e : (400 : Int) / (a : Int) = ((400 / a : Nat) : Int) := rfl
    rw [e] at h4
    omega
  have h6 := (Nat.le_div_iff_mul_le (show 0 < a by omega)).1 h5
  exact ⟨a, b, rfl, rfl, by omega, by omega, h5, by rw [Nat.mul_comm]; exact h6⟩
end Go.Proofs.Ytkpkjcmoldkmmaa
