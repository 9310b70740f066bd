/- Engines: is everybody done, which epoch it is; of the model and of the program. -/
import Derived.Test.YtkpkjcmoldkmmaaGreatGf
namespace Go.Proofs.YtkpkjcmoldkmmaaGreat
open Go.RowKit

def doneW (x : DWorker) : Bool := decide ((x.1.length : Int) ≤ x.2.1)
def doneAll (d : DEngine) : Bool := d.2.2.1.all doneW
def epochOf (d : DEngine) : Int := if d.1.2.2.1 < 1 ∨ d.2.2.2.2.1 < 0 then 0 else min (wrap64 (d.2.2.2.2.1.tdiv d.1.2.2.1)) 1023
theorem all_false {α : Type} {l : List α} {p : α → Bool} {k : Nat} {a : α} (h : l[k]? = some a) (hp : p a = false) : l.all p = false := by
  rw [Bool.eq_false_iff]
  intro ha
  rw [List.all_eq_true] at ha
  rw [ha a (List.mem_of_getElem? h)] at hp
  cases hp
theorem all_true {α : Type} {l : List α} {p : α → Bool} (h : ∀ j a, j < l.length → l[j]? = some a → p a = true) : l.all p = true := by
  rw [List.all_eq_true]
  intro a ha
  obtain ⟨j, hj⟩ := List.getElem?_of_mem ha
  exact h j a (get_lt hj) hj
theorem specDone_any (x : DWorker) (B : Nat) (vs : List Value) (w : World) (h : fWorker.At w B x vs) : Calls Tryz.prog 83 #[.agg vs.toArray] w fun e w' => e = .returned (.bool (doneW x)) ∧ Below w.heap.size w w' := by
  obtain ⟨A0, c0, A5, c5, A6, c6, A7, c7, A8, c8, rfl, _, _, _, _, _⟩ := at_Worker h
  clear h
  go_enter Tryz.func83, Tryz.ntmps83
  go_wp2
  go_ret
  exact ⟨rfl, (Below.refl _ _).alloc (Nat.le_refl _) _⟩
theorem implDone_any (x : DWorker) (B : Nat) (vs : List Value) (w : World) (h : fWorker.At w B x vs) : Calls Tryz.prog 94 #[.agg vs.toArray] w fun e w' => e = .returned (.bool (doneW x)) ∧ Below w.heap.size w w' := by
  obtain ⟨A0, c0, A5, c5, A6, c6, A7, c7, A8, c8, rfl, _, _, _, _, _⟩ := at_Worker h
  clear h
  go_enter Tryz.func94, Tryz.ntmps94
  go_wp2
  go_ret
  exact ⟨rfl, (Below.refl _ _).alloc (Nat.le_refl _) _⟩
end Go.Proofs.YtkpkjcmoldkmmaaGreat
