/- Contracts of spec.ReadsOf and impl.ReadsOf. -/
import Derived.Test.YtilgfcbjonalaaaDoorWrites
namespace Go.Proofs.YtilgfcbjonalaaaDoor
open Go.RowKit

/-- key j is met first by an act that is no put, among the first k acts -/
def readsTo (f : Nat → Int) : Nat → Nat → Bool
  | 0, _ => false
  | k + 1, j => if f (k * 3 + 1) == (j : Int) && !marksTo (fun _ => true) f k j then !(f (k * 3) == 1) else readsTo f k j

theorem readsTo_inv (f : Nat → Int) (j k : Nat) :
    (marksTo (wrt f) f k j = true → marksTo (fun _ => true) f k j = true) ∧ (marksTo (fun _ => true) f k j = false → readsTo f k j = false) ∧
    (marksTo (fun _ => true) f k j = true → marksTo (wrt f) f k j = false → readsTo f k j = true) := by
  induction k with
  | zero => simp [marksTo, readsTo]
  | succ k ih =>
    obtain ⟨i1, i2, i3⟩ := ih
    simp only [marksTo_succ, readsTo, wrt]
    cases hm : marksTo (fun _ => true) f k j <;> cases hw : marksTo (wrt f) f k j <;> cases hk : (f (k * 3 + 1) == (j : Int)) <;> cases h0 : (f (k * 3) == 0) <;> simp_all

theorem readsTo_spec (f : Nat → Int) (k j : Nat) : readsTo f (k + 1) j = (readsTo f k j || (f (k * 3 + 1) == (j : Int) && (!(f (k * 3) == 1) && !marksTo (wrt f) f k j))) := by
  obtain ⟨i1, i2, i3⟩ := readsTo_inv f j k
  simp only [readsTo]
  cases hm : marksTo (fun _ => true) f k j <;> cases hw : marksTo (wrt f) f k j <;> cases hk : (f (k * 3 + 1) == (j : Int)) <;> cases h0 : (f (k * 3) == 1) <;> simp_all

/-- the keys that are read -/
def readsOut (n : Nat) (f : Nat → Int) : List Int := if progOk n f = true then keysUp (readsTo f n) 8 else []
theorem readsOut_le (n : Nat) (f : Nat → Int) : (readsOut n f).length ≤ 8 := by
  unfold readsOut
  split
  · exact keysUp_le _ 8
  · exact Nat.zero_le _

/-- the model marks a key -/
theorem row_read {w : World} {g t N k y : Nat} {f : Nat → Int} (h : w.rowIs g t N (fun j => .bool (readsTo f k j))) (hy : f (k * 3 + 1) = (y : Int)) (h1 : (f (k * 3) == 1) = false) (hw : marksTo (wrt f) f k y = false) :
    (w.setCell ⟨g, y, none⟩ (.bool true)).rowIs g t N (fun j => .bool (readsTo f (k + 1) j)) :=
  (h.set y _).congr fun j _ => by
    rw [readsTo_spec, hy, h1]
    by_cases e : j = y
    · subst e; rw [if_pos rfl, hw]; simp
    · have : ((y : Int) == (j : Int)) = false := by rw [beq_eq_false_iff_ne]; omega
      rw [if_neg e, this]; simp
theorem row_noread {w : World} {g t N k y : Nat} {f : Nat → Int} (h : w.rowIs g t N (fun j => .bool (readsTo f k j))) (hy : f (k * 3 + 1) = (y : Int)) (h1 : (f (k * 3) == 1) = true ∨ marksTo (wrt f) f k y = true) :
    w.rowIs g t N (fun j => .bool (readsTo f (k + 1) j)) :=
  h.congr fun j _ => by
    rw [readsTo_spec, hy]
    by_cases e : j = y
    · subst e
      rcases h1 with h1 | h1 <;> simp [h1]
    · have : ((y : Int) == (j : Int)) = false := by rw [beq_eq_false_iff_ne]; omega
      rw [this]; simp
/-- the program sets a key that it meets for the first time -/
theorem row_first {w : World} {g t N k y : Nat} {f : Nat → Int} {v : Bool} (h : w.rowIs g t N (fun j => .bool (readsTo f k j))) (hy : f (k * 3 + 1) = (y : Int)) (hm : marksTo (fun _ => true) f k y = false) (hv : v = !(f (k * 3) == 1)) :
    (w.setCell ⟨g, y, none⟩ (.bool v)).rowIs g t N (fun j => .bool (readsTo f (k + 1) j)) :=
  (h.set y _).congr fun j _ => by
    simp only [readsTo]
    rw [hy]
    by_cases e : j = y
    · subst e; rw [if_pos rfl, hm, hv]; simp
    · have : ((y : Int) == (j : Int)) = false := by rw [beq_eq_false_iff_ne]; omega
      rw [if_neg e, this]; simp
theorem row_met {w : World} {g t N k y : Nat} {f : Nat → Int} (h : w.rowIs g t N (fun j => .bool (readsTo f k j))) (hy : f (k * 3 + 1) = (y : Int)) (hm : marksTo (fun _ => true) f k y = true) :
    w.rowIs g t N (fun j => .bool (readsTo f (k + 1) j)) :=
  h.congr fun j _ => by
    simp only [readsTo]
    rw [hy]
    by_cases e : j = y
    · subst e; rw [hm]; simp
    · have : ((y : Int) == (j : Int)) = false := by rw [beq_eq_false_iff_ne]; omega
      rw [this]; simp

theorem needsOld_get (y : Int) (w : World) : Calls Tryd.prog 61 #[.iface 113 (.agg #[.int .i64 y])] w fun e w' => e = .returned (.bool true) ∧ w = w' := by
  have npg := ta_yes Tryd.underlying113
  have nag := ta_no (t := 113) Tryd.underlying116 zAdd (by decide)
  go_enter Tryd.func61, Tryd.ntmps61
  go_wp2
  go_ret
  exact ⟨rfl, rfl⟩
theorem needsOld_put (y n : Int) (w : World) : Calls Tryd.prog 61 #[.iface 115 (.agg #[.int .i64 y, .int .i64 n])] w fun e w' => e = .returned (.bool false) ∧ w = w' := by
  have npg := ta_no (t := 115) Tryd.underlying113 zGet (by decide)
  have nag := ta_no (t := 115) Tryd.underlying116 zAdd (by decide)
  go_enter Tryd.func61, Tryd.ntmps61
  go_wp2
  go_ret
  exact ⟨rfl, rfl⟩
theorem needsOld_add (y n : Int) (w : World) : Calls Tryd.prog 61 #[.iface 116 (.agg #[.int .i64 y, .int .i64 n])] w fun e w' => e = .returned (.bool true) ∧ w = w' := by
  have npg := ta_no (t := 116) Tryd.underlying113 zGet (by decide)
  have nag := ta_yes Tryd.underlying116
  go_enter Tryd.func61, Tryd.ntmps61
  go_wp2
  go_ret
  exact ⟨rfl, rfl⟩

end Go.Proofs.YtilgfcbjonalaaaDoor
