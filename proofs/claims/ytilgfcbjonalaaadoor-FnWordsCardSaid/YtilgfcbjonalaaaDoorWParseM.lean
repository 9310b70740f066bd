/- ParseWord: the model's, and the law. -/
import Derived.Test.YtilgfcbjonalaaaDoorWParse
import Derived.Deep.AppendLies
namespace Go.Proofs.YtilgfcbjonalaaaDoor
open Go.RowKit

/-- (0, 0, h) lies in block B -/
def ZH (w : World) (B : Nat) (h : Bool) : Prop := (w.cell? ⟨B, 0, none⟩ = some (.int .i64 0) ∧ w.cell? ⟨B, 1, none⟩ = some (.int .i64 0) ∧ w.cell? ⟨B, 2, none⟩ = some (.bool h)) ∧
  (w.frozen? ⟨B, 0, none⟩ = false ∧ w.frozen? ⟨B, 1, none⟩ = false ∧ w.frozen? ⟨B, 2, none⟩ = false) ∧ B < w.heap.size
theorem ZH.made (w : World) (t : TypeId) (h : Bool) : ZH (w.alloc (.cells #[.int .i64 0, .int .i64 0, .bool h] t)) w.heap.size h := by
  refine ⟨⟨?_, ?_, ?_⟩, ⟨?_, ?_, ?_⟩, ?_⟩ <;> first | go_simp | skip
  all_goals simp
theorem ZH.below {w w' : World} {B : Nat} {h : Bool} (k : ZH w B h) (hb : Below w.heap.size w w') : ZH w' B h := by
  obtain ⟨⟨k1, k2, k3⟩, ⟨k4, k5, k6⟩, k7⟩ := k
  obtain ⟨hc, hf⟩ := wcell hb
  exact ⟨⟨(hc _ _ k7).trans k1, (hc _ _ k7).trans k2, (hc _ _ k7).trans k3⟩, ⟨(hf _ _ k7).trans k4, (hf _ _ k7).trans k5, (hf _ _ k7).trans k6⟩, Nat.lt_of_lt_of_le k7 hb.size⟩
theorem two_parts {D X Y : ByteArray} (h : parts D 46 = [X, Y]) : X.size ≤ D.size ∧ Y.size ≤ D.size := by
  have := parts_join D 46
  rw [show parts D (46 : UInt8).toNat = [X, Y] from h, List.map_cons, List.map_cons, List.map_nil, join_two _ _ _ (by simp), join_one] at this
  have := congrArg List.length this
  simp [bl_len] at this
  omega
theorem parts_two {D : ByteArray} (h : (parts D 46).length = 2) : ∃ X Y, parts D 46 = [X, Y] := by
  match hp : parts D 46, h with
  | [X, Y], _ => exact ⟨X, Y, rfl⟩
theorem eqWord_sameP (a b : Int) (h : Bool) (w : World) :
    Calls Tryd.prog 39 #[.agg #[.int .i64 a, .int .i64 b, .bool h], .agg #[.int .i64 a, .int .i64 b, .bool h]] w fun o w' => o = .returned (.bool true) ∧ Below w.heap.size w w' := by
  cases h
  all_goals
    go_enter Tryd.func39, Tryd.ntmps39
    go_wp2
    go_ret
    exact ⟨rfl, ((Below.refl w.heap.size w).alloc (Nat.le_refl _) _).alloc (by simp) _⟩

/-- a text is the text of one word only -/
theorem wordIs_one {s : ByteArray} {a q a' q' : Int} {h h' : Bool} (h1 : wordIs s a q h) (h2 : wordIs s a' q' h') : a = a' ∧ q = q' ∧ h = h' := by
  obtain ⟨o1, e1, c1⟩ := (wordIs_iff s a q h).1 h1
  obtain ⟨o2, e2, c2⟩ := (wordIs_iff s a' q' h').1 h2
  have := (core_cut c1).symm.trans (core_cut c2)
  simp at this
  exact ⟨itoa_inj this.1, itoa_inj this.2, e1.trans e2.symm⟩

end Go.Proofs.YtilgfcbjonalaaaDoor
