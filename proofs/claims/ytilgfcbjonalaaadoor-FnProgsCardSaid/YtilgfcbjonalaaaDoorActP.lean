/- An act's text by its pieces. -/
import Derived.Test.YtilgfcbjonalaaaDoorText
import Derived.Test.YtilgfcbjonalaaaDoorPiece
import Derived.Test.YtilgfcbjonalaaaDoorRead
namespace Go.Proofs.YtilgfcbjonalaaaDoor
open Go.RowKit

/-- the text of a valid act -/
def actIs (s : ByteArray) (k y n : Int) : Prop := actOk k y n = true ∧ bl s = actText k y n
/-- what ParseAct answers -/
def ActOut (s : ByteArray) (w : World) (e : Ending) (w' : World) : Prop :=
  ((∃ k y n, actIs s k y n ∧ e = .returned (.tuple #[.agg #[.int .i64 k, .int .i64 y, .int .i64 n], .bool true])) ∨
   ((∀ k y n, ¬ actIs s k y n) ∧ e = .returned (.tuple #[.agg #[.int .i64 0, .int .i64 0, .int .i64 0], .bool false]))) ∧ Below w.heap.size w w'

def verb (k : Int) : List UInt8 := if k = 0 then [103, 101, 116] else if k = 1 then [112, 117, 116] else [97, 100, 100]
def actPieces (k y n : Int) : List (List UInt8) := if k = 0 then [verb 0, Lib.itoa y] else [verb k, Lib.itoa y, Lib.itoa n]

theorem actText_join {k y n : Int} (h : actOk k y n = true) : actText k y n = Lib.join (actPieces k y n) [32] := by
  obtain ⟨hk, _, _⟩ := act_parts h
  rcases hk with rfl | rfl | rfl
  · rw [actText_get h]
    show _ = Lib.join [verb 0, Lib.itoa y] [32]
    rw [join_two _ _ _ (by simp), join_one]
    rfl
  · rw [actText_put h]
    show _ = Lib.join [verb 1, Lib.itoa y, Lib.itoa n] [32]
    rw [join_two _ _ _ (by simp), join_two _ _ _ (by simp), join_one]
    simp [verb]
  · rw [actText_add h]
    show _ = Lib.join [verb 2, Lib.itoa y, Lib.itoa n] [32]
    rw [join_two _ _ _ (by simp), join_two _ _ _ (by simp), join_one]
    simp [verb]
theorem verb_free (k : Int) : Free 32 (verb k) := by
  intro x hx
  unfold verb at hx
  split at hx
  · simp at hx; rcases hx with rfl | rfl | rfl <;> decide
  · split at hx <;> (simp at hx; rcases hx with rfl | rfl | rfl <;> decide)
theorem pieces_free (k y n : Int) : ∀ p ∈ actPieces k y n, Free 32 p := by
  intro p hp
  unfold actPieces at hp
  split at hp
  · simp at hp
    rcases hp with rfl | rfl
    · exact verb_free 0
    · exact itoa_free _ 32 (by decide) (by decide)
  · simp at hp
    rcases hp with rfl | rfl | rfl
    · exact verb_free k
    · exact itoa_free _ 32 (by decide) (by decide)
    · exact itoa_free _ 32 (by decide) (by decide)
theorem pieces_ne (k y n : Int) : actPieces k y n ≠ [] := by unfold actPieces; split <;> simp
theorem actIs_iff (s : ByteArray) (k y n : Int) : actIs s k y n ↔ (actOk k y n = true ∧ (parts s 32).map bl = actPieces k y n) := by
  unfold actIs
  constructor
  · rintro ⟨h0, h1⟩
    exact ⟨h0, parts_are (c := 32) (pieces_ne k y n) (pieces_free k y n) (by rw [h1, actText_join h0])⟩
  · rintro ⟨h0, h1⟩
    refine ⟨h0, ?_⟩
    have := parts_join s 32
    rw [show (parts s (32 : UInt8).toNat).map bl = actPieces k y n from h1] at this
    rw [← this, actText_join h0]

theorem verb_inj {k k' : Int} (h : k = 0 ∨ k = 1 ∨ k = 2) (h' : k' = 0 ∨ k' = 1 ∨ k' = 2) (e : verb k = verb k') : k = k' := by
  rcases h with rfl | rfl | rfl <;> rcases h' with rfl | rfl | rfl <;> first | rfl | exact absurd e (by decide)

/-- one way only -/
theorem pieces_inj {k y n k' y' n' : Int} (h : actOk k y n = true) (h' : actOk k' y' n' = true) (e : actPieces k y n = actPieces k' y' n') : k = k' ∧ y = y' ∧ n = n' := by
  obtain ⟨hk, _, _⟩ := act_parts h
  obtain ⟨hk', _, _⟩ := act_parts h'
  have hv : verb k = verb k' := by
    unfold actPieces at e
    rcases hk with rfl | rfl | rfl <;> rcases hk' with rfl | rfl | rfl <;> simp at e <;> first | rfl | exact e.1
  obtain rfl := verb_inj hk hk' hv
  by_cases h0 : k = 0
  · subst h0
    simp [actPieces] at e
    refine ⟨rfl, itoa_inj e, ?_⟩
    have a1 : n = 0 := by
      have := h
      rw [actOk_get y n (act_parts h).2.1.1 (act_parts h).2.1.2] at this
      simpa using this
    have a2 : n' = 0 := by
      have := h'
      rw [actOk_get y' n' (act_parts h').2.1.1 (act_parts h').2.1.2] at this
      simpa using this
    rw [a1, a2]
  · simp [actPieces, h0] at e
    exact ⟨rfl, itoa_inj e.1, itoa_inj e.2⟩
theorem actIs_one {s : ByteArray} {k y n k' y' n' : Int} (h : actIs s k y n) (h' : actIs s k' y' n') : k = k' ∧ y = y' ∧ n = n' := by
  obtain ⟨a, b⟩ := (actIs_iff s k y n).1 h
  obtain ⟨a', b'⟩ := (actIs_iff s k' y' n').1 h'
  exact pieces_inj a a' (b.symm.trans b')

/-- the pieces of an act's text, seen from the parts -/
theorem actIs_parts {s p0 : ByteArray} {R : List ByteArray} (hp : parts s 32 = p0 :: R) {k y n : Int} (h : actIs s k y n) :
    actOk k y n = true ∧ (k = 0 ∨ k = 1 ∨ k = 2) ∧ bl p0 = verb k ∧ R.map bl = (if k = 0 then [Lib.itoa y] else [Lib.itoa y, Lib.itoa n]) := by
  obtain ⟨h0, h1⟩ := (actIs_iff s k y n).1 h
  rw [hp, List.map_cons] at h1
  refine ⟨h0, (act_parts h0).1, ?_⟩
  unfold actPieces at h1
  split at h1
  · rename_i hk
    subst hk
    rw [if_pos rfl]
    exact ⟨(List.cons.inj h1).1, (List.cons.inj h1).2⟩
  · rename_i hk
    rw [if_neg hk]
    exact ⟨(List.cons.inj h1).1, (List.cons.inj h1).2⟩
/-- .. every piece behind the verb is a number -/
theorem actIs_nums {s p0 : ByteArray} {R : List ByteArray} (hp : parts s 32 = p0 :: R) {k y n : Int} (h : actIs s k y n) {j : Nat} {x : ByteArray} (hx : R[j]? = some x) : ∃ v, numIs x v := by
  obtain ⟨h0, _, _, h3⟩ := actIs_parts hp h
  obtain ⟨_, ⟨y0, y1⟩, n0, n1⟩ := act_parts h0
  have hm : (R.map bl)[j]? = some (bl x) := by rw [List.getElem?_map, hx]; rfl
  rw [h3] at hm
  split at hm
  · match j, hm with
    | 0, hm => exact ⟨y, (Option.some.inj hm).symm, by omega, by omega⟩
  · match j, hm with
    | 0, hm => exact ⟨y, (Option.some.inj hm).symm, by omega, by omega⟩
    | 1, hm => exact ⟨n, (Option.some.inj hm).symm, by omega, by omega⟩
end Go.Proofs.YtilgfcbjonalaaaDoor
