/- FnProgs: the text of a program and back. -/
import Derived.Test.YtilgfcbjonalaaaDoorProT
import Derived.Test.YtilgfcbjonalaaaDoorLinesI
namespace Go.Proofs.YtilgfcbjonalaaaDoor
open Go.RowKit

/-- the acts of a slice, in order -/
def lst (m : Nat) (f : Nat → Int) : Acts3 := (List.range m).map fun i => (f (i * 3), f (i * 3 + 1), f (i * 3 + 2))
theorem lst_len (m : Nat) (f : Nat → Int) : (lst m f).length = m := by simp [lst]
theorem lst_at {m i : Nat} (f : Nat → Int) (h : i < m) : (lst m f)[i]? = some (f (i * 3), f (i * 3 + 1), f (i * 3 + 2)) := by simp [lst, h]
theorem lst_get {m : Nat} (f : Nat → Int) {j : Nat} (h : j < m * 3) : fOf (lst m f) j = f j := by
  obtain ⟨h0, h1, h2⟩ := fOf_at (lst_at (m := m) (i := j / 3) f (by omega))
  have : j = j / 3 * 3 ∨ j = j / 3 * 3 + 1 ∨ j = j / 3 * 3 + 2 := by omega
  rcases this with e | e | e
  · rw [← e] at h0; exact h0
  · rw [← e] at h1; exact h1
  · rw [← e] at h2; exact h2
theorem progText_lst (m : Nat) (f : Nat → Int) : progText m f = Lib.join ((lst m f).map txt) [59, 32] := by
  unfold progText textsOf lst
  rw [List.map_map]
  rfl
theorem lst_ok {m : Nat} {f : Nat → Int} (h : progOk m f = true) : okAll (lst m f) := by
  have h6 := prog_len6 h
  refine ⟨by rw [lst_len]; exact h6, fun a ha => ?_⟩
  obtain ⟨i, hi, rfl⟩ := List.mem_map.1 ha
  simp only [progOk, Bool.and_eq_true, List.all_eq_true] at h
  exact h.2 i hi
/-- the text of a program is that of its acts -/
theorem lst_is {m : Nat} {f : Nat → Int} (h : progOk m f = true) : progIs ⟨(outText m f).toArray⟩ (lst m f) :=
  ⟨lst_ok h, by rw [outText_yes h, ← progText_lst]; simp [bl]⟩
theorem outText_size {m : Nat} {f : Nat → Int} (h : progOk m f = true) : (⟨(outText m f).toArray⟩ : ByteArray).size ≤ 1048576 := by
  have h6 := prog_len6 h
  have hl := progText_len f m
  rw [outText_yes h]
  show (progText m f).toArray.size ≤ _
  rw [List.size_toArray]
  omega
theorem rowP_own {w : World} {lo n : Nat} {v : Value} {az : Acts3} (hl : az.length = n) (h : w.ownsRow lo 40 3 v n ((vals az).map (.int .i64))) :
    ∃ A cap, v = .slice A n cap ∧ IntsAt w w.heap.size A (n * 3) (fOf az) := by
  rcases Nat.eq_zero_or_pos n with hn | hn
  · subst hn
    rcases h.2 with ⟨e, _⟩ | ⟨g, cap, cur, e, _⟩
    · exact ⟨_, _, e, fun h => by omega⟩
    · exact ⟨_, _, e, fun h => by omega⟩
  · obtain ⟨g, cap, rfl, hlo, hg⟩ := h.form hn
    refine ⟨_, _, rfl, fun _ => ⟨g, 0, rfl, hg, fun j hj => ?_⟩⟩
    have := h.cellAt j hj
    rw [Nat.zero_add, this, List.getElem?_map]
    have hj' : j < (vals az).length := by rw [vals_len, hl]; exact hj
    rw [List.getElem?_eq_getElem hj']
    unfold fOf
    rw [List.getD_eq_getElem?_getD, List.getElem?_eq_getElem hj']
    rfl
/-- ParseProg of a program's text -/
theorem LinesOut.back {m : Nat} {f : Nat → Int} (hp : progOk m f = true) {w w' : World} {e : Ending} (h : LinesOut ⟨(outText m f).toArray⟩ w e w') :
    ∃ A c, e = .returned (.tuple #[.slice A m c, .bool true]) ∧ IntsAt w' w'.heap.size A (m * 3) f ∧ Below w.heap.size w w' := by
  obtain ⟨h | h, hb⟩ := h
  · obtain ⟨az, v, hi, rfl, hr⟩ := h
    obtain rfl : az = lst m f := progIs_one hi (lst_is hp)
    rw [lst_len] at hr
    obtain ⟨A, c, rfl, ho⟩ := rowP_own (lst_len m f) hr
    exact ⟨A, c, rfl, ho.congr fun j hj => lst_get f hj, hb⟩
  · exact absurd (lst_is hp) (h.1 _)

end Go.Proofs.YtilgfcbjonalaaaDoor
