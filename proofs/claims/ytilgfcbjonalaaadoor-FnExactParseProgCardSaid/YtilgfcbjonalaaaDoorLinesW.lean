/- ParseProg: the law. -/
import Derived.Test.YtilgfcbjonalaaaDoorLinesM
import Derived.Test.YtilgfcbjonalaaaDoorLinesI
import Derived.Test.YtilgfcbjonalaaaDoorInts
namespace Go.Proofs.YtilgfcbjonalaaaDoor
open Go.RowKit

theorem heldActS_any (A : Option Addr) (n cap B : Nat) (k0 : Nat) (w : World) (hn : n ≤ 1048576) (hk0 : k0 ≤ 1048576) (h : IntsAt w B A (n * 3) (fun j => (k0 : Int) + j)) :
    Calls Tryd.prog 36 #[.slice A n cap, .int .i64 k0] w fun e w' => e = .returned (.int .i64 (k0 + n * 3)) ∧ w = w' := by
  go_enter Tryd.func36, Tryd.ntmps36
  go_wp2
  go_loop [1, 5] (fun s i => ∃ k : Nat, k ≤ n ∧ i = .int .i64 k ∧ s = .int .i64 (k0 + k * 3)) (fun _ i => n - (intOf i).toNat)
  case atStart => exact ⟨0, Nat.zero_le _, rfl, by simp⟩
  case round =>
    obtain ⟨k, hk, rfl, rfl⟩ := hrel
    by_cases hkn : k < n
    · obtain ⟨b, off, rfl, _, hc⟩ := h (by omega)
      have hkz : (k : Int) < n := by omega
      have d0 : w.cell? ⟨b, off + k * 3, none⟩ = some (.int .i64 (k0 + k * 3)) := by have := hc (k * 3) (by omega); rw [this]; push_cast; rfl
      have d1 : w.cell? ⟨b, off + k * 3 + 1, none⟩ = some (.int .i64 (k0 + k * 3 + 1)) := by have := hc (k * 3 + 1) (by omega); rw [← Nat.add_assoc] at this; rw [this]; push_cast; simp only [Int.add_assoc]
      have d2 : w.cell? ⟨b, off + k * 3 + 2, none⟩ = some (.int .i64 (k0 + k * 3 + 1 + 1)) := by have := hc (k * 3 + 2) (by omega); rw [← Nat.add_assoc] at this; rw [this]; push_cast; simp only [Int.add_assoc]
      clear hc h
      go_wp2
      exact ⟨⟨k + 1, by omega, by go_num, by simp; omega⟩, by simp [intOf]; omega⟩
    · obtain rfl : k = n := by omega
      go_wp2
      go_ret
      exact ⟨rfl, rfl⟩

open Classical in
noncomputable def nS (s : ByteArray) : Nat := if h : ∃ az, progIs s az then (Classical.choose h).length else 0
open Classical in
noncomputable def fS (s : ByteArray) : Nat → Int := if h : ∃ az, progIs s az then fOf (Classical.choose h) else fun _ => 0
open Classical in
noncomputable def kS (s : ByteArray) : Bool := if _h : ∃ az, progIs s az then true else false
theorem nS_le (s : ByteArray) : nS s ≤ 6 := by
  unfold nS
  split
  · rename_i h; exact (Classical.choose_spec h).1.1.2
  · omega
theorem row_own {w : World} {lo n : Nat} {v : Value} {az : Acts3} (hl : az.length = n) (h : w.ownsRow lo 40 3 v n ((vals az).map (.int .i64))) :
    ∃ A cap, v = .slice A n cap ∧ OwnI w lo w.heap.size A (n * 3) (fOf az) := by
  rcases Nat.eq_zero_or_pos n with hn | hn
  · subst hn
    rcases h.2 with ⟨e, _⟩ | ⟨g, cap, cur, e, _⟩
    · exact ⟨_, _, e, fun h => by omega⟩
    · exact ⟨_, _, e, fun h => by omega⟩
  · obtain ⟨g, cap, rfl, hlo, hg⟩ := h.form hn
    refine ⟨_, _, rfl, fun _ => ⟨g, 0, rfl, hlo, hg, fun j hj => ⟨?_, ?_⟩⟩⟩
    · have := h.cellAt j hj
      rw [Nat.zero_add, this, List.getElem?_map]
      have hj' : j < (vals az).length := by rw [vals_len, hl]; exact hj
      rw [List.getElem?_eq_getElem hj']
      unfold fOf
      rw [List.getD_eq_getElem?_getD, List.getElem?_eq_getElem hj']
      rfl
    · rw [Nat.zero_add]; exact h.frozenAt j
theorem LinesOut.row {s : ByteArray} {w w' : World} {e : Ending} (h : LinesOut s w e w') : ∃ A c, e = .returned (.tuple #[.slice A (nS s) c, .bool (kS s)]) ∧ OwnI w' w.heap.size w'.heap.size A (nS s * 3) (fS s) ∧ Below w.heap.size w w' := by
  obtain ⟨h | h, hb⟩ := h
  · obtain ⟨az, v, hp, rfl, hr⟩ := h
    have hex : ∃ az, progIs s az := ⟨az, hp⟩
    have e : Classical.choose hex = az := progIs_one (Classical.choose_spec hex) hp
    have e1 : nS s = az.length := by unfold nS; rw [dif_pos hex, e]
    have e2 : fS s = fOf az := by unfold fS; rw [dif_pos hex, e]
    have e3 : kS s = true := by unfold kS; rw [dif_pos hex]
    obtain ⟨A, c, rfl, ho⟩ := row_own rfl hr
    exact ⟨A, c, by rw [e1, e3], by rw [e1, e2]; exact ho, hb⟩
  · obtain ⟨hn, rfl⟩ := h
    have hex : ¬ ∃ az, progIs s az := fun ⟨az, h⟩ => hn az h
    have e1 : nS s = 0 := by unfold nS; rw [dif_neg hex]
    have e3 : kS s = false := by unfold kS; rw [dif_neg hex]
    exact ⟨none, 0, by rw [e1, e3], by rw [e1]; exact fun h => by omega, hb⟩

set_option maxHeartbeats 3200000 in
set_option maxRecDepth 100000 in
theorem exactParseProg_walk (s : ByteArray) (w : World) (ht : Tab w) :
    Calls Tryd.prog 6 #[.string s] w fun e w' => e = .returned (.bool true) ∧ Below w.heap.size w w' := by
  have HT := Lib.hid ht
  clear ht
  by_cases hs : 1048576 < s.size
  · go_enter Tryd.func6, Tryd.ntmps6
    go_wp2
    go_ret
    exact ⟨rfl, Below.refl _ _⟩
  · have hn6 := nS_le s
    go_enter Tryd.func6, Tryd.ntmps6
    go_wp2_with fail
    refine (specParseProg_any s (by omega) _).mono ?_; rintro e w1 ho
    obtain ⟨A0, c0, rfl, o0, b1⟩ := ho.row
    clear ho
    have hz1 := b1.size
    go_wp2_with fail
    refine (implParseProg_any s (by omega) _ (HT.out.below b1)).mono ?_; rintro e w2 ho
    obtain ⟨A1, c1, rfl, o1, hb2⟩ := ho.row
    clear ho
    have b2 := b1.trans (hb2.mono hz1)
    have o0 := o0.below hb2 (Nat.le_refl _)
    have hz2 := hb2.size
    generalize hK : kS s = K
    go_wp2_with fail
    refine (eqActS_same _ _ _ _ _ (fS s) _ (by omega) ((o1.more (Nat.le_refl _) (Nat.le_refl _)).at_) ((o0.more (Nat.le_refl _) hz2).at_)).mono ?_; rintro e w3 ⟨rfl, hb3⟩
    have b3 := b2.trans (hb3.mono b2.size)
    have hz3 := hb3.size
    have o0 := o0.below hb3 hz2
    have o1 := o1.below hb3 (Nat.le_refl _)
    cases K
    all_goals
      go_wp2_with fail
      refine (markActS_any _ _ _ _ _ (fS s) 1 _ (by omega) (by omega) o1).mono ?_; rintro e w4 ⟨rfl, h4, o1'⟩
      have b4 := b3.trans (h4.below hz1)
      have hz4 : w3.heap.size = w4.heap.size := h4.size.symm
      have o0' := o0.onlys h4 (.inl (Nat.le_refl _))
      go_wp2_with fail
      refine (heldActS_any _ _ _ _ 1 _ (by omega) (by omega) o1'.at_).mono ?_; rintro e w5 ⟨rfl, rfl⟩
      go_wp2_with fail
      refine (implParseProg_any s (by omega) _ (HT.out.below b4)).mono ?_; rintro e w5 ho
      obtain ⟨A2, c2, e2, o2, hb5⟩ := ho.row
      rw [hK] at e2
      subst e2
      clear ho
      have b5 := b4.trans (hb5.mono b4.size)
      have hz5 := hb5.size
      have o0'' := o0'.below hb5 (by omega)
      go_wp2_with fail
      refine (eqActS_same _ _ _ _ _ (fS s) _ (by omega) ((o2.more (Nat.le_refl _) (Nat.le_refl _)).at_) ((o0''.more (Nat.le_refl _) (by omega)).at_)).mono ?_; rintro e w6 ⟨rfl, hb6⟩
      have b6 := b5.trans (hb6.mono b5.size)
      go_wp2_with fail
      refine (heldActS_any _ _ _ _ 1 _ (by omega) (by omega) (o1'.below (hb5.trans (hb6.mono hz5)) (by omega)).at_).mono ?_; rintro e w7 ⟨rfl, rfl⟩
      go_wp2
      go_ret
      exact ⟨rfl, b6⟩
end Go.Proofs.YtilgfcbjonalaaaDoor
