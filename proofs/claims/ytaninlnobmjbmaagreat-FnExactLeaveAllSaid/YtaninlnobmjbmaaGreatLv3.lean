/- The program's without. -/
import Derived.Test.YtaninlnobmjbmaaGreatLv2
import Derived.Deep.RegionLawGrows
namespace Go.Proofs.YtaninlnobmjbmaaGreat
open Go.RowKit

theorem erase_eq (l : HL) (k : Nat) : l.eraseIdx k = l.take k ++ l.drop (k + 1) := List.eraseIdx_eq_take_drop_succ l k
theorem hcs_sub {w : World} {g off n : Nat} {l P S R : HL} (hl : l = P ++ (S ++ R)) (hc : ∀ j, j < l.length → w.cell? ⟨g, off + j * 2, none⟩ = some (.int .i64 (hT l j)) ∧ w.cell? ⟨g, off + j * 2 + 1, none⟩ = some (.bool (hW l j))) (hn : P.length = n) : ∀ j u, (hcs S)[j]? = some u → w.cell? ((⟨g, off + n * 2, none⟩ : Addr).add j) = some u := by
  intro j u hu
  have hj : j < S.length * 2 := by
    have := (List.getElem?_eq_some_iff.1 hu).1
    rw [hcs_length] at this; exact this
  have hlen : l.length = n + (S.length + R.length) := by rw [hl, List.length_append, List.length_append, hn]
  have hadd : (⟨g, off + n * 2, none⟩ : Addr).add j = ⟨g, off + n * 2 + j, none⟩ := by
    by_cases e : j = 0
    · subst e; simp [Addr.add]
    · simp [Addr.add, e]
  rw [hadd]
  have hget : (hcs l)[n * 2 + j]? = some u := by
    rw [hl, hcs_append, hcs_append, List.getElem?_append_right (by rw [hcs_length, hn]; omega), hcs_length, hn, Nat.add_sub_cancel_left, List.getElem?_append_left (by rw [hcs_length]; exact hj)]
    exact hu
  have hh := hc (n + j / 2) (by omega)
  have hx := hcs_get (l := l) (k := n + j / 2) (by omega)
  have h3 : j % 2 = 0 ∨ j % 2 = 1 := by omega
  rcases h3 with h3 | h3
  · have e1 : n * 2 + j = (n + j / 2) * 2 := by omega
    have e2 : off + n * 2 + j = off + (n + j / 2) * 2 := by omega
    rw [e1, hx.1] at hget
    rw [e2, hh.1, ← Option.some.inj hget]
  · have e1 : n * 2 + j = (n + j / 2) * 2 + 1 := by omega
    have e2 : off + n * 2 + j = off + (n + j / 2) * 2 + 1 := by omega
    rw [e1, hx.2] at hget
    rw [e2, hh.2, ← Option.some.inj hget]
set_option maxHeartbeats 3200000 in
set_option maxRecDepth 100000 in
theorem without_any (A : Option Addr) (B : Nat) (l : HL) (k : Nat) (w : World) (hn : l.length ≤ 1048576) (hk : k < l.length) (h : HAt w B A l) :
    Calls Tryz.prog 105 #[.slice A l.length l.length, .int .i64 k] w fun e w' => ∃ A' c', e = .returned (.slice A' (l.eraseIdx k).length c') ∧ HAt w' w'.heap.size A' (l.eraseIdx k) ∧ Below w.heap.size w w' := by
  have h := h.lt
  obtain ⟨i0, hi, hz0, hz1, hz2⟩ := info_parts infoHold
  have Hi := Lib.hid hi
  have Hz0 := Lib.hid hz0
  have Hz1 := Lib.hid hz1
  have Hz2 := Lib.hid hz2
  clear hi hz0 hz1 hz2
  obtain ⟨g, off, rfl, hB, hcc⟩ := h (by omega)
  have hkz : (k : Int) < l.length := by omega
  have hkn : k ≤ l.length := by omega
  have hle : (k : Int) ≤ (k : Int) + 1 := by omega
  have hwr : IntKind.i64.wrap ((k : Int) + 1) = (k : Int) + 1 := IntWalk.i64_in _ (by omega)
  have h01 : (0 : Int) ≤ (k : Int) + 1 := by omega
  have h1l : (k : Int) + 1 ≤ l.length := by omega
  by_cases hm : k + 1 < l.length
  · have hmz : ((k : Int) + 1) < l.length := by omega
    have hnl : ¬ l.length = k + 1 := by omega
    have dr := (Below.refl w.heap.size w).drew
    have hcc : ∀ j, j < l.length → w.drew.cell? ⟨g, off + j * 2, none⟩ = some (.int .i64 (hT l j)) ∧ w.drew.cell? ⟨g, off + j * 2 + 1, none⟩ = some (.bool (hW l j)) := fun j hj => ⟨(dr.cell (p := ⟨g, off + j * 2, none⟩) hB).trans (hcc j hj).1, (dr.cell (p := ⟨g, off + j * 2 + 1, none⟩) hB).trans (hcc j hj).2⟩
    have LO : Hid ((hcs (l.take k)).length = k * 2) := Lib.hid (by rw [hcs_length, List.length_take]; omega)
    have LN : Hid ((hcs (l.drop (k + 1))).length = (l.length - (k + 1)) * 2) := Lib.hid (by rw [hcs_length, List.length_drop])
    have HO : Hid (∀ b, (some (⟨g, off, none⟩ : Addr)) = some b → ∀ j u, (hcs (l.take k))[j]? = some u → w.drew.cell? (b.add j) = some u) := Lib.hid (fun b hb => by
      obtain rfl := Option.some.inj hb
      exact hcs_sub (n := 0) (P := []) (S := l.take k) (R := l.drop k) (by simp) hcc rfl)
    have HN : Hid (∀ j u, (hcs (l.drop (k + 1)))[j]? = some u → w.drew.cell? ((⟨g, off + (k + 1) * 2, none⟩ : Addr).add j) = some u) := Lib.hid (hcs_sub (n := k + 1) (P := l.take (k + 1)) (S := l.drop (k + 1)) (R := []) (by simp) hcc (by rw [List.length_take]; omega))
    clear hcc
    go_enter Tryz.func105, Tryz.ntmps105
    go_wp2_with fail
    go_region_law (refine step_append_grows rfl _ _ 107 rfl 162 i0 (.agg #[.int .i64 0, .bool false]) 2 16 Tryz.underlying107 Hi.out Hz0.out Hz1.out Hz2.out rfl (by decide) (some ⟨g, off, none⟩) k k (hcs (l.take k)) (by simp [Act.eval, Act.put]) (fun h => by cases h) LO.out HO.out ⟨g, off + (k + 1) * 2, none⟩ (l.length - (k + 1)) (l.length - (k + 1)) (hcs (l.drop (k + 1))) (by simp [Act.eval, Act.put]) LN.out HN.out (hcs_one _) (by omega) (by unfold maxLen; omega) (by omega) ?_; intro v' w' hown hgrow)
    all_goals
      have hE : hcs (l.eraseIdx k) = hcs (l.take k) ++ hcs (l.drop (k + 1)) := by rw [erase_eq, hcs_append]
      rw [← hE] at hown
      obtain ⟨A', c', rfl, hN, ho⟩ := HOwn.of_owns hown
      have hB' : Below w.heap.size w w' := dr.grown hgrow (Nat.le_refl _) (fun q hq => by cases hq)
      have HA := Lib.hid ho.at_
      clear hown hgrow ho hE LO HO LN HN
      go_wp2
      go_ret
      exact ⟨A', c', rfl, HA.out, hB'⟩
  · have hl : l.length = k + 1 := by omega
    have dr := (Below.refl w.heap.size w).drew
    have HE : l.eraseIdx k = l.take k := by rw [erase_eq, List.drop_eq_nil_of_le (by omega), List.append_nil]
    have hlen : (l.take k).length = k := by rw [List.length_take]; omega
    have HA : Hid (HAt w.drew w.drew.heap.size (some ⟨g, off, none⟩) (l.take k)) := Lib.hid (fun _ => ⟨g, off, rfl, hB, fun j hj => by
      have hj' : j < k := by rw [hlen] at hj; exact hj
      rw [hT_take, hW_take, if_pos hj', if_pos hj']
      exact ⟨(dr.cell (p := ⟨g, off + j * 2, none⟩) hB).trans (hcc j (by omega)).1, (dr.cell (p := ⟨g, off + j * 2 + 1, none⟩) hB).trans (hcc j (by omega)).2⟩⟩)
    rw [hl, HE]
    have HL := Lib.hid hlen
    clear hlen HE hcc h
    go_enter Tryz.func105, Tryz.ntmps105
    go_wp2_with fail
    go_region_law (fail)
    all_goals
      go_wp2
      go_ret
      exact ⟨some ⟨g, off, none⟩, k, by rw [HL.out]; rfl, HA.out, dr⟩
end Go.Proofs.YtaninlnobmjbmaaGreat
