/- Histories: SameLog of the program and of the model. -/
import Derived.Test.YtmphiomalhjciaaHe5
import Derived.Test.YtmphiomalhjciaaCi
namespace Go.Proofs.Ytmphiomalhjciaa
open Go.RowKit

theorem sameB_iff {d x : DCommit} : sameB d x = true ↔ d = x := by
  obtain ⟨d1, d2, d3, d4, d5, d6⟩ := d
  obtain ⟨x1, x2, x3, x4, x5, x6⟩ := x
  simp [sameB]
def sameLog (a b : List DCommit) : Bool := decide (a.length = b.length) && (List.range a.length).all fun j => (a[j]?).any fun x => (b[j]?).any fun y => sameB x y
theorem sameLog_len {a b : List DCommit} (h : ¬ a.length = b.length) : sameLog a b = false := by simp [sameLog, h]
theorem sameLog_yes {a b : List DCommit} (hl : a.length = b.length) (h : ∀ j x y, j < a.length → a[j]? = some x → b[j]? = some y → sameB x y = true) : sameLog a b = true := by
  unfold sameLog
  rw [decide_eq_true hl, Bool.true_and]
  refine rg_true fun j hj => ?_
  have h1 : a[j]? = some a[j] := List.getElem?_eq_getElem hj
  have h2 : b[j]? = some b[j] := List.getElem?_eq_getElem (by omega)
  rw [h1, h2]
  simpa using h j _ _ hj h1 h2
theorem sameLog_no {a b : List DCommit} {k : Nat} {x y : DCommit} (h1 : a[k]? = some x) (h2 : b[k]? = some y) (h : sameB x y = false) : sameLog a b = false := by
  unfold sameLog
  rw [rg_false (get_lt h1) (by rw [h1, h2]; simpa using h), Bool.and_false]
theorem cm_hat {w wr : World} {B b off k : Nat} {l : List DCommit} {d : DCommit} (r : RAt fCommit w B (some ⟨b, off, none⟩) l) (hb : Below w.heap.size w wr) (hB : B ≤ w.heap.size) (h : l[k]? = some d) :
    ∃ A4 c4 A5 c5, (wr.cell? ⟨b, off + k * 6, none⟩ = some (.int .i64 d.1) ∧ wr.cell? ⟨b, off + k * 6 + 1, none⟩ = some (.int .i64 d.2.1) ∧ wr.cell? ⟨b, off + k * 6 + 2, none⟩ = some (.int .i64 d.2.2.1) ∧ wr.cell? ⟨b, off + k * 6 + 3, none⟩ = some (.int .i64 d.2.2.2.1)
      ∧ wr.cell? ⟨b, off + k * 6 + 4, none⟩ = some (.slice A4 (d.2.2.2.2.1).length c4) ∧ wr.cell? ⟨b, off + k * 6 + 5, none⟩ = some (.slice A5 (d.2.2.2.2.2).length c5)) ∧ fCommit.At wr B d [.int .i64 d.1, .int .i64 d.2.1, .int .i64 d.2.2.1, .int .i64 d.2.2.2.1, .slice A4 (d.2.2.2.2.1).length c4, .slice A5 (d.2.2.2.2.2).length c5] := by
  obtain ⟨A4, c4, A5, c5, a0, a1, a2, a3, a4, a5, r4, r5⟩ := cm_at r hb hB h
  exact ⟨A4, c4, A5, c5, ⟨a0, a1, a2, a3, a4, a5⟩, mk_Commit r4 r5⟩

set_option maxHeartbeats 3200000 in
set_option maxRecDepth 100000 in
theorem equalFunc_any (A A' : Option Addr) (c c' B B' : Nat) (l l' : List DCommit) (w : World) (hB : B ≤ w.heap.size) (hB' : B' ≤ w.heap.size) (r : RAt fCommit w B A l) (r' : RAt fCommit w B' A' l') :
    Calls Try.prog 92 #[.slice A l.length c, .slice A' l'.length c', .func (.func 93) #[] #[]] w fun e w' => e = .returned (.bool (sameLog l l')) ∧ Below w.heap.size w w' := by
  have hmx := r.1
  have hmx' := r'.1
  unfold maxLen at hmx hmx'
  by_cases hl : l.length = l'.length
  · have HL := Lib.hid hl
    go_enter Try.func92, Try.ntmps92
    rw [hl]
    go_wp2
    go_loopw [17] (fun i wr => ∃ k : Nat, k ≤ l'.length ∧ i = .int .i64 k ∧ Below w.heap.size w wr ∧ Hid (∀ j x y, j < k → l[j]? = some x → l'[j]? = some y → sameB x y = true)) (fun i _ => l'.length - (intOf i).toNat)
    case atStart => exact ⟨0, Nat.zero_le _, rfl, Below.refl _ _, Lib.hid (fun j x y hj => absurd hj (by omega))⟩
    case round =>
      obtain ⟨k, hk, rfl, hb, HA⟩ := hrel
      by_cases hkn : k < l'.length
      · obtain ⟨b, off, rfl, hbB⟩ := row_addr r (by omega)
        obtain ⟨b', off', rfl, hbB'⟩ := row_addr r' (by omega)
        have hkz : (k : Int) < l'.length := by omega
        have hget : l[k]? = some l[k] := List.getElem?_eq_getElem (by omega)
        have hget' : l'[k]? = some l'[k] := List.getElem?_eq_getElem hkn
        have hlz : (l.length : Int) = l'.length := by omega
        generalize l[k] = d at hget
        generalize l'[k] = x at hget'
        obtain ⟨A4, c4, A5, c5, ⟨a0, a1, a2, a3, a4, a5⟩, hat⟩ := cm_hat r hb hB hget
        obtain ⟨A4x, c4x, A5x, c5x, ⟨b0, b1, b2, b3, b4, b5⟩, hat'⟩ := cm_hat r' hb hB' hget'
        have HG := Lib.hid hget
        have HG' := Lib.hid hget'
        have hsz := hb.size
        have hbx := hb.alloc hsz (.cells #[.int .i64 d.1, .int .i64 d.2.1, .int .i64 d.2.2.1, .int .i64 d.2.2.2.1, .slice A4 (d.2.2.2.2.1).length c4, .slice A5 (d.2.2.2.2.2).length c5] 95)
        have hbb := hbx.alloc hbx.size (.cells #[.int .i64 x.1, .int .i64 x.2.1, .int .i64 x.2.2.1, .int .i64 x.2.2.2.1, .slice A4x (x.2.2.2.2.1).length c4x, .slice A5x (x.2.2.2.2.2).length c5x] 95)
        have hin := ((Below.refl wr.heap.size wr).alloc (Nat.le_refl _) (.cells #[.int .i64 d.1, .int .i64 d.2.1, .int .i64 d.2.2.1, .int .i64 d.2.2.2.1, .slice A4 (d.2.2.2.2.1).length c4, .slice A5 (d.2.2.2.2.2).length c5] 95)).alloc (by simp) (.cells #[.int .i64 x.1, .int .i64 x.2.1, .int .i64 x.2.2.1, .int .i64 x.2.2.2.1, .slice A4x (x.2.2.2.2.1).length c4x, .slice A5x (x.2.2.2.2.2).length c5x] 95)
        have hin1 := (Below.refl wr.heap.size wr).alloc (Nat.le_refl _) (.cells #[.int .i64 d.1, .int .i64 d.2.1, .int .i64 d.2.2.1, .int .i64 d.2.2.2.1, .slice A4 (d.2.2.2.2.1).length c4, .slice A5 (d.2.2.2.2.2).length c5] 95)
        have e0 := (hin1.cell (p := ⟨b', off' + k * 6, none⟩) (by show b' < _; omega)).trans b0
        have e1 := (hin1.cell (p := ⟨b', off' + k * 6 + 1, none⟩) (by show b' < _; omega)).trans b1
        have e2 := (hin1.cell (p := ⟨b', off' + k * 6 + 2, none⟩) (by show b' < _; omega)).trans b2
        have e3 := (hin1.cell (p := ⟨b', off' + k * 6 + 3, none⟩) (by show b' < _; omega)).trans b3
        have e4 := (hin1.cell (p := ⟨b', off' + k * 6 + 4, none⟩) (by show b' < _; omega)).trans b4
        have e5 := (hin1.cell (p := ⟨b', off' + k * 6 + 5, none⟩) (by show b' < _; omega)).trans b5
        have HAT := Lib.hid (fCommit.at_same hat (.of hin (by omega)))
        have HAT' := Lib.hid (fCommit.at_same hat' (.of hin (by omega)))
        have hs2 := hbb.size
        clear hget hget' hl hat hat' hin hin1 hbx
        go_wp2_with fail
        refine (sameCommit_any d x B B' _ _ _ (Nat.le_trans hB hs2) (Nat.le_trans hB' hs2) HAT.out HAT'.out).mono ?_; rintro o w3 ⟨rfl, hb3⟩
        have hb4 := hbb.trans (hb3.mono hs2)
        clear hbb hb3 hs2 a0 a1 a2 a3 a4 a5 b0 b1 b2 b3 b4 b5 e0 e1 e2 e3 e4 e5 HAT HAT'
        cases hsm : sameB d x with
        | true =>
          have HA := Lib.hid (show ∀ j u v, j < k + 1 → l[j]? = some u → l'[j]? = some v → sameB u v = true from fun j u v hj hu hv => by
            by_cases e : j = k
            · subst e
              rw [HG.out] at hu
              rw [HG'.out] at hv
              cases hu
              cases hv
              exact hsm
            · exact HA.out j u v (by omega) hu hv)
          go_wp2
          exact ⟨⟨k + 1, by omega, by go_num, hb4, HA⟩, by simp [intOf]; omega⟩
        | false =>
          have HF := Lib.hid (sameLog_no HG.out HG'.out hsm)
          go_wp2
          go_ret
          exact ⟨ret_bool HF.out.symm, hb4⟩
      · obtain rfl : k = l'.length := by omega
        have HT := Lib.hid (sameLog_yes HL.out (fun j x y hj => HA.out j x y (by have := HL.out; omega)))
        clear hl
        go_wp2
        go_ret
        exact ⟨ret_bool HT.out.symm, hb⟩
  · have HF := Lib.hid (sameLog_len hl)
    have hlz : ¬ (l.length : Int) = l'.length := by omega
    clear hl
    go_enter Try.func92, Try.ntmps92
    go_wp2
    go_ret
    exact ⟨ret_bool HF.out.symm, Below.refl _ _⟩
set_option maxRecDepth 100000 in
theorem implSameLog_any (A A' : Option Addr) (c c' B B' : Nat) (l l' : List DCommit) (w : World) (hB : B ≤ w.heap.size) (hB' : B' ≤ w.heap.size) (r : RAt fCommit w B A l) (r' : RAt fCommit w B' A' l') :
    Calls Try.prog 45 #[.slice A l.length c, .slice A' l'.length c'] w fun e w' => e = .returned (.bool (sameLog l l')) ∧ Below w.heap.size w w' := by
  go_enter Try.func45, Try.ntmps45
  go_wp2_with fail
  refine (equalFunc_any A A' c c' B B' l l' w hB hB' r r').mono ?_; rintro o w3 ⟨rfl, hb3⟩
  go_wp2
  go_ret
  exact ⟨rfl, hb3⟩

end Go.Proofs.Ytmphiomalhjciaa
