/- Contracts over slices of acts: toActS, szActS, eqAct, eqActS, spec.ProgOk, impl.ProgOk. -/
import Derived.Test.YtkpkjcmoldkmmaaGreatBase
import Derived.Test.YtkpkjcmoldkmmaaGreatLk2
import Derived.Deep.LoopGhost
import Derived.Deep.OwnRows
import Derived.Deep.RegionHeld3
import Derived.Deep.DeepCutAuto
import Derived.Deep.Light
import Derived.StillTailTactics
namespace Go.Proofs.YtkpkjcmoldkmmaaGreat
open Go.RowKit

theorem szActS_any (A : Option Addr) (n cap : Nat) (left : Int) (w : World) (hn : n ≤ maxLen) (h0 : 0 ≤ left) (h1 : left ≤ 1048576) :
    Calls Tryz.prog 163 #[.slice A n cap, .int .i64 left] w fun e w' => e = .returned (.int .i64 (szOf left n)) ∧ w = w' := by
  unfold maxLen at hn
  by_cases hl : left < n
  · have h2 : left - (n : Int) < 0 := by omega
    go_enter Tryz.func163, Tryz.ntmps163
    go_wp2
    go_ret
    exact ⟨by unfold szOf; rw [if_pos (by omega)]; rfl, rfl⟩
  · have h2 : ¬ left - (n : Int) < 0 := by omega
    go_enter Tryz.func163, Tryz.ntmps163
    go_wp2
    go_ret
    exact ⟨by unfold szOf; rw [if_neg (by omega)]; rfl, rfl⟩

theorem infoAct : (Tryz.prog.info? 174).map (fun i => (i.zero, i.size, i.bytes)) = some (some (.agg #[.int .i64 0, .int .i64 0, .int .i64 0]), 3, 24) := by kernel_rfl

theorem run_make_acts (n : Nat) (h : n ≤ 1048576) (w : World) :
    (Instr.makeSlice 111 (.int .i64 (n : Int)) (.int .i64 (n : Int))).run Tryz.prog w = .ok (.slice (some ⟨w.heap.size, 0, none⟩) n n) (w.alloc (.cells (madeCells #[.int .i64 0, .int .i64 0, .int .i64 0] (n * 3)) 174)) := by
  obtain ⟨i, hi, hzz⟩ := Option.map_eq_some_iff.1 infoAct
  simp only [Prod.mk.injEq] at hzz
  obtain ⟨hz, hs, hb⟩ := hzz
  have := run_make (P := Tryz.prog) w 111 174 i _ Tryz.underlying111 hi hz .i64 .i64 n n (by omega) (Int.le_refl _) (by rw [hb]; omega) (by omega)
  simpa [hs, Value.cells] using this

theorem made_acts (w : World) (n t : Nat) : (w.alloc (.cells (madeCells #[.int .i64 0, .int .i64 0, .int .i64 0] (n * 3)) t)).rowIs w.heap.size t (n * 3) (fun _ => .int .i64 0) :=
  ⟨_, Go.Deep.blk_alloc_new _ _, size_madeCells _ _, fun i hi => by
    have h3 : i % 3 = 0 ∨ i % 3 = 1 ∨ i % 3 = 2 := by omega
    simp only [madeCells, Array.getElem?_map, Array.getElem?_range, hi, if_true, Option.map_some]
    rcases h3 with h | h | h <;> simp [h]⟩

theorem row_set3 {w : World} {g t N k : Nat} {f : Nat → Int} (h : w.rowIs g t N (fun j => .int .i64 (if j < k * 3 then f j else 0))) :
    (((w.setCell ⟨g, k * 3, none⟩ (.int .i64 (f (k * 3)))).setCell ⟨g, k * 3 + 1, none⟩ (.int .i64 (f (k * 3 + 1)))).setCell ⟨g, k * 3 + 2, none⟩ (.int .i64 (f (k * 3 + 2)))).rowIs g t N (fun j => .int .i64 (if j < (k + 1) * 3 then f j else 0)) :=
  (((h.set _ _).set _ _).set _ _).congr fun j _ => by
    by_cases e2 : j = k * 3 + 2
    · subst e2; rw [if_pos rfl, if_pos (by omega)]
    rw [if_neg e2]
    by_cases e1 : j = k * 3 + 1
    · subst e1; rw [if_pos rfl, if_pos (by omega)]
    rw [if_neg e1]
    by_cases e0 : j = k * 3
    · subst e0; rw [if_pos rfl, if_pos (by omega)]
    rw [if_neg e0]
    by_cases hlt : j < k * 3
    · rw [if_pos hlt, if_pos (by omega)]
    · rw [if_neg hlt, if_neg (by omega)]

set_option maxHeartbeats 400000 in
theorem toActS_any (A : Option Addr) (n cap : Nat) (f : Nat → Int) (w : World) (hn : n ≤ 1048576) (hr : IntsAt w w.heap.size A (n * 3) f) :
    Calls Tryz.prog 167 #[.slice A n cap] w fun e w' => e = .returned (.slice (some ⟨w.heap.size, 0, none⟩) n n) ∧ Below w.heap.size w w' ∧ w'.rowIs w.heap.size 174 (n * 3) (fun j => .int .i64 (f j)) := by
  have hmk := run_make_acts n hn
  go_enter Tryz.func167, Tryz.ntmps167
  go_wp2
  clear hmk
  go_loopw [4] (fun i wr => ∃ k : Nat, k ≤ n ∧ i = .int .i64 k ∧ Below w.heap.size w wr ∧ wr.rowIs w.heap.size 174 (n * 3) (fun j => .int .i64 (if j < k * 3 then f j else 0))) (fun i _ => n - (intOf i).toNat)
  case atStart => exact ⟨0, Nat.zero_le _, rfl, (Below.refl _ _).alloc (Nat.le_refl _) _, (made_acts w n _).congr (fun j _ => by simp)⟩
  case round =>
    obtain ⟨k, hk, rfl, hb, hrow⟩ := hrel
    by_cases hkn : k < n
    · obtain ⟨b, off, rfl, hB, hc⟩ := hr (by omega)
      have c0 : wr.cell? ⟨b, off + k * 3, none⟩ = some (.int .i64 (f (k * 3))) := (hb.cell (p := ⟨b, off + k * 3, none⟩) hB).trans (hc _ (by omega))
      have c1 : wr.cell? ⟨b, off + k * 3 + 1, none⟩ = some (.int .i64 (f (k * 3 + 1))) := (hb.cell (p := ⟨b, off + k * 3 + 1, none⟩) hB).trans (hc (k * 3 + 1) (by omega))
      have c2 : wr.cell? ⟨b, off + k * 3 + 2, none⟩ = some (.int .i64 (f (k * 3 + 2))) := (hb.cell (p := ⟨b, off + k * 3 + 2, none⟩) hB).trans (hc (k * 3 + 2) (by omega))
      have hkz : (k : Int) < n := by omega
      clear hc hr
      go_wp2_with fail
      refine (toAct_any _ _ _ _).mono ?_; rintro e w1 ⟨rfl, hb1⟩
      have hrow1 := rowIs_below hrow hb1 hrow.lt
      have hg := hrow.lt
      have s0 : w1.cell? ⟨w.heap.size, k * 3, none⟩ = some (.int .i64 0) := by rw [hrow1.cell (by omega), if_neg (by omega)]
      have s1 : w1.cell? ⟨w.heap.size, k * 3 + 1, none⟩ = some (.int .i64 0) := by rw [hrow1.cell (by omega), if_neg (by omega)]
      have s2 : w1.cell? ⟨w.heap.size, k * 3 + 2, none⟩ = some (.int .i64 0) := by rw [hrow1.cell (by omega), if_neg (by omega)]
      have r0 : w1.frozen? ⟨w.heap.size, k * 3, none⟩ = false := hrow1.frozen _
      have r1 : w1.frozen? ⟨w.heap.size, k * 3 + 1, none⟩ = false := hrow1.frozen _
      have r2 : w1.frozen? ⟨w.heap.size, k * 3 + 2, none⟩ = false := hrow1.frozen _
      have Hrow1 := Lib.hid hrow1
      clear hrow hrow1
      go_wp2
      exact ⟨⟨k + 1, by omega, by go_num, (((hb.trans (hb1.mono (by omega))).setCell (Nat.le_refl _) _).setCell (Nat.le_refl _) _).setCell (Nat.le_refl _) _, row_set3 Hrow1.out⟩, by simp [intOf]; omega⟩
    · obtain rfl : k = n := by omega
      go_wp2
      go_ret
      exact ⟨rfl, hb, hrow.congr (fun j hj => by simp [hj])⟩

def eqA (a b c x y z : Int) : Bool := a == x && b == y && c == z

theorem eqAct_same (a b c : Int) (w : World) :
    Calls Tryz.prog 208 #[.agg #[.int .i64 a, .int .i64 b, .int .i64 c], .agg #[.int .i64 a, .int .i64 b, .int .i64 c]] w fun e w' => e = .returned (.bool true) ∧ Below w.heap.size w w' := by
  go_enter Tryz.func208, Tryz.ntmps208
  go_wp2
  go_ret
  exact ⟨rfl, ((Below.refl _ _).alloc (Nat.le_refl _) _).alloc (by simp) _⟩

set_option maxRecDepth 100000 in
/-- two slices that read as the same acts -/
theorem eqActS_same (A1 A2 : Option Addr) (n c1 c2 : Nat) (f : Nat → Int) (w : World) (hn : n ≤ 1048576) (h1 : IntsAt w w.heap.size A1 (n * 3) f) (h2 : IntsAt w w.heap.size A2 (n * 3) f) :
    Calls Tryz.prog 178 #[.slice A1 n c1, .slice A2 n c2] w fun e w' => e = .returned (.bool true) ∧ Below w.heap.size w w' := by
  go_enter Tryz.func178, Tryz.ntmps178
  go_wp2
  go_loopw [5] (fun i wr => ∃ k : Nat, k ≤ n ∧ i = .int .i64 k ∧ Below w.heap.size w wr) (fun i _ => n - (intOf i).toNat)
  case atStart => exact ⟨0, Nat.zero_le _, rfl, Below.refl _ _⟩
  case round =>
    obtain ⟨k, hk, rfl, hb⟩ := hrel
    by_cases hkn : k < n
    · obtain ⟨b, off, rfl, hB, hc⟩ := h1 (by omega)
      obtain ⟨b', off', rfl, hB', hc'⟩ := h2 (by omega)
      have hkz : (k : Int) < n := by omega
      have d0 : wr.cell? ⟨b, off + k * 3, none⟩ = some (.int .i64 (f (k * 3))) := (hb.cell (p := ⟨b, off + k * 3, none⟩) hB).trans (hc _ (by omega))
      have d1 : wr.cell? ⟨b, off + k * 3 + 1, none⟩ = some (.int .i64 (f (k * 3 + 1))) := (hb.cell (p := ⟨b, off + k * 3 + 1, none⟩) hB).trans (hc (k * 3 + 1) (by omega))
      have d2 : wr.cell? ⟨b, off + k * 3 + 2, none⟩ = some (.int .i64 (f (k * 3 + 2))) := (hb.cell (p := ⟨b, off + k * 3 + 2, none⟩) hB).trans (hc (k * 3 + 2) (by omega))
      have d0' : wr.cell? ⟨b', off' + k * 3, none⟩ = some (.int .i64 (f (k * 3))) := (hb.cell (p := ⟨b', off' + k * 3, none⟩) hB').trans (hc' _ (by omega))
      have d1' : wr.cell? ⟨b', off' + k * 3 + 1, none⟩ = some (.int .i64 (f (k * 3 + 1))) := (hb.cell (p := ⟨b', off' + k * 3 + 1, none⟩) hB').trans (hc' (k * 3 + 1) (by omega))
      have d2' : wr.cell? ⟨b', off' + k * 3 + 2, none⟩ = some (.int .i64 (f (k * 3 + 2))) := (hb.cell (p := ⟨b', off' + k * 3 + 2, none⟩) hB').trans (hc' (k * 3 + 2) (by omega))
      clear hc hc' h1 h2
      go_wp2_with fail
      go_still_tail 8, (by kernel_rfl)
      change wpList _ _ _ _ _ wr.drew
      have hb2 := hb.drew
      clear d0 d1 d2 d0' d1' d2'
      generalize wr.drew = w2 at hb2 ⊢
      go_wp2_with fail
      refine (eqAct_same _ _ _ _).mono ?_; rintro e w3 ⟨rfl, hb3⟩
      go_wp2
      exact ⟨⟨k + 1, by omega, by go_num, hb2.trans (hb3.mono hb2.size)⟩, by simp [intOf]; omega⟩
    · obtain rfl : k = n := by omega
      go_wp2
      go_ret
      exact ⟨rfl, hb⟩

/-- a program: 1 to 6 valid acts -/
def progOk (n : Nat) (f : Nat → Int) : Bool := inB n 1 6 && (List.range n).all fun i => actOk (f (i * 3)) (f (i * 3 + 1)) (f (i * 3 + 2))

theorem progOk_true {n : Nat} {f : Nat → Int} (h1 : 1 ≤ n) (h6 : n ≤ 6) (h : ∀ i, i < n → actOk (f (i * 3)) (f (i * 3 + 1)) (f (i * 3 + 2)) = true) : progOk n f = true := by
  have : inB n 1 6 = true := by simp [inB]; omega
  simp only [progOk, this, Bool.true_and, List.all_eq_true, List.mem_range]
  exact h
theorem progOk_false {n i : Nat} {f : Nat → Int} (hi : i < n) (h : actOk (f (i * 3)) (f (i * 3 + 1)) (f (i * 3 + 2)) = false) : progOk n f = false := by
  rw [Bool.eq_false_iff]
  intro hp
  simp only [progOk, Bool.and_eq_true, List.all_eq_true, List.mem_range] at hp
  rw [hp.2 i hi] at h
  cases h
theorem progOk_out {n : Nat} {f : Nat → Int} (h : inB n 1 6 = false) : progOk n f = false := by simp [progOk, h]

theorem specProgOk_any (A : Option Addr) (n cap : Nat) (f : Nat → Int) (w : World) (h1 : IntsAt w w.heap.size A (n * 3) f) :
    Calls Tryz.prog 80 #[.slice A n cap] w fun e w' => e = .returned (.bool (progOk n f)) ∧ Below w.heap.size w w' := by
  by_cases hin : inB n 1 6 = true
  · have h16 : 1 ≤ n ∧ n ≤ 6 := by simp [inB] at hin; omega
    obtain ⟨b, off, rfl, hB, hc⟩ := h1 (by omega)
    clear h1
    go_enter Tryz.func80, Tryz.ntmps80
    go_wp2_with (go_at_call 28; refine (l01In_any _ _ _ _).mono ?_; rintro e w' ⟨rfl, rfl⟩)
    go_loopw [3] (fun i wr => ∃ k : Nat, k ≤ n ∧ i = .int .i64 k ∧ Below w.heap.size w wr ∧ ∀ i, i < k → actOk (f (i * 3)) (f (i * 3 + 1)) (f (i * 3 + 2)) = true) (fun i _ => n - (intOf i).toNat)
    case atStart => exact ⟨0, Nat.zero_le _, rfl, Below.refl _ _, fun i hi => absurd hi (by omega)⟩
    case round =>
      obtain ⟨k, hk, rfl, hb, hall⟩ := hrel
      have Hall := Lib.hid hall
      clear hall
      by_cases hkn : k < n
      · have hkz : (k : Int) < n := by omega
        have d0 : wr.cell? ⟨b, off + k * 3, none⟩ = some (.int .i64 (f (k * 3))) := (hb.cell (p := ⟨b, off + k * 3, none⟩) hB).trans (hc _ (by omega))
        have d1 : wr.cell? ⟨b, off + k * 3 + 1, none⟩ = some (.int .i64 (f (k * 3 + 1))) := (hb.cell (p := ⟨b, off + k * 3 + 1, none⟩) hB).trans (hc (k * 3 + 1) (by omega))
        have d2 : wr.cell? ⟨b, off + k * 3 + 2, none⟩ = some (.int .i64 (f (k * 3 + 2))) := (hb.cell (p := ⟨b, off + k * 3 + 2, none⟩) hB).trans (hc (k * 3 + 2) (by omega))
        clear hc
        go_wp2_with fail
        refine (specActOk_any _ _ _ _).mono ?_; rintro e w3 ⟨rfl, hb3⟩
        have hs := hb.size
        cases hact : actOk (f (k * 3)) (f (k * 3 + 1)) (f (k * 3 + 2)) with
        | true =>
          go_wp2
          exact ⟨⟨k + 1, by omega, by go_num, hb.trans (hb3.mono hs), fun i hi => by
            by_cases e : i = k
            · subst e; exact hact
            · exact Hall.out i (by omega)⟩, by simp [intOf]; omega⟩
        | false =>
          go_wp2
          go_ret
          exact ⟨ret_bool (progOk_false hkn hact).symm, hb.trans (hb3.mono hs)⟩
      · obtain rfl : k = n := by omega
        go_wp2
        go_ret
        exact ⟨ret_bool (progOk_true h16.1 h16.2 Hall.out).symm, hb⟩
  · have hin' : inB n 1 6 = false := by simpa using hin
    go_enter Tryz.func80, Tryz.ntmps80
    go_wp2_with (go_at_call 28; refine (l01In_any _ _ _ _).mono ?_; rintro e w' ⟨rfl, rfl⟩)
    go_ret
    exact ⟨ret_bool (progOk_out hin').symm, Below.refl _ _⟩

theorem implProgOk_any (A : Option Addr) (n cap : Nat) (f : Nat → Int) (w : World) (h1 : IntsAt w w.heap.size A (n * 3) f) :
    Calls Tryz.prog 173 #[.slice A n cap] w fun e w' => e = .returned (.bool (progOk n f)) ∧ Below w.heap.size w w' := by
  by_cases hlo : n < 1
  · have hlo' : (n : Int) < 1 := by omega
    go_enter Tryz.func173, Tryz.ntmps173
    go_wp2
    go_ret
    exact ⟨ret_bool (progOk_out (by simp [inB]; omega)).symm, Below.refl _ _⟩
  by_cases hhi : 6 < n
  · have hhi' : (6 : Int) < n := by omega
    have hlo' : ¬ (n : Int) < 1 := by omega
    go_enter Tryz.func173, Tryz.ntmps173
    go_wp2
    go_ret
    exact ⟨ret_bool (progOk_out (by simp [inB]; omega)).symm, Below.refl _ _⟩
  · obtain ⟨b, off, rfl, hB, hc⟩ := h1 (by omega)
    clear h1
    have hlo' : ¬ (n : Int) < 1 := by omega
    have hhi' : ¬ (6 : Int) < n := by omega
    go_enter Tryz.func173, Tryz.ntmps173
    go_wp2
    go_loopw [15] (fun i wr => ∃ k : Nat, k ≤ n ∧ i = .int .i64 k ∧ Below w.heap.size w wr ∧ ∀ i, i < k → actOk (f (i * 3)) (f (i * 3 + 1)) (f (i * 3 + 2)) = true) (fun i _ => n - (intOf i).toNat)
    case atStart => exact ⟨0, Nat.zero_le _, rfl, Below.refl _ _, fun i hi => absurd hi (by omega)⟩
    case round =>
      obtain ⟨k, hk, rfl, hb, hall⟩ := hrel
      have Hall := Lib.hid hall
      clear hall
      by_cases hkn : k < n
      · have hkz : (k : Int) < n := by omega
        have d0 : wr.cell? ⟨b, off + k * 3, none⟩ = some (.int .i64 (f (k * 3))) := (hb.cell (p := ⟨b, off + k * 3, none⟩) hB).trans (hc _ (by omega))
        have d1 : wr.cell? ⟨b, off + k * 3 + 1, none⟩ = some (.int .i64 (f (k * 3 + 1))) := (hb.cell (p := ⟨b, off + k * 3 + 1, none⟩) hB).trans (hc (k * 3 + 1) (by omega))
        have d2 : wr.cell? ⟨b, off + k * 3 + 2, none⟩ = some (.int .i64 (f (k * 3 + 2))) := (hb.cell (p := ⟨b, off + k * 3 + 2, none⟩) hB).trans (hc (k * 3 + 2) (by omega))
        clear hc
        have hs := hb.size
        go_wp2_with fail
        refine (implActOk_any _ _ _ _).mono ?_; rintro e w3 ⟨rfl, hb3⟩
        have hb4 : Below w.heap.size w w3 := ((hb.alloc hs _).trans (hb3.mono (by simp; omega)))
        cases hact : actOk (f (k * 3)) (f (k * 3 + 1)) (f (k * 3 + 2)) with
        | true =>
          go_wp2
          exact ⟨⟨k + 1, by omega, by go_num, hb4, fun i hi => by
            by_cases e : i = k
            · subst e; exact hact
            · exact Hall.out i (by omega)⟩, by simp [intOf]; omega⟩
        | false =>
          go_wp2
          go_ret
          exact ⟨ret_bool (progOk_false hkn hact).symm, hb4⟩
      · obtain rfl : k = n := by omega
        go_wp2
        go_ret
        exact ⟨ret_bool (progOk_true (by omega) (by omega) Hall.out).symm, hb⟩
end Go.Proofs.YtkpkjcmoldkmmaaGreat
