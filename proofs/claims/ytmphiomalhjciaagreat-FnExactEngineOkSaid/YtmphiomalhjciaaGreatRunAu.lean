/- Contracts of the functions that RunSerial calls: copies of integers, the checks, the acts' methods. -/
import Derived.Test.YtmphiomalhjciaaGreatKeysu
import Derived.Lib.LazyBuf
namespace Go.Proofs.YtmphiomalhjciaaGreat
open Go.RowKit

theorem ownsRow_below {w w' : World} {B base size n : Nat} {e : TypeId} {v : Value} {xs : List Value} (h : w.ownsRow base e size v n xs) (hb : Below B w w') (hB : w.heap.size ≤ B) : w'.ownsRow base e size v n xs := by
  refine ⟨h.1, ?_⟩
  rcases h.2 with h' | ⟨g, cap, cur, h1, h2, h3, h4⟩
  · exact .inl h'
  · refine .inr ⟨g, cap, cur, h1, h2, ?_, h4⟩
    rw [hb.block g (by have := (Array.getElem?_eq_some_iff.1 h3).1; omega)]
    exact h3

/-- the first k integers -/
def firstI (f : Nat → Int) (k : Nat) : List Int := (List.range k).map f
theorem firstI_succ (f : Nat → Int) (k : Nat) : firstI f (k + 1) = firstI f k ++ [f k] := by simp [firstI, List.range_succ]
theorem firstI_len (f : Nat → Int) (k : Nat) : (firstI f k).length = k := by simp [firstI]
theorem firstI_get (f : Nat → Int) (k j : Nat) (h : j < k) : (firstI f k).getD j 0 = f j := by simp [firstI, h]

theorem ints_one (f : Nat → Int) (n : Nat) : ∀ u ∈ (firstI f n).map (Value.int .i64), u.oneCell' = true := by
  intro u hu
  obtain ⟨x, _, rfl⟩ := List.mem_map.1 hu
  rfl

theorem run_make_ints (n : Nat) (h : n ≤ 1048576) (w : World) : (Instr.makeSlice 28 (.int .i64 (n : Int)) (.int .i64 (n : Int))).run Tryz.prog w = .ok (.slice (some ⟨w.heap.size, 0, none⟩) n n) (w.alloc (.cells (madeCells #[.int .i64 0] n) 3)) :=
  run_make_row' (P := Tryz.prog) 28 3 (.int .i64 0) 8 Tryz.underlying28 infoInt rfl .i64 .i64 n (by omega) (by omega) w

set_option maxHeartbeats 400000 in
theorem toIntS_any (A : Option Addr) (n cap : Nat) (f : Nat → Int) (w : World) (hn : n ≤ 1048576) (hr : IntsAt w w.heap.size A n f) :
    Calls Tryz.prog 25 #[.slice A n cap] w fun e w' => e = .returned (.slice (some ⟨w.heap.size, 0, none⟩) n n) ∧ Below w.heap.size w w' ∧ w'.rowIs w.heap.size 3 n (fun j => .int .i64 (f j)) := by
  have hmk := run_make_ints n hn
  go_enter Tryz.func25, Tryz.ntmps25
  go_wp2
  clear hmk
  go_loopw [4] (fun i wr => ∃ k : Nat, k ≤ n ∧ i = .int .i64 k ∧ Below w.heap.size w wr ∧ wr.rowIs w.heap.size 3 n (fun j => .int .i64 (if j < k then f j else 0))) (fun i _ => n - (intOf i).toNat)
  case atStart => exact ⟨0, Nat.zero_le _, rfl, (Below.refl _ _).alloc (Nat.le_refl _) _, (World.rowIs_made w (.int .i64 0) n _).congr (fun j _ => by simp)⟩
  case round =>
    obtain ⟨k, hk, rfl, hb, hrow⟩ := hrel
    by_cases hkn : k < n
    · obtain ⟨b, off, rfl, hB, hc⟩ := hr (by omega)
      have hkz : (k : Int) < n := by omega
      have c0 : wr.cell? ⟨b, off + k, none⟩ = some (.int .i64 (f k)) := (hb.cell (p := ⟨b, off + k, none⟩) hB).trans (hc _ (by omega))
      have s0 : wr.cell? ⟨w.heap.size, k, none⟩ = some (.int .i64 0) := by rw [hrow.cell (by omega), if_neg (by omega)]
      have r0 : wr.frozen? ⟨w.heap.size, k, none⟩ = false := hrow.frozen _
      have Hrow1 := Lib.hid ((hrow.set k (.int .i64 (f k))).congr (g := fun j => .int .i64 (if j < k + 1 then f j else 0)) (fun j _ => by
        by_cases e : j = k
        · subst e; rw [if_pos rfl, if_pos (by omega)]
        · rw [if_neg e]
          by_cases hlt : j < k
          · rw [if_pos hlt, if_pos (by omega)]
          · rw [if_neg hlt, if_neg (by omega)]))
      clear hrow hc hr
      go_wp2
      exact ⟨⟨k + 1, by omega, by go_num, hb.setCell (Nat.le_refl _) _, Hrow1.out⟩, by simp [intOf]; omega⟩
    · obtain rfl : k = n := by omega
      go_wp2
      go_ret
      exact ⟨rfl, hb, hrow.congr (fun j hj => by simp [hj])⟩

/-- a sum is kept within the values -/
def cut (x : Int) : Int := if 1000000 < x then 1000000 else if x < -1000000 then -1000000 else x
theorem cut_hi {x : Int} (h : 1000000 < x) : cut x = 1000000 := by unfold cut; rw [if_pos h]
theorem cut_lo {x : Int} (h : ¬ 1000000 < x) (h' : x < -1000000) : cut x = -1000000 := by unfold cut; rw [if_neg h, if_pos h']
theorem cut_mid {x : Int} (h : ¬ 1000000 < x) (h' : ¬ x < -1000000) : cut x = x := by unfold cut; rw [if_neg h, if_neg h']
theorem cut_range (x : Int) : -1000000 ≤ cut x ∧ cut x ≤ 1000000 := by unfold cut; split; · omega
                                                                       · split <;> omega
theorem ret_num {a b : Int} (h : a = b) : Ending.returned (.int .i64 a) = .returned (.int .i64 b) := by rw [h]

/-- all values are in range -/
def valsOk (L : Nat) (v : Nat → Int) : Bool := (List.range L).all fun j => inB (v j) (-1000000) 1000000
theorem valsOk_true {L : Nat} {v : Nat → Int} (h : ∀ j, j < L → inB (v j) (-1000000) 1000000 = true) : valsOk L v = true := by
  simp only [valsOk, List.all_eq_true, List.mem_range]
  exact h
theorem valsOk_false {L j : Nat} {v : Nat → Int} (hj : j < L) (h : inB (v j) (-1000000) 1000000 = false) : valsOk L v = false := by
  rw [Bool.eq_false_iff]
  intro hp
  simp only [valsOk, List.all_eq_true, List.mem_range] at hp
  rw [hp j hj] at h
  cases h
theorem valsOk_get {L j : Nat} {v : Nat → Int} (h : valsOk L v = true) (hj : j < L) : -1000000 ≤ v j ∧ v j ≤ 1000000 := by
  simp only [valsOk, List.all_eq_true, List.mem_range] at h
  have := h j hj
  simp only [inB, Bool.and_eq_true, decide_eq_true_eq] at this
  exact this

/-- every act's key has a value -/
def keysIn (L n : Nat) (f : Nat → Int) : Bool := (List.range n).all fun i => decide (f (i * 3 + 1) < (L : Int))
theorem keysIn_true {L n : Nat} {f : Nat → Int} (h : ∀ i, i < n → f (i * 3 + 1) < (L : Int)) : keysIn L n f = true := by
  simp only [keysIn, List.all_eq_true, List.mem_range, decide_eq_true_eq]
  exact h
theorem keysIn_get {L n i : Nat} {f : Nat → Int} (h : keysIn L n f = true) (hi : i < n) : f (i * 3 + 1) < (L : Int) := by
  simp only [keysIn, List.all_eq_true, List.mem_range, decide_eq_true_eq] at h
  exact h i hi
theorem keysIn_false {L n i : Nat} {f : Nat → Int} (hi : i < n) (h : ¬ f (i * 3 + 1) < (L : Int)) : keysIn L n f = false := by
  rw [Bool.eq_false_iff]
  intro hp
  exact h (keysIn_get hp hi)

/-- RunSerial can run -/
def runOk (L : Nat) (v : Nat → Int) (n : Nat) (f : Nat → Int) : Bool := inB L 1 8 && valsOk L v && progOk n f && keysIn L n f

end Go.Proofs.YtmphiomalhjciaaGreat
