/- InOrder: the model's and the program's. -/
import Derived.Test.YtomkfldimkpmdaaGreatLb
namespace Go.Proofs.YtomkfldimkpmdaaGreat
open Go.RowKit

/-- all are below x -/
def belowB (n : Nat) (f : Nat → Int) (x : Int) : Bool := (List.range n).all fun j => decide (f j < x)
theorem belowB_yes {n : Nat} {f : Nat → Int} {x : Int} (h : ∀ j, j < n → f j < x) : belowB n f x = true := by
  simpa [belowB] using h
theorem belowB_no {n k : Nat} {f : Nat → Int} {x : Int} (hk : k < n) (h : ¬ f k < x) : belowB n f x = false := by
  rw [Bool.eq_false_iff]
  intro hp
  simp only [belowB, List.all_eq_true, List.mem_range, decide_eq_true_eq] at hp
  exact h (hp k hk)

theorem specInOrder_any (A : Option Addr) (n cap B : Nat) (f : Nat → Int) (x : Int) (w : World) (hn : n ≤ 1048576) (hr : IntsAt w B A n f) :
    Calls Tryz.prog 62 #[.slice A n cap, .int .i64 x] w fun e w' => e = .returned (.bool (belowB n f x)) ∧ Below w.heap.size w w' := by
  go_enter Tryz.func62, Tryz.ntmps62
  go_wp2
  go_loop [5] (fun i => ∃ k : Nat, k ≤ n ∧ i = .int .i64 k ∧ ∀ j, j < k → f j < x) (fun i => n - (intOf i).toNat)
  case atStart => exact ⟨0, Nat.zero_le _, rfl, fun j hj => absurd hj (by omega)⟩
  case round =>
    obtain ⟨k, hk, rfl, hall⟩ := hrel
    have Hall := Lib.hid hall
    clear hall
    by_cases hkn : k < n
    · obtain ⟨b, off, rfl, hB, hc⟩ := hr (by omega)
      have hkz : (k : Int) < n := by omega
      have c0 : w.cell? ⟨b, off + k, none⟩ = some (.int .i64 (f k)) := hc _ (by omega)
      clear hc hr
      have HF := Lib.hid (show f k < x → ∀ j, j < k + 1 → f j < x from fun hv j hj => by
          by_cases e : j = k
          · subst e; exact hv
          · exact Hall.out j (by omega))
      have HN := Lib.hid (fun h : ¬ f k < x => belowB_no hkn h)
      generalize f k = y at c0 HF HN
      by_cases hv : y < x
      · have hv' : ¬ x ≤ y := by omega
        go_wp2
        exact ⟨⟨k + 1, by omega, by go_num, HF.out hv⟩, by simp [intOf]; omega⟩
      · have hv' : x ≤ y := by omega
        go_wp2
        go_ret
        exact ⟨ret_bool (HN.out hv).symm, Below.refl _ _⟩
    · obtain rfl : k = n := by omega
      go_wp2
      go_ret
      exact ⟨ret_bool (belowB_yes Hall.out).symm, Below.refl _ _⟩

theorem implInOrder_any (A : Option Addr) (n cap B : Nat) (f : Nat → Int) (x : Int) (w : World) (hn : n ≤ 1048576) (hr : IntsAt w B A n f) :
    Calls Tryz.prog 65 #[.slice A n cap, .int .i64 x] w fun e w' => e = .returned (.bool (belowB n f x)) ∧ Below w.heap.size w w' := by
  go_enter Tryz.func65, Tryz.ntmps65
  go_wp2
  go_loop [9] (fun i => ∃ k : Nat, k ≤ n ∧ i = .int .i64 k ∧ ∀ j, j < k → f j < x) (fun i => n - (intOf i).toNat)
  case atStart => exact ⟨0, Nat.zero_le _, rfl, fun j hj => absurd hj (by omega)⟩
  case round =>
    obtain ⟨k, hk, rfl, hall⟩ := hrel
    have Hall := Lib.hid hall
    clear hall
    by_cases hkn : k < n
    · obtain ⟨b, off, rfl, hB, hc⟩ := hr (by omega)
      have hkz : (k : Int) < n := by omega
      have c0 : w.cell? ⟨b, off + k, none⟩ = some (.int .i64 (f k)) := hc _ (by omega)
      clear hc hr
      have HF := Lib.hid (show f k < x → ∀ j, j < k + 1 → f j < x from fun hv j hj => by
          by_cases e : j = k
          · subst e; exact hv
          · exact Hall.out j (by omega))
      have HN := Lib.hid (fun h : ¬ f k < x => belowB_no hkn h)
      generalize f k = y at c0 HF HN
      by_cases hv : y < x
      · have hv' : ¬ x ≤ y := by omega
        go_wp2
        exact ⟨⟨k + 1, by omega, by go_num, HF.out hv⟩, by simp [intOf]; omega⟩
      · have hv' : x ≤ y := by omega
        go_wp2
        go_ret
        exact ⟨ret_bool (HN.out hv).symm, Below.refl _ _⟩
    · obtain rfl : k = n := by omega
      go_wp2
      go_ret
      exact ⟨ret_bool (belowB_yes Hall.out).symm, Below.refl _ _⟩

end Go.Proofs.YtomkfldimkpmdaaGreat
