/- FnReadsMatter: contracts of the law's helpers; what is not read does not matter. -/
import Derived.Test.YtpjejmgdfeanjaaDrawN
import Derived.Test.YtpjejmgdfeanjaaRunW
import Derived.Test.YtpjejmgdfeanjaaReadsI
namespace Go.Proofs.Ytpjejmgdfeanjaa
open Go.RowKit

/-- x is among the first n -/
def wth (n : Nat) (l : Nat → Int) (x : Int) : Bool := (List.range n).any fun j => l j == x
theorem wth_true {n k : Nat} {l : Nat → Int} {x : Int} (hk : k < n) (h : l k = x) : wth n l x = true := by
  simp only [wth, List.any_eq_true, List.mem_range, beq_iff_eq]
  exact ⟨k, hk, h⟩
theorem wth_false {n : Nat} {l : Nat → Int} {x : Int} (h : ∀ j, j < n → ¬ l j = x) : wth n l x = false := by
  rw [Bool.eq_false_iff]
  simp only [wth, List.any_eq_true, List.mem_range, beq_iff_eq, ne_eq, not_exists, not_and]
  exact h

theorem within_any (A : Option Addr) (n cap B : Nat) (l : Nat → Int) (x : Int) (w : World) (hn : n ≤ 1048576) (hr : IntsAt w B A n l) :
    Calls Try.prog 14 #[.slice A n cap, .int .i64 x] w fun e w' => e = .returned (.bool (wth n l x)) ∧ w = w' := by
  go_enter Try.func14, Try.ntmps14
  go_wp2
  go_loop [5] (fun i => ∃ k : Nat, k ≤ n ∧ i = .int .i64 k ∧ ∀ j, j < k → ¬ l j = x) (fun i => n - (intOf i).toNat)
  case atStart => exact ⟨0, Nat.zero_le _, rfl, fun j hj => absurd hj (by omega)⟩
  case round =>
    obtain ⟨k, hk, rfl, hall⟩ := hrel
    have Hall := Lib.hid hall
    clear hall
    by_cases hkn : k < n
    · obtain ⟨b, off, rfl, hB, hc⟩ := hr (by omega)
      have hkz : (k : Int) < n := by omega
      have c0 : w.cell? ⟨b, off + k, none⟩ = some (.int .i64 (l k)) := hc _ (by omega)
      clear hc hr
      by_cases hv : l k = x
      · have HW := Lib.hid (wth_true hkn hv)
        rw [hv] at c0
        clear hv
        go_wp2
        go_ret
        exact ⟨ret_bool HW.out.symm, rfl⟩
      · go_wp2
        exact ⟨⟨k + 1, by omega, by go_num, fun j hj => by
          by_cases e : j = k
          · subst e; exact hv
          · exact Hall.out j (by omega)⟩, by simp [intOf]; omega⟩
    · obtain rfl : k = n := by omega
      go_wp2
      go_ret
      exact ⟨ret_bool (wth_false Hall.out).symm, rfl⟩

theorem big_any (A : Option Addr) (n cap : Nat) (w : World) :
    Calls Try.prog 10 #[.slice A n cap] w fun e w' => e = .returned (.bool (decide ((1048576 : Int) < n))) ∧ w = w' := by
  go_enter Try.func10, Try.ntmps10
  go_wp2
  go_ret
  exact ⟨rfl, rfl⟩

theorem at_any (A : Option Addr) (n cap B : Nat) (g : Nat → Int) (k : Nat) (w : World) (hn : n ≤ 1048576) (hk : k ≤ 1048576) (hbs : BytesAt w B A n g) :
    Calls Try.prog 15 #[.slice A n cap, .int .i64 k] w fun e w' => ∃ x : Int, 0 ≤ x ∧ x ≤ 255 ∧ e = .returned (.int .i64 x) ∧ w = w' := by
  by_cases hkn : k < n
  · have hkz : (k : Int) < n := by omega
    obtain ⟨b, off, rfl, hlt, hby⟩ := hbs.2 (by omega)
    have hgm := hbs.1 k
    obtain ⟨g0, g1⟩ := hgm
    have d0 : w.cell? ⟨b, off + k, none⟩ = some (.int .u8 (g k)) := hby k hkn
    have HBS := Lib.hid hbs
    clear hby hbs
    go_enter Try.func15, Try.ntmps15
    go_wp2
    go_ret
    exact ⟨g k, g0, g1, rfl, rfl⟩
  · have hkz : ¬ (k : Int) < n := by omega
    clear hbs
    go_enter Try.func15, Try.ntmps15
    go_wp2
    go_ret
    exact ⟨((k : Int) * 13 + n * 5) % 256, by omega, by omega, rfl, rfl⟩

theorem same_eq (A1 A2 : Option Addr) (n c1 c2 B1 B2 : Nat) (f : Nat → Int) (w : World) (hn : n ≤ maxLen) (h1 : IntsAt w B1 A1 n f) (h2 : IntsAt w B2 A2 n f) :
    Calls Try.prog 17 #[.slice A1 n c1, .slice A2 n c2] w fun e w' => e = .returned (.bool true) ∧ Below w.heap.size w w' := by
  unfold maxLen at hn
  go_enter Try.func17, Try.ntmps17
  go_wp2
  go_loopw [5] (fun i wr => ∃ k : Nat, k ≤ n ∧ i = .int .i64 k ∧ ∃ m, wr = w.drewN m) (fun i _ => n - (intOf i).toNat)
  case atStart => exact ⟨0, Nat.zero_le _, rfl, 0, rfl⟩
  case round =>
    obtain ⟨k, hk, rfl, m, rfl⟩ := hrel
    by_cases hkn : k < n
    · obtain ⟨b, off, rfl, _, hc⟩ := h1 (by omega)
      obtain ⟨b', off', rfl, _, hc'⟩ := h2 (by omega)
      have hkz : (k : Int) < n := by omega
      have d0 : w.cell? ⟨b, off + k, none⟩ = some (.int .i64 (f k)) := hc _ hkn
      have d0' : w.cell? ⟨b', off' + k, none⟩ = some (.int .i64 (f k)) := hc' _ hkn
      clear hc hc' h1 h2
      go_wp2_with fail
      go_quiet (fail)
      go_wp2
      exact ⟨⟨k + 1, by omega, by go_num, _, rfl⟩, by simp [intOf]; omega⟩
    · obtain rfl : k = n := by omega
      go_wp2
      go_ret
      exact ⟨rfl, ⟨rfl, rfl, rfl, Nat.le_refl _, fun _ _ => rfl⟩⟩

/-- touched by the first k acts -/
def tch (f : Nat → Int) (k j : Nat) : Bool := marksTo (fun _ => true) f k j
theorem tch_succ (f : Nat → Int) (k j : Nat) : tch f (k + 1) j = (tch f k j || f (k * 3 + 1) == (j : Int)) := by simp [tch, marksTo_succ]
theorem readsTo_tch {f : Nat → Int} : ∀ {k j : Nat}, readsTo f k j = true → tch f k j = true
  | 0, j, h => by simp [readsTo] at h
  | k + 1, j, h => by
    rw [tch_succ]
    unfold readsTo at h
    split at h
    · rename_i hc
      simp only [Bool.and_eq_true] at hc
      simp [hc.1]
    · simp [readsTo_tch h]
theorem readsTo_up {f : Nat → Int} {k j : Nat} (h : readsTo f k j = true) : readsTo f (k + 1) j = true := by
  have ht : marksTo (fun _ => true) f k j = true := readsTo_tch h
  unfold readsTo
  simp [ht, h]
theorem readsTo_new {f : Nat → Int} {k j : Nat} (hy : f (k * 3 + 1) = (j : Int)) (ht : tch f k j = false) (h1 : ¬ f (k * 3) = 1) : readsTo f (k + 1) j = true := by
  have ht' : marksTo (fun _ => true) f k j = false := ht
  unfold readsTo
  simp [ht', hy, h1]

theorem matter (f v v' : Nat → Int) : ∀ k, (∀ i, i < k → 0 ≤ f (i * 3 + 1)) → (∀ j, readsTo f k j = true → v j = v' j) →
    runT f v k = runT f v' k ∧ ∀ j, (tch f k j = true → runV f v k j = runV f v' k j) ∧ (tch f k j = false → runV f v k j = v j ∧ runV f v' k j = v' j)
  | 0, _, _ => ⟨rfl, fun j => ⟨fun h => by simp [tch, marksTo] at h, fun _ => ⟨rfl, rfl⟩⟩⟩
  | k + 1, hpos, h => by
    obtain ⟨hT, hV⟩ := matter f v v' k (fun i hi => hpos i (by omega)) (fun j hj => h j (readsTo_up hj))
    have hy := hpos k (by omega)
    have old : ∀ j : Nat, f (k * 3 + 1) = (j : Int) → ¬ f (k * 3) = 1 → runV f v k j = runV f v' k j := fun j hj h1 => by
      cases ht : tch f k j with
      | true => exact (hV j).1 ht
      | false =>
        rw [((hV j).2 ht).1, ((hV j).2 ht).2]
        exact h j (readsTo_new hj ht h1)
    refine ⟨?_, fun j => ?_⟩
    · unfold runT
      split
      · rename_i h0
        rw [hT, old (f (k * 3 + 1)).toNat (by omega) (by omega)]
      · exact hT
    · rw [tch_succ, runV_succ, runV_succ]
      unfold actV
      by_cases hj : (j : Int) = f (k * 3 + 1)
      · refine ⟨fun _ => ?_, fun hf => ?_⟩
        · rw [if_pos hj, if_pos hj]
          by_cases h1 : f (k * 3) = 1
          · rw [if_neg (by omega), if_pos h1, if_neg (by omega), if_pos h1]
          · rw [old j hj.symm h1]
        · simp [hj] at hf
      · rw [if_neg hj, if_neg hj]
        have hne : (f (k * 3 + 1) == (j : Int)) = false := by rw [beq_eq_false_iff_ne]; omega
        rw [hne, Bool.or_false]
        exact hV j
end Go.Proofs.Ytpjejmgdfeanjaa
