/- The contract of a new cursor. -/
import Derived.Test.YtmdonjkkpkcpnaaLdA
namespace Go.Proofs.Ytmdonjkkpkcpnaa
open Go.RowKit

set_option maxHeartbeats 1600000 in
theorem l01New_any (n cp : Nat) (A : Option Addr) (g : Nat → Int) (w : World) (hn : n ≤ 1048576) (hbs : BytesAt w w.heap.size A n g) :
    Calls Try.prog 43 #[.slice A n cp] w fun e w' => ∃ c, w.heap.size ≤ c ∧ e = .returned (.pointer (some ⟨c, 0, none⟩)) ∧ St w' c n cp A g ∧ Below w.heap.size w w' := by
  go_enter Try.func43, Try.ntmps43
  go_wp2
  go_loopw [3, 4] (fun h x wr => ∃ (k : Nat) (z : Int), k ≤ 4000 ∧ k ≤ n ∧ x = .int .i64 (k : Int) ∧ h = .int .i64 z ∧ Below w.heap.size w wr) (fun _ x _ => (4000 - intOf x).toNat)
  case atStart => exact ⟨0, 771771 + n, by omega, by omega, rfl, rfl, Below.refl _ _⟩
  case round =>
    obtain ⟨k, z, hk, hkn, rfl, rfl, hb⟩ := hrel
    by_cases hin : k < n ∧ k < 4000
    · obtain ⟨hin1, hin2⟩ := hin
      obtain ⟨b, off, rfl, hlt, hby⟩ := hbs.2 (by omega)
      have hgm := hbs.1 k
      obtain ⟨g0, g1⟩ := hgm
      have d0 : wr.cell? ⟨b, off + k, none⟩ = some (.int .u8 (g k)) := (World.cell?_of_block (a := ⟨b, off + k, none⟩) (hb.block b (by omega))).trans (hby k (by omega))
      have h1 : (k : Int) < n := by omega
      have h2 : (k : Int) < 4000 := by omega
      clear hby
      have HBS := Lib.hid hbs
      clear hbs
      go_wp2_with fail
      exact ⟨⟨k + 1, _, by omega, by omega, by go_num, rfl, hb⟩, by simp [intOf]; omega⟩
    · have hout : (k : Int) < n → ¬ (k : Int) < 4000 := by omega
      have hres : ∃ c, w.heap.size ≤ c ∧ Ending.returned (.pointer (some ⟨wr.heap.size, 0, none⟩)) = Ending.returned (.pointer (some ⟨c, 0, none⟩)) ∧ St (wr.alloc (.cells #[.slice A n cp, .int .i64 0, .int .i64 z] 81)) c n cp A g ∧ Below w.heap.size w (wr.alloc (.cells #[.slice A n cp, .int .i64 0, .int .i64 z] 81)) :=
        ⟨wr.heap.size, hb.size, rfl, ⟨⟨0, z, by omega, by omega, heap_alloc_new wr _⟩, hbs.keep (fun j hj => (hb.alloc hb.size _).block j hj) hb.size⟩, hb.alloc hb.size _⟩
      have HR := Lib.hid hres
      clear hres
      by_cases h1 : (k : Int) < n
      · have h2 := hout h1
        clear hout
        go_wp2_with fail
        go_ret
        exact HR.out
      · clear hout
        go_wp2_with fail
        go_ret
        exact HR.out
theorem big_any (A : Option Addr) (n cap : Nat) (w : World) :
    Calls Try.prog 12 #[.slice A n cap] w fun e w' => e = .returned (.bool (decide ((1048576 : Int) < n))) ∧ w = w' := by
  go_enter Try.func12, Try.ntmps12
  go_wp2
  go_ret
  exact ⟨rfl, rfl⟩

theorem same_eq (A1 A2 : Option Addr) (n c1 c2 B1 B2 : Nat) (f : Nat → Int) (w : World) (hn : n ≤ maxLen) (h1 : IntsAt w B1 A1 n f) (h2 : IntsAt w B2 A2 n f) :
    Calls Try.prog 16 #[.slice A1 n c1, .slice A2 n c2] w fun e w' => e = .returned (.bool true) ∧ Below w.heap.size w w' := by
  unfold maxLen at hn
  go_enter Try.func16, Try.ntmps16
  go_wp2
  go_loopw [5] (fun i wr => ∃ k : Nat, k ≤ n ∧ i = .int .i64 k ∧ ∃ m, wr = w.drewN m) (fun i _ => n - (intOf i).toNat)
  case atStart => exact ⟨0, Nat.zero_le _, rfl, 0, rfl⟩
  case round =>
    obtain ⟨k, hk, rfl, m, rfl⟩ := hrel
    by_cases hkn : k < n
    · obtain ⟨b, off, rfl, _, hc⟩ := h1 (by omega)
      obtain ⟨b', off', rfl, _, hc'⟩ := h2 (by omega)
      have hkz : (k : Int) < n := by omega
      have d0 : w.cell? ⟨b, off + k, none⟩ = some (.int .i64 (f k)) := hc _ hkn
      have d0' : w.cell? ⟨b', off' + k, none⟩ = some (.int .i64 (f k)) := hc' _ hkn
      clear hc hc' h1 h2
      go_wp2_with fail
      go_quiet (fail)
      go_wp2
      exact ⟨⟨k + 1, by omega, by go_num, _, rfl⟩, by simp [intOf]; omega⟩
    · obtain rfl : k = n := by omega
      go_wp2
      go_ret
      exact ⟨rfl, ⟨rfl, rfl, rfl, Nat.le_refl _, fun _ _ => rfl⟩⟩

theorem l01Size_any (A : Option Addr) (n cp : Nat) (m : Int) (w : World) (hn : n ≤ 1048576) (h2 : 2 ≤ m) (hm : m ≤ 256) :
    Calls Try.prog 45 #[.slice A n cp, .int .i64 m] w fun e w' => ∃ x : Int, 2 ≤ x ∧ x ≤ m ∧ e = .returned (.int .i64 x) ∧ w = w' := by
  by_cases h : m < 2 + (n : Int) / 16
  · go_enter Try.func45, Try.ntmps45
    go_wp2
    go_ret
    exact ⟨m, h2, Int.le_refl _, rfl, rfl⟩
  · go_enter Try.func45, Try.ntmps45
    go_wp2
    go_ret
    exact ⟨2 + (n : Int) / 16, by omega, by omega, rfl, rfl⟩
end Go.Proofs.Ytmdonjkkpkcpnaa
