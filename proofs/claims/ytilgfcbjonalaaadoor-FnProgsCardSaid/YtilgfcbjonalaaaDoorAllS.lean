/- FnProgs: the law's comparison of two programs. -/
import Derived.Test.YtilgfcbjonalaaaDoorActs
namespace Go.Proofs.YtilgfcbjonalaaaDoor
open Go.RowKit

set_option maxRecDepth 100000 in
theorem sameActsP_any (A1 A2 : Option Addr) (n c1 c2 B1 B2 : Nat) (f : Nat → Int) (w : World) (hn : n ≤ 1048576) (h1 : IntsAt w B1 A1 (n * 3) f) (h2 : IntsAt w B2 A2 (n * 3) f) :
    Calls Tryd.prog 16 #[.slice A1 n c1, .slice A2 n c2] w fun e w' => e = .returned (.bool true) ∧ Below w.heap.size w w' := by
  go_enter Tryd.func16, Tryd.ntmps16
  go_wp2
  go_loopw [5] (fun i wr => ∃ k : Nat, k ≤ n ∧ i = .int .i64 k ∧ ∃ m, wr = w.drewN m) (fun i _ => n - (intOf i).toNat)
  case atStart => exact ⟨0, Nat.zero_le _, rfl, 0, rfl⟩
  case round =>
    obtain ⟨k, hk, rfl, m, rfl⟩ := hrel
    by_cases hkn : k < n
    · obtain ⟨b, off, rfl, hB, hc⟩ := h1 (by omega)
      obtain ⟨b', off', rfl, hB', hc'⟩ := h2 (by omega)
      have hkz : (k : Int) < n := by omega
      have d0 : w.cell? ⟨b, off + k * 3, none⟩ = some (.int .i64 (f (k * 3))) := hc _ (by omega)
      have d1 : w.cell? ⟨b, off + k * 3 + 1, none⟩ = some (.int .i64 (f (k * 3 + 1))) := hc (k * 3 + 1) (by omega)
      have d2 : w.cell? ⟨b, off + k * 3 + 2, none⟩ = some (.int .i64 (f (k * 3 + 2))) := hc (k * 3 + 2) (by omega)
      have d0' : w.cell? ⟨b', off' + k * 3, none⟩ = some (.int .i64 (f (k * 3))) := hc' _ (by omega)
      have d1' : w.cell? ⟨b', off' + k * 3 + 1, none⟩ = some (.int .i64 (f (k * 3 + 1))) := hc' (k * 3 + 1) (by omega)
      have d2' : w.cell? ⟨b', off' + k * 3 + 2, none⟩ = some (.int .i64 (f (k * 3 + 2))) := hc' (k * 3 + 2) (by omega)
      clear hc hc' h1 h2
      go_wp2_with fail
      go_quiet (fail)
      go_wp2
      exact ⟨⟨k + 1, by omega, by go_num, _, rfl⟩, by simp [intOf]; omega⟩
    · obtain rfl : k = n := by omega
      go_wp2
      go_ret
      exact ⟨rfl, ⟨rfl, rfl, rfl, Nat.le_refl _, fun _ _ => rfl⟩⟩
end Go.Proofs.YtilgfcbjonalaaaDoor
