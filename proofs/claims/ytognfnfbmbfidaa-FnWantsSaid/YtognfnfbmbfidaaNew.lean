/- The contract of a new cursor. -/
import Derived.Test.YtognfnfbmbfidaaDraw
namespace Go.Proofs.Ytognfnfbmbfidaa
open Go.RowKit

set_option maxHeartbeats 1600000 in
theorem l01New_any (n cp : Nat) (A : Option Addr) (g : Nat → Int) (w : World) (hn : n ≤ 1048576) (hbs : BytesAt w w.heap.size A n g) :
    Calls Try.prog 54 #[.slice A n cp] w fun e w' => ∃ c, w.heap.size ≤ c ∧ e = .returned (.pointer (some ⟨c, 0, none⟩)) ∧ St w' c n cp A g ∧ Below w.heap.size w w' := by
  go_enter Try.func54, Try.ntmps54
  go_wp2
  go_loopw [3, 4] (fun h x wr => ∃ (k : Nat) (z : Int), k ≤ 4000 ∧ k ≤ n ∧ x = .int .i64 (k : Int) ∧ h = .int .i64 z ∧ Below w.heap.size w wr) (fun _ x _ => (4000 - intOf x).toNat)
  case atStart => exact ⟨0, 771771 + n, by omega, by omega, rfl, rfl, Below.refl _ _⟩
  case round =>
    obtain ⟨k, z, hk, hkn, rfl, rfl, hb⟩ := hrel
    by_cases hin : k < n ∧ k < 4000
    · obtain ⟨hin1, hin2⟩ := hin
      obtain ⟨b, off, rfl, hlt, hby⟩ := hbs.2 (by omega)
      have hgm := hbs.1 k
      obtain ⟨g0, g1⟩ := hgm
      have d0 : wr.cell? ⟨b, off + k, none⟩ = some (.int .u8 (g k)) := (World.cell?_of_block (a := ⟨b, off + k, none⟩) (hb.block b (by omega))).trans (hby k (by omega))
      have h1 : (k : Int) < n := by omega
      have h2 : (k : Int) < 4000 := by omega
      clear hby
      have HBS := Lib.hid hbs
      clear hbs
      go_wp2_with fail
      exact ⟨⟨k + 1, _, by omega, by omega, by go_num, rfl, hb⟩, by simp [intOf]; omega⟩
    · have hout : (k : Int) < n → ¬ (k : Int) < 4000 := by omega
      have hres : ∃ c, w.heap.size ≤ c ∧ Ending.returned (.pointer (some ⟨wr.heap.size, 0, none⟩)) = Ending.returned (.pointer (some ⟨c, 0, none⟩)) ∧ St (wr.alloc (.cells #[.slice A n cp, .int .i64 0, .int .i64 z] 92)) c n cp A g ∧ Below w.heap.size w (wr.alloc (.cells #[.slice A n cp, .int .i64 0, .int .i64 z] 92)) :=
        ⟨wr.heap.size, hb.size, rfl, ⟨⟨0, z, by omega, by omega, heap_alloc_new wr _⟩, hbs.keep (fun j hj => (hb.alloc hb.size _).block j hj) hb.size⟩, hb.alloc hb.size _⟩
      have HR := Lib.hid hres
      clear hres
      by_cases h1 : (k : Int) < n
      · have h2 := hout h1
        clear hout
        go_wp2_with fail
        go_ret
        exact HR.out
      · clear hout
        go_wp2_with fail
        go_ret
        exact HR.out
end Go.Proofs.Ytognfnfbmbfidaa
