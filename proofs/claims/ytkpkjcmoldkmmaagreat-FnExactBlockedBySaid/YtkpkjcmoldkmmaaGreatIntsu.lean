/- Contracts over integers in memory of the call's own: eqIntS, markIntS, heldIntS, markActS. -/
import Derived.Test.YtkpkjcmoldkmmaaGreatActsu
namespace Go.Proofs.YtkpkjcmoldkmmaaGreat
open Go.RowKit

section
variable {w w' : World} {lo B lo' B' N : Nat} {A : Option Addr} {f g : Nat → Int}
end

theorem markActS_any (A : Option Addr) (n cap lo B : Nat) (f : Nat → Int) (k0 : Nat) (w : World) (hn : n ≤ 1073741824) (hk0 : k0 ≤ 1073741824) (h : OwnI w lo B A (n * 3) f) :
    Calls Tryz.prog 161 #[.slice A n cap, .int .i64 k0] w fun e w' => e = .returned (.int .i64 (k0 + n * 3)) ∧ Onlys lo B w w' ∧ OwnI w' lo B A (n * 3) (fun j => (k0 : Int) + j) := by
  rcases Nat.eq_zero_or_pos n with rfl | hpos
  · go_enter Tryz.func161, Tryz.ntmps161
    go_wp2
    refine wp_loop_rounds 1 ?_; rw [rounds_succ]
    go_wp2
    go_ret
    exact ⟨by simp, Onlys.refl _ _ _, fun h => absurd h (by omega)⟩
  obtain ⟨b, off, rfl, hb1, hb2, hc⟩ := h (by omega)
  have hc : CellsI w b off (n * 3) f := hc
  clear h
  go_enter Tryz.func161, Tryz.ntmps161
  go_wp2
  go_loopw [1, 5] (fun s i wr => ∃ k : Nat, k ≤ n ∧ i = .int .i64 k ∧ s = .int .i64 (k0 + k * 3) ∧ Onlys lo B w wr ∧ CellsI wr b off (n * 3) (fun j => if j < k * 3 then (k0 : Int) + j else f j)) (fun _ i _ => n - (intOf i).toNat)
  case atStart => exact ⟨0, Nat.zero_le _, rfl, by simp, Onlys.refl _ _ _, hc.congr (fun j _ => by simp)⟩
  case round =>
    obtain ⟨k, hk, rfl, rfl, ho, hcr⟩ := hrel
    clear hc
    by_cases hkn : k < n
    · have hkz : (k : Int) < n := by omega
      have d0 : wr.cell? ⟨b, off + k * 3, none⟩ = some (.int .i64 (f (k * 3))) := hcr.at_ (by omega) (if_neg (by omega))
      have d1 : wr.cell? ⟨b, off + k * 3 + 1, none⟩ = some (.int .i64 (f (k * 3 + 1))) := hcr.at_ (k := k * 3 + 1) (by omega) (if_neg (by omega))
      have d2 : wr.cell? ⟨b, off + k * 3 + 2, none⟩ = some (.int .i64 (f (k * 3 + 2))) := hcr.at_ (k := k * 3 + 2) (by omega) (if_neg (by omega))
      have r0 : wr.frozen? ⟨b, off + k * 3, none⟩ = false := (hcr (k * 3) (by omega)).2
      have r1 : wr.frozen? ⟨b, off + k * 3 + 1, none⟩ = false := (hcr (k * 3 + 1) (by omega)).2
      have r2 : wr.frozen? ⟨b, off + k * 3 + 2, none⟩ = false := (hcr (k * 3 + 2) (by omega)).2
      go_wp2
      exact ⟨⟨k + 1, by omega, by go_num, by simp; omega, ((ho.setCell hb1 hb2 _).setCell hb1 hb2 _).setCell hb1 hb2 _, (((hcr.set (k := k * 3) (by omega) _).set (k := k * 3 + 1) (by omega) _).set (k := k * 3 + 2) (by omega) _).congr (fun j _ => by
        by_cases e2 : j = k * 3 + 2
        · subst e2; rw [if_pos rfl, if_pos (by omega)]; omega
        rw [if_neg e2]
        by_cases e1 : j = k * 3 + 1
        · subst e1; rw [if_pos rfl, if_pos (by omega)]; omega
        rw [if_neg e1]
        by_cases e0 : j = k * 3
        · subst e0; rw [if_pos rfl, if_pos (by omega)]; omega
        rw [if_neg e0]
        by_cases hlt : j < k * 3
        · rw [if_pos hlt, if_pos (by omega)]
        · rw [if_neg hlt, if_neg (by omega)])⟩, by simp [intOf]; omega⟩
    · obtain rfl : k = n := by omega
      go_wp2
      go_ret
      exact ⟨rfl, ho, fun _ => ⟨b, off, rfl, hb1, hb2, hcr.congr (fun j hj => by rw [if_pos hj])⟩⟩
end Go.Proofs.YtkpkjcmoldkmmaaGreat
