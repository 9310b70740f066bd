/- CoolAll: the model's and the program's. -/
import Derived.Test.YtognfnfbmbfidaaVr
import Derived.Lib.MinMax
namespace Go.Proofs.Ytognfnfbmbfidaa
open Go.RowKit

def coolF (n : Nat) (f : Nat → Int) (j : Nat) : Int := if heatB n f = true then f j / 2 else f j
theorem coolF_no {n : Nat} {f : Nat → Int} (h : heatB n f = false) (j : Nat) : coolF n f j = f j := by simp [coolF, h]
def coolTo (f : Nat → Int) (k j : Nat) : Int := if j < k then f j / 2 else f j
theorem coolTo_step (f : Nat → Int) (k j : Nat) : (if j = k then f k / 2 else coolTo f k j) = coolTo f (k + 1) j := by
  unfold coolTo
  by_cases e : j = k
  · subst e; rw [if_pos rfl, if_pos (by omega)]
  · rw [if_neg e]
    by_cases hlt : j < k
    · rw [if_pos hlt, if_pos (by omega)]
    · rw [if_neg hlt, if_neg (by omega)]

set_option maxHeartbeats 1600000 in
set_option maxRecDepth 100000 in
theorem specCool_any (A : Option Addr) (n cap : Nat) (f : Nat → Int) (w : World) (hn : n ≤ 1048576) (hr : IntsAt w w.heap.size A n f) :
    Calls Try.prog 35 #[.slice A n cap] w (RetI w n (coolF n f) (mkB (heatB n f))) := by
  go_enter Try.func35, Try.ntmps35
  go_wp2_with fail
  refine (l01Copy_any A n cap f _ hn hr).mono ?_; rintro e w1 h1
  obtain ⟨G, gc, rfl, hO, b1⟩ := copy_own h1
  have r1 := hr.below b1 (Nat.le_refl _)
  clear h1 hr
  have HO := Lib.hid hO
  clear hO
  go_wp2_with fail
  refine (specHeat_keep A n cap _ f _ hn r1).mono ?_; rintro e w2 ⟨rfl, hb2⟩
  have b2 := b1.trans (hb2.mono b1.size)
  have HO := Lib.hid (HO.out.below hb2 (Nat.le_refl _))
  have hs2 := hb2.size
  clear hb2 r1 b1
  cases hh : heatB n f with
  | false =>
    go_wp2
    go_ret2
    rw [hh]
    exact ⟨_, _, rfl, (HO.out.more (Nat.le_refl _) hs2).congr (fun j _ => (coolF_no hh j).symm), b2⟩
  | true =>
    have h8 := heatB_len hh
    subst h8
    obtain ⟨g, go', rfl, hg1, hg2, hgc⟩ := HO.out (by omega)
    have hgc : CellsI w2 g go' 8 f := hgc
    have hg3 : g < w2.heap.size := by omega
    clear HO
    go_wp2
    go_loopw [5] (fun i wr => ∃ k : Nat, k ≤ 8 ∧ i = .int .i64 k ∧ Below w.heap.size w wr ∧ CellsI wr g go' 8 (coolTo f k) ∧ g < wr.heap.size) (fun i _ => 8 - (intOf i).toNat)
    case atStart => exact ⟨0, Nat.zero_le _, rfl, b2, hgc.congr (fun j _ => by simp [coolTo]), hg3⟩
    case round =>
      obtain ⟨k, hk, rfl, hb, hc, hg⟩ := hrel
      by_cases hkn : k < 8
      · have hkz : (k : Int) < 8 := by omega
        have d0 : wr.cell? ⟨g, go' + k, none⟩ = some (.int .i64 (f k)) := hc.at_ hkn (by unfold coolTo; rw [if_neg (by omega)])
        have d1 : wr.frozen? ⟨g, go' + k, none⟩ = false := (hc k hkn).2
        have HC := Lib.hid ((hc.set hkn (f k / 2)).congr (fun j _ => coolTo_step f k j))
        obtain ⟨fr1, fr2⟩ := heatB_get hh hkn
        clear hc hgc hh
        generalize f k = z at d0 fr1 fr2 HC
        go_wp2
        exact ⟨⟨k + 1, by omega, by go_num, hb.setCell hg1 _, HC.out, by simpa [World.setCell] using hg⟩, by simp [intOf]; omega⟩
      · obtain rfl : k = 8 := by omega
        have HO := Lib.hid (show OwnI wr w.heap.size wr.heap.size (some ⟨g, go', none⟩) 8 (coolF 8 f) from fun _ => ⟨g, go', rfl, hg1, hg, hc.congr (fun j hj => by unfold coolTo coolF; rw [if_pos hj, if_pos hh])⟩)
        have HH := Lib.hid hh
        clear hc hgc hh
        go_wp2
        go_ret2
        rw [HH.out]
        exact ⟨_, _, rfl, HO.out, hb⟩

set_option maxHeartbeats 1600000 in
set_option maxRecDepth 100000 in
theorem implCool_any (g0 o0 n cap B : Nat) (f : Nat → Int) (w : World) (hn : n ≤ 1048576) (hB : B ≤ w.heap.size) (hr : IntsAt w B (some ⟨g0, o0, none⟩) n f) :
    Calls Try.prog 27 #[.slice (some ⟨g0, o0, none⟩) n cap] w (RetI w n (coolF n f) (mkB (heatB n f))) := by
  go_enter Try.func27, Try.ntmps27
  go_wp2_with fail
  refine (heatFrom_any _ n cap B f _ hB hr).mono ?_; rintro e w1 ⟨rfl, b1⟩
  have r1 := hr.below (b1.mono hB) (Nat.le_refl _)
  have hB1 : B ≤ w1.heap.size := by have := b1.size; omega
  clear hr
  have bz := b1.alloc b1.size (.cells #[.int .i64 (heatV n f 0), .int .i64 (heatV n f 1), .int .i64 (heatV n f 2), .int .i64 (heatV n f 3), .int .i64 (heatV n f 4), .int .i64 (heatV n f 5), .int .i64 (heatV n f 6), .int .i64 (heatV n f 7)] 75)
  have hsz := b1.size
  cases hh : heatB n f with
  | false =>
    have rz := r1.below ((Below.refl B w1).alloc hB1 (.cells #[.int .i64 (heatV n f 0), .int .i64 (heatV n f 1), .int .i64 (heatV n f 2), .int .i64 (heatV n f 3), .int .i64 (heatV n f 4), .int .i64 (heatV n f 5), .int .i64 (heatV n f 6), .int .i64 (heatV n f 7)] 75)) (Nat.le_refl _)
    have hBz : B ≤ (w1.alloc (.cells #[.int .i64 (heatV n f 0), .int .i64 (heatV n f 1), .int .i64 (heatV n f 2), .int .i64 (heatV n f 3), .int .i64 (heatV n f 4), .int .i64 (heatV n f 5), .int .i64 (heatV n f 6), .int .i64 (heatV n f 7)] 75)).heap.size := by simp; omega
    clear b1 r1
    go_wp2_with fail
    generalize w1.alloc (.cells #[.int .i64 (heatV n f 0), .int .i64 (heatV n f 1), .int .i64 (heatV n f 2), .int .i64 (heatV n f 3), .int .i64 (heatV n f 4), .int .i64 (heatV n f 5), .int .i64 (heatV n f 6), .int .i64 (heatV n f 7)] 75) = wz at bz rz hBz ⊢
    refine (cloneZ_any g0 o0 n cap f _ hn (fun h0 => by obtain ⟨b, off, e, hb, _⟩ := rz h0; injection e with e; injection e with e1 e2 _; omega) (fun j hj => by obtain ⟨b, off, e, hb, hc⟩ := rz (by omega); injection e with e; injection e with e1 e2 _; subst e1 e2; exact hc j hj)).mono ?_; rintro e w2 h1
    obtain ⟨G, gc, rfl, hO, b2⟩ := copy_own h1
    have bb := bz.trans (b2.mono bz.size)
    have hl := bz.size
    clear h1 rz b2 bz
    go_wp2
    go_ret2
    rw [hh]
    exact ⟨_, _, rfl, (hO.more hl (Nat.le_refl _)).congr (fun j _ => (coolF_no hh j).symm), bb⟩
  | true =>
    have h8 := heatB_len hh
    subst h8
    have hv : ∀ j, heatV 8 f j = f j := fun j => if_pos rfl
    simp only [hv] at bz ⊢
    clear hv b1 r1
    have R0 := row8 w1 f 75
    have HH := Lib.hid hh
    clear hh
    go_wp2
    generalize w1.alloc (.cells #[.int .i64 (f 0), .int .i64 (f 1), .int .i64 (f 2), .int .i64 (f 3), .int .i64 (f 4), .int .i64 (f 5), .int .i64 (f 6), .int .i64 (f 7)] 75) = wz at bz R0 ⊢
    generalize w1.heap.size = b0 at hsz R0 ⊢
    go_loopw [16] (fun i wr => ∃ k : Nat, k ≤ 8 ∧ i = .int .i64 k ∧ Below w.heap.size w wr ∧ wr.rowIs b0 75 8 (fun j => .int .i64 (coolTo f k j))) (fun i _ => 8 - (intOf i).toNat)
    case atStart => exact ⟨0, Nat.zero_le _, rfl, bz, R0.congr (fun j _ => by simp [coolTo])⟩
    case round =>
      obtain ⟨k, hk, rfl, hb, hrow⟩ := hrel
      clear R0
      by_cases hkn : k < 8
      · have hkz : (k : Int) < 8 := by omega
        have d0 : wr.cell? ⟨b0, k, none⟩ = some (.int .i64 (f k)) := by rw [hrow.cell hkn, coolTo, if_neg (by omega)]
        have d1 : wr.frozen? ⟨b0, k, none⟩ = false := hrow.frozen _
        have HC := Lib.hid ((hrow.set k (.int .i64 (f k / 2))).congr (g := fun j => .int .i64 (coolTo f (k + 1) j)) (fun j _ => by
          rw [← coolTo_step]
          by_cases e : j = k
          · rw [if_pos e, if_pos e]
          · rw [if_neg e, if_neg e]))
        obtain ⟨fr1, fr2⟩ := heatB_get HH.out hkn
        clear hrow
        generalize f k = z at d0 fr1 fr2 HC
        go_wp2
        exact ⟨⟨k + 1, by omega, by go_num, hb.setCell hsz _, HC.out⟩, by simp [intOf]; omega⟩
      · obtain rfl : k = 8 := by omega
        have HO := Lib.hid (show OwnI wr w.heap.size wr.heap.size (some ⟨b0, 0, none⟩) 8 (coolF 8 f) from (OwnI.of_row hrow hsz hrow.lt).congr (fun j hj => by unfold coolTo coolF; rw [if_pos hj, if_pos HH.out]))
        clear hrow
        go_wp2
        go_ret2
        rw [HH.out]
        exact ⟨_, _, rfl, HO.out, hb⟩
end Go.Proofs.Ytognfnfbmbfidaa
