/- Contract of impl.ReadsOf. -/
import Derived.Test.YtilgfcbjonalaaaDoorReads
namespace Go.Proofs.YtilgfcbjonalaaaDoor
open Go.RowKit

/-- the three cells of the act's own box -/
def BoxIs (w : World) (g : Nat) (a b c : Int) : Prop := w.cell? ⟨g, 0, none⟩ = some (.int .i64 a) ∧ w.cell? ⟨g, 1, none⟩ = some (.int .i64 b) ∧ w.cell? ⟨g, 2, none⟩ = some (.int .i64 c)

set_option maxHeartbeats 1600000 in
theorem implReadsOf_any (A : Option Addr) (n cap : Nat) (f : Nat → Int) (w : World) (h1 : IntsAt w w.heap.size A (n * 3) f) :
    Calls Tryd.prog 19 #[.slice A n cap] w (OwnsOut w (readsOut n f)) := by
  cases hp : progOk n f with
  | false =>
    have HF := Lib.hid (show readsOut n f = [] by simp [readsOut, hp])
    go_enter Tryd.func19, Tryd.ntmps19
    go_wp2_with fail
    refine (implProgOk_any _ _ _ f _ h1).mono ?_; rintro e w1 ⟨rfl, hb1⟩
    rw [hp]
    clear hp h1
    go_wp2
    go_ret
    rw [HF.out]
    exact OwnsOut.nil _ _ hb1
  | true =>
    have h16 := prog_len hp
    have HF := Lib.hid (show readsOut n f = keysUp (readsTo f n) 8 by simp [readsOut, hp])
    have HP := Lib.hid hp
    obtain ⟨b, off, rfl, hB, hc⟩ := h1 (by omega)
    go_enter Tryd.func19, Tryd.ntmps19
    go_wp2_with fail
    refine (implProgOk_any _ _ _ f _ h1).mono ?_; rintro e w1 ⟨rfl, hb1⟩
    rw [hp]
    clear hp h1
    have hs1 := hb1.size
    go_wp2
    go_loopw [12] (fun i wr => ∃ k : Nat, k ≤ n ∧ i = .int .i64 k ∧ Below w.heap.size w wr ∧ wr.rowIs w1.heap.size 83 8 (fun j => .bool (marksTo (fun _ => true) f k j)) ∧ wr.rowIs (w1.heap.size + 1) 83 8 (fun j => .bool (readsTo f k j))) (fun i _ => n - (intOf i).toNat)
    case atStart =>
      have h8 : ∀ (i : Nat), i < 8 → i = 0 ∨ i = 1 ∨ i = 2 ∨ i = 3 ∨ i = 4 ∨ i = 5 ∨ i = 6 ∨ i = 7 := fun i hi => by omega
      refine ⟨0, Nat.zero_le _, rfl, (hb1.alloc hs1 _).alloc (by simp; omega) _, (World.rowIs_alloc w1 _ _ _ (fun i hi => ?_)).alloc _, ?_⟩
      · rcases h8 i (by simpa using hi) with rfl | rfl | rfl | rfl | rfl | rfl | rfl | rfl <;> simp [marksTo]
      · have := World.rowIs_alloc (w1.alloc (.cells #[.bool false, .bool false, .bool false, .bool false, .bool false, .bool false, .bool false, .bool false] 83)) #[.bool false, .bool false, .bool false, .bool false, .bool false, .bool false, .bool false, .bool false] 83 (fun j => .bool (readsTo f 0 j)) (fun i hi => by
          rcases h8 i (by simpa using hi) with rfl | rfl | rfl | rfl | rfl | rfl | rfl | rfl <;> simp [readsTo])
        simpa using this
    case round =>
      obtain ⟨k, hk, rfl, hb, hrow, hrow2⟩ := hrel
      by_cases hkn : k < n
      · have hkz : (k : Int) < n := by omega
        have hkr := key_range HP.out hkn
        obtain ⟨y, hy⟩ := Int.eq_ofNat_of_zero_le hkr.1
        have hg := hrow.lt
        have hg2 := hrow2.lt
        have hs := hb.size
        have d0 : wr.cell? ⟨b, off + k * 3, none⟩ = some (.int .i64 (f (k * 3))) := (hb.cell (p := ⟨b, off + k * 3, none⟩) hB).trans (hc (k * 3) (by omega))
        have d1 : wr.cell? ⟨b, off + k * 3 + 1, none⟩ = some (.int .i64 (y : Int)) := by rw [← hy]; exact (hb.cell (p := ⟨b, off + k * 3 + 1, none⟩) hB).trans (hc (k * 3 + 1) (by omega))
        have d2 : wr.cell? ⟨b, off + k * 3 + 2, none⟩ = some (.int .i64 (f (k * 3 + 2))) := (hb.cell (p := ⟨b, off + k * 3 + 2, none⟩) hB).trans (hc (k * 3 + 2) (by omega))
        have hy8 : (y : Int) < 8 := by omega
        have e0 : wr.cell? ⟨w1.heap.size, y, none⟩ = some (.bool (marksTo (fun _ => true) f k y)) := hrow.cell (by omega)
        have e1 : wr.frozen? ⟨w1.heap.size, y, none⟩ = false := hrow.frozen _
        have e2 : wr.cell? ⟨w1.heap.size + 1, y, none⟩ = some (.bool (readsTo f k y)) := hrow2.cell (by omega)
        have e3 : wr.frozen? ⟨w1.heap.size + 1, y, none⟩ = false := hrow2.frozen _
        have HR := Lib.hid hrow
        have HR2 := Lib.hid hrow2
        have HY := Lib.hid hy
        have hH1 : ¬ w1.heap.size + 1 = wr.heap.size := by omega
        cases hm : marksTo (fun _ => true) f k y with
        | true =>
          rw [hm] at e0
          have R := Lib.hid (row_mark hrow (P := fun _ => true) rfl hy)
          have R2 := Lib.hid (row_met hrow2 hy hm)
          clear hc hrow hrow2 hkr hy hm
          go_wp2
          exact ⟨⟨k + 1, by omega, by go_num, (hb.setCell hs1 _).alloc (by simpa [World.setCell] using hs) _, R.out.alloc _, (R2.out.setOther (by simp) _).alloc _⟩, by simp [intOf]; omega⟩
        | false =>
          rw [hm] at e0
          have HM := Lib.hid hm
          rcases kind3 HP.out hkn with h0 | h0 | h0
          · have HV := Lib.hid (show true = !(f (k * 3) == 1) by rw [h0]; rfl)
            rw [h0] at d0
            clear hc hrow hrow2 hkr hy hm h0
            go_wp2_with fail
            go_region_held3 (fun w' => w'.cell? ⟨wr.heap.size, 0, none⟩ = some (.int .i64 0) ∧ w'.cell? ⟨wr.heap.size, 1, none⟩ = some (.int .i64 (y : Int)) ∧ w'.cell? ⟨wr.heap.size, 2, none⟩ = some (.int .i64 (f (k * 3 + 2)))) (go_keep) (first | (go_at_call 51; refine (actionOf_get _ _ _).mono ?_; rintro e w2 ⟨rfl, hb2⟩; obtain ⟨hc2, hf2⟩ := bcell hb2) | (go_at_call 61; refine (needsOld_get _ _).mono ?_; rintro e w' ⟨rfl, rfl⟩))
            rename_i hH
            obtain ⟨_, g1, _⟩ := hH
            obtain ⟨hc2, hf2⟩ := bcell hb2
            have hz2 : wr.heap.size < w2.heap.size := by have := hb2.size; simp [World.drew] at this; omega
            have RA := rowIs_below (HR.out.alloc _).drew hb2 (by simp [World.drew]; omega)
            have RB := rowIs_below (HR2.out.alloc _).drew hb2 (by simp [World.drew]; omega)
            have RA2 := Lib.hid (row_mark (RA.setOther (a := ⟨w1.heap.size + 1, y, none⟩) (by simp) (.bool true)) (P := fun _ => true) rfl HY.out)
            have RB2 := Lib.hid ((row_first RB HY.out HM.out HV.out).setOther (a := ⟨w1.heap.size, y, none⟩) (by simp) (.bool true))
            have hb3 := ((hb.alloc hs _).drew.trans (hb2.mono (by simp [World.drew]; omega)))
            clear RA RB
            go_wp2
            exact ⟨⟨k + 1, by omega, by go_num, (hb3.setCell (by simp; omega) _).setCell hs1 _, RA2.out, RB2.out⟩, by simp [intOf]; omega⟩
          · have HV := Lib.hid (show false = !(f (k * 3) == 1) by rw [h0]; rfl)
            rw [h0] at d0
            clear hc hrow hrow2 hkr hy hm h0
            go_wp2_with fail
            go_region_held3 (fun w' => w'.cell? ⟨wr.heap.size, 0, none⟩ = some (.int .i64 1) ∧ w'.cell? ⟨wr.heap.size, 1, none⟩ = some (.int .i64 (y : Int)) ∧ w'.cell? ⟨wr.heap.size, 2, none⟩ = some (.int .i64 (f (k * 3 + 2)))) (go_keep) (first | (go_at_call 51; refine (actionOf_put _ _ _).mono ?_; rintro e w2 ⟨rfl, hb2⟩; obtain ⟨hc2, hf2⟩ := bcell hb2) | (go_at_call 61; refine (needsOld_put _ _ _).mono ?_; rintro e w' ⟨rfl, rfl⟩))
            rename_i hH
            obtain ⟨_, g1, _⟩ := hH
            obtain ⟨hc2, hf2⟩ := bcell hb2
            have hz2 : wr.heap.size < w2.heap.size := by have := hb2.size; simp [World.drew] at this; omega
            have RA := rowIs_below (HR.out.alloc _).drew hb2 (by simp [World.drew]; omega)
            have RB := rowIs_below (HR2.out.alloc _).drew hb2 (by simp [World.drew]; omega)
            have RA2 := Lib.hid (row_mark (RA.setOther (a := ⟨w1.heap.size + 1, y, none⟩) (by simp) (.bool false)) (P := fun _ => true) rfl HY.out)
            have RB2 := Lib.hid ((row_first RB HY.out HM.out HV.out).setOther (a := ⟨w1.heap.size, y, none⟩) (by simp) (.bool true))
            have hb3 := ((hb.alloc hs _).drew.trans (hb2.mono (by simp [World.drew]; omega)))
            clear RA RB
            go_wp2
            exact ⟨⟨k + 1, by omega, by go_num, (hb3.setCell (by simp; omega) _).setCell hs1 _, RA2.out, RB2.out⟩, by simp [intOf]; omega⟩
          · have HV := Lib.hid (show true = !(f (k * 3) == 1) by rw [h0]; rfl)
            rw [h0] at d0
            clear hc hrow hrow2 hkr hy hm h0
            go_wp2_with fail
            go_region_held3 (fun w' => w'.cell? ⟨wr.heap.size, 0, none⟩ = some (.int .i64 2) ∧ w'.cell? ⟨wr.heap.size, 1, none⟩ = some (.int .i64 (y : Int)) ∧ w'.cell? ⟨wr.heap.size, 2, none⟩ = some (.int .i64 (f (k * 3 + 2)))) (go_keep) (first | (go_at_call 51; refine (actionOf_add _ _ _).mono ?_; rintro e w2 ⟨rfl, hb2⟩; obtain ⟨hc2, hf2⟩ := bcell hb2) | (go_at_call 61; refine (needsOld_add _ _ _).mono ?_; rintro e w' ⟨rfl, rfl⟩))
            rename_i hH
            obtain ⟨_, g1, _⟩ := hH
            obtain ⟨hc2, hf2⟩ := bcell hb2
            have hz2 : wr.heap.size < w2.heap.size := by have := hb2.size; simp [World.drew] at this; omega
            have RA := rowIs_below (HR.out.alloc _).drew hb2 (by simp [World.drew]; omega)
            have RB := rowIs_below (HR2.out.alloc _).drew hb2 (by simp [World.drew]; omega)
            have RA2 := Lib.hid (row_mark (RA.setOther (a := ⟨w1.heap.size + 1, y, none⟩) (by simp) (.bool true)) (P := fun _ => true) rfl HY.out)
            have RB2 := Lib.hid ((row_first RB HY.out HM.out HV.out).setOther (a := ⟨w1.heap.size, y, none⟩) (by simp) (.bool true))
            have hb3 := ((hb.alloc hs _).drew.trans (hb2.mono (by simp [World.drew]; omega)))
            clear RA RB
            go_wp2
            exact ⟨⟨k + 1, by omega, by go_num, (hb3.setCell (by simp; omega) _).setCell hs1 _, RA2.out, RB2.out⟩, by simp [intOf]; omega⟩
      · obtain rfl : k = n := by omega
        have hg := hrow2.lt
        have c0 : wr.cell? ⟨w1.heap.size + 1, 0, none⟩ = some (.bool (readsTo f k 0)) := hrow2.cell (by omega)
        have c1 : wr.cell? ⟨w1.heap.size + 1, 1, none⟩ = some (.bool (readsTo f k 1)) := hrow2.cell (by omega)
        have c2 : wr.cell? ⟨w1.heap.size + 1, 2, none⟩ = some (.bool (readsTo f k 2)) := hrow2.cell (by omega)
        have c3 : wr.cell? ⟨w1.heap.size + 1, 3, none⟩ = some (.bool (readsTo f k 3)) := hrow2.cell (by omega)
        have c4 : wr.cell? ⟨w1.heap.size + 1, 4, none⟩ = some (.bool (readsTo f k 4)) := hrow2.cell (by omega)
        have c5 : wr.cell? ⟨w1.heap.size + 1, 5, none⟩ = some (.bool (readsTo f k 5)) := hrow2.cell (by omega)
        have c6 : wr.cell? ⟨w1.heap.size + 1, 6, none⟩ = some (.bool (readsTo f k 6)) := hrow2.cell (by omega)
        have c7 : wr.cell? ⟨w1.heap.size + 1, 7, none⟩ = some (.bool (readsTo f k 7)) := hrow2.cell (by omega)
        clear hc hrow hrow2
        go_wp2_with fail
        refine (markedKeys_any _ _).mono ?_; rintro e w2 hout
        obtain ⟨v, rfl, hown, hb2⟩ := hout
        go_wp2
        go_ret
        rw [HF.out]
        exact ⟨v, rfl, ownsRow_base hown hb.size, hb.trans (hb2.mono hb.size)⟩
end Go.Proofs.YtilgfcbjonalaaaDoor
