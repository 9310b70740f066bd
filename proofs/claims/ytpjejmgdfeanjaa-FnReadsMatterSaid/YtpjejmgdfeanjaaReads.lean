/- Contracts of spec.ReadsOf and impl.ReadsOf. -/
import Derived.Test.YtpjejmgdfeanjaaWrites
namespace Go.Proofs.Ytpjejmgdfeanjaa
open Go.RowKit

/-- key j is met first by an act that is no put, among the first k acts -/
def readsTo (f : Nat → Int) : Nat → Nat → Bool
  | 0, _ => false
  | k + 1, j => if f (k * 3 + 1) == (j : Int) && !marksTo (fun _ => true) f k j then !(f (k * 3) == 1) else readsTo f k j

theorem readsTo_inv (f : Nat → Int) (j k : Nat) :
    (marksTo (wrt f) f k j = true → marksTo (fun _ => true) f k j = true) ∧ (marksTo (fun _ => true) f k j = false → readsTo f k j = false) ∧
    (marksTo (fun _ => true) f k j = true → marksTo (wrt f) f k j = false → readsTo f k j = true) := by
  induction k with
  | zero => simp [marksTo, readsTo]
  | succ k ih =>
    obtain ⟨i1, i2, i3⟩ := ih
    simp only [marksTo_succ, readsTo, wrt]
    cases hm : marksTo (fun _ => true) f k j <;> cases hw : marksTo (wrt f) f k j <;> cases hk : (f (k * 3 + 1) == (j : Int)) <;> cases h0 : (f (k * 3) == 0) <;> simp_all

theorem readsTo_spec (f : Nat → Int) (k j : Nat) : readsTo f (k + 1) j = (readsTo f k j || (f (k * 3 + 1) == (j : Int) && (!(f (k * 3) == 1) && !marksTo (wrt f) f k j))) := by
  obtain ⟨i1, i2, i3⟩ := readsTo_inv f j k
  simp only [readsTo]
  cases hm : marksTo (fun _ => true) f k j <;> cases hw : marksTo (wrt f) f k j <;> cases hk : (f (k * 3 + 1) == (j : Int)) <;> cases h0 : (f (k * 3) == 1) <;> simp_all

/-- the keys that are read -/
def readsOut (n : Nat) (f : Nat → Int) : List Int := if progOk n f = true then keysUp (readsTo f n) 8 else []
theorem readsOut_le (n : Nat) (f : Nat → Int) : (readsOut n f).length ≤ 8 := by
  unfold readsOut
  split
  · exact keysUp_le _ 8
  · exact Nat.zero_le _

/-- the model marks a key -/
theorem row_read {w : World} {g t N k y : Nat} {f : Nat → Int} (h : w.rowIs g t N (fun j => .bool (readsTo f k j))) (hy : f (k * 3 + 1) = (y : Int)) (h1 : (f (k * 3) == 1) = false) (hw : marksTo (wrt f) f k y = false) :
    (w.setCell ⟨g, y, none⟩ (.bool true)).rowIs g t N (fun j => .bool (readsTo f (k + 1) j)) :=
  (h.set y _).congr fun j _ => by
    rw [readsTo_spec, hy, h1]
    by_cases e : j = y
    · subst e; rw [if_pos rfl, hw]; simp
    · have : ((y : Int) == (j : Int)) = false := by rw [beq_eq_false_iff_ne]; omega
      rw [if_neg e, this]; simp
theorem row_noread {w : World} {g t N k y : Nat} {f : Nat → Int} (h : w.rowIs g t N (fun j => .bool (readsTo f k j))) (hy : f (k * 3 + 1) = (y : Int)) (h1 : (f (k * 3) == 1) = true ∨ marksTo (wrt f) f k y = true) :
    w.rowIs g t N (fun j => .bool (readsTo f (k + 1) j)) :=
  h.congr fun j _ => by
    rw [readsTo_spec, hy]
    by_cases e : j = y
    · subst e
      rcases h1 with h1 | h1 <;> simp [h1]
    · have : ((y : Int) == (j : Int)) = false := by rw [beq_eq_false_iff_ne]; omega
      rw [this]; simp
/-- the program sets a key that it meets for the first time -/
theorem row_first {w : World} {g t N k y : Nat} {f : Nat → Int} {v : Bool} (h : w.rowIs g t N (fun j => .bool (readsTo f k j))) (hy : f (k * 3 + 1) = (y : Int)) (hm : marksTo (fun _ => true) f k y = false) (hv : v = !(f (k * 3) == 1)) :
    (w.setCell ⟨g, y, none⟩ (.bool v)).rowIs g t N (fun j => .bool (readsTo f (k + 1) j)) :=
  (h.set y _).congr fun j _ => by
    simp only [readsTo]
    rw [hy]
    by_cases e : j = y
    · subst e; rw [if_pos rfl, hm, hv]; simp
    · have : ((y : Int) == (j : Int)) = false := by rw [beq_eq_false_iff_ne]; omega
      rw [if_neg e, this]; simp
theorem row_met {w : World} {g t N k y : Nat} {f : Nat → Int} (h : w.rowIs g t N (fun j => .bool (readsTo f k j))) (hy : f (k * 3 + 1) = (y : Int)) (hm : marksTo (fun _ => true) f k y = true) :
    w.rowIs g t N (fun j => .bool (readsTo f (k + 1) j)) :=
  h.congr fun j _ => by
    simp only [readsTo]
    rw [hy]
    by_cases e : j = y
    · subst e; rw [hm]; simp
    · have : ((y : Int) == (j : Int)) = false := by rw [beq_eq_false_iff_ne]; omega
      rw [this]; simp

theorem needsOld_get (y : Int) (w : World) : Calls Try.prog 45 #[.iface 68 (.agg #[.int .i64 y])] w fun e w' => e = .returned (.bool true) ∧ w = w' := by
  have npg := ta_yes Try.underlying68
  have nag := ta_no (t := 68) Try.underlying71 zAdd (by decide)
  go_enter Try.func45, Try.ntmps45
  go_wp2
  go_ret
  exact ⟨rfl, rfl⟩
theorem needsOld_put (y n : Int) (w : World) : Calls Try.prog 45 #[.iface 70 (.agg #[.int .i64 y, .int .i64 n])] w fun e w' => e = .returned (.bool false) ∧ w = w' := by
  have npg := ta_no (t := 70) Try.underlying68 zGet (by decide)
  have nag := ta_no (t := 70) Try.underlying71 zAdd (by decide)
  go_enter Try.func45, Try.ntmps45
  go_wp2
  go_ret
  exact ⟨rfl, rfl⟩
theorem needsOld_add (y n : Int) (w : World) : Calls Try.prog 45 #[.iface 71 (.agg #[.int .i64 y, .int .i64 n])] w fun e w' => e = .returned (.bool true) ∧ w = w' := by
  have npg := ta_no (t := 71) Try.underlying68 zGet (by decide)
  have nag := ta_yes Try.underlying71
  go_enter Try.func45, Try.ntmps45
  go_wp2
  go_ret
  exact ⟨rfl, rfl⟩

set_option maxHeartbeats 1600000 in
theorem specReadsOf_any (A : Option Addr) (n cap : Nat) (f : Nat → Int) (w : World) (h1 : IntsAt w w.heap.size A (n * 3) f) :
    Calls Try.prog 34 #[.slice A n cap] w (OwnsOut w (readsOut n f)) := by
  cases hp : progOk n f with
  | false =>
    have HF := Lib.hid (show readsOut n f = [] by simp [readsOut, hp])
    go_enter Try.func34, Try.ntmps34
    go_wp2_with fail
    refine (specProgOk_any _ _ _ f _ h1).mono ?_; rintro e w1 ⟨rfl, hb1⟩
    rw [hp]
    clear hp h1
    go_wp2
    go_ret
    rw [HF.out]
    exact OwnsOut.nil _ _ hb1
  | true =>
    have h16 := prog_len hp
    have HF := Lib.hid (show readsOut n f = keysUp (readsTo f n) 8 by simp [readsOut, hp])
    have HP := Lib.hid hp
    obtain ⟨b, off, rfl, hB, hc⟩ := h1 (by omega)
    have hmk := run_make_bools
    go_enter Try.func34, Try.ntmps34
    go_wp2_with fail
    refine (specProgOk_any _ _ _ f _ h1).mono ?_; rintro e w1 ⟨rfl, hb1⟩
    rw [hp]
    clear hp h1
    have hs1 := hb1.size
    go_wp2
    clear hmk
    go_loopw [5] (fun i wr => ∃ k : Nat, k ≤ n ∧ i = .int .i64 k ∧ Below w.heap.size w wr ∧ wr.rowIs w1.heap.size 4 8 (fun j => .bool (readsTo f k j)) ∧ wr.rowIs (w1.heap.size + 1) 4 8 (fun j => .bool (marksTo (wrt f) f k j))) (fun i _ => n - (intOf i).toNat)
    case atStart => exact ⟨0, Nat.zero_le _, rfl, (hb1.alloc hs1 _).alloc (by simp; omega) _, ((World.rowIs_made w1 (.bool false) 8 _).congr (fun j _ => by simp [readsTo])).alloc _, by
      have := World.rowIs_made (w1.alloc (.cells (madeCells #[.bool false] 8) 4)) (.bool false) 8 4
      simp only [World.size_alloc] at this
      exact this.congr (fun j _ => by simp [marksTo])⟩
    case round =>
      obtain ⟨k, hk, rfl, hb, hrow, hrow2⟩ := hrel
      by_cases hkn : k < n
      · have hkz : (k : Int) < n := by omega
        have hkr := key_range HP.out hkn
        obtain ⟨y, hy⟩ := Int.eq_ofNat_of_zero_le hkr.1
        have hg := hrow.lt
        have d1 : wr.cell? ⟨b, off + k * 3 + 1, none⟩ = some (.int .i64 (y : Int)) := by rw [← hy]; exact (hb.cell (p := ⟨b, off + k * 3 + 1, none⟩) hB).trans (hc (k * 3 + 1) (by omega))
        have d0 : wr.cell? ⟨b, off + k * 3, none⟩ = some (.int .i64 (f (k * 3))) := (hb.cell (p := ⟨b, off + k * 3, none⟩) hB).trans (hc (k * 3) (by omega))
        have hy8 : (y : Int) < 8 := by omega
        have e0 : wr.cell? ⟨w1.heap.size, y, none⟩ = some (.bool (readsTo f k y)) := hrow.cell (by omega)
        have e1 : wr.frozen? ⟨w1.heap.size, y, none⟩ = false := hrow.frozen _
        have e2 : wr.cell? ⟨w1.heap.size + 1, y, none⟩ = some (.bool (marksTo (wrt f) f k y)) := hrow2.cell (by omega)
        have e3 : wr.frozen? ⟨w1.heap.size + 1, y, none⟩ = false := hrow2.frozen _
        cases hw : marksTo (wrt f) f k y with
        | true =>
          rw [hw] at e2
          rcases kind3 HP.out hkn with h0 | h0 | h0
          · have R := Lib.hid (row_noread hrow hy (.inr hw))
            have R2 := Lib.hid (row_nomark hrow2 (wrt_get h0))
            rw [h0] at d0
            clear hc hrow hrow2 hkr hy h0 hw
            go_wp2
            exact ⟨⟨k + 1, by omega, by go_num, hb, R.out, R2.out⟩, by simp [intOf]; omega⟩
          · have R := Lib.hid (row_noread hrow hy (.inr hw))
            have R2 := Lib.hid (row_mark hrow2 (wrt_not (by omega)) hy)
            rw [h0] at d0
            clear hc hrow hrow2 hkr hy h0 hw
            go_wp2
            exact ⟨⟨k + 1, by omega, by go_num, hb.setCell (by simp; omega) _, R.out.setOther (by simp) _, R2.out⟩, by simp [intOf]; omega⟩
          · have R := Lib.hid (row_noread hrow hy (.inr hw))
            have R2 := Lib.hid (row_mark hrow2 (wrt_not (by omega)) hy)
            rw [h0] at d0
            clear hc hrow hrow2 hkr hy h0 hw
            go_wp2
            exact ⟨⟨k + 1, by omega, by go_num, hb.setCell (by simp; omega) _, R.out.setOther (by simp) _, R2.out⟩, by simp [intOf]; omega⟩
        | false =>
          rw [hw] at e2
          rcases kind3 HP.out hkn with h0 | h0 | h0
          · have R := Lib.hid (row_read hrow hy (by rw [h0]; rfl) hw)
            have R2 := Lib.hid (row_nomark hrow2 (wrt_get h0))
            rw [h0] at d0
            clear hc hrow hrow2 hkr hy h0 hw
            go_wp2
            exact ⟨⟨k + 1, by omega, by go_num, hb.setCell hs1 _, R.out, R2.out.setOther (by simp) _⟩, by simp [intOf]; omega⟩
          · have R := Lib.hid (row_noread hrow hy (.inl (by rw [h0]; rfl)))
            have R2 := Lib.hid (row_mark hrow2 (wrt_not (by omega)) hy)
            rw [h0] at d0
            clear hc hrow hrow2 hkr hy h0 hw
            go_wp2
            exact ⟨⟨k + 1, by omega, by go_num, hb.setCell (by simp; omega) _, R.out.setOther (by simp) _, R2.out⟩, by simp [intOf]; omega⟩
          · have R := Lib.hid (row_read hrow hy (by rw [h0]; rfl) hw)
            have R2 := Lib.hid (row_mark (hrow2.setOther (a := ⟨w1.heap.size, y, none⟩) (by simp) (.bool true)) (wrt_not (by omega)) hy)
            rw [h0] at d0
            clear hc hrow hrow2 hkr hy h0 hw
            go_wp2
            exact ⟨⟨k + 1, by omega, by go_num, (hb.setCell hs1 _).setCell (by simp; omega) _, R.out.setOther (by simp) _, R2.out⟩, by simp [intOf]; omega⟩
      · obtain rfl : k = n := by omega
        have hg := hrow.lt
        clear hc
        go_wp2_with fail
        refine (l01Keys_any _ _ _ _ _ hg (fun j hj => by rw [Nat.zero_add]; exact hrow.cell hj)).mono ?_; rintro e w2 hout
        obtain ⟨v, rfl, hown, hb2⟩ := hout
        go_wp2
        go_ret
        rw [HF.out]
        exact ⟨v, rfl, ownsRow_base hown hb.size, hb.trans (hb2.mono hb.size)⟩
end Go.Proofs.Ytpjejmgdfeanjaa
