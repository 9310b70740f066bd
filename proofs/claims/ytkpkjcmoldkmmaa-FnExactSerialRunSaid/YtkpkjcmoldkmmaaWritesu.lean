/- Contracts of spec.WritesOf and impl.WritesOf. -/
import Derived.Test.YtkpkjcmoldkmmaaKeysu
namespace Go.Proofs.Ytkpkjcmoldkmmaa
open Go.RowKit

/-- the acts that write -/
def wrt (f : Nat → Int) (i : Nat) : Bool := !(f (i * 3) == 0)
theorem wrt_get {f : Nat → Int} {i : Nat} (h : f (i * 3) = 0) : wrt f i = false := by simp [wrt, h]
theorem wrt_not {f : Nat → Int} {i : Nat} (h : ¬ f (i * 3) = 0) : wrt f i = true := by simp [wrt, h]

theorem writes_get (y : Int) (w : World) : Calls Try.prog 123 #[.iface 169 (.agg #[.int .i64 y])] w fun e w' => e = .returned (.bool false) ∧ w = w' := by
  have npg := ta_no (t := 169) Try.underlying171 zPut (by decide)
  have nag := ta_no (t := 169) Try.underlying172 zAdd (by decide)
  go_enter Try.func123, Try.ntmps123
  go_wp2
  go_ret
  exact ⟨rfl, rfl⟩
theorem writes_put (y n : Int) (w : World) : Calls Try.prog 123 #[.iface 171 (.agg #[.int .i64 y, .int .i64 n])] w fun e w' => e = .returned (.bool true) ∧ w = w' := by
  have npg := ta_yes Try.underlying171
  have nag := ta_no (t := 171) Try.underlying172 zAdd (by decide)
  go_enter Try.func123, Try.ntmps123
  go_wp2
  go_ret
  exact ⟨rfl, rfl⟩
theorem writes_add (y n : Int) (w : World) : Calls Try.prog 123 #[.iface 172 (.agg #[.int .i64 y, .int .i64 n])] w fun e w' => e = .returned (.bool true) ∧ w = w' := by
  have npg := ta_no (t := 172) Try.underlying171 zPut (by decide)
  have nag := ta_yes Try.underlying172
  go_enter Try.func123, Try.ntmps123
  go_wp2
  go_ret
  exact ⟨rfl, rfl⟩

theorem kind3 {n i : Nat} {f : Nat → Int} (h : progOk n f = true) (hi : i < n) : f (i * 3) = 0 ∨ f (i * 3) = 1 ∨ f (i * 3) = 2 := by
  have := kind_range h hi
  omega

set_option maxHeartbeats 800000 in
theorem specWritesOf_any (A : Option Addr) (n cap : Nat) (f : Nat → Int) (w : World) (h1 : IntsAt w w.heap.size A (n * 3) f) :
    Calls Try.prog 75 #[.slice A n cap] w (OwnsOut w (keysOut (wrt f) n f)) := by
  cases hp : progOk n f with
  | false =>
    have HF := Lib.hid (show keysOut (wrt f) n f = [] by simp [keysOut, hp])
    go_enter Try.func75, Try.ntmps75
    go_wp2_with fail
    refine (specProgOk_any _ _ _ f _ h1).mono ?_; rintro e w1 ⟨rfl, hb1⟩
    rw [hp]
    clear hp h1
    go_wp2
    go_ret
    rw [HF.out]
    exact OwnsOut.nil _ _ hb1
  | true =>
    have h16 := prog_len hp
    have HF := Lib.hid (show keysOut (wrt f) n f = keysUp (marksTo (wrt f) f n) 8 by simp [keysOut, hp])
    have HP := Lib.hid hp
    obtain ⟨b, off, rfl, hB, hc⟩ := h1 (by omega)
    have hmk := run_make_bools
    go_enter Try.func75, Try.ntmps75
    go_wp2_with fail
    refine (specProgOk_any _ _ _ f _ h1).mono ?_; rintro e w1 ⟨rfl, hb1⟩
    rw [hp]
    clear hp h1
    have hs1 := hb1.size
    go_wp2
    clear hmk
    go_loopw [4] (fun i wr => ∃ k : Nat, k ≤ n ∧ i = .int .i64 k ∧ Below w.heap.size w wr ∧ wr.rowIs w1.heap.size 4 8 (fun j => .bool (marksTo (wrt f) f k j))) (fun i _ => n - (intOf i).toNat)
    case atStart => exact ⟨0, Nat.zero_le _, rfl, hb1.alloc hs1 _, (World.rowIs_made w1 (.bool false) 8 _).congr (fun j _ => by simp [marksTo])⟩
    case round =>
      obtain ⟨k, hk, rfl, hb, hrow⟩ := hrel
      by_cases hkn : k < n
      · have hkz : (k : Int) < n := by omega
        have hkr := key_range HP.out hkn
        obtain ⟨y, hy⟩ := Int.eq_ofNat_of_zero_le hkr.1
        have d1 : wr.cell? ⟨b, off + k * 3 + 1, none⟩ = some (.int .i64 (y : Int)) := by rw [← hy]; exact (hb.cell (p := ⟨b, off + k * 3 + 1, none⟩) hB).trans (hc (k * 3 + 1) (by omega))
        have d0 : wr.cell? ⟨b, off + k * 3, none⟩ = some (.int .i64 (f (k * 3))) := (hb.cell (p := ⟨b, off + k * 3, none⟩) hB).trans (hc (k * 3) (by omega))
        have hy8 : (y : Int) < 8 := by omega
        by_cases h0 : f (k * 3) = 0
        · have R := Lib.hid (row_nomark hrow (wrt_get h0))
          rw [h0] at d0
          clear hc hrow hkr hy h0
          go_wp2
          exact ⟨⟨k + 1, by omega, by go_num, hb, R.out⟩, by simp [intOf]; omega⟩
        · have e0 : wr.cell? ⟨w1.heap.size, y, none⟩ = some (.bool (marksTo (wrt f) f k y)) := hrow.cell (by omega)
          have e1 : wr.frozen? ⟨w1.heap.size, y, none⟩ = false := hrow.frozen _
          have R := Lib.hid (row_mark hrow (wrt_not h0) hy)
          have h00 : 0 < f (k * 3) := by have := kind3 HP.out hkn; omega
          clear hc hrow hkr hy h0
          go_wp2
          exact ⟨⟨k + 1, by omega, by go_num, hb.setCell hs1 _, R.out⟩, by simp [intOf]; omega⟩
      · obtain rfl : k = n := by omega
        have hg := hrow.lt
        clear hc
        go_wp2_with fail
        refine (l01Keys_any _ _ _ _ _ hg (fun j hj => by rw [Nat.zero_add]; exact hrow.cell hj)).mono ?_; rintro e w2 hout
        obtain ⟨v, rfl, hown, hb2⟩ := hout
        go_wp2
        go_ret
        rw [HF.out]
        exact ⟨v, rfl, ownsRow_base hown hb.size, hb.trans (hb2.mono hb.size)⟩

set_option maxHeartbeats 800000 in
theorem implWritesOf_any (A : Option Addr) (n cap : Nat) (f : Nat → Int) (w : World) (h1 : IntsAt w w.heap.size A (n * 3) f) :
    Calls Try.prog 86 #[.slice A n cap] w (OwnsOut w (keysOut (wrt f) n f)) := by
  cases hp : progOk n f with
  | false =>
    have HF := Lib.hid (show keysOut (wrt f) n f = [] by simp [keysOut, hp])
    go_enter Try.func86, Try.ntmps86
    go_wp2_with fail
    refine (implProgOk_any _ _ _ f _ h1).mono ?_; rintro e w1 ⟨rfl, hb1⟩
    rw [hp]
    clear hp h1
    go_wp2
    go_ret
    rw [HF.out]
    exact OwnsOut.nil _ _ hb1
  | true =>
    have h16 := prog_len hp
    have HF := Lib.hid (show keysOut (wrt f) n f = keysUp (marksTo (wrt f) f n) 8 by simp [keysOut, hp])
    have HP := Lib.hid hp
    obtain ⟨b, off, rfl, hB, hc⟩ := h1 (by omega)
    go_enter Try.func86, Try.ntmps86
    go_wp2_with fail
    refine (implProgOk_any _ _ _ f _ h1).mono ?_; rintro e w1 ⟨rfl, hb1⟩
    rw [hp]
    clear hp h1
    have hs1 := hb1.size
    go_wp2
    go_loopw [11] (fun i wr => ∃ k : Nat, k ≤ n ∧ i = .int .i64 k ∧ Below w.heap.size w wr ∧ wr.rowIs w1.heap.size 146 8 (fun j => .bool (marksTo (wrt f) f k j))) (fun i _ => n - (intOf i).toNat)
    case atStart => exact ⟨0, Nat.zero_le _, rfl, hb1.alloc hs1 _, World.rowIs_alloc w1 _ _ _ (fun i hi => by
      have h8 : i = 0 ∨ i = 1 ∨ i = 2 ∨ i = 3 ∨ i = 4 ∨ i = 5 ∨ i = 6 ∨ i = 7 := by simp at hi; omega
      rcases h8 with rfl | rfl | rfl | rfl | rfl | rfl | rfl | rfl <;> simp [marksTo])⟩
    case round =>
      obtain ⟨k, hk, rfl, hb, hrow⟩ := hrel
      by_cases hkn : k < n
      · have hkz : (k : Int) < n := by omega
        have hkr := key_range HP.out hkn
        obtain ⟨y, hy⟩ := Int.eq_ofNat_of_zero_le hkr.1
        have hg := hrow.lt
        have hs := hb.size
        have d0 : wr.cell? ⟨b, off + k * 3, none⟩ = some (.int .i64 (f (k * 3))) := (hb.cell (p := ⟨b, off + k * 3, none⟩) hB).trans (hc (k * 3) (by omega))
        have d1 : wr.cell? ⟨b, off + k * 3 + 1, none⟩ = some (.int .i64 (y : Int)) := by rw [← hy]; exact (hb.cell (p := ⟨b, off + k * 3 + 1, none⟩) hB).trans (hc (k * 3 + 1) (by omega))
        have d2 : wr.cell? ⟨b, off + k * 3 + 2, none⟩ = some (.int .i64 (f (k * 3 + 2))) := (hb.cell (p := ⟨b, off + k * 3 + 2, none⟩) hB).trans (hc (k * 3 + 2) (by omega))
        have hy8 : (y : Int) < 8 := by omega
        rcases kind3 HP.out hkn with h0 | h0 | h0
        · have HR := Lib.hid (row_nomark hrow (wrt_get h0))
          rw [h0] at d0
          clear hc hrow hkr hy h0
          go_wp2_with fail
          refine (actionOf_get _ _ _).mono ?_; rintro e w2 ⟨rfl, hb2⟩
          go_wp2_with fail
          refine (writes_get _ _).mono ?_; rintro e w' ⟨rfl, rfl⟩
          go_wp2
          have hb3 := (hb.alloc hs _).trans (hb2.mono (by simp; omega))
          exact ⟨⟨k + 1, by omega, by go_num, hb3, rowIs_below (HR.out.alloc _) hb2 (by simp; omega)⟩, by simp [intOf]; omega⟩
        · have HR := Lib.hid hrow
          have HW := Lib.hid (wrt_not (f := f) (i := k) (by omega))
          have HY := Lib.hid hy
          rw [h0] at d0
          clear hc hrow hkr hy h0
          go_wp2_with fail
          refine (actionOf_put _ _ _).mono ?_; rintro e w2 ⟨rfl, hb2⟩
          have hrow2 := rowIs_below (HR.out.alloc _) hb2 (by simp; omega)
          have hz2 := hb2.size
          simp at hz2
          have hz3 : wr.heap.size < w2.heap.size := by omega
          obtain ⟨hc2, hf2⟩ := bcell hb2
          have e0 : wr.cell? ⟨w1.heap.size, y, none⟩ = some (.bool (marksTo (wrt f) f k y)) := HR.out.cell (by omega)
          have e1 : wr.frozen? ⟨w1.heap.size, y, none⟩ = false := HR.out.frozen _
          have HR2 := Lib.hid (row_mark hrow2 HW.out HY.out)
          have hb3 := (hb.alloc hs _).trans (hb2.mono (by simp; omega))
          clear hrow2
          go_wp2_with fail
          refine (writes_put _ _ _).mono ?_; rintro e w' ⟨rfl, rfl⟩
          go_wp2
          exact ⟨⟨k + 1, by omega, by go_num, hb3.setCell hs1 _, HR2.out⟩, by simp [intOf]; omega⟩
        · have HR := Lib.hid hrow
          have HW := Lib.hid (wrt_not (f := f) (i := k) (by omega))
          have HY := Lib.hid hy
          rw [h0] at d0
          clear hc hrow hkr hy h0
          go_wp2_with fail
          refine (actionOf_add _ _ _).mono ?_; rintro e w2 ⟨rfl, hb2⟩
          have hrow2 := rowIs_below (HR.out.alloc _) hb2 (by simp; omega)
          have hz2 := hb2.size
          simp at hz2
          have hz3 : wr.heap.size < w2.heap.size := by omega
          obtain ⟨hc2, hf2⟩ := bcell hb2
          have e0 : wr.cell? ⟨w1.heap.size, y, none⟩ = some (.bool (marksTo (wrt f) f k y)) := HR.out.cell (by omega)
          have e1 : wr.frozen? ⟨w1.heap.size, y, none⟩ = false := HR.out.frozen _
          have HR2 := Lib.hid (row_mark hrow2 HW.out HY.out)
          have hb3 := (hb.alloc hs _).trans (hb2.mono (by simp; omega))
          clear hrow2
          go_wp2_with fail
          refine (writes_add _ _ _).mono ?_; rintro e w' ⟨rfl, rfl⟩
          go_wp2
          exact ⟨⟨k + 1, by omega, by go_num, hb3.setCell hs1 _, HR2.out⟩, by simp [intOf]; omega⟩
      · obtain rfl : k = n := by omega
        have hg := hrow.lt
        have c0 : wr.cell? ⟨w1.heap.size, 0, none⟩ = some (.bool (marksTo (wrt f) f k 0)) := hrow.cell (by omega)
        have c1 : wr.cell? ⟨w1.heap.size, 1, none⟩ = some (.bool (marksTo (wrt f) f k 1)) := hrow.cell (by omega)
        have c2 : wr.cell? ⟨w1.heap.size, 2, none⟩ = some (.bool (marksTo (wrt f) f k 2)) := hrow.cell (by omega)
        have c3 : wr.cell? ⟨w1.heap.size, 3, none⟩ = some (.bool (marksTo (wrt f) f k 3)) := hrow.cell (by omega)
        have c4 : wr.cell? ⟨w1.heap.size, 4, none⟩ = some (.bool (marksTo (wrt f) f k 4)) := hrow.cell (by omega)
        have c5 : wr.cell? ⟨w1.heap.size, 5, none⟩ = some (.bool (marksTo (wrt f) f k 5)) := hrow.cell (by omega)
        have c6 : wr.cell? ⟨w1.heap.size, 6, none⟩ = some (.bool (marksTo (wrt f) f k 6)) := hrow.cell (by omega)
        have c7 : wr.cell? ⟨w1.heap.size, 7, none⟩ = some (.bool (marksTo (wrt f) f k 7)) := hrow.cell (by omega)
        clear hc hrow
        go_wp2_with fail
        refine (markedKeys_any _ _).mono ?_; rintro e w2 hout
        obtain ⟨v, rfl, hown, hb2⟩ := hout
        go_wp2
        go_ret
        rw [HF.out]
        exact ⟨v, rfl, ownsRow_base hown hb.size, hb.trans (hb2.mono hb.size)⟩
end Go.Proofs.Ytkpkjcmoldkmmaa
