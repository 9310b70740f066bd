/- HotKeys: the model's and the program's. -/
import Derived.Test.YtognfnfbmbfidaaVs
import Derived.Lib.MinMax
namespace Go.Proofs.Ytognfnfbmbfidaa
open Go.RowKit

def hotM (f : Nat → Int) (x : Int) (k : Nat) : Bool := decide (x ≤ f k)
def hotO (n : Nat) (f : Nat → Int) (x : Int) : List Int := if (heatB n f && inB x 1 20) = true then keysUp (hotM f x) 8 else []
theorem hotO_no {n : Nat} {f : Nat → Int} {x : Int} (h : (heatB n f && inB x 1 20) = false) : hotO n f x = [] := by simp [hotO, h]
theorem hotO_yes {n : Nat} {f : Nat → Int} {x : Int} (h : (heatB n f && inB x 1 20) = true) : hotO n f x = keysUp (hotM f x) 8 := by simp [hotO, h]
theorem hotO_le (n : Nat) (f : Nat → Int) (x : Int) : (hotO n f x).length ≤ 8 := by
  unfold hotO
  split
  · exact keysUp_le _ 8
  · simp

set_option maxHeartbeats 1600000 in
set_option maxRecDepth 100000 in
theorem specHot_any (A : Option Addr) (n cap B : Nat) (f : Nat → Int) (x : Int) (w : World) (hn : n ≤ 1048576) (hB : B ≤ w.heap.size) (hr : IntsAt w B A n f) :
    Calls Try.prog 24 #[.slice A n cap, .int .i64 x] w (OwnsOut w (hotO n f x)) := by
  obtain ⟨i0, hi, hz0, hz1, hz2⟩ := info_parts infoInt
  have Hi := Lib.hid hi
  have Hz0 := Lib.hid hz0
  have Hz1 := Lib.hid hz1
  have Hz2 := Lib.hid hz2
  clear hi hz0 hz1 hz2
  go_enter Try.func24, Try.ntmps24
  go_wp2_with fail
  have ho0 := World.ownsRow_made (base := w.heap.size) (size := 1) (e := 3) w #[] 0 (Nat.le_refl _) (Nat.zero_le _) rfl
  have b0 := (Below.refl w.heap.size w).alloc (Nat.le_refl _) (.cells #[] 3)
  have r0 := hr.below ((Below.refl B w).alloc hB (.cells #[] 3)) (Nat.le_refl _)
  generalize w.alloc (.cells #[] 3) = w0 at ho0 b0 r0 ⊢
  refine (specHeat_any A n cap _ f _ hn r0).mono ?_; rintro e w' ⟨rfl, rfl⟩
  cases hh : heatB n f with
  | false =>
    have HO := Lib.hid (hotO_no (n := n) (f := f) (x := x) (by simp [hh]))
    clear ho0
    go_wp2
    go_ret
    rw [HO.out]
    exact OwnsOut.nil _ _ b0
  | true =>
    go_wp2_with fail
    refine (l01In_any _ _ _ _).mono ?_; rintro e w' ⟨rfl, rfl⟩
    cases hx : inB x 1 20 with
    | false =>
      have HO := Lib.hid (hotO_no (n := n) (f := f) (x := x) (by simp [hx]))
      clear ho0
      go_wp2
      go_ret
      rw [HO.out]
      exact OwnsOut.nil _ _ b0
    | true =>
      have h8 := heatB_len hh
      have HO := Lib.hid (hotO_yes (n := n) (f := f) (x := x) (by simp [hx, hh]))
      subst h8
      clear hh hx
      obtain ⟨b, off, rfl, hbB, hc⟩ := r0 (by omega)
      have hB : b < w.heap.size := by omega
      clear hr
      go_wp2
      go_loopw [5, 6] (fun v i wr => ∃ k : Nat, k ≤ 8 ∧ i = .int .i64 k ∧ wr.ownsRow w.heap.size 3 1 v (keysUp (hotM f x) k).length ((keysUp (hotM f x) k).map (.int .i64)) ∧ Below w.heap.size w wr ∧ wr.cell? ⟨b, off, none⟩ = w0.cell? ⟨b, off, none⟩ ∧ (∀ j, j < 8 → wr.cell? ⟨b, off + j, none⟩ = some (.int .i64 (f j)))) (fun _ i _ => 8 - (intOf i).toNat)
      case atStart => exact ⟨0, Nat.zero_le _, rfl, ho0, b0, rfl, hc⟩
      case round =>
        obtain ⟨k, hk, rfl, hown, hb, hsame, hcr⟩ := hrel
        have Hsame := Lib.hid hsame
        have Hcr := Lib.hid hcr
        clear hsame hc ho0 b0 r0
        by_cases hkn : k < 8
        · have hkz : (k : Int) < 8 := by omega
          have d0 : wr.cell? ⟨b, off + k, none⟩ = some (.int .i64 (f k)) := hcr k hkn
          have hle := keysUp_le (hotM f x) k
          have hs := hb.size
          clear hcr
          by_cases hM : x ≤ f k
          · have Hy := Lib.hid (keysUp_yes (M := hotM f x) (m := k) (by simpa [hotM] using hM))
            generalize f k = y at d0 hM
            go_wp2_with (at_builtin; refine wpList_append_own _ rfl _ _ 33 rfl w.heap.size 3 i0 (.int .i64 0) 1 8 Try.underlying33 Hi.out Hz0.out Hz1.out Hz2.out rfl (by decide) _ _ _ rfl (hown.alloc _) ⟨wr.heap.size, 0, none⟩ 1 1 [.int .i64 k] rfl rfl ?c1 ?c2 ?c3 ?c4 ?c5 ?_)
            case c1 =>
              intro j u hj
              match j, hj with
              | 0, hj => simp at hj; subst hj; simp [Addr.add]
            case c2 => intro u hu; simp at hu; subst hu; rfl
            case c3 => unfold maxLen; omega
            case c4 => omega
            case c5 => simp; omega
            intro v' w1 hown' hgrow _
            have hb' := (hb.alloc hs (.cells #[.int .i64 k] 3)).grown hgrow (by simp; omega) (fun q hq => (hown.lt q hq).1)
            have hq : ∀ j, w1.cell? ⟨b, j, none⟩ = wr.cell? ⟨b, j, none⟩ := fun j => by
              have h1 := hb.cell (p := ⟨b, j, none⟩) hB
              have h2 := hb'.cell (p := ⟨b, j, none⟩) hB
              rw [h1, h2]
            have hown2 : w1.ownsRow w.heap.size 3 1 v' (keysUp (hotM f x) (k + 1)).length ((keysUp (hotM f x) (k + 1)).map (.int .i64)) := by rw [Hy.out]; simpa using hown'
            have HQ := Lib.hid hq
            clear hown' hgrow hown hb d0 hq
            go_wp2
            exact ⟨⟨k + 1, by omega, by go_num, hown2, hb', (HQ.out off).trans Hsame.out, fun j hj => (HQ.out _).trans (Hcr.out j hj)⟩, by simp [intOf]; omega⟩
          · have hown2 := hown
            rw [← keysUp_no (M := hotM f x) (m := k) (by simpa [hotM] using hM)] at hown2
            generalize f k = y at d0 hM
            clear hown
            go_wp2
            exact ⟨⟨k + 1, by omega, by go_num, hown2, hb, Hsame.out, Hcr.out⟩, by simp [intOf]; omega⟩
        · obtain rfl : k = 8 := by omega
          clear hcr
          go_wp2
          go_ret
          rw [HO.out]
          exact ⟨_, rfl, hown, hb⟩

theorem row8b (w : World) (t : TypeId) : (w.alloc (.cells #[.bool false, .bool false, .bool false, .bool false, .bool false, .bool false, .bool false, .bool false] t)).rowIs w.heap.size t 8 (fun _ => .bool false) :=
  ⟨_, Go.Deep.blk_alloc_new _ _, rfl, fun i hi => by
    have h8 : i = 0 ∨ i = 1 ∨ i = 2 ∨ i = 3 ∨ i = 4 ∨ i = 5 ∨ i = 6 ∨ i = 7 := by omega
    rcases h8 with rfl | rfl | rfl | rfl | rfl | rfl | rfl | rfl <;> rfl⟩
def hotTo (f : Nat → Int) (x : Int) (k j : Nat) : Bool := if j < k then hotM f x j else false

set_option maxHeartbeats 1600000 in
set_option maxRecDepth 100000 in
theorem implHot_any (A : Option Addr) (n cap B : Nat) (f : Nat → Int) (x : Int) (w : World) (hB : B ≤ w.heap.size) (hr : IntsAt w B A n f) :
    Calls Try.prog 22 #[.slice A n cap, .int .i64 x] w (OwnsOut w (hotO n f x)) := by
  go_enter Try.func22, Try.ntmps22
  go_wp2_with fail
  refine (heatFrom_any _ n cap B f _ hB hr).mono ?_; rintro e w1 ⟨rfl, b1⟩
  have bz := b1.alloc b1.size (.cells #[.int .i64 (heatV n f 0), .int .i64 (heatV n f 1), .int .i64 (heatV n f 2), .int .i64 (heatV n f 3), .int .i64 (heatV n f 4), .int .i64 (heatV n f 5), .int .i64 (heatV n f 6), .int .i64 (heatV n f 7)] 75)
  have hsz := b1.size
  cases hh : heatB n f with
  | false =>
    have HO := Lib.hid (hotO_no (n := n) (f := f) (x := x) (by simp [hh]))
    go_wp2
    go_ret
    rw [HO.out]
    exact OwnsOut.nil _ _ bz
  | true =>
    have h8 := heatB_len hh
    subst h8
    have hv : ∀ j, heatV 8 f j = f j := fun j => if_pos rfl
    simp only [hv] at bz ⊢
    clear hv b1
    go_wp2_with fail
    refine (implLevel_any _ _).mono ?_; rintro e w' ⟨rfl, rfl⟩
    cases hx : inB x 0 20 with
    | false =>
      have HO := Lib.hid (hotO_no (n := 8) (f := f) (x := x) (by
        have : inB x 1 20 = false := by
          simp only [inB, Bool.and_eq_false_iff, decide_eq_false_iff_not] at hx ⊢
          omega
        simp [this]))
      go_wp2
      go_ret
      rw [HO.out]
      exact OwnsOut.nil _ _ bz
    | true =>
      by_cases h0 : x = 0
      · have HO := Lib.hid (hotO_no (n := 8) (f := f) (x := x) (by subst h0; simp [inB]))
        subst h0
        go_wp2
        go_ret
        rw [HO.out]
        exact OwnsOut.nil _ _ bz
      · have HO := Lib.hid (hotO_yes (n := 8) (f := f) (x := x) (by
          have : inB x 1 20 = true := by
            simp only [inB, Bool.and_eq_true, decide_eq_true_eq] at hx ⊢
            omega
          simp [this, hh]))
        have R0 := row8 w1 f 75
        have HH := Lib.hid hh
        clear hh hx
        have e0 : (x == 0) = false := by simpa using h0
        have hq : (w1.alloc (.cells #[.int .i64 (f 0), .int .i64 (f 1), .int .i64 (f 2), .int .i64 (f 3), .int .i64 (f 4), .int .i64 (f 5), .int .i64 (f 6), .int .i64 (f 7)] 75)).heap.size = w1.heap.size + 1 := by simp
        go_wp2
        generalize w1.alloc (.cells #[.int .i64 (f 0), .int .i64 (f 1), .int .i64 (f 2), .int .i64 (f 3), .int .i64 (f 4), .int .i64 (f 5), .int .i64 (f 6), .int .i64 (f 7)] 75) = wz at bz R0 hq ⊢
        generalize w1.heap.size = b0 at hsz R0 hq ⊢
        have Rb := row8b wz 78
        rw [hq] at Rb
        have R1 := rowIs_below R0 ((Below.refl wz.heap.size wz).alloc (Nat.le_refl _) (.cells #[.bool false, .bool false, .bool false, .bool false, .bool false, .bool false, .bool false, .bool false] 78)) R0.lt
        have bz1 := bz.alloc bz.size (.cells #[.bool false, .bool false, .bool false, .bool false, .bool false, .bool false, .bool false, .bool false] 78)
        have hb01 : w.heap.size ≤ b0 + 1 := by omega
        clear R0 bz hq
        generalize wz.alloc (.cells #[.bool false, .bool false, .bool false, .bool false, .bool false, .bool false, .bool false, .bool false] 78) = wy at Rb R1 bz1 ⊢
        go_loopw [25] (fun i wr => ∃ k : Nat, k ≤ 8 ∧ i = .int .i64 k ∧ Below w.heap.size w wr ∧ wr.rowIs b0 75 8 (fun j => .int .i64 (f j)) ∧ wr.rowIs (b0 + 1) 78 8 (fun j => .bool (hotTo f x k j))) (fun i _ => 8 - (intOf i).toNat)
        case atStart => exact ⟨0, Nat.zero_le _, rfl, bz1, R1, Rb.congr (fun j _ => by simp [hotTo])⟩
        case round =>
          obtain ⟨k, hk, rfl, hb, hrow, hrb⟩ := hrel
          clear R1 Rb bz1
          by_cases hkn : k < 8
          · have hkz : (k : Int) < 8 := by omega
            have d0 : wr.cell? ⟨b0, k, none⟩ = some (.int .i64 (f k)) := hrow.cell hkn
            have c0 : wr.cell? ⟨b0 + 1, k, none⟩ = some (.bool false) := by rw [hrb.cell hkn, hotTo, if_neg (by omega)]
            have c1 : wr.frozen? ⟨b0 + 1, k, none⟩ = false := hrb.frozen _
            have HC := Lib.hid (show ∀ v : Bool, v = hotM f x k → (wr.setCell ⟨b0 + 1, k, none⟩ (.bool v)).rowIs (b0 + 1) 78 8 (fun j => .bool (hotTo f x (k + 1) j)) from fun v hv => (hrb.set k (.bool v)).congr (fun j _ => by
              subst hv
              unfold hotTo
              by_cases e : j = k
              · subst e; rw [if_pos rfl, if_pos (by omega)]
              · rw [if_neg e]
                by_cases hlt : j < k
                · rw [if_pos hlt, if_pos (by omega)]
                · rw [if_neg hlt, if_neg (by omega)]))
            have HR := Lib.hid (show ∀ v : Bool, (wr.setCell ⟨b0 + 1, k, none⟩ (.bool v)).rowIs b0 75 8 (fun j => .int .i64 (f j)) from fun v => hrow.of_block (Below.heap_setCell _ _ _ _ (by simp)))
            clear hrow hrb
            cases hM : hotM f x k with
            | true =>
              have hM' : x ≤ f k := by simpa [hotM] using hM
              have HC := Lib.hid (HC.out true hM.symm)
              clear hM
              generalize f k = y at d0 hM'
              go_wp2
              exact ⟨⟨k + 1, by omega, by go_num, hb.setCell hb01 _, HR.out _, HC.out⟩, by simp [intOf]; omega⟩
            | false =>
              have hM' : ¬ x ≤ f k := by simpa [hotM] using hM
              have HC := Lib.hid (HC.out false hM.symm)
              clear hM
              generalize f k = y at d0 hM'
              go_wp2
              exact ⟨⟨k + 1, by omega, by go_num, hb.setCell hb01 _, HR.out _, HC.out⟩, by simp [intOf]; omega⟩
          · obtain rfl : k = 8 := by omega
            have c0 : wr.cell? ⟨b0 + 1, 0, none⟩ = some (.bool (hotM f x 0)) := by rw [hrb.cell (by omega), hotTo, if_pos (by omega)]
            have c1 : wr.cell? ⟨b0 + 1, 1, none⟩ = some (.bool (hotM f x 1)) := by rw [hrb.cell (by omega), hotTo, if_pos (by omega)]
            have c2 : wr.cell? ⟨b0 + 1, 2, none⟩ = some (.bool (hotM f x 2)) := by rw [hrb.cell (by omega), hotTo, if_pos (by omega)]
            have c3 : wr.cell? ⟨b0 + 1, 3, none⟩ = some (.bool (hotM f x 3)) := by rw [hrb.cell (by omega), hotTo, if_pos (by omega)]
            have c4 : wr.cell? ⟨b0 + 1, 4, none⟩ = some (.bool (hotM f x 4)) := by rw [hrb.cell (by omega), hotTo, if_pos (by omega)]
            have c5 : wr.cell? ⟨b0 + 1, 5, none⟩ = some (.bool (hotM f x 5)) := by rw [hrb.cell (by omega), hotTo, if_pos (by omega)]
            have c6 : wr.cell? ⟨b0 + 1, 6, none⟩ = some (.bool (hotM f x 6)) := by rw [hrb.cell (by omega), hotTo, if_pos (by omega)]
            have c7 : wr.cell? ⟨b0 + 1, 7, none⟩ = some (.bool (hotM f x 7)) := by rw [hrb.cell (by omega), hotTo, if_pos (by omega)]
            clear hrow hrb
            go_wp2_with fail
            refine (markedKeys_any (hotM f x) _).mono ?_; rintro e w6 h6
            have H6 := OwnsOut.later h6 hb
            obtain ⟨v, rfl, h7⟩ := H6
            clear h6
            go_wp2
            go_ret
            rw [HO.out]
            exact ⟨v, rfl, h7⟩

theorem OwnsOut.ret {w w' : World} {l : List Int} {e : Ending} (h : OwnsOut w l e w') : RetI w l.length (fun j => l.getD j 0) (fun v => v) e w' := by
  obtain ⟨v, he, ho, hb⟩ := h
  obtain ⟨A, cap, rfl, hm, hO⟩ := OwnI.of_owns ho
  exact ⟨A, cap, he, hO, hb⟩
theorem specHot_ret (A : Option Addr) (n cap B : Nat) (f : Nat → Int) (x : Int) (w : World) (hn : n ≤ 1048576) (hB : B ≤ w.heap.size) (hr : IntsAt w B A n f) :
    Calls Try.prog 24 #[.slice A n cap, .int .i64 x] w (RetI w (hotO n f x).length (fun j => (hotO n f x).getD j 0) (fun v => v)) :=
  (specHot_any A n cap B f x w hn hB hr).mono fun _ _ h => h.ret
theorem implHot_ret (A : Option Addr) (n cap B : Nat) (f : Nat → Int) (x : Int) (w : World) (hB : B ≤ w.heap.size) (hr : IntsAt w B A n f) :
    Calls Try.prog 22 #[.slice A n cap, .int .i64 x] w (RetI w (hotO n f x).length (fun j => (hotO n f x).getD j 0) (fun v => v)) :=
  (implHot_any A n cap B f x w hB hr).mono fun _ _ h => h.ret
end Go.Proofs.Ytognfnfbmbfidaa
