/- WarmKey: the model's and the program's. -/
import Derived.Test.YtognfnfbmbfidaaVl
import Derived.Lib.MinMax
namespace Go.Proofs.Ytognfnfbmbfidaa
open Go.RowKit

/-- an answer that is a list of the call's own -/
def RetI (w : World) (n : Nat) (f : Nat → Int) (mk : Value → Value) (e : Ending) (w' : World) : Prop := ∃ A c, e = .returned (mk (.slice A n c)) ∧ OwnI w' w.heap.size w'.heap.size A n f ∧ Below w.heap.size w w'
def mkB (b : Bool) (v : Value) : Value := .tuple #[v, .bool b]
theorem RetI.congr {w : World} {n : Nat} {f g : Nat → Int} {mk : Value → Value} {e : Ending} {w' : World} (h : RetI w n f mk e w') (k : ∀ j, j < n → f j = g j) : RetI w n g mk e w' := by
  obtain ⟨A, c, he, ho, hb⟩ := h
  exact ⟨A, c, he, ho.congr k, hb⟩
set_option maxHeartbeats 400000 in
theorem cloneZ_any (b off n cap : Nat) (f : Nat → Int) (w : World) (hn : n ≤ 1048576) (hB : 0 < n → b < w.heap.size) (hc : ∀ j, j < n → w.cell? ⟨b, off + j, none⟩ = some (.int .i64 (f j))) :
    Calls Try.prog 67 #[.slice (some ⟨b, off, none⟩) n cap] w (OwnsOut w (firstI f n)) := by
  obtain ⟨i0, hi, hz0, hz1, hz2⟩ := info_parts infoInt
  have hnil := fun w => Lib.run_eql_slice_nil (P := Try.prog) w 33 3 (some ⟨b, off, none⟩) n cap 0 0 Try.underlying33
  go_enter Try.func67, Try.ntmps67
  go_wp2_with (at_builtin; refine wpList_append_own _ rfl _ _ 33 rfl w.heap.size 3 i0 (.int .i64 0) 1 8 Try.underlying33 hi hz0 hz1 hz2 rfl (by decide) _ 0 [] rfl (World.ownsRow_made w #[] 0 (Nat.le_refl _) (Nat.zero_le _) rfl) ⟨b, off, none⟩ n cap ((firstI f n).map (.int .i64)) rfl (by simp [firstI_len]) ?c1 (ints_one f n) ?c3 ?c4 ?c5 ?_)
  case c1 =>
    intro j u hj
    have hj' : j < n := by
      rcases Nat.lt_or_ge j n with h | h
      · exact h
      · rw [List.getElem?_eq_none (by simp [firstI_len]; omega)] at hj; cases hj
    have hB := hB (by omega)
    have hu : u = .int .i64 (f j) := by simpa [firstI, hj'] using hj.symm
    subst hu
    have h0 : ((⟨b, off, none⟩ : Addr).add j) = ⟨b, off + j, none⟩ := by
      by_cases hj0 : j = 0
      · subst hj0; rfl
      · simp [Addr.add, hj0]
    rw [h0, World.cell?_alloc_lt _ _ _ hB]
    exact hc j hj'
  case c3 => unfold maxLen; omega
  case c4 => omega
  case c5 => simp
  intro v' w1 hown' hgrow _
  have hb' := ((Below.refl w.heap.size w).alloc (Nat.le_refl _) (.cells #[] 3)).grown hgrow (by simp) (fun q hq => by simp [Value.ownBlock] at hq; omega)
  have hown2 : w1.ownsRow w.heap.size 3 1 v' n ((firstI f n).map (.int .i64)) := by simpa using hown'
  clear hown' hgrow hnil hi hz0 hz1 hz2
  go_wp2
  go_ret
  exact ⟨_, rfl, by rw [firstI_len]; exact hown2, hb'⟩


/-- what warming leaves -/
def warmB (n : Nat) (f : Nat → Int) (x y : Int) : Bool := heatB n f && inB x 0 7 && inB y 0 20
def warmF (n : Nat) (f : Nat → Int) (x y : Int) (j : Nat) : Int := if warmB n f x y = true then (if (j : Int) = x then lim (f j + y) else f j) else f j
theorem warmF_no {n : Nat} {f : Nat → Int} {x y : Int} (h : warmB n f x y = false) (j : Nat) : warmF n f x y j = f j := by simp [warmF, h]
theorem copy_own {w w' : World} {n : Nat} {f : Nat → Int} {e : Ending} (h : OwnsOut w (firstI f n) e w') : ∃ A c, e = .returned (.slice A n c) ∧ OwnI w' w.heap.size w'.heap.size A n f ∧ Below w.heap.size w w' := by
  obtain ⟨v, he, ho, hb⟩ := h
  rw [firstI_len] at ho
  obtain ⟨A, cap, rfl, hm, hO⟩ := OwnI.of_owns ho
  exact ⟨A, cap, he, hO.congr (fun j hj => firstI_get f n j hj), hb⟩

set_option maxHeartbeats 1600000 in
set_option maxRecDepth 100000 in
theorem specWarm_any (A : Option Addr) (n cap : Nat) (f : Nat → Int) (x y : Int) (w : World) (hn : n ≤ 1048576) (hr : IntsAt w w.heap.size A n f) :
    Calls Try.prog 31 #[.slice A n cap, .int .i64 x, .int .i64 y] w (RetI w n (warmF n f x y) (mkB (warmB n f x y))) := by
  go_enter Try.func31, Try.ntmps31
  go_wp2_with fail
  refine (l01Copy_any A n cap f _ hn hr).mono ?_; rintro e w1 h1
  obtain ⟨G, gc, rfl, hO, b1⟩ := copy_own h1
  have r1 := hr.below b1 (Nat.le_refl _)
  clear h1 hr
  have HO := Lib.hid hO
  clear hO
  go_wp2_with fail
  refine (specHeat_keep A n cap _ f _ hn r1).mono ?_; rintro e w2 ⟨rfl, hb2⟩
  have b2 := b1.trans (hb2.mono b1.size)
  have HO := Lib.hid (HO.out.below hb2 (Nat.le_refl _))
  have r2 := r1.below (hb2.mono b1.size) (Nat.le_refl _)
  have hs2 := hb2.size
  clear hb2 r1 b1
  cases hh : heatB n f with
  | false =>
    have HW := Lib.hid (show warmB n f x y = false by simp [warmB, hh])
    go_wp2
    go_ret2
    rw [HW.out]
    exact ⟨_, _, rfl, (HO.out.more (Nat.le_refl _) hs2).congr (fun j _ => (warmF_no HW.out j).symm), b2⟩
  | true =>
    go_wp2_with fail
    refine (specKey_any _ _).mono ?_; rintro e w' ⟨rfl, rfl⟩
    cases hx : inB x 0 7 with
    | false =>
      have HW := Lib.hid (show warmB n f x y = false by simp [warmB, hx])
      go_wp2
      go_ret2
      rw [HW.out]
      exact ⟨_, _, rfl, (HO.out.more (Nat.le_refl _) hs2).congr (fun j _ => (warmF_no HW.out j).symm), b2⟩
    | true =>
      go_wp2_with fail
      refine (l01In_any _ _ _ _).mono ?_; rintro e w' ⟨rfl, rfl⟩
      cases hy : inB y 0 20 with
      | false =>
        have HW := Lib.hid (show warmB n f x y = false by simp [warmB, hy])
        go_wp2
        go_ret2
        rw [HW.out]
        exact ⟨_, _, rfl, (HO.out.more (Nat.le_refl _) hs2).congr (fun j _ => (warmF_no HW.out j).symm), b2⟩
      | true =>
        have hW : warmB n f x y = true := by simp [warmB, hh, hx, hy]
        have h8 := heatB_len hh
        subst h8
        have hxx : 0 ≤ x ∧ x ≤ 7 := by simpa [inB] using hx
        have hyy : 0 ≤ y ∧ y ≤ 20 := by simpa [inB] using hy
        obtain ⟨k, rfl⟩ := Int.eq_ofNat_of_zero_le hxx.1
        have hk8 : k < 8 := by omega
        have hkz : (k : Int) < 8 := by omega
        have hfr := heatB_get hh hk8
        obtain ⟨y1, y2⟩ := hyy
        obtain ⟨fr1, fr2⟩ := hfr
        have HWF := Lib.hid (show ∀ v : Int, v = lim (f k + y) → ∀ j, j < 8 → (if j = k then v else f j) = warmF 8 f k y j from fun v hv j _ => by
          subst hv
          unfold warmF
          rw [if_pos hW]
          by_cases e : j = k
          · subst e; simp
          · have e' : ¬ (j : Int) = k := by omega
            rw [if_neg e, if_neg e'])
        have HW := Lib.hid hW
        obtain ⟨b, off, rfl, hbB, hc⟩ := r2 (by omega)
        obtain ⟨g, go', rfl, hg1, hg2, hgc⟩ := HO.out (by omega)
        have hgc : CellsI w2 g go' 8 f := hgc
        have c0 : w2.cell? ⟨b, off + k, none⟩ = some (.int .i64 (f k)) := hc k hk8
        have g0 : w2.cell? ⟨g, go' + k, none⟩ = some (.int .i64 (f k)) := (hgc k hk8).1
        have gf : w2.frozen? ⟨g, go' + k, none⟩ = false := (hgc k hk8).2
        have HC := Lib.hid hgc
        clear hgc hc r2 hh hx hy hW hxx HO
        have hlim : lim (f k + y) = if 20 < f k + y then 20 else f k + y := by unfold lim; split <;> omega
        have HL := Lib.hid hlim
        clear hlim
        generalize f k = z at c0 g0 fr1 fr2 HWF HL
        by_cases h20 : 20 < z + y
        · have HL := Lib.hid (HL.out.trans (if_pos h20))
          go_wp2
          go_ret2
          rw [HW.out]
          refine ⟨_, _, rfl, fun _ => ⟨g, go', rfl, hg1, by simp [World.setCell]; omega, ?_⟩, (b2.setCell hg1 _).setCell hg1 _⟩
          have C2 := ((HC.out.set hk8 (z + y)).set hk8 20).congr (g := warmF 8 f k y) (fun j hj => by
            rw [← HWF.out 20 HL.out.symm j hj]
            by_cases e : j = k
            · simp [e]
            · simp [e])
          exact C2
        · have HL := Lib.hid (HL.out.trans (if_neg h20))
          go_wp2
          go_ret2
          rw [HW.out]
          refine ⟨_, _, rfl, fun _ => ⟨g, go', rfl, hg1, by simp [World.setCell]; omega, ?_⟩, b2.setCell hg1 _⟩
          exact (HC.out.set hk8 (z + y)).congr (g := warmF 8 f k y) (fun j hj => HWF.out _ HL.out.symm j hj)
end Go.Proofs.Ytognfnfbmbfidaa
