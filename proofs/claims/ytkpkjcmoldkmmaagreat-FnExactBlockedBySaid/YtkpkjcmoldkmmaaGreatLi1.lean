/- The program's tests of a lock: tidOk, compareTids, canJoin, holdersOk. -/
import Derived.Test.YtkpkjcmoldkmmaaGreatLs1
namespace Go.Proofs.YtkpkjcmoldkmmaaGreat
open Go.RowKit

theorem tidOk_any (t : Int) (w : World) :
    Calls Tryz.prog 223 #[.int .i64 t] w fun e w' => e = .returned (.bool (tidB t)) ∧ w = w' := by
  by_cases h1 : 1 ≤ t
  · by_cases h2 : t ≤ 8
    · go_enter Tryz.func223, Tryz.ntmps223
      go_wp2
      go_ret
      exact ⟨ret_bool (by simp [tidB, inB, h1, h2]), rfl⟩
    · go_enter Tryz.func223, Tryz.ntmps223
      go_wp2
      go_ret
      exact ⟨ret_bool (by simp [tidB, inB]; omega), rfl⟩
  · go_enter Tryz.func223, Tryz.ntmps223
    go_wp2
    go_ret
    exact ⟨ret_bool (by simp [tidB, inB]; omega), rfl⟩

def cmpI (a b : Int) : Int := if a < b then -1 else if b < a then 1 else 0
theorem ret_int {a b : Int} (h : a = b) : Ending.returned (.int .i64 a) = .returned (.int .i64 b) := by rw [h]
theorem compare_any (a b : Int) (w : World) :
    Calls Tryz.prog 99 #[.int .i64 a, .int .i64 b] w fun e w' => e = .returned (.int .i64 (cmpI a b)) ∧ w = w' := by
  by_cases h1 : a < b
  · go_enter Tryz.func99, Tryz.ntmps99
    go_wp2
    go_ret
    exact ⟨ret_int (by unfold cmpI; rw [if_pos h1]), rfl⟩
  · by_cases h2 : b < a
    · go_enter Tryz.func99, Tryz.ntmps99
      go_wp2
      go_ret
      exact ⟨ret_int (by unfold cmpI; rw [if_neg (by omega), if_pos h2]), rfl⟩
    · go_enter Tryz.func99, Tryz.ntmps99
      go_wp2
      go_ret
      exact ⟨ret_int (by unfold cmpI; rw [if_neg (by omega), if_neg (by omega)]), rfl⟩

theorem compareTids_any (a b : Int) (x y : Bool) (w : World) :
    Calls Tryz.prog 225 #[.agg #[.int .i64 a, .bool x], .agg #[.int .i64 b, .bool y]] w fun e w' => e = .returned (.int .i64 (cmpI a b)) ∧ w' = (w.alloc (.cells #[.int .i64 a, .bool x] 144)).alloc (.cells #[.int .i64 b, .bool y] 144) := by
  go_enter Tryz.func225, Tryz.ntmps225
  go_wp2_with (go_at_call 99; refine (compare_any _ _ _).mono ?_; rintro e w' ⟨rfl, rfl⟩)
  go_ret
  exact ⟨rfl, rfl⟩

def NoW (hs : HL) (h : Int × Bool) (k : Nat) : Prop := ∀ j, j < k → (h.2 || hW hs j) = false
theorem canJoin_no {hs : HL} {h : Int × Bool} {k : Nat} (hk : k < hs.length) (e : (h.2 || hW hs k) = true) : canJoin hs h = false := by
  rw [Bool.eq_false_iff]
  intro hc
  obtain ⟨z, hz, ez⟩ := hW_mem hk
  have := List.all_eq_true.1 hc z hz
  rw [ez, e] at this
  cases this
theorem canJoin_yes {hs : HL} {h : Int × Bool} (hn : NoW hs h hs.length) : canJoin hs h = true := by
  rw [canJoin, List.all_eq_true]
  intro z hz
  obtain ⟨k, hk, rfl⟩ := get_hW hz
  rw [hn k hk]; rfl
theorem NoW.next {hs : HL} {h : Int × Bool} {k : Nat} (hn : NoW hs h k) (e : (h.2 || hW hs k) = false) : NoW hs h (k + 1) := fun j hj => by
  by_cases ej : j = k
  · subst ej; exact e
  · exact hn j (by omega)

theorem canJoin_any (A : Option Addr) (c B : Nat) (hs : HL) (h : Int × Bool) (w : World) (hn : hs.length ≤ 1048576) (h1 : HAt w B A hs) :
    Calls Tryz.prog 212 #[.slice A hs.length c, .agg #[.int .i64 h.1, .bool h.2]] w fun e w' => e = .returned (.bool (canJoin hs h)) ∧ Below w.heap.size w w' := by
  have h1 := h1.lt
  go_enter Tryz.func212, Tryz.ntmps212
  go_wp2
  go_loopw [9] (fun i wr => ∃ k : Nat, k ≤ hs.length ∧ i = .int .i64 k ∧ Below w.heap.size w wr ∧ NoW hs h k ∧ Box wr w.heap.size [.int .i64 h.1, .bool h.2]) (fun i _ => hs.length - (intOf i).toNat)
  case atStart => exact ⟨0, Nat.zero_le _, rfl, (Below.refl w.heap.size w).alloc (Nat.le_refl _) _, fun j hj => absurd hj (by omega), Box.new (w := w) rfl⟩
  case round =>
    obtain ⟨k, hk, rfl, hb, hall, X⟩ := hrel
    obtain ⟨x0, x1, xf⟩ := X.c2
    have Hall := Lib.hid hall
    have hsz := hb.size
    clear hall xf
    by_cases hkn : k < hs.length
    · obtain ⟨b, off, rfl, hB, hc⟩ := h1 (by omega)
      have hkz : (k : Int) < hs.length := by omega
      have d0 : wr.cell? ⟨b, off + k * 2, none⟩ = some (.int .i64 (hT hs k)) := (hb.cell (p := ⟨b, off + k * 2, none⟩) hB).trans (hc k hkn).1
      have d1 : wr.cell? ⟨b, off + k * 2 + 1, none⟩ = some (.bool (hW hs k)) := (hb.cell (p := ⟨b, off + k * 2 + 1, none⟩) hB).trans (hc k hkn).2
      have HN := Lib.hid (show (h.2 || hW hs k) = true → canJoin hs h = false from canJoin_no hkn)
      have HY := Lib.hid (show (h.2 || hW hs k) = false → NoW hs h (k + 1) from Hall.out.next)
      have hlt := X.lt
      clear hc h1
      cases hw : h.2 with
      | true =>
        rw [hw] at x1
        have HE := Lib.hid (HN.out (by rw [hw]; rfl))
        clear hw HN HY
        go_wp2
        go_ret
        exact ⟨ret_bool HE.out.symm, hb.alloc hsz _⟩
      | false =>
        rw [hw] at x1
        cases hv : hW hs k with
        | true =>
          rw [hv] at d1
          have HE := Lib.hid (HN.out (by rw [hw, hv]; rfl))
          clear hw hv HN HY
          go_wp2
          go_ret
          exact ⟨ret_bool HE.out.symm, hb.alloc hsz _⟩
        | false =>
          rw [hv] at d1
          have HE := Lib.hid (HY.out (by rw [hw, hv]; rfl))
          rw [hw] at X
          have HX := Lib.hid X
          clear hw hv HN HY X
          go_wp2
          exact ⟨⟨k + 1, by omega, by go_num, hb.alloc hsz _, HE.out, HX.out.alloc _⟩, by simp [intOf]; omega⟩
    · obtain rfl : k = hs.length := by omega
      have HE := Lib.hid (canJoin_yes Hall.out)
      go_wp2
      go_ret
      exact ⟨ret_bool HE.out.symm, hb⟩

/-- sorted from k on -/
def AscFrom (l : HL) (k : Nat) : Prop := ∀ j, k < j → j < l.length → hT l (j - 1) ≤ hT l j
theorem AscFrom.next {l : HL} {k : Nat} (h : AscFrom l k) (hk : ¬ hT l k < hT l (k - 1)) : AscFrom l (k - 1) := fun j hj hl => by
  by_cases e : j = k
  · subst e; omega
  · exact h j (by omega) hl
theorem ascOk_no {l : HL} {k : Nat} (h0 : 0 < k) (hk : k < l.length) (h : hT l k < hT l (k - 1)) : ascOk l = false := by
  rw [Bool.eq_false_iff]
  intro hc
  simp only [ascOk, decide_eq_true_eq] at hc
  have := asc_get hc (show k - 1 < k by omega) hk
  omega
theorem ascOk_yes {l : HL} (h : AscFrom l 0) : ascOk l = true := by
  simp only [ascOk, decide_eq_true_eq]
  have key : ∀ j i, i < j → j < l.length → hT l i ≤ hT l j := by
    intro j
    induction j with
    | zero => intro i hi; omega
    | succ j ih =>
      intro i hi hj
      have h1 := h (j + 1) (by omega) hj
      simp only [Nat.add_sub_cancel] at h1
      by_cases e : i = j
      · subst e; exact h1
      · have := ih i (by omega) (by omega); omega
  exact List.pairwise_iff_getElem.2 fun i j hi hj hij => by
    rw [ids_get, ids_get]; exact key j i hij (by rwa [ids_len'] at hj)
theorem cmpI_neg {a b : Int} : cmpI a b < 0 ↔ a < b := by
  unfold cmpI
  split
  · omega
  · split <;> omega

set_option maxRecDepth 100000 in
theorem isSorted_any (A : Option Addr) (c B : Nat) (l : HL) (w : World) (hn : l.length ≤ 1048576) (h1 : HAt w B A l) :
    Calls Tryz.prog 224 #[.slice A l.length c, .func (.func 225) #[] #[]] w fun e w' => e = .returned (.bool (ascOk l)) ∧ Below w.heap.size w w' := by
  have h1 := h1.lt
  rcases Nat.eq_zero_or_pos l.length with hz | hpos
  · have HE := Lib.hid (show ascOk l = true by rw [List.length_eq_zero_iff.1 hz]; rfl)
    rw [hz]
    go_enter Tryz.func224, Tryz.ntmps224
    go_wp2
    refine wp_loop_rounds 1 ?_; rw [rounds_succ]
    go_wp2
    go_ret
    exact ⟨ret_bool HE.out.symm, Below.refl _ _⟩
  obtain ⟨b, off, rfl, hB, hc⟩ := h1 hpos
  have HC := Lib.hid hc
  have hp1 : (1 : Int) ≤ l.length := by omega
  clear hc h1
  go_enter Tryz.func224, Tryz.ntmps224
  go_wp2
  go_loopw [5] (fun i wr => ∃ k : Nat, k < l.length ∧ i = .int .i64 k ∧ Below w.heap.size w wr ∧ AscFrom l k) (fun i _ => (intOf i).toNat)
  case atStart => exact ⟨l.length - 1, by omega, by simp; omega, Below.refl _ _, fun j hj hl => absurd hj (by omega)⟩
  case round =>
    obtain ⟨k, hk, rfl, hb, ha⟩ := hrel
    have Ha := Lib.hid ha
    have hsz := hb.size
    clear ha
    by_cases hk0 : k = 0
    · subst hk0
      have HE := Lib.hid (ascOk_yes Ha.out)
      go_wp2
      go_ret
      exact ⟨ret_bool HE.out.symm, hb⟩
    · have hkz : (0 : Int) < k := by omega
      have hkn : (k : Int) < l.length := by omega
      have d0 : wr.cell? ⟨b, off + k * 2, none⟩ = some (.int .i64 (hT l k)) := (hb.cell (p := ⟨b, off + k * 2, none⟩) hB).trans (HC.out k hk).1
      have d1 : wr.cell? ⟨b, off + k * 2 + 1, none⟩ = some (.bool (hW l k)) := (hb.cell (p := ⟨b, off + k * 2 + 1, none⟩) hB).trans (HC.out k hk).2
      have e0 : wr.cell? ⟨b, off + (k - 1) * 2, none⟩ = some (.int .i64 (hT l (k - 1))) := (hb.cell (p := ⟨b, off + (k - 1) * 2, none⟩) hB).trans (HC.out (k - 1) (by omega)).1
      have e1 : wr.cell? ⟨b, off + (k - 1) * 2 + 1, none⟩ = some (.bool (hW l (k - 1))) := (hb.cell (p := ⟨b, off + (k - 1) * 2 + 1, none⟩) hB).trans (HC.out (k - 1) (by omega)).2
      have n1 : IntKind.i64.wrap ((k : Int) - 1) = (k : Int) - 1 := IntWalk.i64_in _ (by omega)
      have n2 : (0 : Int) ≤ (k : Int) - 1 := by omega
      have n3 : ((k : Int) - 1).toNat = k - 1 := by omega
      have n4 : (1 : Int) ≤ k := by omega
      have n5 : (k : Int) - 1 < l.length := by omega
      have n6 : 1 ≤ k := by omega
      go_wp2_with fail
      go_still_tail 10, (by kernel_rfl)
      change wpList _ _ _ _ _ wr.drew
      have hb2 := hb.drew
      clear d0 d1 e0 e1 n1 n2 n3 n5
      generalize wr.drew = w2 at hb2 ⊢
      go_wp2_with fail
      refine (compareTids_any _ _ _ _ _).mono ?_; rintro e w3 ⟨rfl, hw3⟩
      have hb3 : Below w.heap.size w w3 := by rw [hw3]; exact (hb2.alloc hb2.size _).alloc (by simp; have := hb2.size; omega) _
      clear hw3
      by_cases hlt : hT l k < hT l (k - 1)
      · have HE := Lib.hid (ascOk_no (by omega) hk hlt)
        have hcm : cmpI (hT l k) (hT l (k - 1)) < 0 := cmpI_neg.2 hlt
        generalize cmpI (hT l k) (hT l (k - 1)) = q at hcm ⊢
        go_wp2
        go_ret
        exact ⟨ret_bool HE.out.symm, hb3⟩
      · have HE := Lib.hid (Ha.out.next hlt)
        have hcm : ¬ cmpI (hT l k) (hT l (k - 1)) < 0 := fun h => hlt (cmpI_neg.1 h)
        generalize cmpI (hT l k) (hT l (k - 1)) = q at hcm ⊢
        clear hlt
        go_wp2
        exact ⟨⟨k - 1, by omega, by go_num, hb3, HE.out⟩, by simp [intOf]; omega⟩

theorem holders_no {hs : HL} {k : Nat} (hk : k < hs.length) (h1 : hW hs k = true) (h2 : 1 < hs.length) : wrOk hs = false := by
  rw [Bool.eq_false_iff]
  intro hc
  obtain ⟨z, hz, ez⟩ := hW_mem hk
  have := (wrOk_iff _).1 hc h2 z hz
  rw [ez, h1] at this; cases this
def WrTo (hs : HL) (k : Nat) : Prop := ∀ j, j < k → (hW hs j && decide (1 < hs.length)) = false
theorem holders_yes {hs : HL} (h : WrTo hs hs.length) : wrOk hs = true := by
  rw [wrOk_iff]
  intro h1 z hz
  obtain ⟨k, hk, rfl⟩ := get_hW hz
  have := h k hk
  simpa [h1] using this
theorem WrTo.next {hs : HL} {k : Nat} (hn : WrTo hs k) (e : (hW hs k && decide (1 < hs.length)) = false) : WrTo hs (k + 1) := fun j hj => by
  by_cases ej : j = k
  · subst ej; exact e
  · exact hn j (by omega)

theorem holdersOk_any (A : Option Addr) (c B : Nat) (hs : HL) (w : World) (hn : hs.length ≤ 1048576) (h1 : HAt w B A hs) :
    Calls Tryz.prog 211 #[.slice A hs.length c] w fun e w' => e = .returned (.bool (wrOk hs && ascOk hs)) ∧ Below w.heap.size w w' := by
  have h1 := h1.lt
  go_enter Tryz.func211, Tryz.ntmps211
  go_wp2
  go_loopw [7] (fun i wr => ∃ k : Nat, k ≤ hs.length ∧ i = .int .i64 k ∧ Below w.heap.size w wr ∧ WrTo hs k) (fun i _ => hs.length - (intOf i).toNat)
  case atStart => exact ⟨0, Nat.zero_le _, rfl, Below.refl _ _, fun j hj => absurd hj (by omega)⟩
  case round =>
    obtain ⟨k, hk, rfl, hb, hall⟩ := hrel
    have Hall := Lib.hid hall
    have hsz := hb.size
    clear hall
    by_cases hkn : k < hs.length
    · obtain ⟨b, off, rfl, hB, hc⟩ := h1 (by omega)
      have hkz : (k : Int) < hs.length := by omega
      have d0 : wr.cell? ⟨b, off + k * 2, none⟩ = some (.int .i64 (hT hs k)) := (hb.cell (p := ⟨b, off + k * 2, none⟩) hB).trans (hc k hkn).1
      have d1 : wr.cell? ⟨b, off + k * 2 + 1, none⟩ = some (.bool (hW hs k)) := (hb.cell (p := ⟨b, off + k * 2 + 1, none⟩) hB).trans (hc k hkn).2
      clear hc h1
      cases hv : hW hs k with
      | true =>
        rw [hv] at d1
        by_cases h2 : (1 : Int) < hs.length
        · have HE := Lib.hid (show (wrOk hs && ascOk hs) = false by rw [holders_no hkn hv (by omega)]; rfl)
          clear hv
          go_wp2
          go_ret
          exact ⟨ret_bool HE.out.symm, hb.alloc hsz _⟩
        · have HE := Lib.hid (Hall.out.next (by simp; omega))
          clear hv
          go_wp2
          exact ⟨⟨k + 1, by omega, by go_num, hb.alloc hsz _, HE.out⟩, by simp [intOf]; omega⟩
      | false =>
        rw [hv] at d1
        have HE := Lib.hid (Hall.out.next (by simp [hv]))
        clear hv
        go_wp2
        exact ⟨⟨k + 1, by omega, by go_num, hb.alloc hsz _, HE.out⟩, by simp [intOf]; omega⟩
    · obtain rfl : k = hs.length := by omega
      have HE := Lib.hid (show (wrOk hs && ascOk hs) = ascOk hs by rw [holders_yes Hall.out]; rfl)
      have hh := h1.below hb hsz
      clear h1
      go_wp2_with fail
      refine (isSorted_any A c _ hs _ hn hh).mono ?_; rintro e w2 ⟨rfl, hb2⟩
      go_wp2
      go_ret
      exact ⟨ret_bool HE.out.symm, hb.trans (hb2.mono hsz)⟩
end Go.Proofs.YtkpkjcmoldkmmaaGreat
