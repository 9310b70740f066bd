/- WantsOk: the model's and the program's. -/
import Derived.Test.YtkpkjcmoldkmmaaGreatVju
namespace Go.Proofs.YtkpkjcmoldkmmaaGreat
open Go.RowKit

/-- want k lies within the keys and behind the one before it -/
def okW (l : HL) (k : Nat) : Bool := inB (hT l k) 0 7 && !(decide (0 < k) && decide (hT l (k - 1) ≥ hT l k))
def wantsB (l : HL) : Bool := (List.range l.length).all (okW l)
def OkToW (l : HL) (k : Nat) : Prop := ∀ j, j < k → okW l j = true
theorem wantsB_yes {l : HL} (h : OkToW l l.length) : wantsB l = true := by simpa [wantsB, OkToW] using h
theorem wantsB_no {l : HL} {k : Nat} (hk : k < l.length) (h : okW l k = false) : wantsB l = false := by
  rw [Bool.eq_false_iff]
  intro hp
  simp only [wantsB, List.all_eq_true, List.mem_range] at hp
  rw [hp k hk] at h; cases h
theorem wantsB_get {l : HL} (h : wantsB l = true) : OkToW l l.length := by
  simpa [wantsB, OkToW] using h
theorem OkToW.next {l : HL} {k : Nat} (h : OkToW l k) (hk : okW l k = true) : OkToW l (k + 1) := fun j hj => by
  by_cases e : j = k
  · subst e; exact hk
  · exact h j (by omega)
def leastL (l : HL) (k : Nat) : Int := if k = 0 then 0 else hT l (k - 1) + 1
theorem okW_key {l : HL} {k : Nat} (h : inB (hT l k) 0 7 = false) : okW l k = false := by simp [okW, h]
theorem okW_least {l : HL} {k : Nat} (h : hT l k < leastL l k) : okW l k = false := by
  unfold leastL at h
  by_cases e : k = 0
  · rw [if_pos e] at h
    exact okW_key (by simp [inB]; omega)
  · rw [if_neg e] at h
    have h1 : 0 < k := by omega
    have h2 : hT l (k - 1) ≥ hT l k := by omega
    simp [okW, h1, h2]
theorem okW_yes {l : HL} {k : Nat} (h : inB (hT l k) 0 7 = true) (h2 : ¬ hT l k < leastL l k) : okW l k = true := by
  unfold leastL at h2
  by_cases e : k = 0
  · subst e; simp [okW, h]
  · rw [if_neg e] at h2
    have h3 : ¬ hT l (k - 1) ≥ hT l k := by omega
    simp only [okW, h, decide_eq_false h3]; simp
theorem okW_range {l : HL} {k : Nat} (h : okW l k = true) : 0 ≤ hT l k ∧ hT l k ≤ 7 := by
  simp only [okW, Bool.and_eq_true] at h
  simpa [inB] using h.1
theorem leastL_range {l : HL} {k : Nat} (h : OkToW l k) : 0 ≤ leastL l k ∧ leastL l k ≤ 8 := by
  unfold leastL
  by_cases e : k = 0
  · rw [if_pos e]; omega
  · rw [if_neg e]
    have := okW_range (h (k - 1) (by omega))
    omega

theorem specKey_q {t : Int} {x : Bool} (h : inB t 0 7 = x) (w : World) : Calls Tryz.prog 137 #[.int .i64 t] w fun e w' => e = .returned (.bool x) ∧ w' = w :=
  (specKey_any t w).mono fun _ _ ⟨he, hw⟩ => ⟨h ▸ he, hw.symm⟩

set_option maxHeartbeats 800000 in
set_option maxRecDepth 100000 in
theorem specWantsOk_any (A : Option Addr) (c B : Nat) (l : HL) (w : World) (hn : l.length ≤ 1048576) (h : HAt w B A l) :
    Calls Tryz.prog 81 #[.slice A l.length c] w fun e w' => e = .returned (.bool (wantsB l)) ∧ Below w.heap.size w w' := by
  have h := h.lt
  go_enter Tryz.func81, Tryz.ntmps81
  go_wp2
  go_loopw [3] (fun i wr => ∃ k : Nat, k ≤ l.length ∧ i = .int .i64 k ∧ Below w.heap.size w wr ∧ OkToW l k) (fun i _ => l.length - (intOf i).toNat)
  case atStart => exact ⟨0, Nat.zero_le _, rfl, Below.refl _ _, fun j hj => absurd hj (by omega)⟩
  case round =>
    obtain ⟨k, hk, rfl, hb, hall⟩ := hrel
    have Hall := Lib.hid hall
    clear hall
    by_cases hkn : k < l.length
    · obtain ⟨b, off, rfl, hB, hc⟩ := h (by omega)
      have hkz : (k : Int) < l.length := by omega
      have d0 : wr.cell? ⟨b, off + k * 2, none⟩ = some (.int .i64 (hT l k)) := (hb.cell (p := ⟨b, off + k * 2, none⟩) hB).trans (hc k hkn).1
      have AF := Lib.hid (fun n => below_drewN hb n)
      clear hb
      cases ht : inB (hT l k) 0 7 with
      | false =>
        have HB := Lib.hid (wantsB_no hkn (okW_key ht))
        have HT := Lib.hid ht
        clear ht
        generalize hT l k = t at d0 HT
        clear hc h
        go_wp2_with fail
        go_quiet ((go_at_call 137; exact Calls.quiet_of_same (specKey_q HT.out _)))
        have hb2 := AF.out nq
        clear AF
        generalize World.drewN _ nq = w2 at hb2 ⊢
        go_wp2
        go_ret
        exact ⟨ret_bool HB.out.symm, hb2⟩
      | true =>
        have HT := Lib.hid ht
        clear ht
        by_cases hk0 : k = 0
        · subst hk0
          simp only [Nat.zero_mul, Nat.add_zero] at d0
          have H1 := Lib.hid (show okW l 0 = true by simp [okW, HT.out])
          clear hc h
          go_wp2_with fail
          go_quiet ((go_at_call 137; exact Calls.quiet_of_same (specKey_q HT.out _)))
          have hb2 := AF.out nq
          clear AF d0
          generalize World.drewN _ nq = w2 at hb2 ⊢
          go_wp2
          exact ⟨⟨0 + 1, by omega, by go_num, hb2, Hall.out.next H1.out⟩, by simp [intOf]; omega⟩
        · have hk1 : decide (0 < k) = true := by simp; omega
          have dp : wr.cell? ⟨b, off + (k - 1) * 2, none⟩ = some (.int .i64 (hT l (k - 1))) := (World.cell?_of_block (a := ⟨b, off + (k - 1) * 2, none⟩) (by have := (AF.out 0).block b hB; exact this)).trans (hc (k - 1) (by omega)).1
          have n1 : IntKind.i64.wrap ((k : Int) - 1) = (k : Int) - 1 := IntWalk.i64_in _ (by omega)
          have n2 : (0 : Int) ≤ (k : Int) - 1 := by omega
          have n3 : ((k : Int) - 1).toNat = k - 1 := by omega
          by_cases hp : hT l (k - 1) ≥ hT l k
          · have hp' : decide (hT l k ≤ hT l (k - 1)) = true := by simpa using hp
            have HB := Lib.hid (wantsB_no hkn (show okW l k = false by simp [okW, hp']; omega))
            clear hc h
            go_wp2_with fail
            go_quiet ((go_at_call 137; exact Calls.quiet_of_same (specKey_q HT.out _)))
            have hb2 := AF.out nq
            clear AF d0 dp
            generalize World.drewN _ nq = w2 at hb2 ⊢
            go_wp2
            go_ret
            exact ⟨ret_bool HB.out.symm, hb2⟩
          · have hp' : decide (hT l k ≤ hT l (k - 1)) = false := by simpa using hp
            have H1 := Lib.hid (show okW l k = true by simp [okW, HT.out, hp'])
            clear hc h
            go_wp2_with fail
            go_quiet ((go_at_call 137; exact Calls.quiet_of_same (specKey_q HT.out _)))
            have hb2 := AF.out nq
            clear AF d0 dp
            generalize World.drewN _ nq = w2 at hb2 ⊢
            go_wp2
            exact ⟨⟨k + 1, by omega, by go_num, hb2, Hall.out.next H1.out⟩, by simp [intOf]; omega⟩
    · obtain rfl : k = l.length := by omega
      go_wp2
      go_ret
      exact ⟨ret_bool (wantsB_yes Hall.out).symm, hb⟩

set_option maxHeartbeats 800000 in
theorem implWantsOk_any (A : Option Addr) (c B : Nat) (l : HL) (w : World) (hn : l.length ≤ 1048576) (h : HAt w B A l) :
    Calls Tryz.prog 191 #[.slice A l.length c] w fun e w' => e = .returned (.bool (wantsB l)) ∧ Below w.heap.size w w' := by
  have h := h.lt
  go_enter Tryz.func191, Tryz.ntmps191
  go_wp2
  go_loopw [3, 8] (fun v i wr => ∃ k : Nat, k ≤ l.length ∧ i = .int .i64 k ∧ v = .int .i64 (leastL l k) ∧ Below w.heap.size w wr ∧ OkToW l k) (fun _ i _ => l.length - (intOf i).toNat)
  case atStart => exact ⟨0, Nat.zero_le _, rfl, rfl, Below.refl _ _, fun j hj => absurd hj (by omega)⟩
  case round =>
    obtain ⟨k, hk, rfl, rfl, hb, hall⟩ := hrel
    have Hall := Lib.hid hall
    have hr := leastL_range hall
    clear hall
    by_cases hkn : k < l.length
    · obtain ⟨b, off, rfl, hB, hc⟩ := h (by omega)
      have hkz : (k : Int) < l.length := by omega
      have hltb : b < wr.heap.size := by have := hb.size; omega
      have d0 : wr.cell? ⟨b, off + k * 2, none⟩ = some (.int .i64 (hT l k)) := (hb.cell (p := ⟨b, off + k * 2, none⟩) hB).trans (hc k hkn).1
      have d1 : wr.cell? ⟨b, off + k * 2 + 1, none⟩ = some (.bool (hW l k)) := (hb.cell (p := ⟨b, off + k * 2 + 1, none⟩) hB).trans (hc k hkn).2
      have HB := Lib.hid (fun h : okW l k = false => wantsB_no hkn h)
      have HN := Lib.hid (fun h : okW l k = true => Hall.out.next h)
      have hb2 := hb.alloc hb.size (.cells #[.int .i64 (hT l k), .bool (hW l k)] 139)
      have HL := Lib.hid (show leastL l (k + 1) = hT l k + 1 from by simp [leastL])
      have HA := Lib.hid (okW_least (l := l) (k := k))
      have HC := Lib.hid (okW_key (l := l) (k := k))
      have HD := Lib.hid (okW_yes (l := l) (k := k))
      have HR := Lib.hid (okW_range (l := l) (k := k))
      generalize leastL l k = v at hr HA HD
      generalize hT l k = t at d0 hb2 HL HA HC HD HR
      generalize hW l k = y at d1 hb2
      clear hc h
      by_cases e : t < v
      · have HB := Lib.hid (HB.out (HA.out e))
        clear HA HC HD HR HL HN
        go_wp2_with fail
        go_wp2
        go_ret
        exact ⟨ret_bool HB.out.symm, hb2⟩
      · have e' : v ≤ t := by omega
        clear HA
        go_wp2_with fail
        refine (implKey_any _ _).mono ?_; rintro e w' ⟨rfl, rfl⟩
        cases ht : inB t 0 7 with
        | false =>
          have HB := Lib.hid (HB.out (HC.out ht))
          clear HC HD HR HL HN ht
          go_wp2
          go_ret
          exact ⟨ret_bool HB.out.symm, hb2⟩
        | true =>
          have HN := Lib.hid (HN.out (HD.out ht e))
          have hr2 := HR.out (HD.out ht e)
          clear HB HC HD HR ht
          go_wp2
          exact ⟨⟨k + 1, by omega, by go_num, by rw [HL.out], hb2, HN.out⟩, by simp [intOf]; omega⟩
    · obtain rfl : k = l.length := by omega
      go_wp2
      go_ret
      exact ⟨ret_bool (wantsB_yes Hall.out).symm, hb⟩
end Go.Proofs.YtkpkjcmoldkmmaaGreat
