/- Histories: OncePer of the model and of the program. -/
import Derived.Test.YtmphiomalhjciaaHm
import Derived.Test.YtmphiomalhjciaaMp
namespace Go.Proofs.Ytmphiomalhjciaa
open Go.RowKit
open Go.Maps (Keyed)

set_option maxHeartbeats 1600000 in
set_option maxRecDepth 100000 in
theorem specOncePer_any (A : Option Addr) (c B : Nat) (l : List DCommit) (w : World) (hB : B ≤ w.heap.size) (r : RAt fCommit w B A l) :
    Calls Try.prog 35 #[.slice A l.length c] w fun e w' => e = .returned (.bool (onceOk l)) ∧ Below w.heap.size w w' := by
  have hmx := r.1
  unfold maxLen at hmx
  go_enter Try.func35, Try.ntmps35
  go_wp2
  go_loopw [3] (fun i wr => ∃ k : Nat, k ≤ l.length ∧ i = .int .i64 k ∧ Below w.heap.size w wr ∧ Hid (∀ j d, j < k → l[j]? = some d → d.2.1 = (seenOf l j d.1 : Int))) (fun i _ => l.length - (intOf i).toNat)
  case atStart => exact ⟨0, Nat.zero_le _, rfl, Below.refl _ _, Lib.hid (fun j d hj => absurd hj (by omega))⟩
  case round =>
    obtain ⟨k, hk, rfl, hb, HA⟩ := hrel
    by_cases hkn : k < l.length
    · obtain ⟨b, off, rfl, hbB⟩ := cm_addr r (by omega)
      have hkz : (k : Int) < l.length := by omega
      have hget : l[k]? = some l[k] := List.getElem?_eq_getElem hkn
      generalize hd : l[k] = d at hget
      clear hd
      have HG := Lib.hid hget
      clear hget
      go_wp2
      go_loopw [4, 5] (fun n j wr => ∃ i : Nat, i ≤ k ∧ j = .int .i64 i ∧ n = .int .i64 (seenOf l i d.1 : Int) ∧ Below w.heap.size w wr) (fun _ j _ => k - (intOf j).toNat)
      case atStart => exact ⟨0, Nat.zero_le _, rfl, by rw [seenOf_zero]; rfl, hb⟩
      case round =>
        clear hb
        obtain ⟨i, hi, rfl, rfl, hb⟩ := hrel
        have hsl := seenOf_le l i d.1
        by_cases hin : i < k
        · have hiz : (i : Int) < k := by omega
          have hil : (i : Int) < l.length := by omega
          have hgi : l[i]? = some l[i] := List.getElem?_eq_getElem (by omega)
          generalize hx : l[i] = x at hgi
          clear hx
          obtain ⟨_, _, _, _, a0, _⟩ := cm_at r hb hB HG.out
          obtain ⟨_, _, _, _, b0, _⟩ := cm_at r hb hB hgi
          have hss := seenOf_succ hgi d.1
          clear hgi
          by_cases e : x.1 = d.1
          · rw [if_pos e] at hss
            rw [e] at b0
            have HS := Lib.hid hss
            clear hss
            generalize seenOf l i d.1 = q at hsl HS ⊢
            go_wp2_with fail
            go_quiet (fail)
            go_wp2
            exact ⟨⟨i + 1, by omega, by go_num, int_eqH (by rw [HS.out]; simp), below_drewN hb _⟩, by simp [intOf]; omega⟩
          · rw [if_neg e] at hss
            have HS := Lib.hid hss
            clear hss
            generalize seenOf l i d.1 = q at hsl HS ⊢
            go_wp2_with fail
            go_quiet (fail)
            go_wp2
            exact ⟨⟨i + 1, by omega, by go_num, int_eqH (by rw [HS.out]; simp), below_drewN hb _⟩, by simp [intOf]; omega⟩
        · obtain rfl : i = k := by omega
          obtain ⟨_, _, _, _, _, a1, _⟩ := cm_at r hb hB HG.out
          by_cases hq : d.2.1 = (seenOf l i d.1 : Int)
          · have HA := Lib.hid (show ∀ j d, j < i + 1 → l[j]? = some d → d.2.1 = (seenOf l j d.1 : Int) from fun j x hj hx => by
              by_cases e : j = i
              · subst e
                rw [HG.out] at hx
                cases hx
                exact hq
              · exact HA.out j x (by omega) hx)
            generalize seenOf l i d.1 = q at hq hsl ⊢
            go_wp2
            exact ⟨⟨i + 1, by omega, by go_num, hb, HA⟩, by simp [intOf]; omega⟩
          · have HF := Lib.hid (onceOk_false HG.out hq)
            generalize seenOf l i d.1 = q at hq hsl ⊢
            go_wp2
            go_ret
            exact ⟨ret_bool HF.out.symm, hb⟩
    · obtain rfl : k = l.length := by omega
      have HT := Lib.hid (onceOk_true HA.out)
      go_wp2
      go_ret
      exact ⟨ret_bool HT.out.symm, hb⟩

theorem keyH : Keyed Try.prog 3 := Go.Maps.int_keyed Try.underlying3
theorem keyH_of {x : Int} (h0 : -9223372036854775808 ≤ x) (h1 : x ≤ 9223372036854775807) : keyOf Try.prog 3 (.int .i64 x) = some (.int .i64 x) :=
  Go.Maps.keyOf_int_mk Try.underlying3 (WalkArith.wf_i64 (by omega))
theorem zeroH (w : World) : (zeroValue 3).run Try.prog w = .ok (.int .i64 0) w := by kernel_rfl
def seenMap (l : List DCommit) (k : Nat) : Int → Option Value := fun x => if seenOf l k x = 0 then none else some (.int .i64 (seenOf l k x : Int))
theorem seenMap_get (l : List DCommit) (k : Nat) (x : Int) : (seenMap l k x).getD (.int .i64 0) = .int .i64 (seenOf l k x : Int) := by
  unfold seenMap
  by_cases h : seenOf l k x = 0
  · rw [if_pos h, h]; rfl
  · rw [if_neg h]; rfl
theorem seenMap_succ {l : List DCommit} {k : Nat} {d : DCommit} (hg : l[k]? = some d) (j : Int) : upd (seenMap l k) d.1 (some (.int .i64 ((seenOf l k d.1 : Int) + 1))) j = seenMap l (k + 1) j := by
  unfold upd seenMap
  rw [seenOf_succ hg]
  by_cases e : j = d.1
  · subst e
    rw [if_pos rfl, if_pos rfl, if_neg (by omega)]
    simp
  · have e2 : (if d.1 = j then 1 else 0) = 0 := if_neg (fun h => e h.symm)
    rw [if_neg e, e2]
    simp

set_option maxHeartbeats 1600000 in
set_option maxRecDepth 100000 in
theorem implOncePer_any (A : Option Addr) (c B : Nat) (l : List DCommit) (w : World) (hB : B ≤ w.heap.size) (hw : ∀ a, a ∈ l → fCommit.Wf a) (r : RAt fCommit w B A l) :
    Calls Try.prog 36 #[.slice A l.length c] w fun e w' => e = .returned (.bool (onceOk l)) ∧ Below w.heap.size w w' := by
  have hmx := r.1
  unfold maxLen at hmx
  have M0 := MapN.made Try.prog 3 w
  have b0 := (Below.refl w.heap.size w).alloc (Nat.le_refl _) (.map #[] 0)
  go_enter Try.func36, Try.ntmps36
  have hmm := @run_makeMap Try.prog
  go_wp2
  clear hmm
  generalize w.alloc (.map #[] 0) = w1 at M0 b0 ⊢
  go_loopw [9] (fun i wr => ∃ k n : Nat, k ≤ l.length ∧ i = .int .i64 k ∧ n ≤ k ∧ MapN Try.prog 3 wr w.heap.size n (seenMap l k) ∧ Below w.heap.size w wr ∧ Hid (∀ j d, j < k → l[j]? = some d → d.2.1 = (seenOf l j d.1 : Int))) (fun i _ => l.length - (intOf i).toNat)
  case atStart => exact ⟨0, 0, Nat.zero_le _, rfl, Nat.le_refl _, M0.congr (fun j => by simp [seenMap, seenOf_zero]), b0, Lib.hid (fun j d hj => absurd hj (by omega))⟩
  case round =>
    clear M0 b0
    obtain ⟨k, n, hk, rfl, hnk, hM, hb, HA⟩ := hrel
    by_cases hkn : k < l.length
    · obtain ⟨b, off, rfl, hbB⟩ := cm_addr r (by omega)
      have hkz : (k : Int) < l.length := by omega
      have hget : l[k]? = some l[k] := List.getElem?_eq_getElem hkn
      have hwf := hw _ (List.getElem_mem hkn)
      generalize hd : l[k] = d at hget hwf
      clear hd
      obtain ⟨A4, c4, A5, c5, a0, a1, a2, a3, a4, a5, _, _⟩ := cm_at r hb hB hget
      have hkey := keyH_of hwf.1.1 hwf.1.2
      clear hwf
      have hsl := seenOf_le l k d.1
      have hsz := hb.size
      have hA := (Below.refl wr.heap.size wr).alloc (Nat.le_refl _) (.cells #[.int .i64 d.1, .int .i64 d.2.1, .int .i64 d.2.2.1, .int .i64 d.2.2.2.1, .slice A4 (d.2.2.2.2.1).length c4, .slice A5 (d.2.2.2.2.2).length c5] 95)
      have hM := hM.next hA
      have hb := hb.alloc hsz (.cells #[.int .i64 d.1, .int .i64 d.2.1, .int .i64 d.2.2.1, .int .i64 d.2.2.2.1, .slice A4 (d.2.2.2.2.1).length c4, .slice A5 (d.2.2.2.2.2).length c5] 95)
      have HV := Lib.hid (seenMap_get l k d.1)
      have HSU := Lib.hid (seenMap_succ hget)
      have HG := Lib.hid hget
      clear hget hA
      by_cases hq : d.2.1 = (seenOf l k d.1 : Int)
      · have HA := Lib.hid (show ∀ j d, j < k + 1 → l[j]? = some d → d.2.1 = (seenOf l j d.1 : Int) from fun j x hj hx => by
          by_cases e : j = k
          · subst e
            rw [HG.out] at hx
            cases hx
            exact hq
          · exact HA.out j x (by omega) hx)
        have HQ := Lib.hid hq
        rw [hq] at a1 hM hb
        clear hq
        generalize seenOf l k d.1 = q at hsl HV HSU HQ a1 hM hb
        go_wp2_with (first | (at_lookup; refine wp_look _ rfl _ _ rfl keyH Try.underlying114 (zeroH _) rfl hM d.1 rfl hkey (.int .i64 (q : Int)) HV.out ?_) | (at_mapUpdate; refine wp_store _ rfl _ _ _ rfl keyH Try.underlying114 rfl hM (by unfold maxLen; omega) d.1 rfl hkey (.int .i64 ((q : Int) + 1)) rfl ?_; intro w7 hM7 hT7) | fail)
        have hM8 := hM7.congr HSU.out
        have hb7 := below_turned hb hT7 (Nat.le_refl _)
        clear hM hb hM7 hT7
        have hn2 : (if (seenMap l k d.1).isSome then n else n + 1) ≤ k + 1 := by split <;> omega
        generalize (if (seenMap l k d.1).isSome then n else n + 1) = n2 at hM8 hn2
        go_wp2
        exact ⟨⟨k + 1, n2, by omega, by go_num, hn2, hM8, hb7, HA⟩, by simp [intOf]; omega⟩
      · have HF := Lib.hid (onceOk_false HG.out hq)
        generalize seenOf l k d.1 = q at hsl HV HSU hq
        go_wp2_with (first | (at_lookup; refine wp_look _ rfl _ _ rfl keyH Try.underlying114 (zeroH _) rfl hM d.1 rfl hkey (.int .i64 (q : Int)) HV.out ?_) | fail)
        go_ret
        exact ⟨ret_bool HF.out.symm, hb⟩
    · obtain rfl : k = l.length := by omega
      have HT := Lib.hid (onceOk_true HA.out)
      go_wp2
      go_ret
      exact ⟨ret_bool HT.out.symm, hb⟩
end Go.Proofs.Ytmphiomalhjciaa
