/- Histories: SameLog of the model. -/
import Derived.Test.YtmphiomalhjciaaHg
import Derived.Laws.StructEq
namespace Go.Proofs.Ytmphiomalhjciaa
open Go.RowKit

set_option maxHeartbeats 25600000 in
set_option maxRecDepth 100000 in
theorem specSameLog_any (A A' : Option Addr) (c c' B B' : Nat) (l l' : List DCommit) (w : World) (hB : B ≤ w.heap.size) (hB' : B' ≤ w.heap.size) (hs : (rowF fCommit).cnt l ≤ 1048576) (hs' : (rowF fCommit).cnt l' ≤ 1048576)
    (hw : ∀ a, a ∈ l → fCommit.Wf a) (hw' : ∀ a, a ∈ l' → fCommit.Wf a) (r : RAt fCommit w B A l) (r' : RAt fCommit w B' A' l') :
    Calls Try.prog 44 #[.slice A l.length c, .slice A' l'.length c'] w fun e w' => e = .returned (.bool (sameLog l l')) ∧ Below w.heap.size w w' := by
  have hmx := r.1
  have hmx' := r'.1
  unfold maxLen at hmx hmx'
  by_cases hl : l.length = l'.length
  · have HL := Lib.hid hl
    go_enter Try.func44, Try.ntmps44
    rw [hl]
    go_wp2
    go_loopw [5] (fun i wr => ∃ k : Nat, k ≤ l'.length ∧ i = .int .i64 k ∧ Below w.heap.size w wr ∧ Hid (∀ j x y, j < k → l[j]? = some x → l'[j]? = some y → sameB x y = true)) (fun i _ => l'.length - (intOf i).toNat)
    case atStart => exact ⟨0, Nat.zero_le _, rfl, Below.refl _ _, Lib.hid (fun j x y hj => absurd hj (by omega))⟩
    case round =>
      obtain ⟨k, hk, rfl, hb, HA⟩ := hrel
      by_cases hkn : k < l'.length
      · obtain ⟨b, off, rfl, hbB⟩ := row_addr r (by omega)
        obtain ⟨b', off', rfl, hbB'⟩ := row_addr r' (by omega)
        have hkz : (k : Int) < l'.length := by omega
        have hget : l[k]? = some l[k] := List.getElem?_eq_getElem (by omega)
        have hget' : l'[k]? = some l'[k] := List.getElem?_eq_getElem hkn
        have hlz : (l.length : Int) = l'.length := by omega
        have hwd := hw _ (List.mem_of_getElem? hget)
        have hwx := hw' _ (List.mem_of_getElem? hget')
        have hcd : fCommit.cnt l[k] ≤ 1048576 := by have := cnt_at (F := fCommit) hget; omega
        have hcx : fCommit.cnt l'[k] ≤ 1048576 := by have := cnt_at (F := fCommit) hget'; omega
        generalize l[k] = d at hget hwd hcd
        generalize l'[k] = x at hget' hwx hcx
        obtain ⟨A4, c4, A5, c5, ⟨a0, a1, a2, a3, a4, a5⟩, hat⟩ := cm_hat r hb hB hget
        obtain ⟨A4x, c4x, A5x, c5x, ⟨b0, b1, b2, b3, b4, b5⟩, hat'⟩ := cm_hat r' hb hB' hget'
        have HG := Lib.hid hget
        have HG' := Lib.hid hget'
        have hsz := hb.size
        have hbl : b < wr.heap.size := by omega
        have hbl' : b' < wr.heap.size := by omega
        have hBw : B ≤ wr.heap.size := by omega
        have hBw' : B' ≤ wr.heap.size := by omega
        obtain ⟨I, F, hI, hF0, hF, hFn⟩ := clsH wr
        have f0 := fun n => ((hF n).cell (p := ⟨b, off + k * 6, none⟩) hbl).trans a0
        have f1 := fun n => ((hF n).cell (p := ⟨b, off + k * 6 + 1, none⟩) hbl).trans a1
        have f2 := fun n => ((hF n).cell (p := ⟨b, off + k * 6 + 2, none⟩) hbl).trans a2
        have f3 := fun n => ((hF n).cell (p := ⟨b, off + k * 6 + 3, none⟩) hbl).trans a3
        have f4 := fun n => ((hF n).cell (p := ⟨b, off + k * 6 + 4, none⟩) hbl).trans a4
        have f5 := fun n => ((hF n).cell (p := ⟨b, off + k * 6 + 5, none⟩) hbl).trans a5
        have g0 := fun n => ((hF n).cell (p := ⟨b', off' + k * 6, none⟩) hbl').trans b0
        have g1 := fun n => ((hF n).cell (p := ⟨b', off' + k * 6 + 1, none⟩) hbl').trans b1
        have g2 := fun n => ((hF n).cell (p := ⟨b', off' + k * 6 + 2, none⟩) hbl').trans b2
        have g3 := fun n => ((hF n).cell (p := ⟨b', off' + k * 6 + 3, none⟩) hbl').trans b3
        have g4 := fun n => ((hF n).cell (p := ⟨b', off' + k * 6 + 4, none⟩) hbl').trans b4
        have g5 := fun n => ((hF n).cell (p := ⟨b', off' + k * 6 + 5, none⟩) hbl').trans b5
        have HAT := Lib.hid (fun n => fCommit.at_same hat (.of (hF n) hBw))
        have HAT' := Lib.hid (fun n => fCommit.at_same hat' (.of (hF n) hBw'))
        have HFn := Lib.hid hFn
        have HF := Lib.hid hF
        have HF0 := Lib.hid hF0
        have HW := Lib.hid hwd
        have HW' := Lib.hid hwx
        clear hget hget' hl hat hat' hFn hF hF0 a0 a1 a2 a3 a4 a5 b0 b1 b2 b3 b4 b5 hwd hwx hw hw'
        by_cases hsm : d = x
        · subst hsm
          have HA := Lib.hid (show ∀ j u v, j < k + 1 → l[j]? = some u → l'[j]? = some v → sameB u v = true from fun j u v hj hu hv => by
            by_cases e : j = k
            · subst e
              rw [HG.out] at hu
              rw [HG'.out] at hv
              cases hu
              cases hv
              exact sameB_iff.2 rfl
            · exact HA.out j u v (by omega) hu hv)
          have HS : Hid ((⟨(ctext d).toArray⟩ : ByteArray) = ⟨(ctext d).toArray⟩) := Lib.hid rfl
          go_wp2_with fail
          refine wp_region_cls (by kernel_rfl) (by kernel_rfl) HF0.out ?_
          iterate 5 (go_big_quiet_step ((go_at_call 91; refine (specCommitText_any d B _ _ hcd HW.out (Nat.le_trans hBw (HF.out _).size) (HAT.out _)).mono ?_; rintro o w2 ⟨rfl, hb2⟩; exact ⟨rfl, HFn.out _ _ hb2⟩)))
          repeat (go_big_quiet_step ((go_at_call 91; refine (specCommitText_any d B' _ _ hcd HW.out (Nat.le_trans hBw' (HF.out _).size) (HAT'.out _)).mono ?_; rintro o w2 ⟨rfl, hb2⟩; exact ⟨rfl, HFn.out _ _ hb2⟩)))
          refine wpQuiet_nil ?_
          rintro _ ⟨nq, rfl⟩
          have hb4 := hb.trans ((HF.out nq).mono hsz)
          clear f0 f1 f2 f3 f4 f5 g0 g1 g2 g3 g4 g5
          go_wp2
          all_goals (first | exact ⟨⟨k + 1, by omega, by go_num, hb4, HA⟩, by simp [intOf]; omega⟩ | (exfalso; simp_all; done))
        · have HNF := Lib.hid (sameLog_no HG.out HG'.out (show sameB d x = false from by
            rw [Bool.eq_false_iff]
            exact fun h => hsm (sameB_iff.1 h)))
          have hne : ¬ ((⟨(ctext d).toArray⟩ : ByteArray) = ⟨(ctext x).toArray⟩) := fun h => hsm (ctext_inj (by
            injection h with h
            exact congrArg Array.toList h))
          obtain ⟨s1, hs1⟩ : ∃ s1 : ByteArray, s1 = ⟨(ctext d).toArray⟩ := ⟨_, rfl⟩
          obtain ⟨s2, hs2⟩ : ∃ s2 : ByteArray, s2 = ⟨(ctext x).toArray⟩ := ⟨_, rfl⟩
          rw [← hs1, ← hs2] at hne
          have hne2 : (s1.toList == s2.toList) = false := by
            rw [beq_eq_false_iff_ne, ByteArray.toList_eq, ByteArray.toList_eq]
            exact fun e => hne (Go.WideShapes.bytes_inj e)
          have HS1 := Lib.hid hs1
          have HS2 := Lib.hid hs2
          clear hs1 hs2 hsm
          go_wp2_with fail
          refine wp_region_cls (by kernel_rfl) (by kernel_rfl) HF0.out ?_
          iterate 5 (go_big_quiet_step ((go_at_call 91; refine (specCommitText_any d B _ _ hcd HW.out (Nat.le_trans hBw (HF.out _).size) (HAT.out _)).mono ?_; rintro o w2 ⟨rfl, hb2⟩; rw [← HS1.out]; exact ⟨rfl, HFn.out _ _ hb2⟩)))
          repeat (go_big_quiet_step ((go_at_call 91; refine (specCommitText_any x B' _ _ hcx HW'.out (Nat.le_trans hBw' (HF.out _).size) (HAT'.out _)).mono ?_; rintro o w2 ⟨rfl, hb2⟩; rw [← HS2.out]; exact ⟨rfl, HFn.out _ _ hb2⟩)))
          refine wpQuiet_nil ?_
          rintro _ ⟨nq, rfl⟩
          have hb4 := hb.trans ((HF.out nq).mono hsz)
          clear f0 f1 f2 f3 f4 f5 g0 g1 g2 g3 g4 g5
          go_wp2
          go_ret
          exact ⟨ret_bool HNF.out.symm, hb4⟩
      · obtain rfl : k = l'.length := by omega
        have HT := Lib.hid (sameLog_yes HL.out (fun j x y hj => HA.out j x y (by have := HL.out; omega)))
        clear hl
        go_wp2
        go_ret
        exact ⟨ret_bool HT.out.symm, hb⟩
  · have HF := Lib.hid (sameLog_len hl)
    have hlz : ¬ (l.length : Int) = l'.length := by omega
    clear hl
    go_enter Try.func44, Try.ntmps44
    go_wp2
    go_ret
    exact ⟨ret_bool HF.out.symm, Below.refl _ _⟩
end Go.Proofs.Ytmphiomalhjciaa
