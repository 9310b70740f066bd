/- A number read: the model's l01Read. -/
import Derived.Test.YtilgfcbjonalaaaDoorFold
import Derived.Test.YtilgfcbjonalaaaDoorParts
import Derived.Lib.Strings
import Derived.Deep.RegionHeld3
import Derived.Deep.RegionLaw
import Derived.Deep.DeepCutAuto
import Derived.Deep.Light
import Derived.StillTailTactics
namespace Go.Proofs.YtilgfcbjonalaaaDoor
open Go.RowKit

/-- the text is the number's, of at most nine digits -/
def numIs (s : ByteArray) (x : Int) : Prop := s.data.toList = Lib.itoa x ∧ -999999999 ≤ x ∧ x ≤ 999999999
def ReadOut (s : ByteArray) (w : World) (e : Ending) (w' : World) : Prop := ∃ (x : Int) (b : Bool), e = .returned (.tuple #[.int .i64 x, .bool b]) ∧ (b = true → numIs s x) ∧ (∀ y, numIs s y → b = true ∧ x = y) ∧ Below w.heap.size w w'

theorem worth_lt_from : ∀ (l : List UInt8) (a : Nat), (∀ d ∈ l, 48 ≤ d.toNat ∧ d.toNat ≤ 57) → l.foldl (fun a d => 10 * a + (d.toNat - 48)) a < (a + 1) * 10 ^ l.length
  | [], a, _ => by simp
  | d :: l, a, h => by
    have h1 := worth_lt_from l (10 * a + (d.toNat - 48)) (fun x hx => h x (by simp [hx]))
    have h2 := h d (by simp)
    have h3 : (10 * a + (d.toNat - 48) + 1) * 10 ^ l.length ≤ (10 * a + 10) * 10 ^ l.length := Nat.mul_le_mul_right _ (by omega)
    have h4 : (10 * a + 10) * 10 ^ l.length = (a + 1) * 10 ^ (l.length + 1) := by rw [Nat.pow_succ, show 10 * a + 10 = (a + 1) * 10 by omega, Nat.mul_assoc, Nat.mul_comm 10]
    simp only [List.foldl_cons, List.length_cons]
    omega
theorem worth_lt (l : List UInt8) (h : ∀ d ∈ l, 48 ≤ d.toNat ∧ d.toNat ≤ 57) : worth l < 10 ^ l.length := by
  have := worth_lt_from l 0 h
  unfold worth
  omega

/-- the sign, and what follows it -/
structure Signed (s D : ByteArray) (neg : Bool) : Prop where
  text : s.data.toList = (if neg then [45] else []) ++ D.data.toList
  pos : neg = false → ∀ d, D.data.toList.head? = some d → ¬ d.toNat = 45
theorem numIs_digits {s D : ByteArray} {neg : Bool} (h : Signed s D neg) {y : Int} (hy : numIs s y) : ∃ u : Nat, u ≤ 999999999 ∧ D.data.toList = Lib.decDigits u ∧ y = if neg then -(u : Int) else u := by
  obtain ⟨ht, h0, h1⟩ := hy
  rw [h.text] at ht
  by_cases hn : y < 0
  · obtain ⟨u, rfl⟩ : ∃ u : Nat, y = -(u : Int) := ⟨y.natAbs, by omega⟩
    rw [Lib.itoa_neg u (by omega)] at ht
    cases neg with
    | true =>
      simp only [if_true, List.cons_append, List.nil_append, List.cons.injEq, true_and] at ht
      exact ⟨u, by omega, ht, by simp⟩
    | false =>
      exfalso
      simp only [Bool.false_eq_true, if_false, List.nil_append] at ht
      exact h.pos rfl 45 (by rw [ht]; rfl) rfl
  · obtain ⟨u, rfl⟩ := Int.eq_ofNat_of_zero_le (show 0 ≤ y by omega)
    rw [Lib.itoa_nonneg] at ht
    cases neg with
    | true =>
      exfalso
      simp only [if_true, List.cons_append, List.nil_append] at ht
      have := dec_digit u 45 (by rw [← ht]; simp)
      exact absurd this.1 (by decide)
    | false =>
      simp only [Bool.false_eq_true, if_false, List.nil_append] at ht
      exact ⟨u, by omega, ht, by simp⟩

theorem byte_list (s : ByteArray) : s.toList = s.data.toList := ByteArray.toList_eq s
theorem size_list (D : ByteArray) : D.data.toList.length = D.size := by rw [Array.length_toList]; rfl

set_option maxHeartbeats 1600000 in
set_option maxRecDepth 100000 in
theorem l01Read_any (s : ByteArray) (hs : s.size ≤ 1048576) (w : World) : Calls Tryd.prog 79 #[.string s] w (ReadOut s w) := by
  by_cases h0 : 0 < s.size
  · have h0z : (0 : Int) < s.size := by omega
    by_cases hm : (s[0]'h0).toNat = 45
    · have hbe : (((s[0]'h0).toNat : Int) == 45) = true := by rw [hm]; rfl
      have hsg : Signed s (s.extract 1 s.size) true := ⟨by
        have he : (s.extract 1 s.size).data.toList = s.data.toList.drop 1 := by rw [Lib.extract_data]; exact List.take_of_length_le (by rw [List.length_drop, Lib.size_eq]; exact Nat.le_refl _)
        have hg : s.data.toList[0]? = some (s[0]'h0) := by rw [Array.getElem?_toList]; exact Array.getElem?_eq_getElem h0
        have h45 : s[0]'h0 = 45 := UInt8.toNat_inj.1 hm
        rw [he]
        cases hl : s.data.toList with
        | nil => rw [hl] at hg; cases hg
        | cons x l => rw [hl] at hg; simp at hg; simp [hg, h45], fun h => by cases h⟩
      have hsz : (s.extract 1 s.size).size + 1 ≤ s.size := by simp; omega
      have hsz2 : s.size ≤ (s.extract 1 s.size).size + 1 := by simp; omega
      clear hm
      go_enter Tryd.func79, Tryd.ntmps79
      go_upto_region 4 with (fail)
      generalize s.extract 1 s.size = D at hsg hsz hsz2 ⊢
      have HSG := Lib.hid hsg
      go_wp2_with fail
      refine (l01In_any _ _ _ _).mono ?_; rintro e w' ⟨rfl, rfl⟩
      cases hin : inB (D.size : Int) 1 9 with
      | false =>
        have HIN := Lib.hid hin
        clear hin
        go_wp2
        go_ret2
        refine ⟨0, false, rfl, (fun h => by cases h), (fun y hy => ?_), Below.refl _ _⟩
        exfalso
        obtain ⟨u, hu, hd, _⟩ := numIs_digits HSG.out hy
        have hl := dec_len 9 u (by omega) (by omega)
        rw [← hd, size_list] at hl
        have := HIN.out
        simp [inB] at this
        omega
      | true =>
        have h19 : 1 ≤ D.size ∧ D.size ≤ 9 := by simp [inB] at hin; omega
        obtain ⟨hD1, hD9⟩ := h19
        have HIN := Lib.hid hin
        clear hin hsg
        go_wp2
        go_loop [5, 6] (fun x i => ∃ k : Nat, k ≤ D.size ∧ i = .int .i64 (k : Int) ∧ x = .int .i64 (worth (D.data.toList.take k) : Nat) ∧ ∀ d ∈ D.data.toList.take k, 48 ≤ d.toNat ∧ d.toNat ≤ 57) (fun _ i => D.size - (intOf i).toNat)
        case atStart => exact ⟨0, Nat.zero_le _, rfl, rfl, fun d hd => by simp at hd⟩
        case round =>
          obtain ⟨k, hk, rfl, rfl, hall⟩ := hrel
          have Hall := Lib.hid hall
          clear hall
          by_cases hkD : k < D.size
          · have hkz : (k : Int) < D.size := by omega
            have hwl := worth_lt _ Hall.out
            have hwl9 : worth (D.data.toList.take k) < 1000000000 := Nat.lt_of_lt_of_le hwl (Nat.le_trans (Nat.pow_le_pow_right (by decide) (show (D.data.toList.take k).length ≤ 9 by rw [List.length_take]; omega)) (by decide))
            have hget : D.data.toList[k]? = some (D[k]'hkD) := by rw [Array.getElem?_toList]; exact Array.getElem?_eq_getElem hkD
            have hmem : D[k]'hkD ∈ D.data.toList := List.mem_of_getElem? hget
            have HT := Lib.hid (show D.data.toList.take (k + 1) = D.data.toList.take k ++ [D[k]'hkD] by rw [List.take_add_one, hget]; rfl)
            generalize hW : worth (D.data.toList.take k) = W at hwl9
            have HW := Lib.hid hW
            clear hwl hget hW
            by_cases hlo : (D[k]'hkD).toNat < 48
            · have hloz : ((D[k]'hkD).toNat : Int) < 48 := by omega
              have HM := Lib.hid hmem
              clear hmem hlo
              go_wp2
              go_ret2
              refine ⟨0, false, rfl, (fun h => by cases h), (fun y hy => ?_), Below.refl _ _⟩
              exfalso
              obtain ⟨u, hu, hd, _⟩ := numIs_digits HSG.out hy
              have := dec_digit u _ (by rw [← hd]; exact HM.out)
              omega
            · by_cases hhi : 57 < (D[k]'hkD).toNat
              · have hloz : ¬ ((D[k]'hkD).toNat : Int) < 48 := by omega
                have hhiz : (57 : Int) < ((D[k]'hkD).toNat : Int) := by omega
                have HM := Lib.hid hmem
                clear hmem hlo hhi
                go_wp2
                go_ret2
                refine ⟨0, false, rfl, (fun h => by cases h), (fun y hy => ?_), Below.refl _ _⟩
                exfalso
                obtain ⟨u, hu, hd, _⟩ := numIs_digits HSG.out hy
                have := dec_digit u _ (by rw [← hd]; exact HM.out)
                omega
              · have hloz : (48 : Int) ≤ ((D[k]'hkD).toNat : Int) := by omega
                have hhiz : ((D[k]'hkD).toNat : Int) ≤ 57 := by omega
                have HLO := Lib.hid hlo
                have HHI := Lib.hid hhi
                clear hmem hlo hhi
                go_wp2
                exact ⟨⟨k + 1, hkD, by go_num, by rw [HT.out, worth_more, HW.out]; have := HLO.out; have := HHI.out; congr 1; omega, fun d hd => by
                  rw [HT.out, List.mem_append, List.mem_singleton] at hd
                  rcases hd with hd | rfl
                  · exact Hall.out d hd
                  · have := HLO.out; have := HHI.out; omega⟩, by simp [intOf]; omega⟩
          · obtain rfl : k = D.size := by omega
            have htk : D.data.toList.take D.size = D.data.toList := by rw [← size_list]; exact List.take_length
            rw [htk] at Hall ⊢
            have hwl := worth_lt _ Hall.out
            rw [size_list] at hwl
            have hwl9 : worth D.data.toList < 1000000000 := Nat.lt_of_lt_of_le hwl (Nat.le_trans (Nat.pow_le_pow_right (by decide) hD9) (by decide))
            have HWE : ∀ u, D.data.toList = Lib.decDigits u → worth D.data.toList = u := fun u h => by rw [h]; exact worth_dec u
            have HWD := Lib.hid HWE
            clear htk hwl HWE
            generalize worth D.data.toList = W at hwl9 HWD
            go_wp2_with fail
            refine (l01Num_any _ (by omega) (by omega) _).mono ?_; rintro e w1 ⟨rfl, hb1⟩
            go_wp2
            go_ret2
            refine ⟨-(W : Int), _, rfl, (fun h => ?_), (fun y hy => ?_), hb1⟩
            · have h' : Lib.itoa (-(W : Int)) = s.toList := by simpa using h
              rw [byte_list] at h'
              exact ⟨h'.symm, by omega, by omega⟩
            · obtain ⟨u, hu, hd, he⟩ := numIs_digits HSG.out hy
              have hWu := HWD.out u hd
              subst hWu
              have hyx : y = -(W : Int) := by simpa using he
              refine ⟨?_, hyx.symm⟩
              have := hy.1
              rw [hyx] at this
              rw [← byte_list] at this
              simpa using this.symm
    · have hbe : (((s[0]'h0).toNat : Int) == 45) = false := by rw [beq_eq_false_iff_ne]; omega
      have hsg : Signed s s false := ⟨by simp, fun _ d hd => by
        have hg : s.data.toList[0]? = some (s[0]'h0) := by rw [Array.getElem?_toList]; exact Array.getElem?_eq_getElem h0
        rw [← List.head?_eq_getElem?, hd] at hg
        cases hg
        exact hm⟩
      clear hm
      go_enter Tryd.func79, Tryd.ntmps79
      go_upto_region 4 with (fail)
      have HSG := Lib.hid hsg
      go_wp2_with fail
      refine (l01In_any _ _ _ _).mono ?_; rintro e w' ⟨rfl, rfl⟩
      cases hin : inB (s.size : Int) 1 9 with
      | false =>
        have HIN := Lib.hid hin
        clear hin
        go_wp2
        go_ret2
        refine ⟨0, false, rfl, (fun h => by cases h), (fun y hy => ?_), Below.refl _ _⟩
        exfalso
        obtain ⟨u, hu, hd, _⟩ := numIs_digits HSG.out hy
        have hl := dec_len 9 u (by omega) (by omega)
        rw [← hd, size_list] at hl
        have := HIN.out
        simp [inB] at this
        omega
      | true =>
        have h19 : 1 ≤ s.size ∧ s.size ≤ 9 := by simp [inB] at hin; omega
        obtain ⟨hD1, hD9⟩ := h19
        have HIN := Lib.hid hin
        clear hin hsg
        go_wp2
        go_loop [5, 6] (fun x i => ∃ k : Nat, k ≤ s.size ∧ i = .int .i64 (k : Int) ∧ x = .int .i64 (worth (s.data.toList.take k) : Nat) ∧ ∀ d ∈ s.data.toList.take k, 48 ≤ d.toNat ∧ d.toNat ≤ 57) (fun _ i => s.size - (intOf i).toNat)
        case atStart => exact ⟨0, Nat.zero_le _, rfl, rfl, fun d hd => by simp at hd⟩
        case round =>
          obtain ⟨k, hk, rfl, rfl, hall⟩ := hrel
          have Hall := Lib.hid hall
          clear hall
          by_cases hkD : k < s.size
          · have hkz : (k : Int) < s.size := by omega
            have hwl := worth_lt _ Hall.out
            have hwl9 : worth (s.data.toList.take k) < 1000000000 := Nat.lt_of_lt_of_le hwl (Nat.le_trans (Nat.pow_le_pow_right (by decide) (show (s.data.toList.take k).length ≤ 9 by rw [List.length_take]; omega)) (by decide))
            have hget : s.data.toList[k]? = some (s[k]'hkD) := by rw [Array.getElem?_toList]; exact Array.getElem?_eq_getElem hkD
            have hmem : s[k]'hkD ∈ s.data.toList := List.mem_of_getElem? hget
            have HT := Lib.hid (show s.data.toList.take (k + 1) = s.data.toList.take k ++ [s[k]'hkD] by rw [List.take_add_one, hget]; rfl)
            generalize hW : worth (s.data.toList.take k) = W at hwl9
            have HW := Lib.hid hW
            clear hwl hget hW
            by_cases hlo : (s[k]'hkD).toNat < 48
            · have hloz : ((s[k]'hkD).toNat : Int) < 48 := by omega
              have HM := Lib.hid hmem
              clear hmem hlo
              go_wp2
              go_ret2
              refine ⟨0, false, rfl, (fun h => by cases h), (fun y hy => ?_), Below.refl _ _⟩
              exfalso
              obtain ⟨u, hu, hd, _⟩ := numIs_digits HSG.out hy
              have := dec_digit u _ (by rw [← hd]; exact HM.out)
              omega
            · by_cases hhi : 57 < (s[k]'hkD).toNat
              · have hloz : ¬ ((s[k]'hkD).toNat : Int) < 48 := by omega
                have hhiz : (57 : Int) < ((s[k]'hkD).toNat : Int) := by omega
                have HM := Lib.hid hmem
                clear hmem hlo hhi
                go_wp2
                go_ret2
                refine ⟨0, false, rfl, (fun h => by cases h), (fun y hy => ?_), Below.refl _ _⟩
                exfalso
                obtain ⟨u, hu, hd, _⟩ := numIs_digits HSG.out hy
                have := dec_digit u _ (by rw [← hd]; exact HM.out)
                omega
              · have hloz : (48 : Int) ≤ ((s[k]'hkD).toNat : Int) := by omega
                have hhiz : ((s[k]'hkD).toNat : Int) ≤ 57 := by omega
                have HLO := Lib.hid hlo
                have HHI := Lib.hid hhi
                clear hmem hlo hhi
                go_wp2
                exact ⟨⟨k + 1, hkD, by go_num, by rw [HT.out, worth_more, HW.out]; have := HLO.out; have := HHI.out; congr 1; omega, fun d hd => by
                  rw [HT.out, List.mem_append, List.mem_singleton] at hd
                  rcases hd with hd | rfl
                  · exact Hall.out d hd
                  · have := HLO.out; have := HHI.out; omega⟩, by simp [intOf]; omega⟩
          · obtain rfl : k = s.size := by omega
            have htk : s.data.toList.take s.size = s.data.toList := by rw [← size_list]; exact List.take_length
            rw [htk] at Hall ⊢
            have hwl := worth_lt _ Hall.out
            rw [size_list] at hwl
            have hwl9 : worth s.data.toList < 1000000000 := Nat.lt_of_lt_of_le hwl (Nat.le_trans (Nat.pow_le_pow_right (by decide) hD9) (by decide))
            have HWE : ∀ u, s.data.toList = Lib.decDigits u → worth s.data.toList = u := fun u h => by rw [h]; exact worth_dec u
            have HWD := Lib.hid HWE
            clear htk hwl HWE
            generalize worth s.data.toList = W at hwl9 HWD
            go_wp2_with fail
            refine (l01Num_any _ (by omega) (by omega) _).mono ?_; rintro e w1 ⟨rfl, hb1⟩
            go_wp2
            go_ret2
            refine ⟨(W : Int), _, rfl, (fun h => ?_), (fun y hy => ?_), hb1⟩
            · have h' : Lib.itoa ((W : Int)) = s.toList := by simpa using h
              rw [byte_list] at h'
              exact ⟨h'.symm, by omega, by omega⟩
            · obtain ⟨u, hu, hd, he⟩ := numIs_digits HSG.out hy
              have hWu := HWD.out u hd
              subst hWu
              have hyx : y = (W : Int) := by simpa using he
              refine ⟨?_, hyx.symm⟩
              have := hy.1
              rw [hyx] at this
              rw [← byte_list] at this
              simpa using this.symm
  · have h0z : ¬ (0 : Int) < s.size := by omega
    have hin : inB (s.size : Int) 1 9 = false := by simp [inB]; omega
    have HIN := Lib.hid hin
    clear hin
    go_enter Tryd.func79, Tryd.ntmps79
    go_upto_region 4 with (fail)
    go_wp2_with fail
    refine (l01In_any _ _ _ _).mono ?_; rintro e w' ⟨rfl, rfl⟩
    rw [HIN.out]
    go_wp2
    go_ret2
    refine ⟨0, false, rfl, (fun h => by cases h), (fun y hy => ?_), Below.refl _ _⟩
    exfalso
    have hl := congrArg List.length hy.1
    rw [size_list] at hl
    have hp : 1 ≤ (Lib.itoa y).length := by
      by_cases hn : y < 0
      · unfold Lib.itoa
        rw [if_pos hn]
        simp
      · unfold Lib.itoa
        rw [if_neg hn]
        exact (dec_len 9 y.toNat (by omega) (by have := hy.2.2; omega)).1
    omega
end Go.Proofs.YtilgfcbjonalaaaDoor
