/- A number read: the program's parseNumber. -/
import Derived.Test.YtilgfcbjonalaaaDoorRead
import Derived.Test.YtilgfcbjonalaaaDoorTab
namespace Go.Proofs.YtilgfcbjonalaaaDoor
open Go.RowKit

/-- behind the first p bytes: a sign perhaps, then digits -/
structure Sofar (s : ByteArray) (p : Nat) (neg : Bool) (ds : List UInt8) : Prop where
  text : s.data.toList.take p = (if neg then [45] else []) ++ ds
  all : ∀ d ∈ ds, 48 ≤ d.toNat ∧ d.toNat ≤ 57
  few : ds.length ≤ 9
  le : p ≤ s.size
theorem Sofar.len {s : ByteArray} {p : Nat} {neg : Bool} {ds : List UInt8} (h : Sofar s p neg ds) : p = (if neg then 1 else 0) + ds.length := by
  have := congrArg List.length h.text
  rw [List.length_take, size_list, Nat.min_eq_left h.le, List.length_append] at this
  cases neg <;> simpa using this
/-- a number's text, and where a byte of it stands -/
theorem num_byte {s : ByteArray} {p : Nat} {neg : Bool} {ds : List UInt8} (h : Sofar s p neg ds) (hp : p < s.size) {y : Int} (hy : numIs s y) :
    (p = 0 ∧ (s[p]'hp).toNat = 45) ∨ ((48 ≤ (s[p]'hp).toNat ∧ (s[p]'hp).toNat ≤ 57) ∧ ds.length < 9) := by
  have hl := h.len
  have hg : s.data.toList[p]? = some (s[p]'hp) := by rw [Array.getElem?_toList]; exact Array.getElem?_eq_getElem hp
  obtain ⟨ht, h0, h1⟩ := hy
  by_cases hn : y < 0
  · obtain ⟨u, rfl⟩ : ∃ u : Nat, y = -(u : Int) := ⟨y.natAbs, by omega⟩
    rw [Lib.itoa_neg u (by omega)] at ht
    have hd := dec_len 9 u (by omega) (by omega)
    have hsz : s.size = (Lib.decDigits u).length + 1 := by rw [← size_list, ht]; rfl
    cases p with
    | zero =>
      left
      rw [ht] at hg
      simp only [List.getElem?_cons_zero, Option.some.injEq] at hg
      exact ⟨rfl, by rw [← hg]; rfl⟩
    | succ p =>
      right
      have hnt : neg = true := by
        cases neg with
        | true => rfl
        | false =>
          exfalso
          have ht2 := h.text
          rw [ht] at ht2
          simp only [List.take_succ_cons, Bool.false_eq_true, if_false, List.nil_append] at ht2
          have := h.all 45 (by rw [← ht2]; simp)
          exact absurd this.1 (by decide)
      subst hnt
      rw [ht, List.getElem?_cons_succ] at hg
      refine ⟨dec_digit u _ (List.mem_of_getElem? hg), ?_⟩
      simp only [if_true] at hl
      omega
  · obtain ⟨u, rfl⟩ := Int.eq_ofNat_of_zero_le (show 0 ≤ y by omega)
    rw [Lib.itoa_nonneg] at ht
    have hd := dec_len 9 u (by omega) (by omega)
    have hsz : s.size = (Lib.decDigits u).length := by rw [← size_list, ht]
    right
    rw [ht] at hg
    refine ⟨dec_digit u _ (List.mem_of_getElem? hg), ?_⟩
    omega

theorem num_end {s : ByteArray} {p : Nat} {neg : Bool} {ds : List UInt8} (h : Sofar s p neg ds) (hp : ¬ p < s.size) {y : Int} (hy : numIs s y) : y = if neg then -(worth ds : Int) else (worth ds : Int) := by
  have hpe : p = s.size := by have := h.le; omega
  have ht := h.text
  rw [hpe, ← size_list, List.take_length] at ht
  have hsg : Signed s ⟨ds.toArray⟩ neg := ⟨by simpa using ht, fun hn d hd => by
    have hm : d ∈ ds := List.mem_of_head? (by simpa using hd)
    have := h.all d hm
    omega⟩
  obtain ⟨u, hu, hd, he⟩ := numIs_digits hsg hy
  have : ds = Lib.decDigits u := by simpa using hd
  rw [this, worth_dec]
  exact he
theorem Sofar.more {s : ByteArray} {p : Nat} {neg : Bool} {ds : List UInt8} (h : Sofar s p neg ds) (hp : p < s.size) (h0 : 48 ≤ (s[p]'hp).toNat) (h1 : (s[p]'hp).toNat ≤ 57) (h9 : ds.length < 9) : Sofar s (p + 1) neg (ds ++ [s[p]'hp]) := by
  have hg : s.data.toList[p]? = some (s[p]'hp) := by rw [Array.getElem?_toList]; exact Array.getElem?_eq_getElem hp
  refine ⟨?_, ?_, ?_, hp⟩
  · rw [List.take_add_one, hg, h.text, List.append_assoc]
    rfl
  · intro d hd
    rw [List.mem_append, List.mem_singleton] at hd
    rcases hd with hd | rfl
    · exact h.all d hd
    · exact ⟨h0, h1⟩
  · rw [List.length_append, List.length_singleton]
    omega
theorem Sofar.sign {s : ByteArray} {neg : Bool} {ds : List UInt8} (h : Sofar s 0 neg ds) (hp : 0 < s.size) (h45 : (s[0]'hp).toNat = 45) : ds = [] ∧ Sofar s 1 true [] := by
  have hl := h.len
  have hg : s.data.toList[0]? = some (s[0]'hp) := by rw [Array.getElem?_toList]; exact Array.getElem?_eq_getElem hp
  have he : s[0]'hp = 45 := UInt8.toNat_inj.1 h45
  refine ⟨List.length_eq_zero_iff.1 (by omega), ?_, (fun d hd => by cases hd), by simp, hp⟩
  rw [show (1 : Nat) = 0 + 1 from rfl, List.take_add_one, hg, he]
  simp
/-- an ASCII rune is its byte -/
theorem rune_ascii {s : ByteArray} {p : Nat} (hp : p < s.size) (h : (Utf8.decode s p).1 < 128) : (Utf8.decode s p).1 = (s[p]'hp).toNat ∧ (Utf8.decode s p).2 = 1 := by
  by_cases ha : (s[p]'hp).toNat < 128
  · rw [decode_ascii s p hp ha]
    exact ⟨rfl, rfl⟩
  · have := (decode_high s p hp (by omega)).1
    omega
theorem byte_rune {s : ByteArray} {p : Nat} (hp : p < s.size) (h : (s[p]'hp).toNat < 128) : (Utf8.decode s p).1 = (s[p]'hp).toNat := by
  rw [decode_ascii s p hp h]

set_option maxHeartbeats 1600000 in
set_option maxRecDepth 100000 in
theorem parseNumber_any (s : ByteArray) (hs : s.size ≤ 1048576) (w : World) (ht : Tab w) : Calls Tryd.prog 72 #[.string s] w (ReadOut s w) := by
  have HTab := Lib.hid ht
  clear ht
  go_enter Tryd.func72, Tryd.ntmps72
  go_wp2
  go_loopw [4, 5, 6] (fun x k g wr => ∃ (p : Nat) (neg : Bool) (ds : List UInt8), Sofar s p neg ds ∧ x = .int .i64 (worth ds : Nat) ∧ k = .int .i64 (ds.length : Nat) ∧ g = .bool neg ∧ wr.heap[w.heap.size]? = some (.stringIter s p) ∧ Below w.heap.size w wr) (fun _ _ _ wr => s.size - wr.iterPos w.heap.size)
  case atStart => exact ⟨0, false, [], ⟨by simp, (fun d hd => by cases hd), by simp, Nat.zero_le _⟩, rfl, rfl, rfl, World.iter_heap w s 0, (Below.refl _ _).alloc (Nat.le_refl _) _⟩
  case round =>
    obtain ⟨p, neg, ds, hso, rfl, rfl, rfl, hit, hb⟩ := hrel
    have HSO := Lib.hid hso
    have hlen := hso.len
    have hfew := hso.few
    have hwl := worth_lt ds hso.all
    have hwl9 : worth ds < 1000000000 := Nat.lt_of_lt_of_le hwl (Nat.le_trans (Nat.pow_le_pow_right (by decide) hfew) (by decide))
    clear hwl hlen hso
    have hple := HSO.out.le
    by_cases hlt : p < s.size
    · have hnx := fun ty => Lib.run_next_any_at (P := Tryd.prog) wr w.heap.size s p ty hit hlt
      have hwd := decode_width s p hlt
      obtain ⟨hw1, hw2⟩ := hwd
      have hitW := Lib.iterAt_heap wr w.heap.size s p (p + (Utf8.decode s p).2) hit
      have hbW := Lib.below_iterAt hb (Nat.le_refl _) s (p + (Utf8.decode s p).2)
      have HPr := Lib.hid (iterPos_of hit)
      have HRA := Lib.hid (fun h => rune_ascii (s := s) hlt h)
      have HBR := Lib.hid (fun h => byte_rune (s := s) hlt h)
      have hRle := decode_le s p
      clear hit hb
      generalize (Utf8.decode s p).1 = R at hnx HRA HBR hRle
      generalize (Utf8.decode s p).2 = K at hnx hitW hbW hw1 hw2 HRA
      generalize wr.iterAt w.heap.size s (p + K) = W at hnx hitW hbW
      by_cases hp0 : p = 0
      · subst hp0
        by_cases h45 : R = 45
        · obtain ⟨hRb, hK⟩ := HRA.out (by omega)
          subst hK
          obtain ⟨hds, hs1⟩ := HSO.out.sign hlt (by omega)
          have HS1 := Lib.hid hs1
          have HP := Lib.hid (iterPos_of hitW)
          subst hds
          clear hRb hs1
          subst h45
          go_wp2
          exact ⟨⟨1, true, [], HS1.out, rfl, rfl, rfl, hitW, hbW⟩, by rw [HP.out, HPr.out]; omega⟩
        · have HN45 := Lib.hid (show 0 = 0 → ¬ R = 45 from fun _ => h45)
          have hne : ((R : Int) == 45) = false := by rw [beq_eq_false_iff_ne]; omega
          clear h45
          by_cases hd : 48 ≤ R ∧ R ≤ 57
          · obtain ⟨h48, h57⟩ := hd
            obtain ⟨hRb, hK⟩ := HRA.out (by omega)
            by_cases h9 : ds.length < 9
            · have h9z : (ds.length : Int) < 9 := by omega
              have h48z : (48 : Int) ≤ R := by omega
              have h57z : (R : Int) ≤ 57 := by omega
              have HM := Lib.hid (HSO.out.more hlt (by omega) (by omega) h9)
              have HRB := Lib.hid hRb
              subst hK
              have HP := Lib.hid (iterPos_of hitW)
              clear hRb h9
              go_wp2
              refine ⟨⟨0 + 1, neg, ds ++ [s[0]'hlt], HM.out, ?_, ?_, rfl, hitW, hbW⟩, by rw [HP.out, HPr.out]; omega⟩
              · rw [worth_more]
                have := HRB.out
                congr 1
                omega
              · rw [List.length_append, List.length_singleton]
                go_num
            · have h9z : ¬ (ds.length : Int) < 9 := by omega
              have h48z : (48 : Int) ≤ R := by omega
              have h57z : (R : Int) ≤ 57 := by omega
              have HNO := Lib.hid (show ∀ y, ¬ numIs s y from fun y hy => by
                rcases num_byte HSO.out hlt hy with ⟨_, h45⟩ | ⟨_, h⟩
                · omega
                · omega)
              clear hRb h9
              go_wp2
              go_ret2
              refine ⟨0, false, rfl, (fun h => by cases h), (fun y hy => ?_), hbW⟩
              exfalso
              exact HNO.out y hy
          · have HNO := Lib.hid (show ∀ y, ¬ numIs s y from fun y hy => by
              rcases num_byte HSO.out hlt hy with ⟨hp0, h45⟩ | ⟨⟨ha, hb⟩, _⟩
              · exact HN45.out hp0 (by rw [HBR.out (by omega)]; exact h45)
              · exact hd (by rw [HBR.out (by omega)]; exact ⟨ha, hb⟩))
            by_cases h48 : 48 ≤ R
            · have h48z : (48 : Int) ≤ R := by omega
              have h57z : ¬ (R : Int) ≤ 57 := by omega
              clear hd
              go_wp2
              go_ret2
              refine ⟨0, false, rfl, (fun h => by cases h), (fun y hy => ?_), hbW⟩
              exfalso
              exact HNO.out y hy
            · have h48z : ¬ (48 : Int) ≤ R := by omega
              clear hd h48
              go_wp2
              go_ret2
              refine ⟨0, false, rfl, (fun h => by cases h), (fun y hy => ?_), hbW⟩
              exfalso
              exact HNO.out y hy
      · have HN45 := Lib.hid (show p = 0 → ¬ R = 45 from fun h => absurd h hp0)
        have hne : ((p : Int) == 0) = false := by rw [beq_eq_false_iff_ne]; omega
        clear hp0
        by_cases hd : 48 ≤ R ∧ R ≤ 57
        · obtain ⟨h48, h57⟩ := hd
          obtain ⟨hRb, hK⟩ := HRA.out (by omega)
          by_cases h9 : ds.length < 9
          · have h9z : (ds.length : Int) < 9 := by omega
            have h48z : (48 : Int) ≤ R := by omega
            have h57z : (R : Int) ≤ 57 := by omega
            have HM := Lib.hid (HSO.out.more hlt (by omega) (by omega) h9)
            have HRB := Lib.hid hRb
            subst hK
            have HP := Lib.hid (iterPos_of hitW)
            clear hRb h9
            go_wp2
            refine ⟨⟨p + 1, neg, ds ++ [s[p]'hlt], HM.out, ?_, ?_, rfl, hitW, hbW⟩, by rw [HP.out, HPr.out]; omega⟩
            · rw [worth_more]
              have := HRB.out
              congr 1
              omega
            · rw [List.length_append, List.length_singleton]
              go_num
          · have h9z : ¬ (ds.length : Int) < 9 := by omega
            have h48z : (48 : Int) ≤ R := by omega
            have h57z : (R : Int) ≤ 57 := by omega
            have HNO := Lib.hid (show ∀ y, ¬ numIs s y from fun y hy => by
              rcases num_byte HSO.out hlt hy with ⟨_, h45⟩ | ⟨_, h⟩
              · omega
              · omega)
            clear hRb h9
            go_wp2
            go_ret2
            refine ⟨0, false, rfl, (fun h => by cases h), (fun y hy => ?_), hbW⟩
            exfalso
            exact HNO.out y hy
        · have HNO := Lib.hid (show ∀ y, ¬ numIs s y from fun y hy => by
            rcases num_byte HSO.out hlt hy with ⟨hp0, h45⟩ | ⟨⟨ha, hb⟩, _⟩
            · exact HN45.out hp0 (by rw [HBR.out (by omega)]; exact h45)
            · exact hd (by rw [HBR.out (by omega)]; exact ⟨ha, hb⟩))
          by_cases h48 : 48 ≤ R
          · have h48z : (48 : Int) ≤ R := by omega
            have h57z : ¬ (R : Int) ≤ 57 := by omega
            clear hd
            go_wp2
            go_ret2
            refine ⟨0, false, rfl, (fun h => by cases h), (fun y hy => ?_), hbW⟩
            exfalso
            exact HNO.out y hy
          · have h48z : ¬ (48 : Int) ≤ R := by omega
            clear hd h48
            go_wp2
            go_ret2
            refine ⟨0, false, rfl, (fun h => by cases h), (fun y hy => ?_), hbW⟩
            exfalso
            exact HNO.out y hy
    · have hnx := fun ty => Lib.run_next_end_at (P := Tryd.prog) wr w.heap.size s p ty hit hlt
      cases neg with
      | true =>
        go_wp2_with fail
        refine (itoa_any _ (by omega) (by omega) _ (HTab.out.below hb)).mono ?_; rintro e w1 ⟨rfl, hb1⟩
        cases hq : (Lib.itoa (-(worth ds : Int)) == s.toList) with
        | true =>
          have HQ := Lib.hid hq
          have hb2 := hb.trans (hb1.mono hb.size)
          go_wp2
          go_ret2
          refine ⟨-(worth ds : Int), true, rfl, (fun _ => ?_), (fun y hy => ⟨rfl, ?_⟩), hb2⟩
          · have h' : Lib.itoa (-(worth ds : Int)) = s.toList := by simpa using HQ.out
            rw [byte_list] at h'
            exact ⟨h'.symm, by omega, by omega⟩
          · exact (num_end HSO.out hlt hy).symm
        | false =>
          have HQ := Lib.hid hq
          have hb2 := hb.trans (hb1.mono hb.size)
          go_wp2
          go_ret2
          refine ⟨0, false, rfl, (fun h => by cases h), (fun y hy => ?_), hb2⟩
          exfalso
          have hye : y = -(worth ds : Int) := num_end HSO.out hlt hy
          have h' := hy.1
          rw [← byte_list, hye] at h'
          have := HQ.out
          rw [h'] at this
          simp at this
      | false =>
        go_wp2_with fail
        refine (itoa_any _ (by omega) (by omega) _ (HTab.out.below hb)).mono ?_; rintro e w1 ⟨rfl, hb1⟩
        cases hq : (Lib.itoa ((worth ds : Int)) == s.toList) with
        | true =>
          have HQ := Lib.hid hq
          have hb2 := hb.trans (hb1.mono hb.size)
          go_wp2
          go_ret2
          refine ⟨(worth ds : Int), true, rfl, (fun _ => ?_), (fun y hy => ⟨rfl, ?_⟩), hb2⟩
          · have h' : Lib.itoa ((worth ds : Int)) = s.toList := by simpa using HQ.out
            rw [byte_list] at h'
            exact ⟨h'.symm, by omega, by omega⟩
          · exact (num_end HSO.out hlt hy).symm
        | false =>
          have HQ := Lib.hid hq
          have hb2 := hb.trans (hb1.mono hb.size)
          go_wp2
          go_ret2
          refine ⟨0, false, rfl, (fun h => by cases h), (fun y hy => ?_), hb2⟩
          exfalso
          have hye : y = (worth ds : Int) := num_end HSO.out hlt hy
          have h' := hy.1
          rw [← byte_list, hye] at h'
          have := HQ.out
          rw [h'] at this
          simp at this
end Go.Proofs.YtilgfcbjonalaaaDoor
