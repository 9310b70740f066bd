/- The text of a lock: its mathematics, and the model's LockText. -/
import Derived.Test.YtmdonjkkpkcpnaaDoorLs2
import Derived.Test.YtmdonjkkpkcpnaaDoorNum
import Derived.Lib.Join
namespace Go.Proofs.YtmdonjkkpkcpnaaDoor
open Go.RowKit

def mdB (y : Bool) : UInt8 := if y then 119 else 114
def txt (x : Int) (y : Bool) : List UInt8 := Lib.itoa x ++ [mdB y]
def txtL (l : HL) : List (List UInt8) := l.map fun z => txt z.1 z.2
def namesTo (l : HL) (k : Nat) : List UInt8 := Lib.join (txtL (l.take k)) [32]
def namesT (l : HL) : List UInt8 := Lib.join (txtL l) [32]
theorem join_more (xs : List (List UInt8)) (x sep : List UInt8) (h : xs ≠ []) : Lib.join (xs ++ [x]) sep = Lib.join xs sep ++ sep ++ x := by
  obtain ⟨y, r, rfl⟩ := List.exists_cons_of_ne_nil h
  rw [List.cons_append, Lib.join_cons, Lib.join_cons]
  simp [Lib.joinTail]
theorem join_two (xs ys : List (List UInt8)) (sep : List UInt8) (h : xs ≠ []) (h2 : ys ≠ []) : Lib.join (xs ++ ys) sep = Lib.join xs sep ++ sep ++ Lib.join ys sep := by
  obtain ⟨y, r, rfl⟩ := List.exists_cons_of_ne_nil h
  obtain ⟨z, q, rfl⟩ := List.exists_cons_of_ne_nil h2
  rw [List.cons_append, Lib.join_cons, Lib.join_cons, Lib.join_cons]
  simp [Lib.joinTail]
theorem namesTo_zero (l : HL) : namesTo l 0 = [] := rfl
theorem namesTo_all (l : HL) : namesTo l l.length = namesT l := by unfold namesTo namesT; rw [List.take_length]
theorem txtL_succ {l : HL} {k : Nat} (h : k < l.length) : txtL (l.take (k + 1)) = txtL (l.take k) ++ [txt (hT l k) (hW l k)] := by
  unfold txtL
  rw [List.take_succ_eq_append_getElem h, List.map_append, ← hT_get h]
  rfl
theorem namesTo_one {l : HL} (h : 0 < l.length) : namesTo l 1 = txt (hT l 0) (hW l 0) := by
  unfold namesTo
  rw [show (1 : Nat) = 0 + 1 from rfl, txtL_succ h]
  simp [txtL, Lib.join_one]
theorem namesTo_more {l : HL} {k : Nat} (h : k < l.length) (hk : 0 < k) : namesTo l (k + 1) = namesTo l k ++ [32] ++ txt (hT l k) (hW l k) := by
  unfold namesTo
  rw [txtL_succ h, join_more]
  intro e
  have := congrArg List.length e
  simp [txtL] at this
  rcases this with h1 | h1
  · omega
  · subst h1; simp at h
theorem itoa_tid {x : Int} (h : 1 ≤ x ∧ x ≤ 8) : (Lib.itoa x).length ≤ 21 := Lib.itoa_length_le x (by omega) (by omega)
theorem namesTo_len {l : HL} (ht : ∀ j, j < l.length → 1 ≤ hT l j ∧ hT l j ≤ 8) : ∀ k, k ≤ l.length → (namesTo l k).length ≤ 23 * k
  | 0, _ => by simp [namesTo_zero]
  | 1, h => by
    have := itoa_tid (ht 0 (by omega))
    rw [namesTo_one (by omega)]
    simp [txt]; omega
  | k + 2, h => by
    have := itoa_tid (ht (k + 1) (by omega))
    have ih := namesTo_len ht (k + 1) (by omega)
    rw [namesTo_more (by omega) (by omega)]
    simp [txt]; omega
/-- what LockText answers -/
def partsL (hs ws : HL) : List (List UInt8) := txtL hs ++ [[124]] ++ txtL ws
def lockT (hs ws : HL) : List UInt8 := if lockOk hs ws = true then Lib.join (partsL hs ws) [32] else []
theorem lockT_no {hs ws : HL} (h : lockOk hs ws = false) : lockT hs ws = [] := by simp [lockT, h]
theorem lockT_yes {hs ws : HL} (h : lockOk hs ws = true) : lockT hs ws = Lib.join (partsL hs ws) [32] := by simp [lockT, h]
theorem txtL_ne {l : HL} (h : 0 < l.length) : txtL l ≠ [] := by
  intro e
  have := congrArg List.length e
  simp [txtL] at this
  subst this; simp at h
theorem bar_ne (l : HL) : txtL l ++ [[124]] ≠ [] := by simp
theorem parts_00 {hs ws : HL} (h : hs.length = 0) (h2 : ws.length = 0) : Lib.join (partsL hs ws) [32] = [124] := by
  have e := List.length_eq_zero_iff.1 h
  have e2 := List.length_eq_zero_iff.1 h2
  subst e e2
  simp [partsL, txtL, Lib.join_one]
theorem parts_10 {hs ws : HL} (h : 0 < hs.length) (h2 : ws.length = 0) : Lib.join (partsL hs ws) [32] = namesT hs ++ [32] ++ [124] := by
  have e2 := List.length_eq_zero_iff.1 h2
  subst e2
  unfold partsL
  rw [show txtL [] = [] from rfl, List.append_nil, join_more _ _ _ (txtL_ne h)]
  rfl
theorem parts_01 {hs ws : HL} (h : hs.length = 0) (h2 : 0 < ws.length) : Lib.join (partsL hs ws) [32] = [124] ++ [32] ++ namesT ws := by
  have e := List.length_eq_zero_iff.1 h
  subst e
  unfold partsL
  rw [join_two _ _ _ (by simp) (txtL_ne h2)]
  simp [txtL, Lib.join_one, namesT]
theorem parts_11 {hs ws : HL} (h : 0 < hs.length) (h2 : 0 < ws.length) : Lib.join (partsL hs ws) [32] = namesT hs ++ [32] ++ [124] ++ [32] ++ namesT ws := by
  unfold partsL
  rw [join_two _ _ _ (bar_ne hs) (txtL_ne h2), join_more _ _ _ (txtL_ne h)]
  rfl
theorem tids_of {hs ws : HL} (h : lockOk hs ws = true) : (∀ j, j < hs.length → 1 ≤ hT hs j ∧ hT hs j ≤ 8) ∧ (∀ j, j < ws.length → 1 ≤ hT ws j ∧ hT ws j ≤ 8) := by
  have hp := ((lockOk_iff _ _).1 h).1.tid
  have hin : ∀ t, t ∈ ids (hs ++ ws) → 1 ≤ t ∧ t ≤ 8 := fun t ht => by
    have := hp t ht
    simpa [tidB, inB] using this
  refine ⟨fun j hj => hin _ ?_, fun j hj => hin _ ?_⟩
  · rw [ids_append, List.mem_append]
    left
    have : hT hs j = (hs[j]).1 := by rw [← hT_get hj]
    rw [this]
    exact List.mem_map_of_mem (f := (·.1)) (List.getElem_mem hj)
  · rw [ids_append, List.mem_append]
    right
    have : hT ws j = (ws[j]).1 := by rw [← hT_get hj]
    rw [this]
    exact List.mem_map_of_mem (f := (·.1)) (List.getElem_mem hj)
theorem ret_str {a b : ByteArray} (h : a = b) : Ending.returned (.string a) = .returned (.string b) := by rw [h]
theorem str_eq {a b : ByteArray} (h : a = b) : Value.string a = .string b := by rw [h]

set_option maxHeartbeats 1600000 in
set_option maxRecDepth 100000 in
theorem l03Names_any (A : Option Addr) (c B : Nat) (l : HL) (w : World) (hl8 : l.length ≤ 8) (ht : ∀ j, j < l.length → 1 ≤ hT l j ∧ hT l j ≤ 8) (h : HAt w B A l) :
    Calls Tryd.prog 11 #[.slice A l.length c] w fun e w' => e = .returned (.string ⟨(namesT l).toArray⟩) ∧ Below w.heap.size w w' := by
  have h := h.lt
  have hlen := Lib.hid (fun k hk => namesTo_len ht k hk)
  go_enter Tryd.func11, Tryd.ntmps11
  go_wp2
  go_loopw [3, 4] (fun t i wr => ∃ k : Nat, k ≤ l.length ∧ i = .int .i64 (k : Int) ∧ t = .string ⟨(namesTo l k).toArray⟩ ∧ Below w.heap.size w wr) (fun _ i _ => l.length - (intOf i).toNat)
  case atStart => exact ⟨0, Nat.zero_le _, rfl, rfl, Below.refl _ _⟩
  case round =>
    obtain ⟨k, hk, rfl, rfl, hb⟩ := hrel
    by_cases hkn : k < l.length
    · have hkz : (k : Int) < l.length := by omega
      obtain ⟨b, off, rfl, hB, hc⟩ := h (by omega)
      have d0 : wr.cell? ⟨b, off + k * 2, none⟩ = some (.int .i64 (hT l k)) := (hb.cell (p := ⟨b, off + k * 2, none⟩) hB).trans (hc k hkn).1
      have d1 : wr.cell? ⟨b, off + k * 2 + 1, none⟩ = some (.bool (hW l k)) := (hb.cell (p := ⟨b, off + k * 2 + 1, none⟩) hB).trans (hc k hkn).2
      have hr := ht k hkn
      have hal := itoa_tid hr
      have hs := hb.size
      have hl := hlen.out k hk
      clear hc
      by_cases hk0 : k = 0
      · subst hk0
        have HE := namesTo_one hkn
        unfold txt at HE
        have HE := Lib.hid HE
        rw [namesTo_zero]
        generalize hT l 0 = x at d0 hr hal HE
        generalize hW l 0 = y at d1 HE
        simp only [Nat.zero_mul, Nat.add_zero] at d0 d1
        have hcat : ¬ (9223372036854775807 < (Lib.itoa x).length) := by omega
        have hcat1 : ¬ (9223372036854775807 < (Lib.itoa x).length + 1) := by omega
        have hN := l01Num_any x (by omega) (by omega) wr
        generalize Lib.itoa x = T at hcat hcat1 hN HE hal
        go_wp2_with fail
        refine hN.mono ?_; rintro e w2 ⟨rfl, hb2⟩
        have d1 : w2.cell? ⟨b, off + 1, none⟩ = some (.bool y) := (hb2.cell (p := ⟨b, off + 1, none⟩) (by show b < wr.heap.size; omega)).trans d1
        have HB2 := Lib.hid (hb.trans (hb2.mono hs))
        clear d0 hb hb2 hl hN
        cases y with
        | false =>
          go_wp2
          exact ⟨⟨1, by omega, by go_num, by rw [HE.out]; exact str_eq (by apply ByteArray.ext; simp [ByteArray.data_append, mdB]), HB2.out⟩, by simp [intOf]; omega⟩
        | true =>
          go_wp2
          exact ⟨⟨1, by omega, by go_num, by rw [HE.out]; exact str_eq (by apply ByteArray.ext; simp [ByteArray.data_append, mdB]), HB2.out⟩, by simp [intOf]; omega⟩
      · have hpos : (0 : Int) < k := by omega
        have HE := namesTo_more hkn (by omega)
        unfold txt at HE
        have HE := Lib.hid HE
        generalize hP : namesTo l k = P at hl HE ⊢
        generalize hT l k = x at d0 hr hal HE
        generalize hW l k = y at d1 HE
        have hcat : ¬ (9223372036854775807 < P.length + 1) := by omega
        have hcat1 : ¬ (9223372036854775807 < P.length + 1 + (Lib.itoa x).length) := by omega
        have hcat2 : ¬ (9223372036854775807 < P.length + 1 + (Lib.itoa x).length + 1) := by omega
        have hN := l01Num_any x (by omega) (by omega) wr
        generalize Lib.itoa x = T at hcat1 hcat2 hN HE hal
        clear hP
        go_wp2_with fail
        refine hN.mono ?_; rintro e w2 ⟨rfl, hb2⟩
        have d1 : w2.cell? ⟨b, off + k * 2 + 1, none⟩ = some (.bool y) := (hb2.cell (p := ⟨b, off + k * 2 + 1, none⟩) (by show b < wr.heap.size; omega)).trans d1
        have HB2 := Lib.hid (hb.trans (hb2.mono hs))
        clear d0 hb hb2 hN
        cases y with
        | false =>
          go_wp2
          exact ⟨⟨k + 1, by omega, by go_num, by rw [HE.out]; exact str_eq (by apply ByteArray.ext; simp [ByteArray.data_append, mdB]), HB2.out⟩, by simp [intOf]; omega⟩
        | true =>
          go_wp2
          exact ⟨⟨k + 1, by omega, by go_num, by rw [HE.out]; exact str_eq (by apply ByteArray.ext; simp [ByteArray.data_append, mdB]), HB2.out⟩, by simp [intOf]; omega⟩
    · obtain rfl : k = l.length := by omega
      rw [namesTo_all]
      have HB := Lib.hid hb
      clear hb
      go_wp2
      go_ret
      exact ⟨rfl, HB.out⟩
end Go.Proofs.YtmdonjkkpkcpnaaDoor
