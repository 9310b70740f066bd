/- Contract of spec.l01Num: a number as a text is its decimal numeral. -/
import Derived.Test.YtomkfldimkpmdaaDoorCore
import Derived.Lib.ItoaNum
import Derived.Lib.ItoaMem
import Derived.Lib.ItoaLen
import Derived.Deep.LoopGhost
import Derived.Deep.OwnRows
namespace Go.Proofs.YtomkfldimkpmdaaDoor
open Go.RowKit

/-- the digits of m ahead of out -/
def digitsOn (m : Nat) (out : List UInt8) : List UInt8 := if m = 0 then out else Lib.decDigits m ++ out
theorem digitsOn_step {m : Nat} (out : List UInt8) (h : 0 < m) : digitsOn (m / 10) (UInt8.ofNat (48 + m % 10) :: out) = digitsOn m out := by
  unfold digitsOn
  rw [if_neg (show ¬ m = 0 by omega)]
  by_cases h10 : m < 10
  · rw [if_pos (by omega), Lib.decDigits_one h10, Nat.mod_eq_of_lt h10]
    rfl
  · rw [if_neg (by omega)]
    conv => rhs; rw [Lib.decDigits, dif_neg h10]
    simp

theorem digitsOn_len {m m0 : Nat} {out : List UInt8} (h : digitsOn m out = Lib.decDigits m0) (h0 : 0 < m0) (hm : m0 ≤ 9223372036854775808) : out.length ≤ 21 := by
  have h1 := Lib.itoa_length_le (-(m0 : Int)) (by omega) (by omega)
  rw [Lib.itoa_neg m0 h0, List.length_cons, ← h] at h1
  unfold digitsOn at h1
  split at h1
  · omega
  · rw [List.length_append] at h1
    omega

theorem run_one_byte (w : World) (c : UInt8) (d : Int) (h : d = (c.toNat : Int)) :
    (convert 71 9 (.slice (some ⟨w.heap.size, 0, none⟩) 1 1)).run Tryd.prog (w.alloc (.cells #[.int .u8 d] 5)) = .ok (.string ⟨#[c]⟩) (w.alloc (.cells #[.int .u8 d] 5)) :=
  run_convert_bytes_back (P := Tryd.prog) (w.alloc (.cells #[.int .u8 d] 5)) 71 9 5 ⟨w.heap.size, 0, none⟩ 1 [c] Tryd.underlying71 Tryd.underlying5 Tryd.underlying9 (fun j hj => by
    have : j = 0 := by simpa using hj
    subst this
    subst h
    simp [Addr.add])

set_option maxHeartbeats 800000 in
set_option maxRecDepth 100000 in
theorem l01Num_pos (m0 : Nat) (hm : 0 < m0) (hm2 : m0 ≤ 9223372036854775807) (w : World) :
    Calls Tryd.prog 13 #[.int .i64 (m0 : Int)] w fun e w' => e = .returned (.string ⟨(Lib.decDigits m0).toArray⟩) ∧ Below w.heap.size w w' := by
  have hne : ((m0 : Int) == 0) = false := by rw [beq_eq_false_iff_ne]; omega
  go_enter Tryd.func13, Tryd.ntmps13
  go_wp2
  go_loopw [0, 3] (fun x s wr => ∃ (m : Nat) (out : List UInt8), m ≤ m0 ∧ x = .int .i64 (m : Int) ∧ s = .string ⟨out.toArray⟩ ∧ digitsOn m out = Lib.decDigits m0 ∧ Below w.heap.size w wr) (fun x _ _ => (intOf x).toNat)
  case atStart => exact ⟨m0, [], Nat.le_refl _, rfl, rfl, by simp [digitsOn]; omega, Below.refl _ _⟩
  case round =>
    obtain ⟨m, out, hmm, rfl, rfl, hdig, hb⟩ := hrel
    by_cases h0 : m = 0
    · subst h0
      have hlen := digitsOn_len hdig hm (by omega)
      have Hdig := Lib.hid hdig
      clear hdig
      go_wp2
      go_ret
      refine ⟨?_, hb⟩
      have : out = Lib.decDigits m0 := by simpa [digitsOn] using Hdig.out
      rw [← this]
      rfl
    · have Hdig := Lib.hid hdig
      have hmz : (m : Int) ≤ 9223372036854775807 := by omega
      clear hdig
      have hne' : ((m : Int) != 0) = true := by rw [bne_iff_ne]; omega
      have hpos : (0 : Int) < m := by omega
      have hrem : ¬ ((m : Int) % 10 < 0) := by omega
      have hlen := digitsOn_len Hdig.out hm (by omega)
      obtain ⟨c, hcd⟩ : ∃ c, c = UInt8.ofNat (48 + m % 10) := ⟨_, rfl⟩
      have hc : (48 + (m : Int) % 10) = (c.toNat : Int) := by
        rw [hcd, UInt8.toNat_ofNat_of_lt' (by show 48 + m % 10 < 256; omega)]
        omega
      have hconv := run_one_byte wr _ _ hc
      have HD := Lib.hid ((digitsOn_step out (show 0 < m by omega)).trans Hdig.out)
      rw [← hcd] at HD
      clear hc hcd
      go_wp2
      refine ⟨⟨m / 10, c :: out, by omega, by go_num, ?_, HD.out, hb.alloc hb.size _⟩, by simp [intOf]; omega⟩
      rw [ByteArray.mk_append_mk]
      rfl

set_option maxHeartbeats 800000 in
set_option maxRecDepth 100000 in
theorem l01Num_neg (m0 : Nat) (hm : 0 < m0) (hm2 : m0 ≤ 9223372036854775808) (w : World) :
    Calls Tryd.prog 13 #[.int .i64 (-(m0 : Int))] w fun e w' => e = .returned (.string ⟨(45 :: Lib.decDigits m0).toArray⟩) ∧ Below w.heap.size w w' := by
  have hne : ((-(m0 : Int)) == 0) = false := by rw [beq_eq_false_iff_ne]; omega
  have hneg : (-(m0 : Int)) < 0 := by omega
  go_enter Tryd.func13, Tryd.ntmps13
  go_wp2
  go_loopw [0, 3, 5] (fun x s d wr => ∃ (m : Nat) (out : List UInt8), m ≤ m0 ∧ x = .int .i64 (-(m : Int)) ∧ s = .string ⟨out.toArray⟩ ∧ digitsOn m out = Lib.decDigits m0 ∧ Below w.heap.size w wr) (fun x _ _ _ => (-(intOf x)).toNat)
  case atStart => exact ⟨m0, [], Nat.le_refl _, rfl, rfl, by simp [digitsOn]; omega, Below.refl _ _⟩
  case round =>
    obtain ⟨m, out, hmm, rfl, rfl, hdig, hb⟩ := hrel
    have hlen := digitsOn_len hdig hm hm2
    have Hdig := Lib.hid hdig
    clear hdig
    by_cases h0 : m = 0
    · subst h0
      go_wp2
      go_ret
      refine ⟨?_, hb⟩
      have : out = Lib.decDigits m0 := by simpa [digitsOn] using Hdig.out
      rw [← this]
      show Ending.returned (.string ((⟨#[45]⟩ : ByteArray) ++ ⟨out.toArray⟩)) = _
      rw [ByteArray.mk_append_mk]
      rfl
    · have hmz : (m : Int) ≤ 9223372036854775808 := by omega
      have hne' : ((-(m : Int)) != 0) = true := by rw [bne_iff_ne]; omega
      obtain ⟨c, hcd⟩ : ∃ c, c = UInt8.ofNat (48 + m % 10) := ⟨_, rfl⟩
      have hcn : c.toNat = 48 + m % 10 := by rw [hcd, UInt8.toNat_ofNat_of_lt' (by show 48 + m % 10 < 256; omega)]
      have HD := Lib.hid ((digitsOn_step out (show 0 < m by omega)).trans Hdig.out)
      rw [← hcd] at HD
      clear hcd
      by_cases hz : m % 10 = 0
      · have hconv := run_one_byte wr c (48 + -((m : Int) % 10)) (by omega)
        have hz' : ¬ (0 : Int) < (m : Int) % 10 := by omega
        clear hz hcn
        go_wp2
        refine ⟨⟨m / 10, c :: out, by omega, ?_, ?_, HD.out, hb.alloc hb.size _⟩, by simp [intOf]; omega⟩
        · go_num
        · rw [ByteArray.mk_append_mk]
          rfl
      · have hconv := run_one_byte wr c (48 + (m : Int) % 10) (by omega)
        have hz' : (0 : Int) < (m : Int) % 10 := by omega
        clear hz hcn
        go_wp2
        refine ⟨⟨m / 10, c :: out, by omega, ?_, ?_, HD.out, hb.alloc hb.size _⟩, by simp [intOf]; omega⟩
        · go_num
        · rw [ByteArray.mk_append_mk]
          rfl

theorem itoa_zero : Lib.itoa 0 = [48] := by
  rw [show (0 : Int) = ((0 : Nat) : Int) from rfl, Lib.itoa_nonneg, Lib.decDigits_one (by omega)]
  rfl

theorem l01Num_any (x : Int) (h0 : -9223372036854775808 ≤ x) (h1 : x ≤ 9223372036854775807) (w : World) :
    Calls Tryd.prog 13 #[.int .i64 x] w fun e w' => e = .returned (.string ⟨(Lib.itoa x).toArray⟩) ∧ Below w.heap.size w w' := by
  by_cases hz : x = 0
  · subst hz
    rw [itoa_zero]
    go_enter Tryd.func13, Tryd.ntmps13
    go_wp2
    go_ret
    exact ⟨rfl, Below.refl _ _⟩
  · rcases Int.lt_or_le x 0 with hn | hn
    · obtain ⟨m, hm⟩ := Int.eq_ofNat_of_zero_le (show 0 ≤ -x by omega)
      obtain rfl : x = -(m : Int) := by omega
      rw [Lib.itoa_neg m (by omega)]
      exact l01Num_neg m (by omega) (by omega) w
    · obtain ⟨m, rfl⟩ := Int.eq_ofNat_of_zero_le hn
      rw [Lib.itoa_nonneg]
      exact l01Num_pos m (by omega) (by omega) w
end Go.Proofs.YtomkfldimkpmdaaDoor
