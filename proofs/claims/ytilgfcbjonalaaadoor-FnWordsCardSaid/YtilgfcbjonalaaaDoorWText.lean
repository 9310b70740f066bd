/- WordText: the model's and the program's, and the law. -/
import Derived.Test.YtilgfcbjonalaaaDoorWBase
import Derived.Test.YtilgfcbjonalaaaDoorTab
import Derived.Deep.RegionHeld3
import Derived.Deep.RegionLaw
namespace Go.Proofs.YtilgfcbjonalaaaDoor
open Go.RowKit

/-- a word's text -/
def wordText (e s : Int) (h : Bool) : List UInt8 := Lib.itoa e ++ [46] ++ Lib.itoa s ++ (if h then [42] else [])

theorem bytes_dot (a b : List UInt8) : ((⟨a.toArray⟩ : ByteArray) ++ ⟨#[46]⟩ ++ ⟨b.toArray⟩) = ⟨(a ++ [46] ++ b).toArray⟩ := by
  simp [ByteArray.mk_append_mk]
theorem bytes_star (a : List UInt8) : ((⟨a.toArray⟩ : ByteArray) ++ ⟨#[42]⟩) = ⟨(a ++ [42]).toArray⟩ := by
  simp [ByteArray.mk_append_mk]
theorem wret_str {a b : ByteArray} (h : a = b) : Ending.returned (.string a) = .returned (.string b) := by rw [h]
theorem itoa_len (x : Int) (h0 : -1000000000 ≤ x) (h1 : x ≤ 1000000000) : (Lib.itoa x).length ≤ 21 := Lib.itoa_length_le x (by omega) (by omega)

theorem implWordText_bad (a b : Int) (h : Bool) (ho : wordOk a b = false) (w : World) :
    Calls Tryd.prog 27 #[.agg #[.int .i64 a, .int .i64 b, .bool h]] w fun o w' => o = .returned (.string ⟨#[]⟩) ∧ Below w.heap.size w w' := by
  go_enter Tryd.func27, Tryd.ntmps27
  go_wp2_with fail
  refine (implWordOk_any _ _ _ _).mono ?_; rintro o w1 ⟨rfl, hb1⟩; rw [ho]
  have hB1 := ((Below.refl w.heap.size w).alloc (Nat.le_refl _) _).trans (hb1.mono (by simp))
  clear hb1 ho
  go_wp2
  go_ret
  exact ⟨rfl, hB1⟩

theorem one_word (a b : Int) (h : Bool) (w w1 : World) (t : TypeId) (hb1 : Below (w.alloc (.cells #[.int .i64 a, .int .i64 b, .bool h] t)).heap.size (w.alloc (.cells #[.int .i64 a, .int .i64 b, .bool h] t)) w1) :
    (w1.cell? ⟨w.heap.size, 0, none⟩ = some (.int .i64 a) ∧ w1.cell? ⟨w.heap.size, 1, none⟩ = some (.int .i64 b) ∧ w1.cell? ⟨w.heap.size, 2, none⟩ = some (.bool h)) ∧ w.heap.size < w1.heap.size ∧ Below w.heap.size w w1 := by
  obtain ⟨hc, _⟩ := wcell hb1
  have hs : w.heap.size < w1.heap.size := by have := hb1.size; simp at this; omega
  refine ⟨⟨?_, ?_, ?_⟩, hs, ((Below.refl w.heap.size w).alloc (Nat.le_refl _) _).trans (hb1.mono (by simp))⟩
  all_goals
    rw [hc _ _ (by simp)]
    go_simp

theorem cells_on {w1 w2 : World} {B : Nat} {x y z : Value} (hk : w1.cell? ⟨B, 0, none⟩ = some x ∧ w1.cell? ⟨B, 1, none⟩ = some y ∧ w1.cell? ⟨B, 2, none⟩ = some z) (hB : B < w1.heap.size) (hb : Below w1.heap.size w1 w2) :
    (w2.cell? ⟨B, 0, none⟩ = some x ∧ w2.cell? ⟨B, 1, none⟩ = some y ∧ w2.cell? ⟨B, 2, none⟩ = some z) ∧ B < w2.heap.size := by
  obtain ⟨hc, _⟩ := wcell hb
  exact ⟨⟨(hc _ _ hB).trans hk.1, (hc _ _ hB).trans hk.2.1, (hc _ _ hB).trans hk.2.2⟩, Nat.lt_of_lt_of_le hB hb.size⟩

set_option maxHeartbeats 800000 in
theorem implWordText_ok (a b : Int) (h : Bool) (ho : wordOk a b = true) (w : World) (ht : Tab w) :
    Calls Tryd.prog 27 #[.agg #[.int .i64 a, .int .i64 b, .bool h]] w fun o w' => o = .returned (.string ⟨(wordText a b h).toArray⟩) ∧ Below w.heap.size w w' := by
  obtain ⟨⟨a1, a2⟩, a3, a4⟩ := wordOk_iff.1 ho
  have HL1 := itoa_len a (by omega) (by omega)
  have HL2 := itoa_len b (by omega) (by omega)
  have N1 : ¬ 9223372036854775807 < (Lib.itoa a).length + 1 := by omega
  have N2 : ¬ 9223372036854775807 < (Lib.itoa a).length + 1 + (Lib.itoa b).length := by omega
  have N3 : ¬ 9223372036854775807 < (Lib.itoa a).length + 1 + (Lib.itoa b).length + 1 := by omega
  cases h
  all_goals
    go_enter Tryd.func27, Tryd.ntmps27
    go_wp2_with fail
    refine (implWordOk_any _ _ _ _).mono ?_; rintro o w1 ⟨rfl, hb1⟩; rw [ho]
    obtain ⟨K1, hs1, hB1⟩ := one_word _ _ _ _ _ _ hb1
    have HT1 := Lib.hid ((ht.below hB1))
    obtain ⟨k0, k1, k2⟩ := id K1
    have HK1 := Lib.hid K1
    clear hb1 ho K1
    go_wp2_with fail
    go_region_law (first | (go_simp; go_at_call_of 73 (Value.int IntKind.i64 a); refine (itoa_any _ (by omega) (by omega) _ (show Tab w1.drew from HT1.out)).mono ?_; rintro o w2 ⟨rfl, hb2⟩; obtain ⟨⟨p0, p1, p2⟩, hs2⟩ := cells_on (w1 := w1.drew) HK1.out hs1 hb2) | (go_simp; go_at_call_of 73 (Value.int IntKind.i64 b); refine (itoa_any _ (by omega) (by omega) _ (Tab.below (w := w1.drew) HT1.out hb2)).mono ?_; rintro o w3 ⟨rfl, hb3⟩; obtain ⟨⟨q0, q1, q2⟩, hs3⟩ := cells_on (cells_on (w1 := w1.drew) HK1.out hs1 hb2).1 hs2 hb3))
    all_goals
      have hB3 : Below w.heap.size w w3 := ((hB1.drew.trans (hb2.mono (Nat.le_of_lt hs1))).trans (hb3.mono (Nat.le_of_lt hs2)))
      go_wp2
      go_ret
      exact ⟨wret_str (by first | (rw [bytes_dot, bytes_star]; rfl) | (rw [bytes_dot]; simp [wordText])), hB3⟩


end Go.Proofs.YtilgfcbjonalaaaDoor
