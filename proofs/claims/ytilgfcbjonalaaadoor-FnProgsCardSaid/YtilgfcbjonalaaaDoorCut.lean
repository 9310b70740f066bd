/- A text cut at a byte: its parts. -/
import Derived.Test.YtilgfcbjonalaaaDoorRune
import Derived.Deep.OwnRows
import Derived.WalkSmall

namespace Go.Proofs.YtilgfcbjonalaaaDoor
open Go.RowKit

theorem ownsRow_keep3 {w w' : World} {base size n : Nat} {e : TypeId} {v : Value} {xs : List Value} (h : w.ownsRow base e size v n xs) (hb : Below w.heap.size w w') : w'.ownsRow base e size v n xs := by
  refine ⟨h.1, ?_⟩
  rcases h.2 with h' | ⟨g, cap, cur, h1, h2, h3, h4⟩
  · exact .inl h'
  · exact .inr ⟨g, cap, cur, h1, h2, (hb.block g (Array.getElem?_eq_some_iff.1 h3).1).trans h3, h4⟩

theorem infoStr : (Tryd.prog.info? 9).map (fun i => (i.zero, i.size, i.bytes)) = some (some (.string ⟨#[]⟩), 1, 16) := by kernel_rfl

/-- the parts closed among the first k bytes; where the open part begins -/
def cutTo (s : ByteArray) (c : Nat) : Nat → List ByteArray × Nat
  | 0 => ([], 0)
  | k + 1 => if (s.get! k).toNat = c then ((cutTo s c k).1 ++ [s.extract (cutTo s c k).2 k], k + 1) else cutTo s c k
theorem cutTo_yes {s : ByteArray} {c k : Nat} (h : (s.get! k).toNat = c) : cutTo s c (k + 1) = ((cutTo s c k).1 ++ [s.extract (cutTo s c k).2 k], k + 1) := by
  show (if (s.get! k).toNat = c then _ else _) = _
  rw [if_pos h]
theorem cutTo_no {s : ByteArray} {c k : Nat} (h : ¬ (s.get! k).toNat = c) : cutTo s c (k + 1) = cutTo s c k := by
  show (if (s.get! k).toNat = c then _ else _) = _
  rw [if_neg h]
theorem cutTo_skip {s : ByteArray} {c p : Nat} : ∀ w, (∀ i, i < w → ¬ (s.get! (p + i)).toNat = c) → cutTo s c (p + w) = cutTo s c p
  | 0, _ => rfl
  | w + 1, h => by
    rw [← Nat.add_assoc, cutTo_no (h w (by omega))]
    exact cutTo_skip w (fun i hi => h i (by omega))
theorem cutTo_le (s : ByteArray) (c : Nat) : ∀ k, (cutTo s c k).2 ≤ k
  | 0 => Nat.le_refl _
  | k + 1 => by
    unfold cutTo
    split
    · exact Nat.le_refl _
    · exact Nat.le_succ_of_le (cutTo_le s c k)
theorem cutTo_len (s : ByteArray) (c : Nat) : ∀ k, (cutTo s c k).1.length ≤ k
  | 0 => Nat.le_refl _
  | k + 1 => by
    have := cutTo_len s c k
    unfold cutTo
    split
    · simp; omega
    · omega
/-- all the parts -/
def parts (s : ByteArray) (c : Nat) : List ByteArray := (cutTo s c s.size).1 ++ [s.extract (cutTo s c s.size).2 s.size]

/-- one rune on -/
theorem cutTo_rune_no {s : ByteArray} {c pos : Nat} (hc : c < 128) (hp : pos < s.size) (h : ¬ (Utf8.decode s pos).1 = c) : cutTo s c (pos + (Utf8.decode s pos).2) = cutTo s c pos := by
  refine cutTo_skip _ fun i hi => ?_
  by_cases h0 : i = 0
  · subst h0
    by_cases ha : (s[pos]'hp).toNat < 128
    · rw [decode_ascii s pos hp ha] at h
      rw [get_at s pos hp]
      exact h
    · rw [get_at s pos hp]
      omega
  · have := (decode_skip s pos i (by omega) hi).1
    omega
theorem cutTo_rune_yes {s : ByteArray} {c pos : Nat} (hc : c < 128) (hp : pos < s.size) (h : (Utf8.decode s pos).1 = c) : (Utf8.decode s pos).2 = 1 ∧ cutTo s c (pos + (Utf8.decode s pos).2) = ((cutTo s c pos).1 ++ [s.extract (cutTo s c pos).2 pos], pos + 1) := by
  by_cases ha : (s[pos]'hp).toNat < 128
  · have hd := decode_ascii s pos hp ha
    rw [hd] at h ⊢
    have hg : (s.get! pos).toNat = c := by
      have := get_at s pos hp
      rw [Nat.add_zero] at this
      rw [this]; exact h
    exact ⟨rfl, cutTo_yes hg⟩
  · have := (decode_high s pos hp (by omega)).1
    omega

theorem ownsRow_low {w : World} {base size n : Nat} {e : TypeId} {v : Value} {xs : List Value} (h : w.ownsRow (base + 1) e size v n xs) : w.ownsRow base e size v n xs := by
  refine ⟨h.1, ?_⟩
  rcases h.2 with h' | ⟨g, cap, cur, h1, h2, h3⟩
  · exact .inl h'
  · exact .inr ⟨g, cap, cur, h1, by omega, h3⟩
end Go.Proofs.YtilgfcbjonalaaaDoor
