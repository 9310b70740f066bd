/- The marked keys, ascending (for a seat without acts). -/
import Derived.Test.YtnnjhikfbpcmfaaLs2
namespace Go.Proofs.Ytnnjhikfbpcmfaa
open Go.RowKit

/-- the marked keys below m, ascending -/
def keysUp (M : Nat → Bool) (m : Nat) : List Int := ((List.range m).filter M).map Int.ofNat
theorem keysUp_yes {M : Nat → Bool} {m : Nat} (h : M m = true) : keysUp M (m + 1) = keysUp M m ++ [(m : Int)] := by simp [keysUp, List.range_succ, List.filter_append, h]
theorem keysUp_no {M : Nat → Bool} {m : Nat} (h : M m = false) : keysUp M (m + 1) = keysUp M m := by simp [keysUp, List.range_succ, List.filter_append, h]
theorem keysUp_le (M : Nat → Bool) (m : Nat) : (keysUp M m).length ≤ m := by
  have := List.length_filter_le M (List.range m)
  simpa [keysUp] using this

/-- the answer is a slice of the call's own that holds l; nothing that was there has turned -/
def OwnsOut (w : World) (l : List Int) (e : Ending) (w' : World) : Prop :=
  ∃ v, e = .returned v ∧ w'.ownsRow w.heap.size 3 1 v l.length (l.map (.int .i64)) ∧ Below w.heap.size w w'

theorem ownsRow_base {w : World} {base base' size n : Nat} {e : TypeId} {v : Value} {xs : List Value} (h : w.ownsRow base' e size v n xs) (hb : base ≤ base') : w.ownsRow base e size v n xs := by
  refine ⟨h.1, ?_⟩
  rcases h.2 with h' | ⟨g, cap, cur, h1, h2, h3⟩
  · exact .inl h'
  · exact .inr ⟨g, cap, cur, h1, by omega, h3⟩



set_option maxHeartbeats 400000 in
theorem markedKeys_any (M : Nat → Bool) (w : World) :
    Calls Try.prog 74 #[.agg #[.bool (M 0), .bool (M 1), .bool (M 2), .bool (M 3), .bool (M 4), .bool (M 5), .bool (M 6), .bool (M 7)]] w (OwnsOut w (keysUp M 8)) := by
  obtain ⟨i0, hi, hz0, hz1, hz2⟩ := info_parts infoInt
  go_enter Try.func74, Try.ntmps74
  go_wp2
  go_loopw [3, 7] (fun v i wr => ∃ k : Nat, k ≤ 8 ∧ i = .int .i64 k ∧ wr.ownsRow w.heap.size 3 1 v (keysUp M k).length ((keysUp M k).map (.int .i64)) ∧ Below w.heap.size w wr) (fun _ i _ => 8 - (intOf i).toNat)
  case atStart => exact ⟨0, Nat.zero_le _, rfl, World.ownsRow_nil _ _ _ _, (Below.refl _ _).alloc (Nat.le_refl _) _⟩
  case round =>
    obtain ⟨k, hk, rfl, hown, hb⟩ := hrel
    by_cases hkn : k < 8
    · have hkz : (k : Int) < 8 := by omega
      have hle := keysUp_le M k
      have hs := hb.size
      have hidx : ∀ w, (Instr.index 96 (.agg #[.bool (M 0), .bool (M 1), .bool (M 2), .bool (M 3), .bool (M 4), .bool (M 5), .bool (M 6), .bool (M 7)]) (.int .i64 (k : Int))).run Try.prog w = .ok (.bool (M k)) w := by
        have h8 : k = 0 ∨ k = 1 ∨ k = 2 ∨ k = 3 ∨ k = 4 ∨ k = 5 ∨ k = 6 ∨ k = 7 := by omega
        rcases h8 with rfl | rfl | rfl | rfl | rfl | rfl | rfl | rfl <;> (intro w; kernel_rfl)
      cases hM : M k with
      | true =>
        rw [hM] at hidx
        have Hy := Lib.hid (keysUp_yes hM)
        clear hM
        go_wp2_with (at_builtin; refine wpList_append_own _ rfl _ _ 47 rfl w.heap.size 3 i0 (.int .i64 0) 1 8 Try.underlying47 hi hz0 hz1 hz2 rfl (by decide) _ _ _ rfl (hown.alloc _) ⟨wr.heap.size, 0, none⟩ 1 1 [.int .i64 k] rfl rfl ?c1 ?c2 ?c3 ?c4 ?c5 ?_)
        case c1 =>
          intro j u hj
          match j, hj with
          | 0, hj => simp at hj; subst hj; simp [Addr.add]
        case c2 => intro u hu; simp at hu; subst hu; rfl
        case c3 => unfold maxLen; omega
        case c4 => omega
        case c5 => simp; omega
        intro v' w1 hown' hgrow _
        have hb' := (hb.alloc hs _).grown hgrow (by simp; omega) (fun q hq => (hown.lt q hq).1)
        have hown2 : w1.ownsRow w.heap.size 3 1 v' (keysUp M (k + 1)).length ((keysUp M (k + 1)).map (.int .i64)) := by rw [Hy.out]; simpa using hown'
        clear hown' hgrow hown hb hidx hi hz0 hz1 hz2
        go_wp2
        exact ⟨⟨k + 1, by omega, by go_num, hown2, hb'⟩, by simp [intOf]; omega⟩
      | false =>
        rw [hM] at hidx
        have hown2 := hown
        rw [← keysUp_no hM] at hown2
        clear hM hown hi hz0 hz1 hz2
        go_wp2
        exact ⟨⟨k + 1, by omega, by go_num, hown2, hb⟩, by simp [intOf]; omega⟩
    · obtain rfl : k = 8 := by omega
      go_wp2
      go_ret
      exact ⟨_, rfl, hown, hb⟩
end Go.Proofs.Ytnnjhikfbpcmfaa
