/- SoloPicks of the program and of the model. -/
import Derived.Test.YtkpkjcmoldkmmaaEm
import Derived.Test.YtkpkjcmoldkmmaaWritesu
import Derived.Lib.SmallJoins
namespace Go.Proofs.Ytkpkjcmoldkmmaa
open Go.RowKit

def soloOf (l : List DAct) : Int := if progOk l.length (actF l) then 5 + (l.length : Int) + ((keysOut (wrt (actF l)) l.length (actF l)).length : Int) else -1
theorem keysUp_len8 (M : Nat → Bool) : ∀ m, (keysUp M m).length ≤ m
  | 0 => by simp [keysUp]
  | m + 1 => by
    have := keysUp_len8 M m
    cases hm : M m with
    | true => rw [keysUp_yes hm]; simp; omega
    | false => rw [keysUp_no hm]; omega
set_option maxRecDepth 100000 in
theorem specSolo_any (A : Option Addr) (c B : Nat) (l : List DAct) (w : World) (hB : B ≤ w.heap.size) (r : RAt fAct w B A l) :
    Calls Try.prog 37 #[.slice A l.length c] w fun e w' => e = .returned (.int .i64 (soloOf l)) ∧ Below w.heap.size w w' := by
  go_enter Try.func37, Try.ntmps37
  go_wp2_with fail
  refine (specProgOk_any A l.length c (actF l) _ (acts_at (r.up hB))).mono ?_; rintro o w2 ⟨rfl, hb⟩
  cases hp : progOk l.length (actF l) with
  | false =>
    have HE := Lib.hid (show soloOf l = -1 by unfold soloOf; rw [hp]; rfl)
    go_wp2
    go_ret
    exact ⟨ret_intG HE.out.symm, hb⟩
  | true =>
    have HE := Lib.hid (show soloOf l = 5 + (l.length : Int) + ((keysOut (wrt (actF l)) l.length (actF l)).length : Int) by unfold soloOf; rw [hp]; rfl)
    have hl := prog_len hp
    have h8 : (keysOut (wrt (actF l)) l.length (actF l)).length ≤ 8 := by unfold keysOut; rw [if_pos hp]; exact keysUp_len8 _ 8
    go_wp2_with fail
    refine (specWritesOf_any A l.length c (actF l) _ (acts_at ((r.keep hb hB).up (Nat.le_trans hB hb.size)))).mono ?_; rintro o w3 ⟨v, rfl, hown, hb3⟩
    have hb := hb.trans (hb3.mono hb.size)
    obtain ⟨X0, C0, rfl⟩ : ∃ X C, v = .slice X (keysOut (wrt (actF l)) l.length (actF l)).length C := by
      rcases Go.Joins.ownsRow_forms hown with ⟨rfl, e⟩ | ⟨g, cap, rfl⟩
      · exact ⟨none, 0, by rw [e]⟩
      · exact ⟨_, cap, rfl⟩
    generalize (keysOut (wrt (actF l)) l.length (actF l)).length = kn at h8 HE ⊢
    clear hown hb3
    go_wp2
    go_ret
    exact ⟨ret_intG HE.out.symm, hb⟩
set_option maxRecDepth 100000 in
theorem implSolo_any (A : Option Addr) (c B : Nat) (l : List DAct) (w : World) (hB : B ≤ w.heap.size) (r : RAt fAct w B A l) :
    Calls Try.prog 39 #[.slice A l.length c] w fun e w' => e = .returned (.int .i64 (soloOf l)) ∧ Below w.heap.size w w' := by
  go_enter Try.func39, Try.ntmps39
  go_wp2_with fail
  refine (implProgOk_any A l.length c (actF l) _ (acts_at (r.up hB))).mono ?_; rintro o w2 ⟨rfl, hb⟩
  cases hp : progOk l.length (actF l) with
  | false =>
    have HE := Lib.hid (show soloOf l = -1 by unfold soloOf; rw [hp]; rfl)
    go_wp2
    go_ret
    exact ⟨ret_intG HE.out.symm, hb⟩
  | true =>
    have HE := Lib.hid (show soloOf l = 5 + (l.length : Int) + ((keysOut (wrt (actF l)) l.length (actF l)).length : Int) by unfold soloOf; rw [hp]; rfl)
    have hl := prog_len hp
    have h8 : (keysOut (wrt (actF l)) l.length (actF l)).length ≤ 8 := by unfold keysOut; rw [if_pos hp]; exact keysUp_len8 _ 8
    go_wp2_with fail
    refine (implWritesOf_any A l.length c (actF l) _ (acts_at ((r.keep hb hB).up (Nat.le_trans hB hb.size)))).mono ?_; rintro o w3 ⟨v, rfl, hown, hb3⟩
    have hb := hb.trans (hb3.mono hb.size)
    obtain ⟨X0, C0, rfl⟩ : ∃ X C, v = .slice X (keysOut (wrt (actF l)) l.length (actF l)).length C := by
      rcases Go.Joins.ownsRow_forms hown with ⟨rfl, e⟩ | ⟨g, cap, rfl⟩
      · exact ⟨none, 0, by rw [e]⟩
      · exact ⟨_, cap, rfl⟩
    generalize (keysOut (wrt (actF l)) l.length (actF l)).length = kn at h8 HE ⊢
    clear hown hb3
    go_wp2
    go_ret
    exact ⟨ret_intG HE.out.symm, hb⟩
end Go.Proofs.Ytkpkjcmoldkmmaa
