/- The law FnExactProgText walked. -/
import Derived.Test.YtpjejmgdfeanjaaDoorProT
namespace Go.Proofs.YtpjejmgdfeanjaaDoor
open Go.RowKit

theorem szOf_out {n : Nat} (h : ¬ n ≤ 1048576) : szOf 1048576 n < 0 := by unfold szOf; rw [if_pos (by omega)]; omega
theorem szOf_in {n : Nat} (h : n ≤ 1048576) : ¬ szOf 1048576 n < 0 := by unfold szOf; rw [if_neg (by omega)]; omega

set_option maxHeartbeats 800000 in
set_option maxRecDepth 100000 in
theorem exactProgText_walk (A : Option Addr) (n cap : Nat) (f : Nat → Int) (w : World) (ht : Tab w) (hm : n ≤ maxLen) (hr : IntsAt w w.heap.size A (n * 3) f) :
    Calls Tryd.prog 6 #[.slice A n cap] w fun e w' => e = .returned (.bool true) ∧ Below w.heap.size w w' := by
  have HTab := Lib.hid ht
  clear ht
  by_cases hn : n ≤ 1048576
  · have hsz := szOf_in hn
    go_enter Tryd.func6, Tryd.ntmps6
    go_wp2_with fail
    refine (szActS_any _ _ _ _ _ hm (by omega) (by omega)).mono ?_; rintro e w1 ⟨rfl, rfl⟩
    go_wp2_with fail
    refine (toActS_any _ _ _ f _ hn hr).mono ?_; rintro e w1 ⟨rfl, hb1, hrow1⟩
    have hs1 := hrow1.lt
    go_wp2_with fail
    refine (specProgText_any _ _ _ f _ (IntsAt.of_row hrow1 hs1)).mono ?_; rintro e w2 ⟨rfl, hb2⟩
    have b2 := hb1.trans (hb2.mono hb1.size)
    have hr2 := hr.below b2 b2.size
    clear hrow1
    obtain ⟨T, hT⟩ : ∃ T, T = outText n f := ⟨_, rfl⟩
    rw [← hT]
    have HT := Lib.hid hT
    clear hT
    go_wp2_with fail
    refine (toActS_any _ _ _ f _ hn hr2).mono ?_; rintro e w3 ⟨rfl, hb3, hrow3⟩
    have hs3 := hrow3.lt
    have b3 := b2.trans (hb3.mono b2.size)
    go_wp2_with fail
    refine (implProgText_any _ _ _ f _ (HTab.out.below b3) (IntsAt.of_row hrow3 hs3)).mono ?_; rintro e w4 ⟨rfl, hb4⟩
    rw [← HT.out]
    have b4 := b3.trans (hb4.mono b3.size)
    have hr4 := hr.below b4 b4.size
    have hrow4 := rowIs_below hrow3 hb4 hs3
    clear hrow3
    have g1 : decide (T = T) = true := by simp
    go_wp2_with fail
    refine (toActS_any _ _ _ f _ hn hr4).mono ?_; rintro e w5 ⟨rfl, hb5, hrow5⟩
    have hs5 := hrow5.lt
    have hs4 := hrow4.lt
    go_wp2_with fail
    refine (eqActS_same _ _ _ _ _ f _ hn (IntsAt.of_row (rowIs_below hrow4 hb5 hs4) (by have := hb5.size; omega)) (IntsAt.of_row hrow5 hs5)).mono ?_; rintro e w6 ⟨rfl, hb6⟩
    go_wp2
    go_ret
    exact ⟨rfl, b4.trans ((hb5.trans (hb6.mono hb5.size)).mono b4.size)⟩
  · have hsz := szOf_out hn
    go_enter Tryd.func6, Tryd.ntmps6
    go_wp2_with fail
    refine (szActS_any _ _ _ _ _ hm (by omega) (by omega)).mono ?_; rintro e w1 ⟨rfl, rfl⟩
    go_wp2
    go_ret
    exact ⟨rfl, Below.refl _ _⟩
end Go.Proofs.YtpjejmgdfeanjaaDoor
