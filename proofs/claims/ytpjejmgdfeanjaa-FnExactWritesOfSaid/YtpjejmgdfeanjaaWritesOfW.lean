/- The law FnExactWritesOf walked. -/
import Derived.Test.YtpjejmgdfeanjaaListOkW
import Derived.Test.YtpjejmgdfeanjaaWrites
namespace Go.Proofs.Ytpjejmgdfeanjaa
open Go.RowKit

set_option maxHeartbeats 800000 in
theorem fnExactWritesOf_walk (A : Option Addr) (n cap : Nat) (f : Nat → Int) (w : World) (hm : n ≤ maxLen) (hr : IntsAt w w.heap.size A (n * 3) f) :
    Calls Try.prog 7 #[.slice A n cap] w fun e w' => e = .returned (.bool true) ∧ Below w.heap.size w w' := by
  by_cases hn : n ≤ 1048576
  · have hsz := szOf_pos hn
    have hk0 : ¬ ((1 : Int) + n * 3 < 0) := by omega
    obtain ⟨len, hlen⟩ : ∃ len, len = (keysOut (wrt f) n f).length := ⟨_, rfl⟩
    have hlen8 : len ≤ 8 := by rw [hlen]; exact keysOut_le _ _ _
    have hq0 : ¬ ((1 : Int) + len < 0) := by omega
    have HL := Lib.hid hlen
    clear hlen
    go_enter Try.func7, Try.ntmps7
    go_wp2_with fail
    refine (szActS_any _ _ _ _ _ hm (by omega) (by omega)).mono ?_; rintro e w1 ⟨rfl, rfl⟩
    go_wp2_with fail
    refine (toActS_any _ _ _ f _ hn hr).mono ?_; rintro e w1 ⟨rfl, b1, hrow1⟩
    have hs1 := hrow1.lt
    go_wp2_with fail
    refine (specWritesOf_any _ _ _ f _ (IntsAt.of_row hrow1 hs1)).mono ?_; rintro e w2 ⟨v, rfl, ho2, hb2⟩
    clear hrow1
    rw [← HL.out] at ho2
    obtain ⟨A0, c0, rfl, _, o0⟩ := OwnI.of_owns ho2
    clear ho2
    have b2 := b1.trans (hb2.mono b1.size)
    have hs2 := hb2.size
    go_wp2_with fail
    refine (toActS_any _ _ _ f _ hn (hr.below b2 b2.size)).mono ?_; rintro e w3 ⟨rfl, hb3, hrow3⟩
    have hs3 := hrow3.lt
    have b3 := b2.trans (hb3.mono b2.size)
    have o0 := o0.below hb3 (Nat.le_refl _)
    go_wp2_with fail
    refine (implWritesOf_any _ _ _ f _ (IntsAt.of_row hrow3 hs3)).mono ?_; rintro e w4 ⟨v, rfl, ho4, hb4⟩
    rw [← HL.out] at ho4
    obtain ⟨A1, c1, rfl, _, o1⟩ := OwnI.of_owns ho4
    clear ho4
    have b4 := b3.trans (hb4.mono b3.size)
    have hs4 := hb4.size
    have x4 := OwnI.of_row (rowIs_below hrow3 hb4 hs3) (Nat.le_refl _) (Nat.lt_succ_self _)
    have o0 := o0.below hb4 (by omega)
    clear hrow3
    go_wp2_with fail
    refine (eqIntS_same _ _ _ _ _ _ _ _ _ (by unfold maxLen; omega) o1.at_ o0.at_).mono ?_; rintro e w5 ⟨rfl, hb5⟩
    have b5 := b4.trans (hb5.mono b4.size)
    have hs5 := hb5.size
    have o0 := o0.below hb5 (by omega)
    have o1 := o1.below hb5 (by omega)
    have x5 := x4.below hb5 (by omega)
    clear x4
    go_wp2_with fail
    refine (toActS_any _ _ _ f _ hn (hr.below b5 b5.size)).mono ?_; rintro e w6 ⟨rfl, hb6, hrow6⟩
    have hs6 := hrow6.lt
    have b6 := b5.trans (hb6.mono b5.size)
    have o0 := o0.below hb6 (by omega)
    have o1 := o1.below hb6 (by omega)
    have x6 := x5.below hb6 (by omega)
    clear x5
    go_wp2_with fail
    refine (eqActS_same _ _ _ _ _ f _ hn ((x6.more (Nat.le_refl _) (by omega)).at_) (IntsAt.of_row hrow6 hs6)).mono ?_; rintro e w7 ⟨rfl, hb7⟩
    clear hrow6
    have b7 := b6.trans (hb7.mono b6.size)
    have hs7 := hb7.size
    have o0 := o0.below hb7 (by omega)
    have o1 := o1.below hb7 (by omega)
    have x7 := x6.below hb7 (by omega)
    clear x6
    go_wp2_with fail
    refine (markActS_any _ _ _ _ _ f 1 _ (by omega) (by omega) x7).mono ?_; rintro e w8 ⟨rfl, h8, _⟩
    clear x7
    have b8 := b7.trans (h8.below b2.size)
    have hs8 := Nat.le_of_eq h8.size.symm
    have hs8' := Nat.le_of_eq h8.size
    have o0 := o0.onlys h8 (.inl (Nat.le_refl _))
    have o1 := o1.onlys h8 (.inr (by omega))
    go_wp2_with fail
    refine (eqIntS_same _ _ _ _ _ _ _ _ _ (by unfold maxLen; omega) o1.at_ o0.at_).mono ?_; rintro e w9 ⟨rfl, hb9⟩
    have b9 := b8.trans (hb9.mono b8.size)
    have hs9 := hb9.size
    have o0 := o0.below hb9 (by omega)
    have o1 := o1.below hb9 (by omega)
    go_wp2_with fail
    refine (markIntS_any _ _ _ _ _ _ 1 _ (by omega) (by omega) o1).mono ?_; rintro e w10 ⟨rfl, h10, o1⟩
    have b10 := b9.trans (h10.below b3.size)
    have hs10 := Nat.le_of_eq h10.size.symm
    have hs10' := Nat.le_of_eq h10.size
    have o0 := o0.onlys h10 (.inl (by omega))
    go_wp2_with fail
    refine (heldIntS_any _ _ _ _ 1 _ (by omega) (by omega) o1.at_).mono ?_; rintro e w' ⟨rfl, rfl⟩
    go_wp2_with fail
    refine (toActS_any _ _ _ f _ hn (hr.below b10 b10.size)).mono ?_; rintro e w11 ⟨rfl, hb11, hrow11⟩
    have hs11 := hrow11.lt
    have b11 := b10.trans (hb11.mono b10.size)
    have o0 := o0.below hb11 (by omega)
    have o1 := o1.below hb11 (by omega)
    go_wp2_with fail
    refine (implWritesOf_any _ _ _ f _ (IntsAt.of_row hrow11 hs11)).mono ?_; rintro e w12 ⟨v, rfl, ho12, hb12⟩
    clear hrow11
    rw [← HL.out] at ho12
    obtain ⟨A2, c2, rfl, _, o2⟩ := OwnI.of_owns ho12
    clear ho12
    have b12 := b11.trans (hb12.mono b11.size)
    have hs12 := hb12.size
    have o0 := o0.below hb12 (by omega)
    have o1 := o1.below hb12 (by omega)
    go_wp2_with fail
    refine (eqIntS_same _ _ _ _ _ _ _ _ _ (by unfold maxLen; omega) o2.at_ o0.at_).mono ?_; rintro e w13 ⟨rfl, hb13⟩
    have b13 := b12.trans (hb13.mono b12.size)
    have o1 := o1.below hb13 (by omega)
    go_wp2_with fail
    refine (heldIntS_any _ _ _ _ 1 _ (by omega) (by omega) o1.at_).mono ?_; rintro e w' ⟨rfl, rfl⟩
    go_wp2
    go_ret
    exact ⟨rfl, b13⟩
  · have hsz := szOf_neg hn
    go_enter Try.func7, Try.ntmps7
    go_wp2_with fail
    refine (szActS_any _ _ _ _ _ hm (by omega) (by omega)).mono ?_; rintro e w1 ⟨rfl, rfl⟩
    go_wp2
    go_ret
    exact ⟨rfl, Below.refl _ _⟩
end Go.Proofs.Ytpjejmgdfeanjaa
