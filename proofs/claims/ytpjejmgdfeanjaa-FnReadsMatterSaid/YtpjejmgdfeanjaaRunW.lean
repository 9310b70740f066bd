/- The law FnExactRunSerial walked. -/
import Derived.Test.YtpjejmgdfeanjaaRunC
import Derived.Test.YtpjejmgdfeanjaaListOkW
namespace Go.Proofs.Ytpjejmgdfeanjaa
open Go.RowKit

theorem markIntS_int (A : Option Addr) (n cap lo B : Nat) (f : Nat → Int) (k0 : Int) (w : World) (hn : n ≤ 1073741824) (h0 : 0 ≤ k0) (hk0 : k0 ≤ 1073741824) (h : OwnI w lo B A n f) :
    Calls Try.prog 31 #[.slice A n cap, .int .i64 k0] w fun e w' => e = .returned (.int .i64 (k0 + n)) ∧ Onlys lo B w w' ∧ OwnI w' lo B A n (fun j => k0 + j) := by
  obtain ⟨m, rfl⟩ := Int.eq_ofNat_of_zero_le h0
  exact markIntS_any A n cap lo B f m w hn (by omega) h
theorem markActS_int (A : Option Addr) (n cap lo B : Nat) (f : Nat → Int) (k0 : Int) (w : World) (hn : n ≤ 1073741824) (h0 : 0 ≤ k0) (hk0 : k0 ≤ 1073741824) (h : OwnI w lo B A (n * 3) f) :
    Calls Try.prog 30 #[.slice A n cap, .int .i64 k0] w fun e w' => e = .returned (.int .i64 (k0 + n * 3)) ∧ Onlys lo B w w' ∧ OwnI w' lo B A (n * 3) (fun j => k0 + j) := by
  obtain ⟨m, rfl⟩ := Int.eq_ofNat_of_zero_le h0
  exact markActS_any A n cap lo B f m w hn (by omega) h
theorem heldIntS_int (A : Option Addr) (n cap B : Nat) (k0 : Int) (w : World) (hn : n ≤ 1073741824) (h0 : 0 ≤ k0) (hk0 : k0 ≤ 1073741824) (h : IntsAt w B A n (fun j => k0 + j)) :
    Calls Try.prog 32 #[.slice A n cap, .int .i64 k0] w fun e w' => e = .returned (.int .i64 (k0 + n)) ∧ w = w' := by
  obtain ⟨m, rfl⟩ := Int.eq_ofNat_of_zero_le h0
  exact heldIntS_any A n cap B m w hn (by omega) h
theorem IntsAt.up {w : World} {B B' : Nat} {A : Option Addr} {N : Nat} {f : Nat → Int} (h : IntsAt w B A N f) (hB : B ≤ B') : IntsAt w B' A N f := h.below (Below.refl _ _) hB

theorem IntsAt.keep {w w' : World} {B B' : Nat} {A : Option Addr} {N : Nat} {f : Nat → Int} (h : IntsAt w B A N f) (hb : Below B' w w') (hB : B ≤ B') : IntsAt w' B A N f := h.below (hb.mono hB) (Nat.le_refl _)

theorem resT_le (L : Nat) (v : Nat → Int) (n : Nat) (f : Nat → Int) : (resT L v n f).length ≤ 6 := by
  unfold resT
  split
  · rename_i h
    have := prog_len (runOk_parts h).2.2.1
    have := runT_le f v n
    omega
  · simp

set_option maxHeartbeats 3200000 in
set_option maxRecDepth 100000 in
theorem fnExactRunSerial_walk (A1 A2 : Option Addr) (L n c1 c2 : Nat) (v f : Nat → Int) (w : World) (hmL : L ≤ maxLen) (hm : n ≤ maxLen) (hv : IntsAt w w.heap.size A1 L v) (hr : IntsAt w w.heap.size A2 (n * 3) f) :
    Calls Try.prog 9 #[.slice A1 L c1, .slice A2 n c2] w fun e w' => e = .returned (.bool true) ∧ Below w.heap.size w w' := by
  by_cases hL : L ≤ 1048576
  · have hLz : ¬ (1048576 : Int) < L := by omega
    by_cases hn : n ≤ 1048576
    · have hsz := szOf_pos hn
      have hT6 := resT_le L v n f
      generalize hTT : (resT L v n f).length = t at hT6
      have HTT := Lib.hid hTT
      clear hTT
      have hk0 : ¬ ((1 : Int) + L + n * 3 < 0) := by omega
      have hq0 : ¬ ((1 : Int) + L < 0) := by omega
      have hq1 : ¬ ((1 : Int) + L + t < 0) := by omega
      go_enter Try.func9, Try.ntmps9
      go_wp2_with fail
      refine (szActS_any _ _ _ _ _ hm (by omega) (by omega)).mono ?_; rintro e w' ⟨rfl, rfl⟩
      go_wp2_with fail
      refine (toIntS_any _ _ _ v _ hL hv).mono ?_; rintro e w1 ⟨rfl, b1, hrow1⟩
      have hs1 := hrow1.lt
      go_wp2_with fail
      refine (toActS_any _ _ _ f _ hn (hr.below b1 b1.size)).mono ?_; rintro e w2 ⟨rfl, hb2, hrow2⟩
      have hs2 := hrow2.lt
      have b2 := b1.trans (hb2.mono b1.size)
      go_wp2_with fail
      refine (specRun_any _ _ _ _ _ _ v f _ hL (IntsAt.of_row (rowIs_below hrow1 hb2 hs1) (by omega)) (IntsAt.of_row hrow2 hs2)).mono ?_; rintro e w3 ⟨B0, d0, B1, d1, m0, rfl, hm1, hm2, o0, o1, hb3⟩
      clear hrow1 hrow2
      rw [HTT.out] at o1 ⊢
      have a0 := o0.at_.up hm2
      have a1 := o1.at_
      clear o0 o1
      have b3 := b2.trans (hb3.mono b2.size)
      have hs3 := hb3.size
      go_wp2_with fail
      refine (toIntS_any _ _ _ v _ hL (hv.below b3 b3.size)).mono ?_; rintro e w4 ⟨rfl, hb4, hrow4⟩
      have hs4 := hrow4.lt
      have b4 := b3.trans (hb4.mono b3.size)
      have a0 := a0.keep hb4 (by omega)
      have a1 := a1.keep hb4 (by omega)
      go_wp2_with fail
      refine (toActS_any _ _ _ f _ hn (hr.below b4 b4.size)).mono ?_; rintro e w5 ⟨rfl, hb5, hrow5⟩
      have hs5 := hrow5.lt
      have b5 := b4.trans (hb5.mono b4.size)
      have a0 := a0.keep hb5 (by omega)
      have a1 := a1.keep hb5 (by omega)
      have hrow4 := rowIs_below hrow4 hb5 hs4
      go_wp2_with fail
      refine (implRun_any _ _ _ _ _ _ _ v f _ hL hrow4.lt (fun j hj => by rw [Nat.zero_add]; exact hrow4.cell hj) (IntsAt.of_row hrow5 hs5)).mono ?_; rintro e w6 ⟨G0, e0, G1, e1, m1, rfl, hm3, hm4, g0, g1, hb6⟩
      rw [HTT.out] at g1 ⊢
      have b6 := b5.trans (hb6.mono b5.size)
      have hs6 := hb6.size
      have x0 := OwnI.of_row (rowIs_below hrow4 hb6 hrow4.lt) (Nat.le_refl _) (Nat.lt_succ_self _)
      have x1 := OwnI.of_row (rowIs_below hrow5 hb6 hs5) (Nat.le_refl _) (Nat.lt_succ_self _)
      clear hrow4 hrow5
      have a0 := a0.keep hb6 (by omega)
      have a1 := a1.keep hb6 (by omega)
      go_wp2_with fail
      refine (eqIntS_same _ _ _ _ _ _ _ _ _ hmL g0.at_ a0).mono ?_; rintro e w7 ⟨rfl, hb7⟩
      have b7 := b6.trans (hb7.mono b6.size)
      have hs7 := hb7.size
      have a0 := a0.keep hb7 (by omega)
      have a1 := a1.keep hb7 (by omega)
      have g0 := g0.below hb7 (by omega)
      have g1 := g1.below hb7 (by omega)
      have x0 := x0.below hb7 (by omega)
      have x1 := x1.below hb7 (by omega)
      go_wp2_with fail
      refine (eqIntS_same _ _ _ _ _ _ _ _ _ (by unfold maxLen; omega) g1.at_ a1).mono ?_; rintro e w8 ⟨rfl, hb8⟩
      have b8 := b7.trans (hb8.mono b7.size)
      have hs8 := hb8.size
      have a0 := a0.keep hb8 (by omega)
      have a1 := a1.keep hb8 (by omega)
      have g0 := g0.below hb8 (by omega)
      have g1 := g1.below hb8 (by omega)
      have x0 := x0.below hb8 (by omega)
      have x1 := x1.below hb8 (by omega)
      go_wp2_with fail
      refine (toIntS_any _ _ _ v _ hL (hv.below b8 b8.size)).mono ?_; rintro e w9 ⟨rfl, hb9, hrow9⟩
      have hs9 := hrow9.lt
      have b9 := b8.trans (hb9.mono b8.size)
      have a0 := a0.keep hb9 (by omega)
      have a1 := a1.keep hb9 (by omega)
      have g0 := g0.below hb9 (by omega)
      have g1 := g1.below hb9 (by omega)
      have x0 := x0.below hb9 (by omega)
      have x1 := x1.below hb9 (by omega)
      go_wp2_with fail
      refine (eqIntS_same _ _ _ _ _ _ _ _ _ hmL x0.at_ (IntsAt.of_row hrow9 hs9)).mono ?_; rintro e w10 ⟨rfl, hb10⟩
      clear hrow9
      have b10 := b9.trans (hb10.mono b9.size)
      have hs10 := hb10.size
      have a0 := a0.keep hb10 (by omega)
      have a1 := a1.keep hb10 (by omega)
      have g0 := g0.below hb10 (by omega)
      have g1 := g1.below hb10 (by omega)
      have x0 := x0.below hb10 (by omega)
      have x1 := x1.below hb10 (by omega)
      go_wp2_with fail
      refine (toActS_any _ _ _ f _ hn (hr.below b10 b10.size)).mono ?_; rintro e w11 ⟨rfl, hb11, hrow11⟩
      have hs11 := hrow11.lt
      have b11 := b10.trans (hb11.mono b10.size)
      have a0 := a0.keep hb11 (by omega)
      have a1 := a1.keep hb11 (by omega)
      have g0 := g0.below hb11 (by omega)
      have g1 := g1.below hb11 (by omega)
      have x0 := x0.below hb11 (by omega)
      have x1 := x1.below hb11 (by omega)
      go_wp2_with fail
      refine (eqActS_same _ _ _ _ _ f _ hn ((x1.more (Nat.le_refl _) (by omega)).at_) (IntsAt.of_row hrow11 hs11)).mono ?_; rintro e w12 ⟨rfl, hb12⟩
      clear hrow11
      have b12 := b11.trans (hb12.mono b11.size)
      have hs12 := hb12.size
      have a0 := a0.keep hb12 (by omega)
      have a1 := a1.keep hb12 (by omega)
      have g0 := g0.below hb12 (by omega)
      have g1 := g1.below hb12 (by omega)
      have x0 := x0.below hb12 (by omega)
      have x1 := x1.below hb12 (by omega)
      go_wp2_with fail
      refine (markIntS_int _ _ _ _ _ v 1 _ (by omega) (by omega) (by omega) x0).mono ?_; rintro e w13 ⟨rfl, h13, _⟩
      have b13 := b12.trans (h13.below b3.size)
      have hs13 := Nat.le_of_eq h13.size.symm
      have hs13' := Nat.le_of_eq h13.size
      have a0 := a0.onlys h13 (by omega)
      have a1 := a1.onlys h13 (by omega)
      have g0 := g0.onlys h13 (by omega)
      have g1 := g1.onlys h13 (by omega)
      have x1 := x1.onlys h13 (by omega)
      clear x0
      go_wp2_with fail
      refine (markActS_int _ _ _ _ _ f (1 + (L : Int)) _ (by omega) (by omega) (by omega) x1).mono ?_; rintro e w14 ⟨rfl, h14, _⟩
      have b14 := b13.trans (h14.below b4.size)
      have hs14 := Nat.le_of_eq h14.size.symm
      have hs14' := Nat.le_of_eq h14.size
      have a0 := a0.onlys h14 (by omega)
      have a1 := a1.onlys h14 (by omega)
      have g0 := g0.onlys h14 (by omega)
      have g1 := g1.onlys h14 (by omega)
      clear x1
      go_wp2_with fail
      refine (eqIntS_same _ _ _ _ _ _ _ _ _ hmL g0.at_ a0).mono ?_; rintro e w15 ⟨rfl, hb15⟩
      have b15 := b14.trans (hb15.mono b14.size)
      have hs15 := hb15.size
      have a0 := a0.keep hb15 (by omega)
      have a1 := a1.keep hb15 (by omega)
      have g0 := g0.below hb15 (by omega)
      have g1 := g1.below hb15 (by omega)
      go_wp2_with fail
      refine (eqIntS_same _ _ _ _ _ _ _ _ _ (by unfold maxLen; omega) g1.at_ a1).mono ?_; rintro e w16 ⟨rfl, hb16⟩
      have b16 := b15.trans (hb16.mono b15.size)
      have hs16 := hb16.size
      have a0 := a0.keep hb16 (by omega)
      have a1 := a1.keep hb16 (by omega)
      have g0 := g0.below hb16 (by omega)
      have g1 := g1.below hb16 (by omega)
      go_wp2_with fail
      refine (markIntS_int _ _ _ _ _ _ 1 _ (by omega) (by omega) (by omega) g0).mono ?_; rintro e w17 ⟨rfl, h17, g0⟩
      have b17 := b16.trans (h17.below b5.size)
      have hs17 := Nat.le_of_eq h17.size.symm
      have hs17' := Nat.le_of_eq h17.size
      have a0 := a0.onlys h17 (by omega)
      have a1 := a1.onlys h17 (by omega)
      have g1 := g1.onlys h17 (by omega)
      go_wp2_with fail
      refine (markIntS_int _ _ _ _ _ _ (1 + (L : Int)) _ (by omega) (by omega) (by omega) g1).mono ?_; rintro e w18 ⟨rfl, h18, g1⟩
      have b18 := b17.trans (h18.below (by omega))
      have hs18 := Nat.le_of_eq h18.size.symm
      have hs18' := Nat.le_of_eq h18.size
      have a0 := a0.onlys h18 (by omega)
      have a1 := a1.onlys h18 (by omega)
      have g0 := g0.onlys h18 (by omega)
      go_wp2_with fail
      refine (heldIntS_int _ _ _ _ 1 _ (by omega) (by omega) (by omega) g0.at_).mono ?_; rintro e w' ⟨rfl, rfl⟩
      go_wp2_with fail
      refine (heldIntS_int _ _ _ _ (1 + (L : Int)) _ (by omega) (by omega) (by omega) g1.at_).mono ?_; rintro e w' ⟨rfl, rfl⟩
      go_wp2_with fail
      refine (toIntS_any _ _ _ v _ hL (hv.below b18 b18.size)).mono ?_; rintro e w19 ⟨rfl, hb19, hrow19⟩
      have hs19 := hrow19.lt
      have b19 := b18.trans (hb19.mono b18.size)
      have a0 := a0.keep hb19 (by omega)
      have a1 := a1.keep hb19 (by omega)
      have g0 := g0.below hb19 (by omega)
      have g1 := g1.below hb19 (by omega)
      go_wp2_with fail
      refine (toActS_any _ _ _ f _ hn (hr.below b19 b19.size)).mono ?_; rintro e w20 ⟨rfl, hb20, hrow20⟩
      have hs20 := hrow20.lt
      have b20 := b19.trans (hb20.mono b19.size)
      have a0 := a0.keep hb20 (by omega)
      have a1 := a1.keep hb20 (by omega)
      have g0 := g0.below hb20 (by omega)
      have g1 := g1.below hb20 (by omega)
      have hrow19 := rowIs_below hrow19 hb20 hs19
      go_wp2_with fail
      refine (implRun_any _ _ _ _ _ _ _ v f _ hL hrow19.lt (fun j hj => by rw [Nat.zero_add]; exact hrow19.cell hj) (IntsAt.of_row hrow20 hs20)).mono ?_; rintro e w21 ⟨K0, f0, K1, f1, m2, rfl, hm5, hm6, k0, k1, hb21⟩
      clear hrow19 hrow20
      rw [HTT.out] at k1 ⊢
      have b21 := b20.trans (hb21.mono b20.size)
      have hs21 := hb21.size
      have a0 := a0.keep hb21 (by omega)
      have a1 := a1.keep hb21 (by omega)
      have g0 := g0.below hb21 (by omega)
      have g1 := g1.below hb21 (by omega)
      go_wp2_with fail
      refine (eqIntS_same _ _ _ _ _ _ _ _ _ hmL k0.at_ a0).mono ?_; rintro e w22 ⟨rfl, hb22⟩
      have b22 := b21.trans (hb22.mono b21.size)
      have hs22 := hb22.size
      have a1 := a1.keep hb22 (by omega)
      have g0 := g0.below hb22 (by omega)
      have g1 := g1.below hb22 (by omega)
      have k1 := k1.below hb22 (by omega)
      go_wp2_with fail
      refine (eqIntS_same _ _ _ _ _ _ _ _ _ (by unfold maxLen; omega) k1.at_ a1).mono ?_; rintro e w23 ⟨rfl, hb23⟩
      have b23 := b22.trans (hb23.mono b22.size)
      have g0 := g0.below hb23 (by omega)
      have g1 := g1.below hb23 (by omega)
      go_wp2_with fail
      refine (heldIntS_int _ _ _ _ 1 _ (by omega) (by omega) (by omega) g0.at_).mono ?_; rintro e w' ⟨rfl, rfl⟩
      go_wp2_with fail
      refine (heldIntS_int _ _ _ _ (1 + (L : Int)) _ (by omega) (by omega) (by omega) g1.at_).mono ?_; rintro e w' ⟨rfl, rfl⟩
      go_wp2
      go_ret
      exact ⟨rfl, b23⟩
    · have hsz := szOf_neg hn
      go_enter Try.func9, Try.ntmps9
      go_wp2_with fail
      refine (szActS_any _ _ _ _ _ hm (by omega) (by omega)).mono ?_; rintro e w' ⟨rfl, rfl⟩
      go_wp2
      go_ret
      exact ⟨rfl, Below.refl _ _⟩
  · have hLz : (1048576 : Int) < L := by omega
    go_enter Try.func9, Try.ntmps9
    go_wp2
    go_ret
    exact ⟨rfl, Below.refl _ _⟩
end Go.Proofs.Ytpjejmgdfeanjaa
