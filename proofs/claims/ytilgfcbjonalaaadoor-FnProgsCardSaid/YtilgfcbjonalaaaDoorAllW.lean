/- FnProgs: the law walked. -/
import Derived.Test.YtilgfcbjonalaaaDoorAllR
import Derived.Test.YtilgfcbjonalaaaDoorAllA
import Derived.Test.YtilgfcbjonalaaaDoorAllS
namespace Go.Proofs.YtilgfcbjonalaaaDoor
open Go.RowKit

set_option maxHeartbeats 6400000 in
set_option maxRecDepth 100000 in
theorem fnProgs_walk (A : Option Addr) (n cp : Nat) (g : Nat → Int) (w : World) (ht : Tab w) (hbs : BytesAt w w.heap.size A n g) :
    Calls Tryd.prog 3 #[.slice A n cp] w fun e w' => e = .returned (.bool true) ∧ Below w.heap.size w w' := by
  have HT := Lib.hid ht
  clear ht
  by_cases hn : n ≤ 1048576
  · have hnb : decide ((1048576 : Int) < n) = false := by simp; omega
    have HNB := Lib.hid hnb
    clear hnb
    go_enter Tryd.func3, Tryd.ntmps3
    go_wp2_with fail
    refine (bigP_any A n cp w).mono ?_; rintro e w' ⟨rfl, rfl⟩
    rw [HNB.out]
    go_wp2_with fail
    refine (DrawRunSerial_any n cp A g _ hn hbs).mono ?_; rintro e w1 ⟨v1, L, v2, m, hL9, hm8, rfl, ho1, ho2, hb1⟩
    obtain ⟨A1, c1, v, rfl, i1, hA1⟩ := ho1.kindP
    obtain ⟨A2, c2, f, rfl, i2⟩ := ho2.actsP
    have hs1 := hb1.size
    have HA1 := Lib.hid hA1
    clear ho1 ho2 hA1 hbs
    go_wp2_with fail
    refine (specRun_any A1 A2 L m c1 c2 v f _ (by omega) i1 i2).mono ?_; rintro e w2 ⟨B0, d0, B1, d1, m0, rfl, hm1, hm2, o0, o1, hb2⟩
    have a0 := o0.at_.upP hm2
    have a1 := o1.at_
    clear o0 o1 hm1 hm2 m0
    have b2 := hb1.trans (hb2.mono hs1)
    have hs2 := hb2.size
    have i1 := i1.keepP hb2 (Nat.le_refl _)
    have i2 := i2.keepP hb2 (Nat.le_refl _)
    go_wp2_with fail
    refine (implRunP_any A1 A2 L m c1 c2 v f _ (by omega) (HA1.out.imp (fun h => h) (fun ⟨b, e, h⟩ => ⟨b, e, by omega⟩)) (i1.upP hs2) (i2.upP hs2)).mono ?_; rintro e w3 ⟨B2, d2, B3, d3, m3, rfl, hm3, hm4, o0, o1, hb3⟩
    have e0 := o0.at_.upP hm4
    have e1 := o1.at_
    clear o0 o1 hm3 hm4 m3 HA1
    have b3 := b2.trans (hb3.mono b2.size)
    have hs3 := hb3.size
    have a0 := a0.keepP hb3 (Nat.le_refl _)
    have a1 := a1.keepP hb3 (Nat.le_refl _)
    have i1 := i1.keepP hb3 hs2
    have i2 := i2.keepP hb3 hs2
    have hT6 := resT_six L v m f
    generalize hK : runOk L v m f = K
    have HK := Lib.hid hK
    clear hK
    go_wp2_with fail
    refine (sameP_any _ _ _ _ _ _ _ _ _ (by unfold maxLen; omega) e0 a0).mono ?_; rintro e w4 ⟨rfl, hb4⟩
    have b4 := b3.trans (hb4.mono b3.size)
    have hs4 := hb4.size
    have e0 := e0.keepP hb4 (Nat.le_refl _)
    have e1 := e1.keepP hb4 (Nat.le_refl _)
    have a1 := a1.keepP hb4 (by omega)
    have i1 := i1.keepP hb4 (by omega)
    have i2 := i2.keepP hb4 (by omega)
    clear a0
    go_wp2_with fail
    refine (sameP_any _ _ _ _ _ _ _ _ _ (by unfold maxLen; omega) e1 a1).mono ?_; rintro e w5 ⟨rfl, hb5⟩
    have b5 := b4.trans (hb5.mono b4.size)
    have hs5 := hb5.size
    have e0 := e0.keepP hb5 (by omega)
    have i1 := i1.keepP hb5 (by omega)
    have i2 := i2.keepP hb5 (by omega)
    clear a1 e1
    go_wp2_with fail
    refine (implProgText_any A2 m c2 f _ (HT.out.below b5) (i2.upP (by omega))).mono ?_; rintro e w6 ⟨rfl, hb6⟩
    have b6 := b5.trans (hb6.mono b5.size)
    have hs6 := hb6.size
    have e0 := e0.keepP hb6 (by omega)
    have i1 := i1.keepP hb6 (by omega)
    have i2 := i2.keepP hb6 (by omega)
    go_wp2_with fail
    refine (specProgOk_any A2 m c2 f _ (i2.upP (by omega))).mono ?_; rintro e w7 ⟨rfl, hb7⟩
    have b7 := b6.trans (hb7.mono b6.size)
    have hs7 := hb7.size
    have e0 := e0.keepP hb7 (by omega)
    have i1 := i1.keepP hb7 (by omega)
    have i2 := i2.keepP hb7 (by omega)
    cases hp : progOk m f with
    | false =>
      have hKf : K = false := by
        rw [← HK.out]
        cases h : runOk L v m f with
        | false => rfl
        | true => have := (runOk_parts h).2.2.1; rw [hp] at this; cases this
      clear HK
      subst hKf
      clear hp
      go_wp2
      go_ret
      exact ⟨rfl, b7⟩
    | true =>
      have HP := Lib.hid hp
      have h6 := prog_len hp
      obtain ⟨hm1, hm6⟩ := h6
      clear hp
      go_wp2_with fail
      refine (implParseProg_any _ (outText_size HP.out) _ (HT.out.below b7)).mono ?_; rintro e w8 ho
      obtain ⟨A8, c8, rfl, a8, hb8⟩ := ho.back HP.out
      clear ho
      have b8 := b7.trans (hb8.mono b7.size)
      have hs8 := hb8.size
      have e0 := e0.keepP hb8 (by omega)
      have i1 := i1.keepP hb8 (by omega)
      have i2 := i2.keepP hb8 (by omega)
      go_wp2_with fail
      refine (sameActsP_any A8 A2 m c8 c2 _ _ f _ (by omega) a8 i2).mono ?_; rintro e w9 ⟨rfl, hb9⟩
      have b9 := b8.trans (hb9.mono b8.size)
      have hs9 := hb9.size
      have e0 := e0.keepP hb9 (by omega)
      have i1 := i1.keepP hb9 (by omega)
      have i2 := i2.keepP hb9 (by omega)
      clear a8
      go_wp2_with fail
      refine (implKeysOf_any A2 m c2 f _ (i2.upP (by omega))).mono ?_; rintro e w10 ⟨vk, rfl, ho, hb10⟩
      obtain ⟨Ak, ck, rfl, _, ok⟩ := OwnI.of_owns ho
      have ik := ok.at_
      clear ho ok
      have b10 := b9.trans (hb10.mono b9.size)
      have hs10 := hb10.size
      have e0 := e0.keepP hb10 (by omega)
      have i1 := i1.keepP hb10 (by omega)
      have i2 := i2.keepP hb10 (by omega)
      go_wp2_with fail
      refine (implWritesOf_any A2 m c2 f _ (i2.upP (by omega))).mono ?_; rintro e w11 ⟨vw, rfl, ho, hb11⟩
      obtain ⟨Aw, cw, rfl, _, ow⟩ := OwnI.of_owns ho
      have iw := ow.at_
      clear ho ow
      have b11 := b10.trans (hb11.mono b10.size)
      have hs11 := hb11.size
      have e0 := e0.keepP hb11 (by omega)
      have i1 := i1.keepP hb11 (by omega)
      have i2 := i2.keepP hb11 (by omega)
      have ik := ik.keepP hb11 (Nat.le_refl _)
      go_wp2_with fail
      refine (implReadsOf_any A2 m c2 f _ (i2.upP (by omega))).mono ?_; rintro e w12 ⟨vr, rfl, ho, hb12⟩
      obtain ⟨Ar, cr, rfl, _, or⟩ := OwnI.of_owns ho
      have ir := or.at_
      clear ho or
      have b12 := b11.trans (hb12.mono b11.size)
      have hs12 := hb12.size
      have e0 := e0.keepP hb12 (by omega)
      have i1 := i1.keepP hb12 (by omega)
      have i2 := i2.keepP hb12 (by omega)
      have ik := ik.keepP hb12 (by omega)
      have iw := iw.keepP hb12 (Nat.le_refl _)
      have HWI := Lib.hid (fun i hi => writes_in (i := i) HP.out hi)
      have HRI := Lib.hid (fun i hi => reads_in (i := i) HP.out hi)
      have hk8 := keysOut_le (fun _ => true) m f
      have hw8 := keysOut_le (wrt f) m f
      have hr8 := readsOut_le m f
      generalize keysOut (fun _ => true) m f = KL at ik HWI HRI hk8 ⊢
      generalize keysOut (wrt f) m f = WL at iw HWI hw8 ⊢
      generalize readsOut m f = RL at ir HRI hr8 ⊢
      obtain ⟨NW, hNW⟩ : ∃ N, N = WL.length := ⟨_, rfl⟩
      obtain ⟨NR, hNR⟩ : ∃ N, N = RL.length := ⟨_, rfl⟩
      rw [← hNW] at iw hw8 HWI ⊢
      rw [← hNR] at ir hr8 HRI ⊢
      clear hNW hNR
      go_wp2
      go_loop [18] (fun x => ∃ i : Nat, i ≤ NW ∧ x = .int .i64 (i : Int)) (fun x => NW - (intOf x).toNat)
      case atStart => exact ⟨0, Nat.zero_le _, rfl⟩
      case round =>
        obtain ⟨i, hi, rfl⟩ := hrel
        by_cases hiN : i < NW
        · have hiz : (i : Int) < NW := by omega
          obtain ⟨bw, offw, rfl, _, hcw⟩ := iw (by omega)
          have q0 : w12.cell? ⟨bw, offw + i, none⟩ = some (.int .i64 (WL.getD i 0)) := hcw i hiN
          have HIN := Lib.hid (HWI.out i hiN)
          generalize WL.getD i 0 = X at q0 HIN
          clear hcw iw ir e0 i1 i2 HWI HRI
          go_wp2_with fail
          refine (withinP_any Ak _ ck _ _ _ _ (by omega) ik).mono ?_; rintro e w' ⟨rfl, rfl⟩
          rw [show wth KL.length (fun j => KL.getD j 0) X = true from HIN.out]
          go_wp2
          exact ⟨⟨i + 1, by omega, by go_num⟩, by simp [intOf]; omega⟩
        · obtain rfl : i = NW := by omega
          go_wp2
          go_loop [19] (fun x => ∃ i : Nat, i ≤ NR ∧ x = .int .i64 (i : Int)) (fun x => NR - (intOf x).toNat)
          case atStart => exact ⟨0, Nat.zero_le _, rfl⟩
          case round =>
            obtain ⟨j, hj, rfl⟩ := hrel
            by_cases hjN : j < NR
            · have hjz : (j : Int) < NR := by omega
              obtain ⟨bw, offw, rfl, _, hcw⟩ := ir (by omega)
              have q0 : w12.cell? ⟨bw, offw + j, none⟩ = some (.int .i64 (RL.getD j 0)) := hcw j hjN
              have HIN := Lib.hid (HRI.out j hjN)
              generalize RL.getD j 0 = X at q0 HIN
              clear hcw iw ir e0 i1 i2 HWI HRI
              go_wp2_with fail
              refine (withinP_any Ak _ ck _ _ _ _ (by omega) ik).mono ?_; rintro e w' ⟨rfl, rfl⟩
              rw [show wth KL.length (fun j => KL.getD j 0) X = true from HIN.out]
              go_wp2
              exact ⟨⟨j + 1, by omega, by go_num⟩, by simp [intOf]; omega⟩
            · obtain rfl : j = NR := by omega
              clear ir iw ik HWI HRI
              cases K with
              | false =>
                go_wp2
                go_ret
                exact ⟨rfl, b12⟩
              | true =>
                go_wp2
                go_loop [20, 21] (fun gt x => ∃ q : Nat, q ≤ m ∧ x = .int .i64 (q : Int) ∧ gt = .int .i64 ((runT f v q).length : Int)) (fun _ x => m - (intOf x).toNat)
                case atStart => exact ⟨0, Nat.zero_le _, rfl, rfl⟩
                case round =>
                  obtain ⟨q, hq, rfl, rfl⟩ := hrel
                  have hTl := runT_le f v q
                  by_cases hqm : q < m
                  · have hqz : (q : Int) < m := by omega
                    obtain ⟨bp, offp, rfl, _, hcp⟩ := i2 (by omega)
                    have q0 : w12.cell? ⟨bp, offp + q * 3, none⟩ = some (.int .i64 (f (q * 3))) := hcp _ (by omega)
                    clear hcp i2 i1 e0
                    by_cases h0 : f (q * 3) = 0
                    · have HT1 := Lib.hid (runT_len_get (v := v) h0)
                      rw [h0] at q0
                      clear h0
                      go_wp2
                      exact ⟨⟨q + 1, by omega, by go_num, by rw [HT1.out]; go_num⟩, by simp [intOf]; omega⟩
                    · have HT1 := Lib.hid (congrArg List.length (runT_not (v := v) h0))
                      go_wp2
                      exact ⟨⟨q + 1, by omega, by go_num, by rw [HT1.out]⟩, by simp [intOf]; omega⟩
                  · obtain rfl : q = m := by omega
                    have HG := Lib.hid (resT_gets HK.out)
                    go_wp2
                    go_loopw [22] (fun x wr => ∃ k : Nat, k ≤ L ∧ x = .int .i64 (k : Int) ∧ Below w12.heap.size w12 wr) (fun x _ => L - (intOf x).toNat)
                    case atStart => exact ⟨0, Nat.zero_le _, rfl, Below.refl _ _⟩
                    case round =>
                      obtain ⟨k, hk, rfl, hbr⟩ := hrel
                      have hsr := hbr.size
                      by_cases hkL : k < L
                      · have hkz : (k : Int) < L := by omega
                        obtain ⟨bg, offg, rfl, hBg, hcg⟩ := e0 (by omega)
                        obtain ⟨bv, offv, rfl, hBv, hcv⟩ := i1 (by omega)
                        have i2r := i2.keepP hbr (by omega)
                        have q0 : wr.cell? ⟨bg, offg + k, none⟩ = some (.int .i64 (resV L v q f k)) := (hbr.cell (p := ⟨bg, offg + k, none⟩) (by show bg < w12.heap.size; omega)).trans (hcg k hkL)
                        have q1 : wr.cell? ⟨bv, offv + k, none⟩ = some (.int .i64 (v k)) := (hbr.cell (p := ⟨bv, offv + k, none⟩) (by show bv < w12.heap.size; omega)).trans (hcv k hkL)
                        clear hcg hcv e0 i1 i2
                        by_cases hne : resV L v q f k = v k
                        · rw [hne] at q0
                          clear hne i2r
                          go_wp2_with fail
                          go_quiet (fail)
                          go_wp2
                          exact ⟨⟨k + 1, by omega, by go_num, hbr.trans ⟨rfl, rfl, rfl, Nat.le_refl _, fun _ _ => rfl⟩⟩, by simp [intOf]; omega⟩
                        · have HIN := Lib.hid (turned_in HK.out hkL hne)
                          have hneb : (resV L v q f k != v k) = true := by simp [hne]
                          have hw9 := keysOut_le (wrt f) q f
                          have I2R := Lib.hid (show IntsAt wr.drew wr.drew.heap.size A2 (q * 3) f from i2r.upP (show w1.heap.size ≤ wr.heap.size by omega))
                          clear i2r hne
                          generalize resV L v q f k = X at q0 hneb
                          generalize v k = Y at q1 hneb
                          go_wp2_with fail
                          go_region_law (first | (go_simp; go_at_call 18; refine (implWritesOf_any A2 q c2 f _ I2R.out).mono ?_; rintro e w13 ⟨vw, rfl, ho, hb13⟩; obtain ⟨A13, c13, rfl, _, o13⟩ := OwnI.of_owns ho; have i13 := Lib.hid o13.at_; clear ho o13) | (go_simp; go_at_call 20; refine (withinP_any _ _ _ _ _ _ _ (by omega) i13.out).mono ?_; rintro e w14 ⟨rfl, rfl⟩; rw [show wth (keysOut (wrt f) q f).length (fun j => (keysOut (wrt f) q f).getD j 0) (k : Int) = true from HIN.out]))
                          all_goals
                            go_wp2
                            exact ⟨⟨k + 1, by omega, by go_num, hbr.trans ((show Below wr.heap.size wr w13 from (Below.refl _ _).drew.trans hb13).mono hsr)⟩, by simp [intOf]; omega⟩
                      · obtain rfl : k = L := by omega
                        go_wp2
                        go_ret
                        have hfin : (((resT k v q f).length : Int) == ((runT f v q).length : Int)) = true := by rw [HG.out]; simp
                        exact ⟨congrArg (fun z => Ending.returned (.bool z)) hfin, b12.trans (hbr.mono b12.size)⟩
  · have hnb : decide ((1048576 : Int) < n) = true := by simp; omega
    have HNB := Lib.hid hnb
    clear hnb
    go_enter Tryd.func3, Tryd.ntmps3
    go_wp2_with fail
    refine (bigP_any A n cp w).mono ?_; rintro e w' ⟨rfl, rfl⟩
    rw [HNB.out]
    go_wp2
    go_ret
    exact ⟨rfl, Below.refl _ _⟩
end Go.Proofs.YtilgfcbjonalaaaDoor
