/- FnWants: a merged list covers both lists and nothing else, HotKeys grows as the threshold decreases, and after enough cooling no key is hot; whatever the bytes that the case is drawn from. No condition. -/
import Derived.Test.YtognfnfbmbfidaaVg
namespace Go.Proofs.Ytognfnfbmbfidaa
open Go.RowKit

theorem HAt.up7 {w : World} {B B' : Nat} {A : Option Addr} {l : HL} (h : HAt w B A l) (hB : B ≤ B') : HAt w B' A l := h.below (Below.refl _ _) hB
set_option maxHeartbeats 6400000 in
set_option maxRecDepth 100000 in
theorem fnWants_walk (A : Option Addr) (n cp : Nat) (g : Nat → Int) (w : World) (hbs : BytesAt w w.heap.size A n g) :
    Calls Try.prog 3 #[.slice A n cp] w fun e w' => e = .returned (.bool true) ∧ Below w.heap.size w w' := by
  by_cases hn : n ≤ 1048576
  · have hbig : decide ((1048576 : Int) < (n : Int)) = false := decide_eq_false (by omega)
    go_enter Try.func3, Try.ntmps3
    go_wp2_with fail
    refine (big_any _ _ _ _).mono ?_; rintro e w' ⟨rfl, rfl⟩
    rw [hbig]
    go_wp2_with fail
    refine (DrawMerge_any n cp A g _ hn hbs).mono ?_; rintro e w1 ⟨A1, A2, c1, c2, la, lb, rfl, TW⟩
    obtain ⟨na9, nb9, ca, cb, na, nb, ha, hb, b⟩ := TW
    have hs1 := b.size
    have HB := Lib.hid hbs
    clear hbs
    have ka : la.length ≤ 1048576 := by omega
    have kb : lb.length ≤ 1048576 := by omega
    go_wp2_with fail
    refine (specMerge_any A1 A2 c1 c2 _ la lb _ ka kb (Nat.le_refl _) ha hb).mono ?_; rintro e w2 ⟨A3, c3, he, HO3, hb2⟩
    obtain rfl : e = .returned (.tuple #[.slice A3 (mrgA la lb).length c3, .bool (wantsB la && wantsB lb)]) := he
    have ha := ha.keep hb2 (Nat.le_refl _)
    have hb := hb.keep hb2 (Nat.le_refl _)
    have b := b.trans (hb2.mono hs1)
    have hs2 := hb2.size
    clear hb2
    have hml := mrgA_len la lb
    go_wp2_with fail
    refine (implMerge_any A1 A2 c1 c2 _ la lb _ ka kb hs2 ca cb na nb ha hb).mono ?_; rintro e w3 ⟨A4, c4, he, c4l, n4, HO4, hb3⟩
    obtain rfl : e = .returned (.tuple #[.slice A4 (mrgA la lb).length c4, .bool (wantsB la && wantsB lb)]) := he
    have ha := ha.keep hb3 hs2
    have hb := hb.keep hb3 hs2
    have m3 := (HO3.below hb3 (Nat.le_refl _)).at_
    have m4 := HO4.at_
    have b := b.trans (hb3.mono b.size)
    have hs3 := hb3.size
    clear hb3 HO3 HO4
    obtain ⟨q, hq⟩ : ∃ q, (wantsB la && wantsB lb) = q := ⟨_, rfl⟩
    rw [hq]
    cases q with
    | false =>
      clear m3 m4 ha hb hml c4l n4 hq na nb ca cb na9 nb9
      go_wp2_with fail
      refine (alt_any n cp A g _ hn (HB.out.keep (fun k hk => b.block k hk) b.size)).mono ?_; rintro e w11 ⟨A5, c5, m5, f5, hm5, rfl, bs5, hb⟩
      have b := b.trans (hb.mono b.size)
      clear hb HB
      go_wp2_with fail
      refine (DrawHot_any m5 c5 A5 f5 _ (by omega) bs5).mono ?_; rintro e w12 ⟨A6, c6, m6, f6, x, hm6, ⟨x0, x1⟩, rfl, I6, hb⟩
      have b := b.trans (hb.mono b.size)
      have hs12 := hb.size
      clear hb bs5
      have hm6' : m6 ≤ 1048576 := by omega
      go_wp2_with fail
      refine (implHot_ret A6 m6 c6 _ f6 x _ (Nat.le_refl _) I6).mono ?_; rintro e w13 ⟨A7, c7, he, O7, hb⟩
      obtain rfl : e = .returned (.slice A7 (hotO m6 f6 x).length c7) := he
      have I6 := I6.below hb hb.size
      have b := b.trans (hb.mono b.size)
      have hs13 := hb.size
      clear hb
      go_wp2_with fail
      refine (specHot_ret A6 m6 c6 _ f6 x _ hm6' (Nat.le_refl _) I6).mono ?_; rintro e w14 ⟨A8, c8, he, O8, hb⟩
      obtain rfl : e = .returned (.slice A8 (hotO m6 f6 x).length c8) := he
      have I6 := I6.below hb hb.size
      have O7 := O7.below hb (Nat.le_refl _)
      have b := b.trans (hb.mono b.size)
      have hs14 := hb.size
      clear hb
      have hl8 := hotO_le m6 f6 x
      go_wp2_with fail
      refine (same_eq _ _ _ _ _ _ _ _ _ (by unfold maxLen; omega) O7.at_ O8.at_).mono ?_; rintro e w15 ⟨rfl, hb⟩
      have I6 := I6.below hb hb.size
      have O7 := O7.below hb (by omega)
      have b := b.trans (hb.mono b.size)
      have hs15 := hb.size
      clear hb O8
      go_wp2_with fail
      refine (specHeat_keep A6 m6 c6 _ f6 _ hm6' I6).mono ?_; rintro e w16 ⟨rfl, hb⟩
      have I6 := I6.below hb hb.size
      have I7 := (O7.below hb (by omega)).at_
      have b := b.trans (hb.mono b.size)
      have hs16 := hb.size
      clear hb O7
      have hI7 : w13.heap.size ≤ w16.heap.size := by omega
      cases hk : heatB m6 f6 with
      | false =>
        have h0 : hotO m6 f6 x = [] := hotO_no (by rw [hk]; rfl)
        rw [h0]
        have BB := Lib.hid b
        clear b I6 I7 h0 hk hl8
        go_wp2
        go_ret
        exact ⟨rfl, BB.out⟩
      | true =>
        obtain rfl := heatB_len hk
        have HM := Lib.hid (fun i (hx : 1 < x) hi => hot_more (n := 8) (f := f6) (i := i) hx hi)
        have HL := Lib.hid (fun i hi => hot_le (n := 8) (f := f6) (x := x) (i := i) hi)
        by_cases hx : 1 < x
        · have hI7' := I7
          clear I7
          go_wp2_with fail
          refine (implHot_ret A6 8 c6 _ f6 (x - 1) _ (Nat.le_refl _) I6).mono ?_; rintro e w17 ⟨A9, c9, he, O9, hb⟩
          obtain rfl : e = .returned (.slice A9 (hotO 8 f6 (x - 1)).length c9) := he
          have I6 := I6.below hb hb.size
          have I7 := (hI7'.up4 hI7).below hb hb.size
          have I9 := O9.at_
          have b := b.trans (hb.mono b.size)
          have hl9 := hotO_le 8 f6 (x - 1)
          have hs17 := hb.size
          clear hb O9 hI7'
          have I6 := Lib.hid I6
          have I7 := Lib.hid I7
          have I9 := Lib.hid I9
          have b := Lib.hid b
          have hk := Lib.hid hk
          generalize hotO 8 f6 x = L at hl8 HM HL I7 ⊢
          generalize hotO 8 f6 (x - 1) = M at hl9 HM I9 ⊢
          go_wp2
          go_loopw [14] (fun i wr => ∃ k : Nat, k ≤ L.length ∧ i = .int .i64 k ∧ Below w17.heap.size w17 wr) (fun i _ => L.length - (intOf i).toNat)
          case atStart => exact ⟨0, by omega, rfl, Below.refl _ _⟩
          case round =>
            obtain ⟨k, hkL, rfl, hbr⟩ := hrel
            by_cases hkl : k < L.length
            · have hkz : (k : Int) < L.length := by omega
              have hx20 := HL.out k hkl
              have hw := HM.out k hx hkl
              obtain ⟨b7, o7, rfl, hB7, hc7⟩ := I7.out (by omega)
              have d0 : wr.cell? ⟨b7, o7 + k, none⟩ = some (.int .i64 (L.getD k 0)) := (hbr.cell (p := ⟨b7, o7 + k, none⟩) (by show b7 < _; omega)).trans (hc7 k hkl)
              have I9r := I9.out.below hbr (Nat.le_refl _)
              have HBR := Lib.hid hbr
              generalize L.getD k 0 = y at d0 hw
              clear hc7 hbr
              go_wp2_with fail
              refine (withinL_any A9 M.length c9 _ (fun j => M.getD j 0) y _ (by omega) I9r).mono ?_; rintro e w' ⟨rfl, rfl⟩
              rw [hw]
              clear I9r d0 hw
              go_wp2
              exact ⟨⟨k + 1, by omega, by go_num, HBR.out⟩, by simp [intOf]; omega⟩
            · obtain rfl : k = L.length := by omega
              have b := b.out.trans (hbr.mono b.out.size)
              have I6 := I6.out.below hbr hbr.size
              have hk := hk.out
              clear hbr I7 I9 HM HL
              have HK := Lib.hid (Cool.zero hk)
              have I0 := Lib.hid I6
              have B0 := Lib.hid b
              clear I6 b hk
              go_wp2
              go_loopw [10, 15] (fun v i wr => ∃ k : Nat, k ≤ 5 ∧ i = .int .i64 k ∧ ∃ A' c' f', v = .slice A' 8 c' ∧ Cool 8 f' k ∧ IntsAt wr wr.heap.size A' 8 f' ∧ Below w.heap.size w wr) (fun _ i _ => 5 - (intOf i).toNat)
              case atStart => exact ⟨0, by omega, rfl, A6, c6, f6, rfl, HK.out, I0.out, B0.out⟩
              case round =>
                obtain ⟨k, hk, rfl, A', c', f', rfl, hC, hI, hb⟩ := hrel
                clear I0 B0 HK
                have HC := Lib.hid hC
                have hok := hC.ok
                clear hC
                have HBr := Lib.hid hb
                clear hb
                by_cases hk5 : k < 5
                · have hkz : (k : Int) < 5 := by omega
                  obtain ⟨b0, o0, rfl, _, _⟩ := hI (by omega)
                  go_wp2_with fail
                  refine (implCool_any b0 o0 8 c' _ f' _ (by omega) (Nat.le_refl _) hI).mono ?_; rintro e wc ⟨Ac, cc, he, Oc, hbc⟩
                  obtain rfl : e = .returned (.tuple #[.slice Ac 8 cc, .bool (heatB 8 f')]) := he
                  rw [hok]
                  have IC := Lib.hid Oc.at_
                  have HBc := Lib.hid (HBr.out.trans (hbc.mono HBr.out.size))
                  clear hI hbc Oc HBr
                  go_wp2
                  exact ⟨⟨k + 1, by omega, by go_num, Ac, cc, _, rfl, HC.out.next, IC.out, HBc.out⟩, by simp [intOf]; omega⟩
                · obtain rfl : k = 5 := by omega
                  have h0 := HC.out.done
                  go_wp2_with fail
                  refine (implHot_ret A' 8 c' _ f' 1 _ (Nat.le_refl _) hI).mono ?_; rintro e wd ⟨Ad, cd, he, _, hbd⟩
                  rw [h0] at he
                  obtain rfl : e = .returned (.slice Ad 0 cd) := he
                  have HBd := Lib.hid (HBr.out.trans (hbd.mono HBr.out.size))
                  clear hI hbd HBr
                  go_wp2
                  go_ret
                  exact ⟨rfl, HBd.out⟩
        · clear I7 HM HL
          have HK := Lib.hid (Cool.zero hk)
          have I0 := Lib.hid I6
          have B0 := Lib.hid b
          clear I6 b hk
          go_wp2
          go_loopw [10, 15] (fun v i wr => ∃ k : Nat, k ≤ 5 ∧ i = .int .i64 k ∧ ∃ A' c' f', v = .slice A' 8 c' ∧ Cool 8 f' k ∧ IntsAt wr wr.heap.size A' 8 f' ∧ Below w.heap.size w wr) (fun _ i _ => 5 - (intOf i).toNat)
          case atStart => exact ⟨0, by omega, rfl, A6, c6, f6, rfl, HK.out, I0.out, B0.out⟩
          case round =>
            obtain ⟨k, hk, rfl, A', c', f', rfl, hC, hI, hb⟩ := hrel
            clear I0 B0 HK
            have HC := Lib.hid hC
            have hok := hC.ok
            clear hC
            have HBr := Lib.hid hb
            clear hb
            by_cases hk5 : k < 5
            · have hkz : (k : Int) < 5 := by omega
              obtain ⟨b0, o0, rfl, _, _⟩ := hI (by omega)
              go_wp2_with fail
              refine (implCool_any b0 o0 8 c' _ f' _ (by omega) (Nat.le_refl _) hI).mono ?_; rintro e wc ⟨Ac, cc, he, Oc, hbc⟩
              obtain rfl : e = .returned (.tuple #[.slice Ac 8 cc, .bool (heatB 8 f')]) := he
              rw [hok]
              have IC := Lib.hid Oc.at_
              have HBc := Lib.hid (HBr.out.trans (hbc.mono HBr.out.size))
              clear hI hbc Oc HBr
              go_wp2
              exact ⟨⟨k + 1, by omega, by go_num, Ac, cc, _, rfl, HC.out.next, IC.out, HBc.out⟩, by simp [intOf]; omega⟩
            · obtain rfl : k = 5 := by omega
              have h0 := HC.out.done
              go_wp2_with fail
              refine (implHot_ret A' 8 c' _ f' 1 _ (Nat.le_refl _) hI).mono ?_; rintro e wd ⟨Ad, cd, he, _, hbd⟩
              rw [h0] at he
              obtain rfl : e = .returned (.slice Ad 0 cd) := he
              have HBd := Lib.hid (HBr.out.trans (hbd.mono HBr.out.size))
              clear hI hbd HBr
              go_wp2
              go_ret
              exact ⟨rfl, HBd.out⟩
    | true =>
      obtain ⟨v1, v2, v3⟩ := covO_mrg hq
      clear hq
      generalize mrgA la lb = m at m3 m4 hml c4l v1 v2 v3 ⊢
      have km : m.length ≤ 1048576 := by omega
      go_wp2_with fail
      refine (implCovers_any A4 A1 c4 c1 _ m la _ km ka (Nat.le_refl _) c4l ca n4 na m4 (ha.up7 (by omega))).mono ?_; rintro e w4 ⟨rfl, hb4⟩
      rw [v1]
      have ha := ha.keep hb4 (by omega)
      have hb := hb.keep hb4 (by omega)
      have m3 := (m3.up7 hs3).below hb4 hb4.size
      have m4 := m4.below hb4 hb4.size
      have b := b.trans (hb4.mono b.size)
      have hs4 := hb4.size
      clear hb4
      go_wp2_with fail
      refine (implCovers_any A4 A2 c4 c2 _ m lb _ km kb (Nat.le_refl _) c4l cb n4 nb m4 (hb.up7 (by omega))).mono ?_; rintro e w5 ⟨rfl, hb5⟩
      rw [v2]
      have m3 := m3.below hb5 hb5.size
      have m4 := m4.below hb5 hb5.size
      have b := b.trans (hb5.mono b.size)
      have hs5 := hb5.size
      clear hb5 ha hb
      go_wp2_with fail
      refine (implWantsOk_any A4 c4 _ m _ km m4).mono ?_; rintro e w6 ⟨rfl, hb6⟩
      rw [v3]
      have m3 := m3.below hb6 hb6.size
      have m4 := m4.below hb6 hb6.size
      have m3 := Lib.hid m3.lt
      have m4 := Lib.hid m4
      have b := Lib.hid (b.trans (hb6.mono b.size))
      have hs6 := hb6.size
      clear hb6 v1 v2 v3 na nb ca cb na9 nb9 c4l n4
      go_wp2
      go_loopw [9] (fun i wr => ∃ k : Nat, k ≤ m.length ∧ i = .int .i64 k ∧ Below w6.heap.size w6 wr) (fun i _ => m.length - (intOf i).toNat)
      case atStart => exact ⟨0, by omega, rfl, Below.refl _ _⟩
      case round =>
        obtain ⟨k, hk, rfl, hbr⟩ := hrel
        by_cases hkn : k < m.length
        · obtain ⟨b1, off, rfl, hB, hc⟩ := m4.out (by omega)
          obtain ⟨b2, off2, rfl, hB2, hc2⟩ := m3.out (by omega)
          have hkz : (k : Int) < m.length := by omega
          have d0 : wr.cell? ⟨b1, off + k * 2, none⟩ = some (.int .i64 (hT m k)) := (hbr.cell (p := ⟨b1, off + k * 2, none⟩) hB).trans (hc k hkn).1
          have d1 : wr.cell? ⟨b1, off + k * 2 + 1, none⟩ = some (.bool (hW m k)) := (hbr.cell (p := ⟨b1, off + k * 2 + 1, none⟩) hB).trans (hc k hkn).2
          have d0' : wr.cell? ⟨b2, off2 + k * 2, none⟩ = some (.int .i64 (hT m k)) := (hbr.cell (p := ⟨b2, off2 + k * 2, none⟩) hB2).trans (hc2 k hkn).1
          have d1' : wr.cell? ⟨b2, off2 + k * 2 + 1, none⟩ = some (.bool (hW m k)) := (hbr.cell (p := ⟨b2, off2 + k * 2 + 1, none⟩) hB2).trans (hc2 k hkn).2
          have AF := Lib.hid (fun n => below_drewN hbr n)
          clear hbr hc hc2
          generalize hT m k = x1 at d0 d0'
          generalize hW m k = x2 at d1 d1'
          have hq := run_neq_want x1 x1 x2 x2
          have e : (!((x1 == x1) && (x2 == x2))) = false := by simp
          rw [e] at hq
          clear e
          go_wp2_with fail
          go_quiet (fail)
          have hb2 := AF.out nq
          clear AF d0 d1 d0' d1'
          generalize World.drewN _ nq = w2 at hb2 ⊢
          go_wp2
          exact ⟨⟨k + 1, by omega, by go_num, hb2⟩, by simp [intOf]; omega⟩
        · obtain rfl : k = m.length := by omega
          have b := b.out.trans (hbr.mono b.out.size)
          clear hbr m3 m4
          go_wp2_with fail
          refine (alt_any n cp A g _ hn (HB.out.keep (fun k hk => b.block k hk) b.size)).mono ?_; rintro e w11 ⟨A5, c5, m5, f5, hm5, rfl, bs5, hb⟩
          have b := b.trans (hb.mono b.size)
          clear hb HB
          go_wp2_with fail
          refine (DrawHot_any m5 c5 A5 f5 _ (by omega) bs5).mono ?_; rintro e w12 ⟨A6, c6, m6, f6, x, hm6, ⟨x0, x1⟩, rfl, I6, hb⟩
          have b := b.trans (hb.mono b.size)
          have hs12 := hb.size
          clear hb bs5
          have hm6' : m6 ≤ 1048576 := by omega
          go_wp2_with fail
          refine (implHot_ret A6 m6 c6 _ f6 x _ (Nat.le_refl _) I6).mono ?_; rintro e w13 ⟨A7, c7, he, O7, hb⟩
          obtain rfl : e = .returned (.slice A7 (hotO m6 f6 x).length c7) := he
          have I6 := I6.below hb hb.size
          have b := b.trans (hb.mono b.size)
          have hs13 := hb.size
          clear hb
          go_wp2_with fail
          refine (specHot_ret A6 m6 c6 _ f6 x _ hm6' (Nat.le_refl _) I6).mono ?_; rintro e w14 ⟨A8, c8, he, O8, hb⟩
          obtain rfl : e = .returned (.slice A8 (hotO m6 f6 x).length c8) := he
          have I6 := I6.below hb hb.size
          have O7 := O7.below hb (Nat.le_refl _)
          have b := b.trans (hb.mono b.size)
          have hs14 := hb.size
          clear hb
          have hl8 := hotO_le m6 f6 x
          go_wp2_with fail
          refine (same_eq _ _ _ _ _ _ _ _ _ (by unfold maxLen; omega) O7.at_ O8.at_).mono ?_; rintro e w15 ⟨rfl, hb⟩
          have I6 := I6.below hb hb.size
          have O7 := O7.below hb (by omega)
          have b := b.trans (hb.mono b.size)
          have hs15 := hb.size
          clear hb O8
          go_wp2_with fail
          refine (specHeat_keep A6 m6 c6 _ f6 _ hm6' I6).mono ?_; rintro e w16 ⟨rfl, hb⟩
          have I6 := I6.below hb hb.size
          have I7 := (O7.below hb (by omega)).at_
          have b := b.trans (hb.mono b.size)
          have hs16 := hb.size
          clear hb O7
          have hI7 : w13.heap.size ≤ w16.heap.size := by omega
          cases hk : heatB m6 f6 with
          | false =>
            have h0 : hotO m6 f6 x = [] := hotO_no (by rw [hk]; rfl)
            rw [h0]
            have BB := Lib.hid b
            clear b I6 I7 h0 hk hl8
            go_wp2
            go_ret
            exact ⟨rfl, BB.out⟩
          | true =>
            obtain rfl := heatB_len hk
            have HM := Lib.hid (fun i (hx : 1 < x) hi => hot_more (n := 8) (f := f6) (i := i) hx hi)
            have HL := Lib.hid (fun i hi => hot_le (n := 8) (f := f6) (x := x) (i := i) hi)
            by_cases hx : 1 < x
            · have hI7' := I7
              clear I7
              go_wp2_with fail
              refine (implHot_ret A6 8 c6 _ f6 (x - 1) _ (Nat.le_refl _) I6).mono ?_; rintro e w17 ⟨A9, c9, he, O9, hb⟩
              obtain rfl : e = .returned (.slice A9 (hotO 8 f6 (x - 1)).length c9) := he
              have I6 := I6.below hb hb.size
              have I7 := (hI7'.up4 hI7).below hb hb.size
              have I9 := O9.at_
              have b := b.trans (hb.mono b.size)
              have hl9 := hotO_le 8 f6 (x - 1)
              have hs17 := hb.size
              clear hb O9 hI7'
              have I6 := Lib.hid I6
              have I7 := Lib.hid I7
              have I9 := Lib.hid I9
              have b := Lib.hid b
              have hk := Lib.hid hk
              generalize hotO 8 f6 x = L at hl8 HM HL I7 ⊢
              generalize hotO 8 f6 (x - 1) = M at hl9 HM I9 ⊢
              go_wp2
              go_loopw [14] (fun i wr => ∃ k : Nat, k ≤ L.length ∧ i = .int .i64 k ∧ Below w17.heap.size w17 wr) (fun i _ => L.length - (intOf i).toNat)
              case atStart => exact ⟨0, by omega, rfl, Below.refl _ _⟩
              case round =>
                obtain ⟨k, hkL, rfl, hbr⟩ := hrel
                by_cases hkl : k < L.length
                · have hkz : (k : Int) < L.length := by omega
                  have hx20 := HL.out k hkl
                  have hw := HM.out k hx hkl
                  obtain ⟨b7, o7, rfl, hB7, hc7⟩ := I7.out (by omega)
                  have d0 : wr.cell? ⟨b7, o7 + k, none⟩ = some (.int .i64 (L.getD k 0)) := (hbr.cell (p := ⟨b7, o7 + k, none⟩) (by show b7 < _; omega)).trans (hc7 k hkl)
                  have I9r := I9.out.below hbr (Nat.le_refl _)
                  have HBR := Lib.hid hbr
                  generalize L.getD k 0 = y at d0 hw
                  clear hc7 hbr
                  go_wp2_with fail
                  refine (withinL_any A9 M.length c9 _ (fun j => M.getD j 0) y _ (by omega) I9r).mono ?_; rintro e w' ⟨rfl, rfl⟩
                  rw [hw]
                  clear I9r d0 hw
                  go_wp2
                  exact ⟨⟨k + 1, by omega, by go_num, HBR.out⟩, by simp [intOf]; omega⟩
                · obtain rfl : k = L.length := by omega
                  have b := b.out.trans (hbr.mono b.out.size)
                  have I6 := I6.out.below hbr hbr.size
                  have hk := hk.out
                  clear hbr I7 I9 HM HL
                  have HK := Lib.hid (Cool.zero hk)
                  have I0 := Lib.hid I6
                  have B0 := Lib.hid b
                  clear I6 b hk
                  go_wp2
                  go_loopw [10, 15] (fun v i wr => ∃ k : Nat, k ≤ 5 ∧ i = .int .i64 k ∧ ∃ A' c' f', v = .slice A' 8 c' ∧ Cool 8 f' k ∧ IntsAt wr wr.heap.size A' 8 f' ∧ Below w.heap.size w wr) (fun _ i _ => 5 - (intOf i).toNat)
                  case atStart => exact ⟨0, by omega, rfl, A6, c6, f6, rfl, HK.out, I0.out, B0.out⟩
                  case round =>
                    obtain ⟨k, hk, rfl, A', c', f', rfl, hC, hI, hb⟩ := hrel
                    clear I0 B0 HK
                    have HC := Lib.hid hC
                    have hok := hC.ok
                    clear hC
                    have HBr := Lib.hid hb
                    clear hb
                    by_cases hk5 : k < 5
                    · have hkz : (k : Int) < 5 := by omega
                      obtain ⟨b0, o0, rfl, _, _⟩ := hI (by omega)
                      go_wp2_with fail
                      refine (implCool_any b0 o0 8 c' _ f' _ (by omega) (Nat.le_refl _) hI).mono ?_; rintro e wc ⟨Ac, cc, he, Oc, hbc⟩
                      obtain rfl : e = .returned (.tuple #[.slice Ac 8 cc, .bool (heatB 8 f')]) := he
                      rw [hok]
                      have IC := Lib.hid Oc.at_
                      have HBc := Lib.hid (HBr.out.trans (hbc.mono HBr.out.size))
                      clear hI hbc Oc HBr
                      go_wp2
                      exact ⟨⟨k + 1, by omega, by go_num, Ac, cc, _, rfl, HC.out.next, IC.out, HBc.out⟩, by simp [intOf]; omega⟩
                    · obtain rfl : k = 5 := by omega
                      have h0 := HC.out.done
                      go_wp2_with fail
                      refine (implHot_ret A' 8 c' _ f' 1 _ (Nat.le_refl _) hI).mono ?_; rintro e wd ⟨Ad, cd, he, _, hbd⟩
                      rw [h0] at he
                      obtain rfl : e = .returned (.slice Ad 0 cd) := he
                      have HBd := Lib.hid (HBr.out.trans (hbd.mono HBr.out.size))
                      clear hI hbd HBr
                      go_wp2
                      go_ret
                      exact ⟨rfl, HBd.out⟩
            · clear I7 HM HL
              have HK := Lib.hid (Cool.zero hk)
              have I0 := Lib.hid I6
              have B0 := Lib.hid b
              clear I6 b hk
              go_wp2
              go_loopw [10, 15] (fun v i wr => ∃ k : Nat, k ≤ 5 ∧ i = .int .i64 k ∧ ∃ A' c' f', v = .slice A' 8 c' ∧ Cool 8 f' k ∧ IntsAt wr wr.heap.size A' 8 f' ∧ Below w.heap.size w wr) (fun _ i _ => 5 - (intOf i).toNat)
              case atStart => exact ⟨0, by omega, rfl, A6, c6, f6, rfl, HK.out, I0.out, B0.out⟩
              case round =>
                obtain ⟨k, hk, rfl, A', c', f', rfl, hC, hI, hb⟩ := hrel
                clear I0 B0 HK
                have HC := Lib.hid hC
                have hok := hC.ok
                clear hC
                have HBr := Lib.hid hb
                clear hb
                by_cases hk5 : k < 5
                · have hkz : (k : Int) < 5 := by omega
                  obtain ⟨b0, o0, rfl, _, _⟩ := hI (by omega)
                  go_wp2_with fail
                  refine (implCool_any b0 o0 8 c' _ f' _ (by omega) (Nat.le_refl _) hI).mono ?_; rintro e wc ⟨Ac, cc, he, Oc, hbc⟩
                  obtain rfl : e = .returned (.tuple #[.slice Ac 8 cc, .bool (heatB 8 f')]) := he
                  rw [hok]
                  have IC := Lib.hid Oc.at_
                  have HBc := Lib.hid (HBr.out.trans (hbc.mono HBr.out.size))
                  clear hI hbc Oc HBr
                  go_wp2
                  exact ⟨⟨k + 1, by omega, by go_num, Ac, cc, _, rfl, HC.out.next, IC.out, HBc.out⟩, by simp [intOf]; omega⟩
                · obtain rfl : k = 5 := by omega
                  have h0 := HC.out.done
                  go_wp2_with fail
                  refine (implHot_ret A' 8 c' _ f' 1 _ (Nat.le_refl _) hI).mono ?_; rintro e wd ⟨Ad, cd, he, _, hbd⟩
                  rw [h0] at he
                  obtain rfl : e = .returned (.slice Ad 0 cd) := he
                  have HBd := Lib.hid (HBr.out.trans (hbd.mono HBr.out.size))
                  clear hI hbd HBr
                  go_wp2
                  go_ret
                  exact ⟨rfl, HBd.out⟩
  · have hbig : decide ((1048576 : Int) < (n : Int)) = true := decide_eq_true (by omega)
    go_enter Try.func3, Try.ntmps3
    go_wp2_with fail
    refine (big_any _ _ _ _).mono ?_; rintro e w' ⟨rfl, rfl⟩
    rw [hbig]
    go_wp2
    go_ret
    exact ⟨rfl, Below.refl _ _⟩
end Go.Proofs.Ytognfnfbmbfidaa
