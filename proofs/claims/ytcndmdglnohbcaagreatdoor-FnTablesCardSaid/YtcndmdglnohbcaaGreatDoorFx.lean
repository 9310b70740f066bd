/- FnTables: a table of three cells through drawn operations; whatever the bytes that they are drawn from. No condition but the error's own. -/
import Derived.Test.YtcndmdglnohbcaaGreatDoorFm
import Derived.Deep.RegionHeld3
import Derived.Deep.RegionLaw
import Derived.Deep.CutRange
import Derived.Deep.CutBlock
import Derived.Deep.DeepCutAuto
namespace Go.Proofs.YtcndmdglnohbcaaGreatDoor
open Go.RowKit

set_option maxHeartbeats 6400000 in
set_option maxRecDepth 100000 in
theorem fnTables_walk (A : Option Addr) (n cp : Nat) (g : Nat → Int) (w : World) (ad : Addr) (hF : Full w ad) (hbs : BytesAt w w.heap.size A n g) :
    Calls Tryz.prog 3 #[.slice A n cp] w fun e w' => e = .returned (.bool true) ∧ Below w.heap.size w w' := by
  by_cases hn : n ≤ 1048576
  · have hbig : decide ((1048576 : Int) < (n : Int)) = false := decide_eq_false (by omega)
    go_enter Tryz.func3, Tryz.ntmps3
    go_wp2_with fail
    refine (big_any _ _ _ _).mono ?_; rintro e w' ⟨rfl, rfl⟩
    rw [hbig]
    go_wp2_with fail
    refine (implNew_any 3 _).mono ?_; rintro e w1 ⟨A0, c0, rfl, o0, b⟩
    rw [newT_three] at o0 ⊢
    have hw1 := b.size
    have T0 : Tbl w1 w1.heap.size A0 (zeros 3) := ⟨_, _, Nat.le_refl _, o0, .inr (Nat.le_refl _), cap_zero o0.at_⟩
    have F0 := fine_zero
    have R0 := Box.new (w := w1) (c := #[.slice A0 (zeros 3).length c0]) (t := 26) rfl
    generalize zeros 3 = Z at T0 F0 R0 ⊢
    have hA := (Below.refl w1.heap.size w1).alloc (Nat.le_refl _) (.cells #[.slice A0 Z.length c0] 26)
    have T0 := T0.next hA
    have b := b.trans (hA.mono b.size)
    have hbs' := hbs.keep (fun j hj => b.block j hj) (Nat.le_refl _)
    have H0 := Lib.hid (And.intro F0 (And.intro R0 (And.intro T0 b)))
    have HBS := Lib.hid hbs
    have HFu := Lib.hid hF
    clear o0 T0 F0 R0 hA b hbs' hbs hbig hF
    go_upto_block 0 with fail
    generalize w1.alloc (.cells #[.slice A0 Z.length c0] 26) = w1' at H0 ⊢
    go_cut [] from 5 to 138 (fun wx => ∃ (k : Nat) (T : TL) (A' : Option Addr) (c' : Nat), Fine T k ∧ Box wx w1.heap.size [.slice A' T.length c'] ∧ Tbl wx w1.heap.size A' T ∧ Below w.heap.size w wx)
    case first =>
      go_wp2_with fail
      go_loopw [5] (fun i wr => ∃ k : Nat, k ≤ 60 ∧ k ≤ n ∧ i = .int .i64 k ∧ ∃ (T : TL) (A' : Option Addr) (c' : Nat), Fine T k ∧ Box wr w1.heap.size [.slice A' T.length c'] ∧ Tbl wr w1.heap.size A' T ∧ Below w.heap.size w wr) (fun i _ => 60 - (intOf i).toNat)
      case atStart => exact ⟨0, by omega, by omega, rfl, Z, A0, c0, H0.out.1, H0.out.2.1, H0.out.2.2.1, H0.out.2.2.2⟩
      case round =>
        obtain ⟨k, hk60, hkn, rfl, T, A', c', hFi, R, htb, b⟩ := hrel
        clear H0
        by_cases hgo : k < n ∧ k < 60
        · obtain ⟨h1, h2⟩ := hgo
          have h1z : (k : Int) < n := by omega
          have h2z : (k : Int) < 60 := by omega
          have HFi := Lib.hid hFi
          have hne : (((T.length : Int)) != 3) = false := by rw [hFi.len]; rfl
          obtain ⟨bt, ot, rfl⟩ := htb.some_ (by rw [hFi.len]; omega)
          clear hFi
          obtain ⟨r0, rf⟩ := R.c1
          go_wp2_with fail
          refine (at_any A n cp w.heap.size g k _ hn (by omega) (HBS.out.keep (fun j hj => b.block j hj) (Nat.le_refl _))).mono ?_; rintro e w2 ⟨x, x0, x1, rfl, rfl⟩
          clear hne
          go_upto_region 12 with (fail)
          have hx3 : ∃ kk : Nat, x / 4 % 3 = (kk : Int) ∧ kk < 3 := ⟨(x / 4 % 3).toNat, by omega, by omega⟩
          obtain ⟨kk, ekk, hkk⟩ := hx3
          rw [ekk]
          clear ekk
          have ht5 : 1 ≤ 1 + x / 16 % 5 ∧ 1 + x / 16 % 5 ≤ 5 := by omega
          generalize 1 + x / 16 % 5 = tid at ht5 ⊢
          have hr4 : x % 4 = 0 ∨ x % 4 = 1 ∨ x % 4 = 2 ∨ x % 4 = 3 := by omega
          have hkey := keyI_of (x := (kk : Int)) (by omega) (by omega)
          rcases hr4 with hr | hr | hr | hr
          · go_wp2_with fail
            refine (implLockCellC_any _ _ _ _ T kk tid _ _ hkey HFi.out.fit (Nat.le_refl _) htb.at_).mono ?_; rintro e w3 ⟨A9, c9, rfl, o9, hb, x9⟩
            have Rl := R.lt
            have T9 := Tbl.of o9 x9 (show w1.heap.size < wr.heap.size from Rl)
            have R := R.next hb
            have b := b.trans (hb.mono b.size)
            have HF := Lib.hid (HFi.out.lockT hkk tid (x / 128 == 1))
            clear hb o9 x9 htb
            generalize lcT T kk tid (x / 128 == 1) = T' at T9 HF ⊢
            obtain ⟨r0, rf⟩ := R.c1
            have Rl := R.lt
            have HR := Lib.hid (R.set (j := 0) (.slice A9 T'.length c9) (by simp))
            have HT9 := Lib.hid (T9.put (.slice A9 T'.length c9))
            have HB := Lib.hid (b.setCell (p := ⟨w1.heap.size, 0, none⟩) hw1 (.slice A9 T'.length c9))
            clear R T9 b HFi
            go_wp2
            exact ⟨⟨k + 1, by omega, by omega, by go_num, T', A9, c9, HF.out, HR.out, HT9.out, HB.out⟩, by simp [intOf]; omega⟩
          · go_wp2_with fail
            refine (implTryCellC_any _ _ _ _ T kk tid _ _ hkey HFi.out.fit (Nat.le_refl _) htb.at_).mono ?_; rintro e w3 ⟨A9, c9, rfl, o9, hb, x9⟩
            have Rl := R.lt
            have T9 := Tbl.of o9 x9 (show w1.heap.size < wr.heap.size from Rl)
            have R := R.next hb
            have b := b.trans (hb.mono b.size)
            have HF := Lib.hid (HFi.out.tryT hkk tid true)
            clear hb o9 x9 htb
            generalize tcT T kk tid true = T' at T9 HF ⊢
            obtain ⟨r0, rf⟩ := R.c1
            have Rl := R.lt
            have HR := Lib.hid (R.set (j := 0) (.slice A9 T'.length c9) (by simp))
            have HT9 := Lib.hid (T9.put (.slice A9 T'.length c9))
            have HB := Lib.hid (b.setCell (p := ⟨w1.heap.size, 0, none⟩) hw1 (.slice A9 T'.length c9))
            clear R T9 b HFi
            go_wp2
            exact ⟨⟨k + 1, by omega, by omega, by go_num, T', A9, c9, HF.out, HR.out, HT9.out, HB.out⟩, by simp [intOf]; omega⟩
          · go_wp2_with fail
            refine (implLeaveCellC_any _ _ _ _ T kk tid _ hkey HFi.out.fit (Nat.le_refl _) htb.at_ htb.cap).mono ?_; rintro e w3 ⟨A9, c9, rfl, o9, hb, x9⟩
            have Rl := R.lt
            have T9 := Tbl.of o9 x9 (show w1.heap.size < wr.heap.size from Rl)
            have R := R.next hb
            have b := b.trans (hb.mono b.size)
            have HF := Lib.hid (HFi.out.leaveT hkk tid)
            clear hb o9 x9 htb
            generalize vcT T kk tid = T' at T9 HF ⊢
            obtain ⟨r0, rf⟩ := R.c1
            have Rl := R.lt
            have HR := Lib.hid (R.set (j := 0) (.slice A9 T'.length c9) (by simp))
            have HT9 := Lib.hid (T9.put (.slice A9 T'.length c9))
            have HB := Lib.hid (b.setCell (p := ⟨w1.heap.size, 0, none⟩) hw1 (.slice A9 T'.length c9))
            clear R T9 b HFi
            go_wp2
            exact ⟨⟨k + 1, by omega, by omega, by go_num, T', A9, c9, HF.out, HR.out, HT9.out, HB.out⟩, by simp [intOf]; omega⟩
          · go_wp2_with fail
            refine (implSetCell_any _ _ _ _ T kk tid x 0 ad _ hkey (HFu.out.below b) HFi.out.fit (Nat.le_refl _) htb.at_).mono ?_; rintro e w3 ⟨A9, c9, rfl, o9, hb, x9⟩
            have Rl := R.lt
            have T9 := Tbl.of o9 x9 (show w1.heap.size < wr.heap.size from Rl)
            have R := R.next hb
            have htb := htb.next hb
            have b := b.trans (hb.mono b.size)
            have hkT : kk < T.length := HFi.out.lt hkk
            have hl8 := HFi.out.fit.at_ hkT
            have HQ := Lib.hid (HFi.out.setB hkk (by omega) tid ⟨x0, x1⟩)
            have HS := Lib.hid (fun h => (HFi.out.setT hkk (by omega) tid ⟨x0, x1⟩ h).2)
            have HFU := Lib.hid (HFi.out.setF hkk (by omega) tid ⟨x0, x1⟩)
            have hkz : (kk : Int) < T.length := by omega
            clear o9 x9 Rl hb r0 rf HFi
            generalize scT T kk tid x 0 = U at T9 HS HFU ⊢
            generalize scB T kk tid x 0 = ok at HQ HS ⊢
            have hA := (Below.refl w3.heap.size w3).alloc (Nat.le_refl _) (.cells #[.slice A9 U.length c9] 26)
            have V := Box.new (w := w3) (c := #[.slice A9 U.length c9]) (t := 26) rfl
            have R := R.next hA
            have htb := htb.next hA
            have T9 := T9.next hA
            have b := b.trans (hA.mono b.size)
            clear hA
            go_upto_region 21 with (fail)
            generalize w3.alloc (.cells #[.slice A9 U.length c9] 26) = w4 at R htb T9 b V ⊢
            obtain ⟨q, hqB, hc, hl⟩ := htb.at_.lockAt hkT
            obtain ⟨a0, a1, a2, a3, a4, a5⟩ := hc.and6
            obtain ⟨r0, rf⟩ := R.c1
            clear hc
            go_wp2_with fail
            refine (implHolds_any _ _ _ _ _ (cd T kk).hs (cd T kk).ws tid _ hl8.1 hl8.2 hl).mono ?_; rintro o w5 ⟨rfl, hb⟩
            have R := R.next hb
            have T9 := T9.next hb
            have V := V.next hb
            have b := b.trans (hb.mono b.size)
            clear a0 a1 a2 a3 a4 a5 r0 rf hb hl htb hl8 hqB
            generalize holdsL (cd T kk).hs (cd T kk).ws tid = z at HQ ⊢
            obtain ⟨v0, vf⟩ := V.c1
            by_cases hz : z = 2
            · obtain rfl : ok = true := by rw [HQ.out, hz]; rfl
              subst hz
              go_wp2_with fail
              refine (implRead_any A9 c9 _ U kk _ hkey HFU.out.fit (Nat.le_refl _) T9.at_).mono ?_; rintro o w6 ⟨rfl, hb⟩
              rw [HFU.out.read hkk]
              have R := R.next hb
              have T9 := T9.next hb
              have V := V.next hb
              have b := b.trans (hb.mono b.size)
              clear hb v0 vf
              have HK := Lib.hid (HS.out (by trivial))
              rw [HK.out.val, HK.out.word.1, HK.out.word.2.1, HK.out.word.2.2]
              have HK1 := HK.out.stale
              have HK2 := HK.out.other
              generalize (cd T kk).s + 1 = s' at HK1 HK2 ⊢
              have HK1 := Lib.hid HK1
              have HK2 := Lib.hid HK2
              have hA := (Below.refl w6.heap.size w6).alloc (Nat.le_refl _) (.cells #[.int .i64 0, .int .i64 s', .bool true] 37)
              have Y := Box.new (w := w6) (c := #[.int .i64 0, .int .i64 s', .bool true]) (t := 37) rfl
              have R := R.next hA
              have T9 := T9.next hA
              have V := V.next hA
              have b := b.trans (hA.mono b.size)
              clear hA
              go_upto_region 24 with (fail)
              generalize w6.alloc (.cells #[.int .i64 0, .int .i64 s', .bool true] 37) = w7 at R T9 V b Y ⊢
              obtain ⟨y0, y1, y2, yf⟩ := Y.c3
              obtain ⟨v0, vf⟩ := V.c1
              go_wp2_with fail
              refine (implStale_any A9 c9 _ U kk tid 0 s' true _ hkey HFU.out.fit (Nat.le_refl _) T9.at_).mono ?_; rintro o w8 ⟨rfl, hb⟩
              rw [HK1.out]
              have R := R.next hb
              have T9 := T9.next hb
              have V := V.next hb
              have Y := Y.next hb
              have b := b.trans (hb.mono b.size)
              clear y0 y1 y2 yf v0 vf hb
              obtain ⟨y0, y1, y2, yf⟩ := Y.c3
              obtain ⟨v0, vf⟩ := V.c1
              go_wp2_with fail
              refine (implStale_any A9 c9 _ U kk (tid + 1) 0 s' true _ hkey HFU.out.fit (Nat.le_refl _) T9.at_).mono ?_; rintro o w9 ⟨rfl, hb⟩
              rw [HK2.out]
              have R := R.next hb
              have T9 := T9.next hb
              have V := V.next hb
              have b := b.trans (hb.mono b.size)
              clear y0 y1 y2 yf v0 vf hb Y
              obtain ⟨v0, vf⟩ := V.c1
              obtain ⟨r0, rf⟩ := R.c1
              have Rl := R.lt
              have Vl := V.lt
              have HR := Lib.hid (R.set (j := 0) (.slice A9 U.length c9) (by simp))
              have HT9 := Lib.hid (T9.put (.slice A9 U.length c9))
              have HB := Lib.hid (b.setCell (p := ⟨w1.heap.size, 0, none⟩) hw1 (.slice A9 U.length c9))
              clear R T9 b V
              go_wp2
              exact ⟨⟨k + 1, by omega, by omega, by go_num, U, A9, c9, HFU.out, HR.out, HT9.out, HB.out⟩, by simp [intOf]; omega⟩
            · obtain rfl : ok = false := by rw [HQ.out]; exact decide_eq_false hz
              have hz1 : (z == 2) = false := by rw [beq_eq_false_iff_ne]; exact hz
              have hz2 : ¬ z = 2 := hz
              go_wp2_with fail
              refine (implRead_any A9 c9 _ U kk _ hkey HFU.out.fit (Nat.le_refl _) T9.at_).mono ?_; rintro o w6 ⟨rfl, hb⟩
              rw [HFU.out.read hkk]
              have R := R.next hb
              have T9 := T9.next hb
              have V := V.next hb
              have b := b.trans (hb.mono b.size)
              clear hb v0 vf
              generalize (cd U kk).v = vv
              generalize (cd U kk).e = ve
              generalize (cd U kk).s = vs
              generalize (cd U kk).h = vh
              have hA := (Below.refl w6.heap.size w6).alloc (Nat.le_refl _) (.cells #[.int .i64 ve, .int .i64 vs, .bool vh] 37)
              have Y := Box.new (w := w6) (c := #[.int .i64 ve, .int .i64 vs, .bool vh]) (t := 37) rfl
              have R := R.next hA
              have T9 := T9.next hA
              have V := V.next hA
              have b := b.trans (hA.mono b.size)
              clear hA
              go_upto_region 24 with (fail)
              generalize w6.alloc (.cells #[.int .i64 ve, .int .i64 vs, .bool vh] 37) = w7 at R T9 V b Y ⊢
              obtain ⟨v0, vf⟩ := V.c1
              obtain ⟨r0, rf⟩ := R.c1
              have Rl := R.lt
              have Vl := V.lt
              have HR := Lib.hid (R.set (j := 0) (.slice A9 U.length c9) (by simp))
              have HT9 := Lib.hid (T9.put (.slice A9 U.length c9))
              have HB := Lib.hid (b.setCell (p := ⟨w1.heap.size, 0, none⟩) hw1 (.slice A9 U.length c9))
              clear R T9 b V
              go_wp2
              exact ⟨⟨k + 1, by omega, by omega, by go_num, U, A9, c9, HFU.out, HR.out, HT9.out, HB.out⟩, by simp [intOf]; omega⟩
        · have hor : ¬ (k : Int) < n ∨ ((k : Int) < n ∧ ¬ (k : Int) < 60) := by omega
          have HX := Lib.hid (show ∃ (k : Nat) (T : TL) (A' : Option Addr) (c' : Nat), Fine T k ∧ Box wr w1.heap.size [.slice A' T.length c'] ∧ Tbl wr w1.heap.size A' T ∧ Below w.heap.size w wr from ⟨k, T, A', c', hFi, R, htb, b⟩)
          clear hgo hFi R htb b
          rcases hor with h1z | ⟨h1z, h2z⟩
          all_goals (go_wp2_with fail; go_meet; exact HX.out)
    case rest =>
      obtain ⟨k, T, A', c', hFi, R, htb, b⟩ := hcut
      have HFi := Lib.hid hFi
      obtain ⟨bt, ot, rfl⟩ := htb.some_ (by rw [hFi.len]; omega)
      have hfit := hFi.fit
      clear hFi
      obtain ⟨r0, rf⟩ := R.c1
      clear HBS HFu T0
      go_wp2_with fail
      refine (implTabOk_any _ _ _ T _ hfit (Nat.le_refl _) htb.at_).mono ?_; rintro e w2 ⟨rfl, hb⟩
      rw [HFi.out.ok]
      have R := R.next hb
      have htb := htb.next hb
      have b := b.trans (hb.mono b.size)
      clear hb r0 rf
      obtain ⟨r0, rf⟩ := R.c1
      go_wp2_with fail
      refine (specTabOk_any _ _ _ T _ hfit (Nat.le_refl _) htb.at_).mono ?_; rintro e w3 ⟨rfl, hb⟩
      rw [HFi.out.ok]
      have R := R.next hb
      have htb := htb.next hb
      have b := b.trans (hb.mono b.size)
      clear hb r0 rf
      obtain ⟨r0, rf⟩ := R.c1
      go_wp2_with fail
      refine (implVals_any _ _ _ T _ hfit (Nat.le_refl _) htb.at_).mono ?_; rintro e w4 ⟨A5, c5, rfl, _, hb⟩
      have hv3 : ((((vals T).length : Nat) : Int) != 3) = false := by rw [vals_all HFi.out.ok, HFi.out.len]; rfl
      have R := R.next hb
      have htb := htb.next hb
      have b := b.trans (hb.mono b.size)
      clear hb r0 rf
      have HR := Lib.hid R
      have HT := Lib.hid htb
      have HB := Lib.hid b
      clear R htb b
      go_wp2_with fail
      clear hv3
      go_loopw [14] (fun i wr => ∃ t : Nat, 1 ≤ t ∧ t ≤ 6 ∧ i = .int .i64 t ∧ Below w4.heap.size w4 wr) (fun i _ => 6 - (intOf i).toNat)
      case atStart => exact ⟨1, by omega, by omega, rfl, Below.refl _ _⟩
      case round =>
        obtain ⟨t, ht1, ht6, rfl, bb⟩ := hrel
        by_cases ht : t ≤ 5
        · have htz : (t : Int) ≤ 5 := by omega
          have HB2 := Lib.hid bb.drew
          obtain ⟨r0, rf⟩ := (HR.out.next bb).c1
          have hm8 : (heldL T t).length ≤ maxLen := by have := heldL_len T t; unfold maxLen; omega
          clear bb
          go_upto_region 32 with (fail)
          clear r0 rf
          go_cut [173] from 157 to 173 (fun s wx => s = .bool false ∧ Below w4.heap.size w4 wx)
          case first =>
            have BB := HB2
            obtain ⟨r0, rf⟩ := (HR.out.next BB.out).c1
            go_region_law (first | (go_simp; go_at_call 18; refine (implHeld_any _ _ w4.heap.size T t _ hfit BB.out.size (HT.out.at_.keep BB.out (Nat.le_refl _))).mono ?_; rintro o wa ⟨Ai, ci, rfl, oi, hb⟩; have Ii := Lib.hid oi.at_; (try have Is := Lib.hid (Is.out.below hb hb.size)); clear oi; have BB := Lib.hid (BB.out.trans (hb.mono BB.out.size)); obtain ⟨r0, rf⟩ := (HR.out.next BB.out).c1; clear hb) | (go_simp; go_at_call 19; refine (specHeld_any _ _ w4.heap.size T t _ hfit BB.out.size (HT.out.at_.keep BB.out (Nat.le_refl _))).mono ?_; rintro o wb ⟨As, cs, rfl, os, hb⟩; have Is := Lib.hid os.at_; (try have Ii := Lib.hid (Ii.out.below hb hb.size)); clear os; have BB := Lib.hid (BB.out.trans (hb.mono BB.out.size)); obtain ⟨r0, rf⟩ := (HR.out.next BB.out).c1; clear hb) | (go_simp; go_at_call 17; refine (same_eq _ _ _ _ _ _ _ _ _ hm8 Ii.out Is.out).mono ?_; rintro o wc ⟨rfl, hb⟩; have BB := Lib.hid (BB.out.trans (hb.mono BB.out.size)); obtain ⟨r0, rf⟩ := (HR.out.next BB.out).c1; clear hb) | (go_simp; go_at_call 20; refine (implWaits_any _ _ w4.heap.size T t _ hfit BB.out.size (HT.out.at_.keep BB.out (Nat.le_refl _))).mono ?_; rintro o wd ⟨rfl, hb⟩; have BB := Lib.hid (BB.out.trans (hb.mono BB.out.size)); obtain ⟨r0, rf⟩ := (HR.out.next BB.out).c1; clear hb) | (go_simp; go_at_call 21; refine (specWaits_any _ _ w4.heap.size T t _ hfit BB.out.size (HT.out.at_.keep BB.out (Nat.le_refl _))).mono ?_; rintro o we ⟨rfl, hb⟩; have BB := Lib.hid (BB.out.trans (hb.mono BB.out.size)); obtain ⟨r0, rf⟩ := (HR.out.next BB.out).c1; clear hb))
            all_goals (go_wp2_with fail; go_meet; exact ⟨rfl, BB.out⟩)
          case rest =>
            clear HB2
            obtain ⟨rfl, bb⟩ := hcut
            have BB := Lib.hid bb
            have R2 := HR.out.next bb
            have T2 := HT.out.next bb
            clear bb
            obtain ⟨r0, rf⟩ := R2.c1
            go_wp2_with fail
            refine (implLeaveAll_any _ _ _ _ T t _ hfit (Nat.le_refl _) T2.at_).mono ?_; rintro o w5 ⟨A7, c7, rfl, o7, hb, _⟩
            have HLB := Lib.hid (laB_is (tid := t) HFi.out.ok)
            have hok7 := laR_ok (tid := t) HFi.out.ok
            have hh7 := Lib.hid (laR_held (tid := t) HFi.out.ok)
            have hw7 := Lib.hid (laR_waits (tid := t) HFi.out.ok)
            have hfit7 := tab_fit hok7
            have hok7 := Lib.hid hok7
            generalize laR T t = U at o7 hok7 hh7 hw7 hfit7 ⊢
            generalize laB T t = lb at HLB ⊢
            have a7 := o7.at_
            have hA := (Below.refl w5.heap.size w5).alloc (Nat.le_refl _) (.cells #[.slice A7 U.length c7] 26)
            have V := Box.new (w := w5) (c := #[.slice A7 U.length c7]) (t := 26) rfl
            have R2 := (R2.next hb).next hA
            have T2 := (T2.next hb).next hA
            have a7 := a7.below hA hA.size
            have BB := Lib.hid ((BB.out.trans (hb.mono BB.out.size)).trans (hA.mono (Nat.le_trans BB.out.size hb.size)))
            clear hb hA o7 r0 rf
            go_upto_region 35 with (fail)
            generalize w5.alloc (.cells #[.slice A7 U.length c7] 26) = w6 at R2 T2 a7 V BB ⊢
            obtain ⟨r0, rf⟩ := R2.c1
            go_wp2_with fail
            refine (implHeld_any _ _ _ T t _ hfit (Nat.le_refl _) T2.at_).mono ?_; rintro o w7 ⟨Ah, ch, rfl, _, hb⟩
            have T2 := T2.next hb
            have R2 := R2.next hb
            have a7 := a7.below hb hb.size
            have V := V.next hb
            have BB := Lib.hid (BB.out.trans (hb.mono BB.out.size))
            clear hb
            clear r0 rf
            generalize (heldL T t).length = m at HLB ⊢
            by_cases hh : 0 < (m : Int)
            · obtain rfl : lb = true := by rw [HLB.out]; simp only [decide_eq_true hh, Bool.true_or]
              clear T2
              obtain ⟨v0, vf⟩ := V.c1
              go_wp2_with fail
              refine (implHeld_any _ _ _ U t _ hfit7 (Nat.le_refl _) a7).mono ?_; rintro o w8 ⟨Au, cu, rfl, _, hb⟩
              rw [hh7.out]
              have R2 := R2.next hb
              have a7 := a7.below hb hb.size
              have V := V.next hb
              have BB := Lib.hid (BB.out.trans (hb.mono BB.out.size))
              clear hb
              clear v0 vf
              obtain ⟨v0, vf⟩ := V.c1
              go_wp2_with fail
              refine (implWaits_any _ _ _ U t _ hfit7 (Nat.le_refl _) a7).mono ?_; rintro o w9 ⟨rfl, hb⟩
              rw [hw7.out]
              have R2 := R2.next hb
              have a7 := a7.below hb hb.size
              have V := V.next hb
              have BB := Lib.hid (BB.out.trans (hb.mono BB.out.size))
              clear hb
              clear v0 vf
              obtain ⟨v0, vf⟩ := V.c1
              go_wp2_with fail
              refine (specTabOk_any _ _ _ U _ hfit7 (Nat.le_refl _) a7).mono ?_; rintro o w10 ⟨rfl, hb⟩
              rw [hok7.out]
              have R2 := R2.next hb
              have a7 := a7.below hb hb.size
              have V := V.next hb
              have BB := Lib.hid (BB.out.trans (hb.mono BB.out.size))
              clear hb
              clear v0 vf R2 a7 V
              go_wp2
              exact ⟨⟨t + 1, by omega, by omega, by go_num, BB.out⟩, by simp [intOf]; omega⟩
            · by_cases hw : 0 ≤ waitK T t
              · obtain rfl : lb = true := by rw [HLB.out]; simp only [decide_eq_true hw, Bool.or_true]
                obtain ⟨r0, rf⟩ := R2.c1
                go_wp2_with fail
                refine (implWaits_any _ _ _ T t _ hfit (Nat.le_refl _) T2.at_).mono ?_; rintro o wq ⟨rfl, hb⟩
                have R2 := R2.next hb
                have a7 := a7.below hb hb.size
                have V := V.next hb
                have BB := Lib.hid (BB.out.trans (hb.mono BB.out.size))
                clear hb
                clear r0 rf T2
                obtain ⟨v0, vf⟩ := V.c1
                go_wp2_with fail
                refine (implHeld_any _ _ _ U t _ hfit7 (Nat.le_refl _) a7).mono ?_; rintro o w8 ⟨Au, cu, rfl, _, hb⟩
                rw [hh7.out]
                have R2 := R2.next hb
                have a7 := a7.below hb hb.size
                have V := V.next hb
                have BB := Lib.hid (BB.out.trans (hb.mono BB.out.size))
                clear hb
                clear v0 vf
                obtain ⟨v0, vf⟩ := V.c1
                go_wp2_with fail
                refine (implWaits_any _ _ _ U t _ hfit7 (Nat.le_refl _) a7).mono ?_; rintro o w9 ⟨rfl, hb⟩
                rw [hw7.out]
                have R2 := R2.next hb
                have a7 := a7.below hb hb.size
                have V := V.next hb
                have BB := Lib.hid (BB.out.trans (hb.mono BB.out.size))
                clear hb
                clear v0 vf
                obtain ⟨v0, vf⟩ := V.c1
                go_wp2_with fail
                refine (specTabOk_any _ _ _ U _ hfit7 (Nat.le_refl _) a7).mono ?_; rintro o w10 ⟨rfl, hb⟩
                rw [hok7.out]
                have R2 := R2.next hb
                have a7 := a7.below hb hb.size
                have V := V.next hb
                have BB := Lib.hid (BB.out.trans (hb.mono BB.out.size))
                clear hb
                clear v0 vf R2 a7 V
                go_wp2
                exact ⟨⟨t + 1, by omega, by omega, by go_num, BB.out⟩, by simp [intOf]; omega⟩
              · obtain rfl : lb = false := by rw [HLB.out]; simp only [decide_eq_false hw, decide_eq_false hh, Bool.or_false]
                obtain ⟨r0, rf⟩ := R2.c1
                go_wp2_with fail
                refine (implWaits_any _ _ _ T t _ hfit (Nat.le_refl _) T2.at_).mono ?_; rintro o wq ⟨rfl, hb⟩
                have R2 := R2.next hb
                have a7 := a7.below hb hb.size
                have V := V.next hb
                have BB := Lib.hid (BB.out.trans (hb.mono BB.out.size))
                clear hb
                clear r0 rf T2
                obtain ⟨v0, vf⟩ := V.c1
                go_wp2_with fail
                refine (implHeld_any _ _ _ U t _ hfit7 (Nat.le_refl _) a7).mono ?_; rintro o w8 ⟨Au, cu, rfl, _, hb⟩
                rw [hh7.out]
                have R2 := R2.next hb
                have a7 := a7.below hb hb.size
                have V := V.next hb
                have BB := Lib.hid (BB.out.trans (hb.mono BB.out.size))
                clear hb
                clear v0 vf
                obtain ⟨v0, vf⟩ := V.c1
                go_wp2_with fail
                refine (implWaits_any _ _ _ U t _ hfit7 (Nat.le_refl _) a7).mono ?_; rintro o w9 ⟨rfl, hb⟩
                rw [hw7.out]
                have R2 := R2.next hb
                have a7 := a7.below hb hb.size
                have V := V.next hb
                have BB := Lib.hid (BB.out.trans (hb.mono BB.out.size))
                clear hb
                clear v0 vf
                obtain ⟨v0, vf⟩ := V.c1
                go_wp2_with fail
                refine (specTabOk_any _ _ _ U _ hfit7 (Nat.le_refl _) a7).mono ?_; rintro o w10 ⟨rfl, hb⟩
                rw [hok7.out]
                have R2 := R2.next hb
                have a7 := a7.below hb hb.size
                have V := V.next hb
                have BB := Lib.hid (BB.out.trans (hb.mono BB.out.size))
                clear hb
                clear v0 vf R2 a7 V
                go_wp2
                exact ⟨⟨t + 1, by omega, by omega, by go_num, BB.out⟩, by simp [intOf]; omega⟩
        · have htz : ¬ (t : Int) ≤ 5 := by omega
          have b := HB.out.trans (bb.mono HB.out.size)
          clear bb
          go_wp2
          go_ret
          exact ⟨rfl, b⟩
  · have hbig : decide ((1048576 : Int) < (n : Int)) = true := decide_eq_true (by omega)
    go_enter Tryz.func3, Tryz.ntmps3
    go_wp2_with fail
    refine (big_any _ _ _ _).mono ?_; rintro e w' ⟨rfl, rfl⟩
    rw [hbig]
    go_wp2
    go_ret
    exact ⟨rfl, Below.refl _ _⟩
end Go.Proofs.YtcndmdglnohbcaaGreatDoor
