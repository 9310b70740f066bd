/- The law FnReadsMatter walked. -/
import Derived.Test.YtpjejmgdfeanjaaMatP
namespace Go.Proofs.Ytpjejmgdfeanjaa
open Go.RowKit

/-- so far the values are in range, and as before where they are read -/
def Good (m : Nat) (f v : Nat → Int) (xs : List Int) (k : Nat) : Prop := ∀ j, j < k → -1000000 ≤ xs.getD j 0 ∧ xs.getD j 0 ≤ 1000000 ∧ (wth (readsOut m f).length (fun j => (readsOut m f).getD j 0) (j : Int) = true → xs.getD j 0 = v j)
theorem Good.more {m k : Nat} {f v : Nat → Int} {xs : List Int} (h : Good m f v xs k) (hl : xs.length = k) {x : Int} (h0 : -1000000 ≤ x) (h1 : x ≤ 1000000) (h2 : wth (readsOut m f).length (fun j => (readsOut m f).getD j 0) (k : Int) = true → x = v k) : Good m f v (xs ++ [x]) (k + 1) := fun j hj => by
  by_cases e : j = k
  · subst e
    have : (xs ++ [x]).getD j 0 = x := by simp [List.getD_eq_getElem?_getD, ← hl]
    rw [this]
    exact ⟨h0, h1, h2⟩
  · have : (xs ++ [x]).getD j 0 = xs.getD j 0 := by simp [List.getD_eq_getElem?_getD, List.getElem?_append_left (show j < xs.length by omega)]
    rw [this]
    exact h j (by omega)
theorem vals_get {L n : Nat} {v f : Nat → Int} (h : runOk L v n f = true) {j : Nat} (hj : j < L) : -1000000 ≤ v j ∧ v j ≤ 1000000 := by
  have := (runOk_parts h).2.1
  simp only [valsOk, List.all_eq_true, List.mem_range, inB, Bool.and_eq_true, decide_eq_true_eq] at this
  exact this j hj

set_option maxHeartbeats 3200000 in
set_option maxRecDepth 100000 in
theorem readsMatter_walk (A : Option Addr) (n cp : Nat) (g : Nat → Int) (w : World) (hbs : BytesAt w w.heap.size A n g) :
    Calls Try.prog 3 #[.slice A n cp] w fun e w' => e = .returned (.bool true) ∧ Below w.heap.size w w' := by
  obtain ⟨ii, hi, hz0, hz1, hz2⟩ := info_parts infoIntD
  have Hi := Lib.hid hi
  have Hz0 := Lib.hid hz0
  have Hz1 := Lib.hid hz1
  have Hz2 := Lib.hid hz2
  clear hi hz0 hz1 hz2
  by_cases hn : n ≤ 1048576
  · have hnb : decide ((1048576 : Int) < n) = false := by simp; omega
    have HNB := Lib.hid hnb
    clear hnb
    go_enter Try.func3, Try.ntmps3
    go_wp2_with fail
    refine (big_any A n cp w).mono ?_; rintro e w' ⟨rfl, rfl⟩
    rw [HNB.out]
    go_wp2_with fail
    refine (DrawRunSerial_any n cp A g _ hn hbs).mono ?_; rintro e w1 ⟨v1, L, v2, m, hL9, hm8, rfl, ho1, ho2, hb1⟩
    obtain ⟨A1, c1, v, rfl, i1⟩ := ho1.ints
    obtain ⟨A2, c2, f, rfl, i2⟩ := ho2.acts
    have hs1 := hb1.size
    clear ho1 ho2
    go_wp2_with fail
    refine (specRun_any A1 A2 L m c1 c2 v f _ (by omega) i1 i2).mono ?_; rintro e w2 ⟨B0, d0, B1, d1, m0, rfl, hm1, hm2, o0, o1, hb2⟩
    clear o0 o1 hm1 hm2 m0
    have b2 := hb1.trans (hb2.mono hs1)
    have hs2 := hb2.size
    have i1 := i1.keep hb2 (Nat.le_refl _)
    have i2 := i2.keep hb2 (Nat.le_refl _)
    cases hok : runOk L v m f with
    | false =>
      go_wp2
      go_ret
      exact ⟨rfl, b2⟩
    | true =>
      have HOK := Lib.hid hok
      clear hok
      go_wp2_with fail
      refine (implReadsOf_any A2 m c2 f _ (i2.up hs2)).mono ?_; rintro e w3 ⟨vr, rfl, ho3, hb3⟩
      obtain ⟨A3, c3, rfl, _, o3⟩ := OwnI.of_owns ho3
      have i3 := o3.at_
      clear ho3 o3
      have b3 := b2.trans (hb3.mono b2.size)
      have hs3 := hb3.size
      have i1 := i1.keep hb3 hs2
      have i2 := i2.keep hb3 hs2
      have hL := (runOk_parts HOK.out).1
      obtain ⟨hL1, hL8⟩ := hL
      obtain ⟨b1, off1, rfl, hB1, hc1⟩ := i1 (by omega)
      have HC1 := Lib.hid hc1
      have hR8 := readsOut_le m f
      have hrow0 := World.ownsRow_made (base := w3.heap.size) (size := 1) (e := 3) w3 #[] 0 (Nat.le_refl _) (Nat.zero_le _) rfl
      have HR0 := Lib.hid hrow0
      clear hrow0 hc1 i1
      go_wp2
      go_loopw [9, 10] (fun u x wr => ∃ (k : Nat) (xs : List Int), k ≤ L ∧ x = .int .i64 (k : Int) ∧ xs.length = k ∧ wr.ownsRow w3.heap.size 3 1 u k (xs.map (.int .i64)) ∧ Below w3.heap.size w3 wr ∧ Good m f v xs k) (fun _ x _ => (9 - intOf x).toNat)
      case atStart => exact ⟨0, [], by omega, rfl, rfl, HR0.out, (Below.refl _ _).alloc (Nat.le_refl _) _, fun j hj => absurd hj (by omega)⟩
      case round =>
        obtain ⟨k, xs, hk, rfl, hxl, hrow, hbr, hg⟩ := hrel
        have hsr := hbr.size
        have HBr := Lib.hid hbr
        have HG := Lib.hid hg
        by_cases hkL : k < L
        · have hkz : (k : Int) < L := by omega
          have i3r := i3.keep hbr (Nat.le_refl _)
          have hbsr := hbs.keep (b3.trans (hbr.mono b3.size)).block (Nat.le_refl _)
          have d0 : wr.cell? ⟨b1, off1 + k, none⟩ = some (.int .i64 (v k)) := (hbr.cell (p := ⟨b1, off1 + k, none⟩) (by show b1 < w3.heap.size; omega)).trans (HC1.out k hkL)
          have hvk := vals_get HOK.out hkL
          obtain ⟨hvk0, hvk1⟩ := hvk
          have D0 := Lib.hid d0
          clear hbr hg d0
          go_wp2_with fail
          refine (within_any A3 _ c3 _ _ _ _ (by omega) i3r).mono ?_; rintro e w' ⟨rfl, rfl⟩
          cases hw : wth (readsOut m f).length (fun j => (readsOut m f).getD j 0) (k : Int) with
          | true =>
            have HG9 := Lib.hid (HG.out.more hxl hvk0 hvk1 (fun _ => rfl))
            have d0 := D0.out
            clear hw i3r hbsr
            go_wp2_with (at_builtin; refine wpList_append_own _ rfl _ _ 24 rfl w3.heap.size 3 ii (.int .i64 0) 1 8 Try.underlying24 Hi.out Hz0.out Hz1.out Hz2.out rfl (by decide) _ _ _ rfl (hrow.alloc _) ⟨wr.heap.size, 0, none⟩ 1 1 [.int .i64 (v k)] rfl rfl ?c1 ?c2 ?c3 ?c4 ?c5 ?_)
            case c1 =>
              intro j u hj
              match j, hj with
              | 0, hj => simp at hj; subst hj; simp [Addr.add]
            case c2 => intro u hu; simp at hu; subst hu; rfl
            case c3 => unfold maxLen; omega
            case c4 => omega
            case c5 => simp; omega
            intro v' w9 hown' hgrow _
            have hb9 : Below w3.heap.size w3 w9 := HBr.out.trans (((Below.refl w3.heap.size wr).alloc (by omega) _).grown hgrow (by simp; omega) (fun q hq => (hrow.lt q hq).1))
            have hr9 : w9.ownsRow w3.heap.size 3 1 v' (k + 1) ((xs ++ [v k]).map (.int .i64)) := by simpa using hown'
            clear hown' hgrow hrow
            go_wp2
            exact ⟨⟨k + 1, xs ++ [v k], by omega, by go_num, by simp [hxl], hr9, hb9, HG9.out⟩, by simp [intOf]; omega⟩
          | false =>
            have HW := Lib.hid hw
            clear hw i3r
            go_wp2_with fail
            refine (at_any A n cp _ g k _ hn (by omega) hbsr).mono ?_; rintro e w' ⟨x, x0, x1, rfl, rfl⟩
            have HG9 := Lib.hid (HG.out.more (x := x) hxl (by omega) (by omega) (fun h => by rw [HW.out] at h; cases h))
            go_wp2_with (at_builtin; refine wpList_append_own _ rfl _ _ 24 rfl w3.heap.size 3 ii (.int .i64 0) 1 8 Try.underlying24 Hi.out Hz0.out Hz1.out Hz2.out rfl (by decide) _ _ _ rfl (hrow.alloc _) ⟨wr.heap.size, 0, none⟩ 1 1 [.int .i64 x] rfl rfl ?c1 ?c2 ?c3 ?c4 ?c5 ?_)
            case c1 =>
              intro j u hj
              match j, hj with
              | 0, hj => simp at hj; subst hj; simp [Addr.add]
            case c2 => intro u hu; simp at hu; subst hu; rfl
            case c3 => unfold maxLen; omega
            case c4 => omega
            case c5 => simp; omega
            intro v' w9 hown' hgrow _
            have hb9 : Below w3.heap.size w3 w9 := HBr.out.trans (((Below.refl w3.heap.size wr).alloc (by omega) _).grown hgrow (by simp; omega) (fun q hq => (hrow.lt q hq).1))
            have hr9 : w9.ownsRow w3.heap.size 3 1 v' (k + 1) ((xs ++ [x]).map (.int .i64)) := by simpa using hown'
            clear hown' hgrow hrow
            go_wp2
            exact ⟨⟨k + 1, xs ++ [x], by omega, by go_num, by simp [hxl], hr9, hb9, HG9.out⟩, by simp [intOf]; omega⟩
        · obtain rfl : k = L := by omega
          have HO := Lib.hid (other_ok HOK.out hg)
          clear hg HG
          obtain ⟨A9, c9, rfl, _, o9⟩ := OwnI.of_owns hrow
          have br := b3.trans (hbr.mono b3.size)
          have i2r := i2.keep hbr (by omega)
          have i9 := o9.at_
          have hc1 : ∀ j, j < k → wr.cell? ⟨b1, off1 + j, none⟩ = some (.int .i64 (v j)) := fun j hj => (hbr.cell (p := ⟨b1, off1 + j, none⟩) (by show b1 < w3.heap.size; omega)).trans (HC1.out j hj)
          clear hrow o9 hbr HBr HC1 i3 i2
          go_wp2_with fail
          refine (implRun_any A2 b1 off1 k m c1 c2 v f _ (by omega) (by omega) hc1 (i2r.up (by omega))).mono ?_; rintro e w4 ⟨B2, d2, B3, d3, m4, rfl, hm3, hm4, o0, o1, hb4⟩
          have a0 := o0.at_.up hm4
          have a1 := o1.at_
          clear o0 o1 hc1
          have i9 := i9.keep hb4 (Nat.le_refl _)
          have i2r := i2r.keep hb4 (by omega)
          have b4 := br.trans (hb4.mono br.size)
          have hs4 := hb4.size
          obtain ⟨b9, off9, rfl, hB9, hc9⟩ := i9 (by omega)
          go_wp2_with fail
          refine (implRun_any A2 b9 off9 k m c9 c2 (fun j => xs.getD j 0) f _ (by omega) (by omega) hc9 (i2r.up (by omega))).mono ?_; rintro e w5 ⟨B4, d4, B5, d5, m5, rfl, hm5, hm6, o0, o1, hb5⟩
          have e0 := o0.at_.up hm6
          have e1 := o1.at_
          rw [HO.out.told] at e1 ⊢
          rw [HO.out.ok, HOK.out]
          clear o0 o1 hc9
          have a0 := a0.keep hb5 (Nat.le_refl _)
          have a1 := a1.keep hb5 (Nat.le_refl _)
          have i2r := i2r.keep hb5 (by omega)
          have b5 := b4.trans (hb5.mono b4.size)
          have hs5 := hb5.size
          have hT6 := resT_le k v m f
          go_wp2_with fail
          refine (same_eq _ _ _ _ _ _ _ _ _ (by unfold maxLen; omega) a1 e1).mono ?_; rintro e w6 ⟨rfl, hb6⟩
          have a0 := a0.keep hb6 (by omega)
          have e0 := e0.keep hb6 (Nat.le_refl _)
          have i2r := i2r.keep hb6 (by omega)
          have b6 := b5.trans (hb6.mono b5.size)
          have hs6 := hb6.size
          clear a1 e1
          go_wp2_with fail
          refine (implWritesOf_any A2 m c2 f _ (i2r.up (by omega))).mono ?_; rintro e w7 ⟨vw, rfl, ho7, hb7⟩
          obtain ⟨A7, c7, rfl, _, o7⟩ := OwnI.of_owns ho7
          have a0 := a0.keep hb7 (by omega)
          have e0 := e0.keep hb7 (by omega)
          have b7 := b6.trans (hb7.mono b6.size)
          have hs7 := hb7.size
          have i7 := o7.at_
          clear ho7 o7 i2r
          have hN : (keysOut (wrt f) m f).length ≤ 8 := keysOut_le _ _ _
          obtain ⟨N, hNe⟩ : ∃ N, N = (keysOut (wrt f) m f).length := ⟨_, rfl⟩
          rw [← hNe] at i7 hN ⊢
          have HNe := Lib.hid hNe
          clear hNe
          go_wp2
          go_loopw [18] (fun x wr => ∃ i : Nat, i ≤ N ∧ x = .int .i64 (i : Int) ∧ ∃ q, wr = w7.drewN q) (fun x _ => N - (intOf x).toNat)
          case atStart => exact ⟨0, Nat.zero_le _, rfl, 0, rfl⟩
          case round =>
            obtain ⟨i, hi, rfl, q, rfl⟩ := hrel
            by_cases hiN : i < N
            · have hiz : (i : Int) < N := by omega
              obtain ⟨b7', off7, rfl, _, hc7⟩ := i7 (by omega)
              obtain ⟨ba, offa, rfl, _, hca⟩ := a0 (by omega)
              obtain ⟨be, offe, rfl, _, hce⟩ := e0 (by omega)
              obtain ⟨j, hj, hjL, hje⟩ := HO.out.wrote i (by rw [← HNe.out]; exact hiN)
              have d0 : w7.cell? ⟨b7', off7 + i, none⟩ = some (.int .i64 (j : Int)) := (hc7 i hiN).trans (congrArg (fun z => some (Value.int .i64 z)) hj)
              have d1 := hca j hjL
              have d2 := hce j hjL
              rw [hje] at d2
              generalize resV k v m f j = X at d1 d2
              have hjz : (j : Int) < k := by omega
              have g1 : decide ((j : Int) < 0) = false := by simp
              have g2 : decide ((k : Int) ≤ j) = false := by simp; omega
              clear hc7 hca hce hj hje a0 e0 i7 hbs
              go_wp2_with fail
              go_quiet (fail)
              go_wp2
              exact ⟨⟨i + 1, by omega, by go_num, _, rfl⟩, by simp [intOf]; omega⟩
            · obtain rfl : i = N := by omega
              go_wp2
              go_ret
              exact ⟨rfl, b7.trans ⟨rfl, rfl, rfl, Nat.le_refl _, fun _ _ => rfl⟩⟩
  · have hnb : decide ((1048576 : Int) < n) = true := by simp; omega
    have HNB := Lib.hid hnb
    clear hnb
    go_enter Try.func3, Try.ntmps3
    go_wp2_with fail
    refine (big_any A n cp w).mono ?_; rintro e w' ⟨rfl, rfl⟩
    rw [HNB.out]
    go_wp2
    go_ret
    exact ⟨rfl, Below.refl _ _⟩
end Go.Proofs.Ytpjejmgdfeanjaa
